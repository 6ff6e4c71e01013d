
/-
The contracts of code.beyond, code.within and code.union. (Written by tools/mk_codeu.py.)
-/
import Derived.Test.YtapjodbaaejldaaCodeK
import Derived.Test.YtapjodbaaejldaaCodeMem
import Derived.Test.YtapjodbaaejldaaMathAll
namespace Go.Proofs.Ytapjodbaaejldaa
open Go.RowKit

namespace Cm
theorem bey_no {s w : Wd} {A : List Wd} (h : rest? s w = none) : bey s (A ++ [w]) = bey s A := fm_no h
theorem bey_yes {s w o : Wd} {A : List Wd} (h : rest? s w = some o) : bey s (A ++ [w]) = bey s A ++ [o] := fm_yes h
theorem wit_no {s w : Wd} {A : List Wd} (h : rest? w s = none) : wit s (A ++ [w]) = wit s A := fm_no (f := fun w => rest? w s) h
theorem wit_yes {s w o : Wd} {A : List Wd} (h : rest? w s = some o) : wit s (A ++ [w]) = wit s A ++ [o] := fm_yes (f := fun w => rest? w s) h
end Cm
theorem cut_no {s p : ByteArray} (h : ¬ wd p <+: wd s) (W : World) :
    Calls Try.prog 145 #[.string s, .string p] W fun e w' => e = .returned (.tuple #[.string s, .bool false]) ∧ W = w' := by
  refine (Try.strings_CutPrefix s p W).mono ?_
  rintro e w1 ⟨rfl, rfl⟩
  have h1 : Lib.hasPrefix s.data.toList p.data.toList = false := by
    rw [← Bool.not_eq_true]
    unfold Lib.hasPrefix
    rw [List.isPrefixOf_iff_prefix]
    exact h
  have h2 : Lib.trimPrefix s.data.toList p.data.toList = s.data.toList := by unfold Lib.trimPrefix; rw [h1]; rfl
  rw [h1, h2]
  refine ⟨?_, rfl⟩
  show Ending.returned (.tuple #[.string (mkS (lst s)), .bool false]) = _
  rw [mk_lst]
theorem cut_yes {s p : ByteArray} {r : List UInt8} (h : wd s = wd p ++ r) (W : World) :
    Calls Try.prog 145 #[.string s, .string p] W fun e w' => e = .returned (.tuple #[.string (mkS r), .bool true]) ∧ W = w' := by
  refine (Try.strings_CutPrefix s p W).mono ?_
  rintro e w1 ⟨rfl, rfl⟩
  have h1 : Lib.hasPrefix s.data.toList p.data.toList = true := by
    unfold Lib.hasPrefix
    rw [List.isPrefixOf_iff_prefix]
    exact ⟨r, h.symm⟩
  have h2 : Lib.trimPrefix s.data.toList p.data.toList = r := by
    unfold Lib.trimPrefix
    rw [h1, if_pos rfl]
    show (wd s).drop (wd p).length = r
    rw [h, List.drop_left]
  rw [h1, h2]
  exact ⟨rfl, rfl⟩
theorem cws_snoc (g : Nat → ByteArray) (i : Nat) : cws g (i + 1) = cws g i ++ [wd (g i)] := by
  unfold cws
  rw [List.range_succ, List.map_append]
  rfl
/-- What a test for a front finds. -/
theorem cut_case (s p : List UInt8) : (¬ p <+: s ∧ Cm.rest? p s = none) ∨ (s = p ++ [] ∧ Cm.rest? p s = none) ∨ ∃ r, r ≠ [] ∧ s = p ++ r ∧ Cm.rest? p s = some r := by
  by_cases h : p <+: s
  · obtain ⟨r, rfl⟩ := h
    by_cases h0 : r = []
    · subst h0
      refine .inr (.inl ⟨rfl, ?_⟩)
      cases hc : Cm.rest? p (p ++ []) with
      | none => rfl
      | some o =>
        obtain ⟨h1, h2⟩ := Cm.rest_some.1 hc
        exact absurd (List.append_cancel_left h2).symm h1
    · exact .inr (.inr ⟨r, h0, rfl, Cm.rest_some.2 ⟨h0, rfl⟩⟩)
  · refine .inl ⟨h, ?_⟩
    cases hc : Cm.rest? p s with
    | none => rfl
    | some o =>
      obtain ⟨_, h2⟩ := Cm.rest_some.1 hc
      exact absurd ⟨o, h2.symm⟩ h

set_option maxHeartbeats 1000000 in
theorem cbeyond_any {A : Option Addr} {n c : Nat} {g : Nat → ByteArray} {s : ByteArray} (w : World) (h : SRow w A n g) (hn : n ≤ 12) :
    Calls Try.prog 114 #[.slice A n c, .string s] w fun e w' => ∃ v, e = .returned v ∧ OwnL w' w.heap.size v (Cm.bey (wd s) (cws g n)) ∧ Below w.heap.size w w' := by
  have H := hid h
  clear h
  go_enter Try.func114, Try.ntmps114
  go_wp2
  go_loopw [5, 12] (fun x y wr => ∃ (i : Nat) (v : Value), i ≤ n ∧ v = x ∧ y = .int .i64 (i : Int) ∧ Hid (OwnL wr w.heap.size v (Cm.bey (wd s) (cws g i))) ∧ Below w.heap.size w wr) (fun _ y _ => n - (intOf y).toNat)
  case atStart => exact ⟨0, _, by omega, rfl, rfl, OwnL.zero _ _, Below.refl _ _⟩
  case round =>
    obtain ⟨i, v, hi, rfl, rfl, HO, hbel⟩ := hrel
    have hsz := hbel.size
    by_cases hlt : i < n
    · have hlt' : (i : Int) < (n : Int) := by omega
      obtain ⟨b, o, rfl, _, hc⟩ := (H.out.keep hbel) i hlt
      have HS := hid (cws_snoc g i)
      have hln : (Cm.bey (wd s) (cws g i)).length < 1000000 := by
        have := Cm.bey_len (wd s) (cws g i)
        rw [cws_len] at this
        omega
      rcases cut_case (wd (g i)) (wd s) with ⟨h1, h2⟩ | ⟨h1, h2⟩ | ⟨r, h0, h1, h2⟩
      · have HL : Hid (OwnL wr w.heap.size v (Cm.bey (wd s) (cws g (i + 1)))) := by
          show OwnL _ _ _ _
          rw [HS.out, Cm.bey_no h2]
          exact HO.out
        have hC := cut_no h1 wr
        clear HO HS h1 h2
        generalize g i = y at hc hC
        go_wp2_with fail
        with_reducible refine hC.mono ?_
        rintro e w2 ⟨rfl, rfl⟩
        clear hC
        go_wp2
        go_roundw
        case measure => simp [intOf]; omega
        case rel => exact ⟨i + 1, _, by omega, rfl, by go_num, HL, hbel⟩
      · have HL : Hid (OwnL wr w.heap.size v (Cm.bey (wd s) (cws g (i + 1)))) := by
          show OwnL _ _ _ _
          rw [HS.out, Cm.bey_no h2]
          exact HO.out
        have hC := cut_yes h1 wr
        have he : (mkS []).toList.isEmpty = true := no_bytes (by rw [mk_size]; rfl)
        clear HO HS h1 h2
        generalize g i = y at hc hC
        generalize mkS [] = z at hC he
        go_wp2_with fail
        with_reducible refine hC.mono ?_
        rintro e w2 ⟨rfl, rfl⟩
        clear hC
        go_wp2
        go_roundw
        case measure => simp [intOf]; omega
        case rel => exact ⟨i + 1, _, by omega, rfl, by go_num, HL, hbel⟩
      · have HL : Hid (Cm.bey (wd s) (cws g (i + 1)) = Cm.bey (wd s) (cws g i) ++ [lst (mkS r)]) := by
          show _ = _
          rw [HS.out, lst_mk, Cm.bey_yes h2]
        have hC := cut_yes h1 wr
        have he : (mkS r).toList.isEmpty = false := some_bytes (by rw [mk_size]; exact List.length_pos_iff.2 h0)
        clear HS h0 h1 h2
        generalize g i = y at hc hC
        generalize mkS r = z at hC he HL
        go_wp2_with fail
        with_reducible refine hC.mono ?_
        rintro e w2 ⟨rfl, rfl⟩
        clear hC
        go_wp2_with (at_builtin; with_reducible refine app_lst rfl _ _ rfl rfl HO.out _ rfl rfl hsz hln ?_)
        intro v' w3 hown3 hb3
        rw [← HL.out] at hown3
        have HO3 := hid hown3
        have hbel3 := hbel.trans hb3
        clear hown3 hb3 HO HL
        go_wp2
        go_roundw
        case measure => simp [intOf]; omega
        case rel => exact ⟨i + 1, _, by omega, rfl, by go_num, HO3, hbel3⟩
    · have hdl : decide ((i : Int) < (n : Int)) = false := decide_eq_false (by omega)
      obtain rfl : n = i := by omega
      go_wp2
      go_ret
      exact ⟨_, rfl, HO.out, hbel⟩

/-- The row A lies apart from the row v of one's own. -/
def Off (v : Value) (A : Option Addr) (m : Nat) : Prop := 0 < m → ∀ a, A = some a → v.ownBlock ≠ some a.block
theorem SRow.beside {w w' : World} {A : Option Addr} {m : Nat} {g : Nat → ByteArray} {v : Value} (h : SRow w A m g) (hg : w.grownBy w' v.ownBlock) (ha : Off v A m) : SRow w' A m g := by
  intro k hk
  obtain ⟨b, o, h1, h2, h3⟩ := h k hk
  exact ⟨b, o, h1, Nat.lt_of_lt_of_le h2 hg.size, hg.cell h3 (fun e => ha (by omega) _ h1 e.symm)⟩
theorem Off.new_ {v v' : Value} {A : Option Addr} {m M : Nat} {w : World} {g : Nat → ByteArray} (h : Off v A m) (hr : SRow w A m g) (hM : w.heap.size = M) (hv : v'.ownBlock = v.ownBlock ∨ ∃ k, v'.ownBlock = some k ∧ M ≤ k) : Off v' A m := by
  intro h0 a ha hk
  rcases hv with hv | ⟨j, hj, hj2⟩
  · exact h h0 a ha (hv ▸ hk)
  · obtain ⟨b, o, h1, h2, _⟩ := hr 0 h0
    rw [h1] at ha
    injection ha with ha
    subst ha
    rw [hj] at hk
    injection hk with hk
    have hk' : j = b := hk
    omega
end Go.Proofs.Ytapjodbaaejldaa
