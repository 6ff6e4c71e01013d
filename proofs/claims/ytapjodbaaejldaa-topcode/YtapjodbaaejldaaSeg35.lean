/-
Several texts of this proof, one behind the other.
-/
import Derived.Test.YtapjodbaaejldaaFrText
import Derived.Test.YtapjodbaaejldaaSeg33
import Derived.Test.YtapjodbaaejldaaSeg6

/-
The contract of front.Get.
-/
namespace Go.Proofs.Ytapjodbaaejldaa
open Go.RowKit

/-- The numbers g 0, g 1, .. as places. -/
def nl (g : Nat → Int) (n : Nat) : List Nat := (List.range n).map fun k => (g k).toNat
theorem nl_len (g : Nat → Int) (n : Nat) : (nl g n).length = n := by unfold nl; simp
theorem nl_at {g : Nat → Int} {n k : Nat} (h : k < n) : (nl g n).getD k 0 = (g k).toNat := by
  unfold nl
  simp [List.getD_eq_getElem?_getD, h]
theorem nl_mem {g : Nat → Int} {n : Nat} (h : ∀ k, k < n → 0 ≤ g k ∧ g k < 256) : ∀ x ∈ nl g n, x < 256 := by
  intro x hx
  unfold nl at hx
  obtain ⟨k, hk, rfl⟩ := List.mem_map.1 hx
  have := h k (List.mem_range.1 hk)
  omega
theorem nl_take {g : Nat → Int} {n i : Nat} (h : i ≤ n) : (nl g n).take i = nl g i := by
  unfold nl
  rw [← List.map_take, List.take_range, Nat.min_eq_left h]
/-- All are places. -/
def Places (g : Nat → Int) (n : Nat) : Prop := ∀ k, k < n → 0 ≤ g k ∧ g k < 256
theorem gs_next (g : Nat → Int) (i : Nat) : Fm.gs (nl g (i + 1)) = Fm.mv (Fm.gs (nl g i)) (g i).toNat := by
  have e : nl g (i + 1) = nl g i ++ [(g i).toNat] := by
    unfold nl
    rw [List.range_succ, List.map_append]
    rfl
  rw [e, Fm.gs_snoc]
theorem get_next (g : Nat → Int) (i : Nat) : Fm.getL (nl g (i + 1)) = Fm.getL (nl g i) ++ [(Fm.gs (nl g i)).getD (g i).toNat 0] := by
  have h := Fm.getL_take (l := nl g (i + 1)) (i := i) (by rw [nl_len]; omega)
  rw [nl_take (Nat.le_refl _), nl_take (Nat.le_succ _), nl_at (Nat.lt_succ_self _)] at h
  exact h
/-- What Get answers at no more than 200 numbers. -/
def FGetPost (g : Nat → Int) (n : Nat) (w : World) (e : Ending) (w' : World) : Prop :=
  ((Places g n ∧ e = .returned (.tuple #[.string (mkS (Fm.getL (nl g n))), .int .i64 0])) ∨ (¬ Places g n ∧ e = .returned (.tuple #[.string ByteArray.empty, .int .i64 1]))) ∧ Below w.heap.size w w'
set_option maxHeartbeats 1000000 in
theorem FGet_fit {A : Option Addr} {n c : Nat} {g : Nat → Int} (w : World) (hr : IRow w A n g) (hn : n ≤ 200) :
    Calls Try.prog 40 #[.slice A n c] w (FGetPost g n w) := by
  have HR := hid hr
  have hdn : decide ((200 : Int) < (n : Int)) = false := decide_eq_false (by omega)
  clear hr
  go_enter Try.func40, Try.ntmps40
  go_wp2_with fail
  with_reducible refine (every_any _).mono ?_
  rintro e w2 ⟨rfl, hfl, hb⟩
  have HF2 : Hid (FL w2 w.heap.size (Fm.gs (nl g 0))) := hfl
  have HB2 := hid hb
  clear hfl hb hdn
  generalize hg : w.heap.size = G at *
  go_wp2
  go_loopw [14, 4] (fun x v wr => ∃ i : Nat, ∃ vv, vv = v ∧ i ≤ n ∧ x = .int .i64 (i : Int) ∧ Hid (Places g i) ∧ Hid (OwnT wr (G + 1) vv (Fm.getL (nl g i))) ∧ Hid (FL wr G (Fm.gs (nl g i))) ∧ Hid (Below G w wr)) (fun x _ _ => n - (intOf x).toNat)
  case atStart => exact ⟨0, _, rfl, by omega, rfl, fun k hk => by omega, OwnT.zero _ _, HF2, HB2⟩
  case round =>
    clear HF2 HB2
    obtain ⟨i, vv, rfl, hi, rfl, HP, HO, HF, HB⟩ := hrel
    by_cases hlt : i < n
    · have hlt' : (i : Int) < (n : Int) := by omega
      obtain ⟨b0, o0, rfl, hbl, hc0⟩ := HR.out i hlt
      have hck := (HB.out.cell (p := ⟨b0, o0 + i, none⟩) (by show b0 < G; omega)).trans hc0
      obtain ⟨z, hz⟩ : ∃ z, z = g i := ⟨_, rfl⟩
      rw [← hz] at hck
      have HZ := hid hz
      clear hc0 hz hbl
      by_cases hneg : z < 0
      · have hd1 : decide (z < 0) = true := decide_eq_true hneg
        have HE : Hid (¬ Places g n) := fun h => by have := (h i hlt).1; rw [← HZ.out] at this; omega
        clear HP HO HF
        go_wp2
        go_ret2
        exact ⟨.inr ⟨HE.out, rfl⟩, by rw [hg]; exact HB.out⟩
      · by_cases hge : 256 ≤ z
        · have hd1 : decide (z < 0) = false := decide_eq_false hneg
          have hd2 : decide ((256 : Int) ≤ z) = true := decide_eq_true hge
          have HE : Hid (¬ Places g n) := fun h => by have := (h i hlt).2; rw [← HZ.out] at this; omega
          clear HP HO HF
          go_wp2
          go_ret2
          exact ⟨.inr ⟨HE.out, rfl⟩, by rw [hg]; exact HB.out⟩
        · obtain ⟨k, rfl⟩ : ∃ k : Nat, z = (k : Int) := ⟨z.toNat, by omega⟩
          have hk : k < 256 := by omega
          have hk' : (k : Int) < 256 := by omega
          have hd1 : decide ((k : Int) < 0) = false := decide_eq_false hneg
          have hd2 : decide ((256 : Int) ≤ (k : Int)) = false := decide_eq_false hge
          have hgk : (g i).toNat = k := by rw [← HZ.out]; rfl
          have HU : Hid (Fm.Full (Fm.gs (nl g i))) := Fm.gs_full _ (nl_mem HP.out)
          have hcell := HF.out.cell (i := k) (by rw [HU.out.len]; exact hk)
          obtain ⟨c, hc⟩ : ∃ c, c = (Fm.gs (nl g i)).getD k 0 := ⟨_, rfl⟩
          rw [← hc] at hcell
          have HPn : Hid (Places g (i + 1)) := by
            intro j hj
            by_cases e : j = i
            · rw [e, ← HZ.out]; omega
            · exact HP.out j (by omega)
          have HT : Hid (Fm.getL (nl g (i + 1)) = Fm.getL (nl g i) ++ [c]) := by unfold Hid; rw [get_next, hgk, hc]
          have HS : Hid (Fm.gs (nl g (i + 1)) = Fm.mv (Fm.gs (nl g i)) k) := by unfold Hid; rw [gs_next, hgk]
          have HL : Hid ((Fm.getL (nl g i)).length < 1000000 - 1) := by unfold Hid; rw [Fm.getL_len, nl_len]; omega
          have hgs : G + 1 ≤ wr.heap.size := HF.out.lt
          clear HP HZ hgk hc hneg hge
          go_wp2_with (first
            | (at_builtin; with_reducible refine app_one (v := vv) (x := c) rfl _ _ rfl rfl HO.out wr.heap.size rfl rfl hgs HL.out ?_; intro v4 w4 hown4 hb4 hg4; have HO4 := hid hown4; have HF4 := hid (HF.out.keep hb4 (Nat.lt_succ_self _)); have HB4 : Hid (Below G w w4) := hid (HB.out.trans (hb4.mono (Nat.le_succ _))); have hsz4 := hb4.size; clear hown4 hb4 hg4)
            | fail)
          with_reducible refine (move_any w4 HF4.out HU.out.len hk).mono ?_
          rintro e w5 ⟨rfl, hf5, hg5⟩
          have HO5 : Hid (OwnT w5 (G + 1) v4 (Fm.getL (nl g (i + 1)))) := by
            unfold Hid
            rw [HT.out]
            exact HO4.out.of_block fun k hk => hg5.block k (HO4.out.lt_ k hk).2 (fun e => by
              have := (HO4.out.lt_ k hk).1
              injection e with e
              omega)
          have HF5 : Hid (FL w5 G (Fm.gs (nl g (i + 1)))) := by unfold Hid; rw [HS.out]; exact hf5
          have HB5 : Hid (Below G w w5) := HB4.out.grown hg5 (by omega) fun k hk => by cases hk; exact Nat.le_refl _
          clear hf5 hg5 HO4 HF4 HB4 HO HF HB HS HT
          go_wp2
          go_roundw
          case measure => simp [intOf]; omega
          case rel => exact ⟨i + 1, _, rfl, by omega, by go_num, HPn, HO5, HF5, HB5⟩
    · have hd : decide ((i : Int) < (n : Int)) = false := decide_eq_false (by omega)
      obtain rfl : n = i := by omega
      have hcv := HO.out.conv
      obtain ⟨t, ht⟩ : ∃ t, t = mkS (Fm.getL (nl g n)) := ⟨_, rfl⟩
      rw [← ht] at hcv
      have HT := hid ht
      clear HO HF ht
      go_wp2
      go_ret2
      exact ⟨.inl ⟨HP.out, by rw [← HT.out]; rfl⟩, by rw [hg]; exact HB.out⟩
theorem FGet_large {A : Option Addr} {n c : Nat} (w : World) (hn : 200 < n) :
    Calls Try.prog 40 #[.slice A n c] w fun e w' => e = .returned (.tuple #[.string ByteArray.empty, .int .i64 2]) ∧ w' = w := by
  have hdn : decide ((200 : Int) < (n : Int)) = true := decide_eq_true (by omega)
  have hdn2 : (200 : Int) < (n : Int) := by omega
  go_enter Try.func40, Try.ntmps40
  go_wp2
  go_ret2
  exact ⟨rfl, rfl⟩
end Go.Proofs.Ytapjodbaaejldaa


/-
The contract of quillkeep.fronts; and what goes there and back again.
-/
namespace Go.Proofs.Ytapjodbaaejldaa
open Go.RowKit

def aab : ByteArray := ⟨#[97, 97, 98]⟩
theorem aab_put : Fm.putL (lst aab) = [97, 0, 98] := by decide +kernel
theorem lit3 (w : World) (N : Nat) (hN : w.heap.size = N) : IRow (w.alloc (.cells #[.int .i64 97, .int .i64 0, .int .i64 98] 3)) (some ⟨N, 0, none⟩) 3 (fun k => ([97, 0, 98] : List Int).getD k 0) := IRow.lit w [97, 0, 98] 3 3 N hN rfl
/-- The numbers that Put answers, as Get takes them. -/
def pg (s : ByteArray) (k : Nat) : Int := ((Fm.putL (lst s)).getD k 0 : Nat)
theorem nl_put (s : ByteArray) : nl (pg s) s.size = Fm.putL (lst s) := by
  have hl := Fm.putL_len (lst s)
  rw [lst_len] at hl
  refine List.ext_getElem (by rw [nl_len, hl]) fun i h1 h2 => ?_
  rw [nl_len] at h1
  have := nl_at (g := pg s) h1
  rw [List.getD_eq_getElem?_getD, List.getElem?_eq_getElem (by rw [nl_len]; exact h1)] at this
  rw [show (nl (pg s) s.size)[i] = (pg s i).toNat from this]
  unfold pg
  rw [List.getD_eq_getElem?_getD, List.getElem?_eq_getElem h2]
  rfl
theorem pg_places (s : ByteArray) : Places (pg s) s.size := by
  intro k hk
  have := Fm.putL_lt (s := lst s) (i := k) (by rw [lst_len]; exact hk)
  unfold pg
  omega
theorem nl_back (g : Nat → Int) {n : Nat} (h : Places g n) : Fm.putL (lst (mkS (Fm.getL (nl g n)))) = nl g n := by
  rw [lst_mk, Fm.put_get _ (nl_mem h)]
theorem mk_get_size (g : Nat → Int) (n : Nat) : (mkS (Fm.getL (nl g n))).size = n := by rw [mk_size, Fm.getL_len, nl_len]
/-- Get of what Put answered. -/
theorem FGet_put {A : Option Addr} {c : Nat} (s : ByteArray) (w : World) (hs : s.size ≤ 200) (hr : IRow w A s.size (pg s)) :
    Calls Try.prog 40 #[.slice A s.size c] w fun e w' => e = .returned (.tuple #[.string s, .int .i64 0]) ∧ Below w.heap.size w w' := by
  refine (FGet_fit w hr hs).mono ?_
  rintro e w' ⟨⟨_, rfl⟩ | ⟨h, _⟩, hb⟩
  · refine ⟨?_, hb⟩
    rw [nl_put, Fm.get_put, mk_lst]
  · exact absurd (pg_places s) h
end Go.Proofs.Ytapjodbaaejldaa

