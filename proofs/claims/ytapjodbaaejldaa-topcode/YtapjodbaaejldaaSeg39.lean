/-
Several texts of this proof, one behind the other.
-/
import Derived.Test.YtapjodbaaejldaaFList
import Derived.Laws.BytesArg
import Derived.Laws.OwnMore

/-
A text in the making: a row of bytes of the call's own; one byte more, many bytes more, and the text as a string.
-/
namespace Go.Proofs.Ytapjodbaaejldaa
open Go.RowKit

/-- v is a slice of the call's own that holds the bytes L. -/
def OwnT (w : World) (base : Nat) (v : Value) (L : List UInt8) : Prop := w.ownsRow base 5 1 v L.length (L.map bv)
theorem OwnT.zero (w : World) (base : Nat) : OwnT w base (.slice none 0 0) [] := World.ownsRow_nil w base _ 1
theorem OwnT.drewN {w : World} {base : Nat} {v : Value} {L : List UInt8} (h : OwnT w base v L) (d : Nat) : OwnT (w.drewN d) base v L := h
theorem OwnT.lt_ {w : World} {base : Nat} {v : Value} {L : List UInt8} (h : OwnT w base v L) : ∀ k, v.ownBlock = some k → base ≤ k ∧ k < w.heap.size := fun k hk => World.ownsRow.lt h k hk
theorem OwnT.of_block {w w' : World} {base : Nat} {v : Value} {L : List UInt8} (h : OwnT w base v L) (hb : ∀ k, v.ownBlock = some k → w'.heap[k]? = w.heap[k]?) : OwnT w' base v L := by
  refine ⟨h.1, ?_⟩
  rcases h.2 with hn | ⟨g, cap, cur, rfl, h1, h2, rest⟩
  · exact .inl hn
  · exact .inr ⟨g, cap, cur, rfl, h1, (hb g rfl).trans h2, rest⟩
theorem OwnT.low {w w' : World} {base : Nat} {v : Value} {L : List UInt8} (h : OwnT w base v L) (hb : Below w.heap.size w w') : OwnT w' base v L := h.of_block fun k hk => hb.block k (h.lt_ k hk).2
theorem OwnT.alloc {w : World} {base : Nat} {v : Value} {L : List UInt8} (h : OwnT w base v L) (o : Obj) : OwnT (w.alloc o) base v L := World.ownsRow.alloc h o
theorem OwnT.shape {w : World} {base : Nat} {v : Value} {L : List UInt8} (h : OwnT w base v L) : ∃ A c, v = .slice A L.length c := by
  rcases h.2 with ⟨rfl, h0⟩ | ⟨g, cap, cur, rfl, h1⟩
  · exact ⟨none, 0, by rw [h0]⟩
  · exact ⟨_, cap, rfl⟩
/-- Such a text as a string. -/
theorem OwnT.conv {w : World} {base : Nat} {v : Value} {L : List UInt8} (h : OwnT w base v L) : (convert 74 9 v).run Try.prog w = .ok (.string (mkS L)) w := by
  have hcell := fun g cap (e : v = .slice (some ⟨g, 0, none⟩) L.length cap) (k : Nat) (hk : k < L.length) => World.ownsRow.cellAt (e ▸ h) k (by omega)
  rcases h.2 with ⟨rfl, h0⟩ | ⟨g, cap, cur, rfl, h1⟩
  · have hl : L = [] := List.length_eq_zero_iff.1 h0
    subst hl
    exact run_convert_bytes_nil (P := Try.prog) w 74 5 Try.underlying74 Try.underlying5 0 0 9 Try.underlying9
  · have hcv := run_convert_bytes_arg (P := Try.prog) w 74 5 Try.underlying74 Try.underlying5 g 0 L.length cap (L.map fun c => (c.toNat : Int)) (by simp) (fun i hi => by
      rw [Nat.zero_add, hcell g cap rfl i hi, List.getElem?_map, List.getElem?_eq_getElem hi, List.getD_eq_getElem?_getD, List.getElem?_map, List.getElem?_eq_getElem hi]
      rfl) 9 Try.underlying9
    rw [nums_mk] at hcv
    exact hcv
/-- 'text = append(text, many...)'. -/
theorem app_many {ops : Array Oper} {rest : List Oper} {o : Oper} {a : Act} {Q : Exit → Act → World → Prop} {w : World} {N M : List UInt8} {v : Value} {base : Nat} (hgd : o.guard = none) (s z : Operand)
    (ho : o.op = .call { callee := .builtin .append, args := #[s, z], argTypes := #[74, 74] })
    (hs : a.eval s = v) (hown : OwnT w base v N) (ad : Addr) (m c : Nat) (hx : a.eval z = .slice (some ad) m c) (hm : M.length = m) (hcell : ∀ j, j < m → w.cell? (ad.add j) = some (bv (M.getD j 0)))
    (hbase : base ≤ w.heap.size) (hlen : N.length + M.length < 1000000)
    (h : ∀ v' w', OwnT w' base v' (N ++ M) → w.grownBy w' v.ownBlock → wpList Try.prog ops Q rest (a.put o.dst v') w') :
    wpList Try.prog ops Q (o :: rest) a w := by
  obtain ⟨i0, hi, hz0, hz1, hz2⟩ := info_parts Try.infoB8
  refine wpList_append_own _ hgd s z 74 ho base 5 i0 (.int .u8 0) 1 1 Try.underlying74 hi hz0 hz1 hz2 rfl (by decide) v _ _ hs hown ad m c (M.map bv) hx (by simp [hm]) ?_ ?_ ?_ ?_ ?_ ?_
  · intro j u hj
    rw [List.getElem?_map] at hj
    by_cases hjm : j < m
    · rw [hcell j hjm, ← hj, List.getElem?_eq_getElem (by omega), List.getD_eq_getElem?_getD, List.getElem?_eq_getElem (by omega)]
      rfl
    · rw [List.getElem?_eq_none (by omega)] at hj
      cases hj
  · intro u hu
    obtain ⟨x, _, rfl⟩ := List.mem_map.1 hu
    rfl
  · unfold maxLen; omega
  · omega
  · exact hbase
  · intro v' w' h1 h2 _
    refine h v' w' ?_ h2
    unfold OwnT
    rw [List.map_append, List.length_append, hm]
    exact h1
/-- 'text = append(text, c)'. -/
theorem app_one {ops : Array Oper} {rest : List Oper} {o : Oper} {a : Act} {Q : Exit → Act → World → Prop} {wr : World} {N : List UInt8} {x : UInt8} {v : Value} {base : Nat} (hgd : o.guard = none) (s z : Operand)
    (ho : o.op = .call { callee := .builtin .append, args := #[s, z], argTypes := #[74, 74] })
    (hs : a.eval s = v) (hown : OwnT wr base v N) (M : Nat) (hM : wr.heap.size = M) (hx : a.eval z = .slice (some ⟨M, 0, none⟩) 1 1)
    (hbase : base ≤ M) (hlen : N.length < 1000000 - 1)
    (h : ∀ v' w', OwnT w' base v' (N ++ [x]) → Below base wr w' → wr.grownBy w' v.ownBlock → wpList Try.prog ops Q rest (a.put o.dst v') w') :
    wpList Try.prog ops Q (o :: rest) a (wr.alloc (.cells #[.int .u8 (x.toNat : Int)] 5)) := by
  subst hM
  refine app_many (M := [x]) hgd s z ho hs (hown.alloc _) ⟨wr.heap.size, 0, none⟩ 1 1 hx rfl (fun j hj => ?_) (by simp; omega) (by simp; omega) fun v' w' h1 h2 => ?_
  · obtain rfl : j = 0 := by omega
    simp [Addr.add, bv]
  · have h3 := World.grownBy_alloc wr (.cells #[.int .u8 (x.toNat : Int)] 5) v.ownBlock
    have h4 : wr.grownBy w' v.ownBlock := ⟨h2.os.trans h3.os, h2.tape.trans h3.tape, h2.output.trans h3.output, Nat.le_trans h3.size h2.size, fun i hi hne => (h2.block i (Nat.lt_of_lt_of_le hi h3.size) hne).trans (h3.block i hi hne)⟩
    exact h v' w' h1 ((Below.refl base wr).grown h4 hbase fun k hk => (hown.lt_ k hk).1) h4
end Go.Proofs.Ytapjodbaaejldaa


/-
The contract of front.Get.
-/
namespace Go.Proofs.Ytapjodbaaejldaa
open Go.RowKit

/-- The numbers g 0, g 1, .. as places. -/
def nl (g : Nat → Int) (n : Nat) : List Nat := (List.range n).map fun k => (g k).toNat
theorem nl_len (g : Nat → Int) (n : Nat) : (nl g n).length = n := by unfold nl; simp
theorem nl_at {g : Nat → Int} {n k : Nat} (h : k < n) : (nl g n).getD k 0 = (g k).toNat := by
  unfold nl
  simp [List.getD_eq_getElem?_getD, h]
theorem nl_mem {g : Nat → Int} {n : Nat} (h : ∀ k, k < n → 0 ≤ g k ∧ g k < 256) : ∀ x ∈ nl g n, x < 256 := by
  intro x hx
  unfold nl at hx
  obtain ⟨k, hk, rfl⟩ := List.mem_map.1 hx
  have := h k (List.mem_range.1 hk)
  omega
theorem nl_take {g : Nat → Int} {n i : Nat} (h : i ≤ n) : (nl g n).take i = nl g i := by
  unfold nl
  rw [← List.map_take, List.take_range, Nat.min_eq_left h]
/-- All are places. -/
def Places (g : Nat → Int) (n : Nat) : Prop := ∀ k, k < n → 0 ≤ g k ∧ g k < 256
theorem gs_next (g : Nat → Int) (i : Nat) : Fm.gs (nl g (i + 1)) = Fm.mv (Fm.gs (nl g i)) (g i).toNat := by
  have e : nl g (i + 1) = nl g i ++ [(g i).toNat] := by
    unfold nl
    rw [List.range_succ, List.map_append]
    rfl
  rw [e, Fm.gs_snoc]
theorem get_next (g : Nat → Int) (i : Nat) : Fm.getL (nl g (i + 1)) = Fm.getL (nl g i) ++ [(Fm.gs (nl g i)).getD (g i).toNat 0] := by
  have h := Fm.getL_take (l := nl g (i + 1)) (i := i) (by rw [nl_len]; omega)
  rw [nl_take (Nat.le_refl _), nl_take (Nat.le_succ _), nl_at (Nat.lt_succ_self _)] at h
  exact h
/-- What Get answers at no more than 200 numbers. -/
def FGetPost (g : Nat → Int) (n : Nat) (w : World) (e : Ending) (w' : World) : Prop :=
  ((Places g n ∧ e = .returned (.tuple #[.string (mkS (Fm.getL (nl g n))), .int .i64 0])) ∨ (¬ Places g n ∧ e = .returned (.tuple #[.string ByteArray.empty, .int .i64 1]))) ∧ Below w.heap.size w w'
set_option maxHeartbeats 1000000 in
theorem FGet_fit {A : Option Addr} {n c : Nat} {g : Nat → Int} (w : World) (hr : IRow w A n g) (hn : n ≤ 200) :
    Calls Try.prog 40 #[.slice A n c] w (FGetPost g n w) := by
  have HR := hid hr
  have hdn : decide ((200 : Int) < (n : Int)) = false := decide_eq_false (by omega)
  clear hr
  go_enter Try.func40, Try.ntmps40
  go_wp2_with fail
  with_reducible refine (every_any _).mono ?_
  rintro e w2 ⟨rfl, hfl, hb⟩
  have HF2 : Hid (FL w2 w.heap.size (Fm.gs (nl g 0))) := hfl
  have HB2 := hid hb
  clear hfl hb hdn
  generalize hg : w.heap.size = G at *
  go_wp2
  go_loopw [14, 4] (fun x v wr => ∃ i : Nat, ∃ vv, vv = v ∧ i ≤ n ∧ x = .int .i64 (i : Int) ∧ Hid (Places g i) ∧ Hid (OwnT wr (G + 1) vv (Fm.getL (nl g i))) ∧ Hid (FL wr G (Fm.gs (nl g i))) ∧ Hid (Below G w wr)) (fun x _ _ => n - (intOf x).toNat)
  case atStart => exact ⟨0, _, rfl, by omega, rfl, fun k hk => by omega, OwnT.zero _ _, HF2, HB2⟩
  case round =>
    clear HF2 HB2
    obtain ⟨i, vv, rfl, hi, rfl, HP, HO, HF, HB⟩ := hrel
    by_cases hlt : i < n
    · have hlt' : (i : Int) < (n : Int) := by omega
      obtain ⟨b0, o0, rfl, hbl, hc0⟩ := HR.out i hlt
      have hck := (HB.out.cell (p := ⟨b0, o0 + i, none⟩) (by show b0 < G; omega)).trans hc0
      obtain ⟨z, hz⟩ : ∃ z, z = g i := ⟨_, rfl⟩
      rw [← hz] at hck
      have HZ := hid hz
      clear hc0 hz hbl
      by_cases hneg : z < 0
      · have hd1 : decide (z < 0) = true := decide_eq_true hneg
        have HE : Hid (¬ Places g n) := fun h => by have := (h i hlt).1; rw [← HZ.out] at this; omega
        clear HP HO HF
        go_wp2
        go_ret2
        exact ⟨.inr ⟨HE.out, rfl⟩, by rw [hg]; exact HB.out⟩
      · by_cases hge : 256 ≤ z
        · have hd1 : decide (z < 0) = false := decide_eq_false hneg
          have hd2 : decide ((256 : Int) ≤ z) = true := decide_eq_true hge
          have HE : Hid (¬ Places g n) := fun h => by have := (h i hlt).2; rw [← HZ.out] at this; omega
          clear HP HO HF
          go_wp2
          go_ret2
          exact ⟨.inr ⟨HE.out, rfl⟩, by rw [hg]; exact HB.out⟩
        · obtain ⟨k, rfl⟩ : ∃ k : Nat, z = (k : Int) := ⟨z.toNat, by omega⟩
          have hk : k < 256 := by omega
          have hk' : (k : Int) < 256 := by omega
          have hd1 : decide ((k : Int) < 0) = false := decide_eq_false hneg
          have hd2 : decide ((256 : Int) ≤ (k : Int)) = false := decide_eq_false hge
          have hgk : (g i).toNat = k := by rw [← HZ.out]; rfl
          have HU : Hid (Fm.Full (Fm.gs (nl g i))) := Fm.gs_full _ (nl_mem HP.out)
          have hcell := HF.out.cell (i := k) (by rw [HU.out.len]; exact hk)
          obtain ⟨c, hc⟩ : ∃ c, c = (Fm.gs (nl g i)).getD k 0 := ⟨_, rfl⟩
          rw [← hc] at hcell
          have HPn : Hid (Places g (i + 1)) := by
            intro j hj
            by_cases e : j = i
            · rw [e, ← HZ.out]; omega
            · exact HP.out j (by omega)
          have HT : Hid (Fm.getL (nl g (i + 1)) = Fm.getL (nl g i) ++ [c]) := by unfold Hid; rw [get_next, hgk, hc]
          have HS : Hid (Fm.gs (nl g (i + 1)) = Fm.mv (Fm.gs (nl g i)) k) := by unfold Hid; rw [gs_next, hgk]
          have HL : Hid ((Fm.getL (nl g i)).length < 1000000 - 1) := by unfold Hid; rw [Fm.getL_len, nl_len]; omega
          have hgs : G + 1 ≤ wr.heap.size := HF.out.lt
          clear HP HZ hgk hc hneg hge
          go_wp2_with (first
            | (at_builtin; with_reducible refine app_one (v := vv) (x := c) rfl _ _ rfl rfl HO.out wr.heap.size rfl rfl hgs HL.out ?_; intro v4 w4 hown4 hb4 hg4; have HO4 := hid hown4; have HF4 := hid (HF.out.keep hb4 (Nat.lt_succ_self _)); have HB4 : Hid (Below G w w4) := hid (HB.out.trans (hb4.mono (Nat.le_succ _))); have hsz4 := hb4.size; clear hown4 hb4 hg4)
            | fail)
          with_reducible refine (move_any w4 HF4.out HU.out.len hk).mono ?_
          rintro e w5 ⟨rfl, hf5, hg5⟩
          have HO5 : Hid (OwnT w5 (G + 1) v4 (Fm.getL (nl g (i + 1)))) := by
            unfold Hid
            rw [HT.out]
            exact HO4.out.of_block fun k hk => hg5.block k (HO4.out.lt_ k hk).2 (fun e => by
              have := (HO4.out.lt_ k hk).1
              injection e with e
              omega)
          have HF5 : Hid (FL w5 G (Fm.gs (nl g (i + 1)))) := by unfold Hid; rw [HS.out]; exact hf5
          have HB5 : Hid (Below G w w5) := HB4.out.grown hg5 (by omega) fun k hk => by cases hk; exact Nat.le_refl _
          clear hf5 hg5 HO4 HF4 HB4 HO HF HB HS HT
          go_wp2
          go_roundw
          case measure => simp [intOf]; omega
          case rel => exact ⟨i + 1, _, rfl, by omega, by go_num, HPn, HO5, HF5, HB5⟩
    · have hd : decide ((i : Int) < (n : Int)) = false := decide_eq_false (by omega)
      obtain rfl : n = i := by omega
      have hcv := HO.out.conv
      obtain ⟨t, ht⟩ : ∃ t, t = mkS (Fm.getL (nl g n)) := ⟨_, rfl⟩
      rw [← ht] at hcv
      have HT := hid ht
      clear HO HF ht
      go_wp2
      go_ret2
      exact ⟨.inl ⟨HP.out, by rw [← HT.out]; rfl⟩, by rw [hg]; exact HB.out⟩
theorem FGet_large {A : Option Addr} {n c : Nat} (w : World) (hn : 200 < n) :
    Calls Try.prog 40 #[.slice A n c] w fun e w' => e = .returned (.tuple #[.string ByteArray.empty, .int .i64 2]) ∧ w' = w := by
  have hdn : decide ((200 : Int) < (n : Int)) = true := decide_eq_true (by omega)
  have hdn2 : (200 : Int) < (n : Int) := by omega
  go_enter Try.func40, Try.ntmps40
  go_wp2
  go_ret2
  exact ⟨rfl, rfl⟩
end Go.Proofs.Ytapjodbaaejldaa

