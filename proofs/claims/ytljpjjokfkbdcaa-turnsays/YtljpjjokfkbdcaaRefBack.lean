/-
The contract of quillref.BackOf: the document's way back, by all rows.
-/
import Derived.Test.YtljpjjokfkbdcaaRefTurn
import Derived.Test.YtljpjjokfkbdcaaTGet
import Derived.Test.YtljpjjokfkbdcaaShelfS
import Derived.Sort.OwnSorted
namespace Go.Proofs.Ytljpjjokfkbdcaa
open Go.RowKit

namespace Tm
open Lm Sm
def srtL (L : List (List UInt8)) : List (List UInt8) := L.mergeSort fun x y => decide (x ≤ y)
theorem srtL_perm (L : List (List UInt8)) : (srtL L).Perm L := List.mergeSort_perm _ _
theorem srtL_len (L : List (List UInt8)) : (srtL L).length = L.length := (srtL_perm L).length_eq
theorem srtL_up (L : List (List UInt8)) : (srtL L).Pairwise fun a b => ¬ b < a := by
  have := List.pairwise_mergeSort (le := fun x y : List UInt8 => decide (x ≤ y)) (fun a b c h1 h2 => decide_eq_true (List.le_trans (of_decide_eq_true h1) (of_decide_eq_true h2))) (fun a b => by
    rcases List.le_total a b with h | h
    · simp [h]
    · simp [h]) L
  exact this.imp fun h => of_decide_eq_true h
theorem cnt_list (P : List UInt8 → Bool) (L : List (List UInt8)) : cnt (fun j => P (L.getD j [])) L.length = L.countP P := by
  rw [cnt_countP]
  have e : (List.range L.length).map (fun j => L.getD j []) = L := by
    refine List.ext_getElem (by simp) fun i h1 h2 => ?_
    simp [List.getD_eq_getElem?_getD, List.getElem?_eq_getElem h2]
  rw [← congrArg (fun l => List.countP P l) e, List.countP_map]
  rfl
theorem sorted_eq {L M : List (List UInt8)} (hp : L.Perm M) (h1 : L.Pairwise fun a b => ¬ b < a) (h2 : M.Pairwise fun a b => ¬ b < a) : L = M := by
  have hl := hp.length_eq
  have up : ∀ {N : List (List UInt8)}, N.Pairwise (fun a b => ¬ b < a) → ∀ i j, i < j → j < N.length → ¬ N.getD j [] < N.getD i [] := fun {N} h i j hij hj => by
    rw [List.getD_eq_getElem?_getD, List.getD_eq_getElem?_getD, List.getElem?_eq_getElem hj, List.getElem?_eq_getElem (show i < N.length by omega)]
    exact List.pairwise_iff_getElem.1 h i j (by omega) hj hij
  refine List.ext_getElem hl fun i i1 i2 => ?_
  have := same_rows (n := L.length) (T := fun j => L.getD j []) (U := fun j => M.getD j []) (up h1) (by rw [hl]; exact up h2) (fun P => by
    show cnt (fun j => P (L.getD j [])) L.length = cnt (fun j => P (M.getD j [])) L.length
    rw [cnt_list P L, hl, cnt_list P M, hp.countP_eq]) i1
  simpa [List.getD_eq_getElem?_getD, List.getElem?_eq_getElem i1, List.getElem?_eq_getElem i2] using this
/-- A round: a byte more in front of each row. -/
def frn (t : List UInt8) (L : List (List UInt8)) : List (List UInt8) := (List.range t.length).map fun k => t.getD k 0 :: L.getD k []
/-- The rows behind m rounds. -/
def rwL (t : List UInt8) : Nat → List (List UInt8)
  | 0 => List.replicate t.length []
  | m + 1 => srtL (frn t (rwL t m))
theorem frn_len (t : List UInt8) (L : List (List UInt8)) : (frn t L).length = t.length := by unfold frn; simp
theorem rwL_len (t : List UInt8) : ∀ m, (rwL t m).length = t.length
  | 0 => by unfold rwL; simp
  | m + 1 => by unfold rwL; rw [srtL_len, frn_len]
theorem rwL_size (t : List UInt8) : ∀ m y, y ∈ rwL t m → y.length = m
  | 0, y, h => by unfold rwL at h; rw [List.eq_of_mem_replicate h]; rfl
  | m + 1, y, h => by
    unfold rwL at h
    rw [(srtL_perm _).mem_iff] at h
    unfold frn at h
    obtain ⟨k, hk, rfl⟩ := List.mem_map.1 h
    have hk := List.mem_range.1 hk
    rw [List.length_cons, rwL_size t m _ (by
      rw [List.getD_eq_getElem?_getD, List.getElem?_eq_getElem (by rw [rwL_len]; exact hk)]
      exact List.getElem_mem _)]
theorem rows_is {x t : List UInt8} {σ : Nat → Nat} (h : Bw x σ) (hl : t.length = x.length) (ht : ∀ k, k < x.length → t.getD k 0 = W x (σ k) (x.length - 1)) :
    ∀ m, rwL t m = (List.range x.length).map fun k => cy x (σ k) m
  | 0 => by
    unfold rwL
    rw [hl]
    refine List.ext_getElem (by simp) fun i h1 h2 => ?_
    simp [cy]
  | m + 1 => by
    have ih := rows_is h hl ht m
    have hM : ((List.range x.length).map fun k => cy x (σ k) (m + 1)).Pairwise fun a b => ¬ b < a := by
      rw [List.pairwise_map, List.pairwise_iff_getElem]
      intro i j hi hj hij
      simp at hi hj ⊢
      exact h.rise (m + 1) i j hij hj
    refine sorted_eq ((srtL_perm _).trans ?_) (srtL_up _) hM
    have e1 : frn t (rwL t m) = ((List.range x.length).map σ).map fun i => cy x (pv x.length i) (m + 1) := by
      unfold frn
      rw [List.map_map, hl]
      refine List.map_congr_left fun k hk => ?_
      have hk := List.mem_range.1 hk
      show _ = cy x (pv x.length (σ k)) (m + 1)
      rw [cy_prev (by omega), ht k hk, ih]
      congr 1
      simp [List.getD_eq_getElem?_getD, hk]
    have e2 : ((List.range x.length).map fun k => cy x (σ k) (m + 1)) = ((List.range x.length).map σ).map fun i => cy x i (m + 1) := by rw [List.map_map]; rfl
    rw [e1, e2]
    have p1 := h.bij.perm.map fun i => cy x (pv x.length i) (m + 1)
    have p2 := (pv_bij x.length).perm.map fun i => cy x i (m + 1)
    rw [List.map_map] at p2
    exact (p1.trans p2).trans (h.bij.perm.map fun i => cy x i (m + 1)).symm
/-- All rows of a transform: that at its place is the word. -/
theorem IsPut.rows {x t : List UInt8} {a : Nat} (h : IsPut x t a) (hx : 0 < x.length) : (rwL t t.length).getD a [] = x := by
  obtain ⟨σ, h1, h2, h3⟩ := h.all
  obtain ⟨ha, h0⟩ := h3 hx
  rw [rows_is h1 h.len h2, h.len]
  simp [List.getD_eq_getElem?_getD, ha, h0]
  exact cy_zero_is
end Tm
/-- The string of the bytes l. -/
def mkB (l : List UInt8) : ByteArray := ⟨l.toArray⟩
theorem mkB_lst (l : List UInt8) : lst (mkB l) = l := by unfold lst mkB; simp
theorem mkB_size (l : List UInt8) : (mkB l).size = l.length := by rw [← lst_len, mkB_lst]
/-- What rows of strings hold. -/
def rowG (L : List (List UInt8)) (k : Nat) : Value := .string (mkB (L.getD k []))
/-- A round under way. -/
def frG (t : List UInt8) (L : List (List UInt8)) (i k : Nat) : Value := if k < i then .string (mkB (t.getD k 0 :: L.getD k [])) else .string (mkB (L.getD k []))
theorem frG_store {wr : World} {t : List UInt8} {L : List (List UInt8)} {b n i : Nat} {ty : TypeId} {v : ByteArray} (hrow : wr.rowIs b ty n (frG t L i)) (hv : v = mkB (t.getD i 0 :: L.getD i [])) :
    ∀ d, ((wr.drewN d).setCell ⟨b, i, none⟩ (.string v)).rowIs b ty n (frG t L (i + 1)) := by
  intro d
  refine (World.rowIs.set (w := wr.drewN d) hrow i _).congr fun j _ => ?_
  unfold frG
  by_cases h : j = i
  · rw [if_pos h, if_pos (by omega), hv, h]
  · rw [if_neg h]
    by_cases h2 : j < i
    · rw [if_pos h2, if_pos (by omega)]
    · rw [if_neg h2, if_neg (by omega)]
theorem rowIs_srt {w : World} {b n : Nat} {t : TypeId} {f : Nat → Value} (h : w.rowIs b t n f) (L : List (List UInt8)) (hL : L.length = n) (k : Nat) (os : Array Obj) :
    (Sort.grow (Sort.putRow Go.Proofs.encStr (Sort.ahead w k) b 0 L.toArray) os).rowIs b t n (rowG L) := by
  obtain ⟨c, h1, h2, h3⟩ := h
  have hg : b < w.heap.size := (Array.getElem?_eq_some_iff.1 h1).1
  refine ⟨Sort.putCells Go.Proofs.encStr 0 L.toArray c, ?_, by simp [Sort.putCells, h2], fun i hi => ?_⟩
  · rw [Sort.heap_grow_old _ _ (by simpa using hg)]
    simp [Sort.putRow, Sort.mapBlock, Sort.ahead, Array.getElem?_modify, h1, Sort.onCells]
  · have hc : i < c.size := by omega
    have hi2 : i < L.length := by omega
    simp [Sort.putCells, hc, hi2, rowG, List.getD_eq_getElem?_getD]
    rfl
theorem holds_row {w : World} {b n : Nat} {t : TypeId} {T : List UInt8} {L : List (List UInt8)} (h : w.rowIs b t n (frG T L n)) (hn : n = T.length) : Sort.Holds Go.Proofs.encStr w b 0 (Tm.frn T L).toArray := by
  intro j hj
  have hj2 : j < n := by
    have : (Tm.frn T L).toArray.size = T.length := by simp [Tm.frn_len]
    omega
  refine ⟨?_, h.frozen _⟩
  rw [Nat.zero_add, h.cell hj2]
  have e : (Tm.frn T L).toArray[j]! = T.getD j 0 :: L.getD j [] := by
    unfold Tm.frn
    have : j < T.length := by omega
    simp [this]
  rw [e]
  unfold frG
  rw [if_pos hj2]
  rfl
/-- What quillref.BackOf hands back. -/
def BackRet (t : ByteArray) (a : Nat) (w : World) (e : Ending) (w' : World) : Prop :=
  (∃ v : ByteArray, v = mkB ((Tm.rwL (lst t) t.size).getD a []) ∧ ((Tm.IsPut (lst v) (lst t) a ∧ e = .returned (.tuple #[.string v, .bool true])) ∨ (¬ Tm.IsPut (lst v) (lst t) a ∧ e = .returned (.tuple #[.string v, .bool false])))) ∧ Below w.heap.size w w'
set_option maxHeartbeats 1000000 in
theorem BackOf_some (t : ByteArray) (a : Nat) (w : World) (hs : t.size ≤ 200) (h0 : 0 < t.size) (ha : a < t.size) : Calls Try.prog 13 #[.string t, .int .i64 (a : Int)] w (BackRet t a w) := by
  have he := some_bytes h0
  have hmk := run_make_row' (P := Try.prog) 50 9 (.string ⟨#[]⟩) 16 Try.underlying50 (by kernel_rfl) rfl .i64 .i64 t.size (by omega) (by omega) w
  have hmade := World.rowIs_made w (.string ⟨#[]⟩) t.size 9
  have hb0 := bl_new w (.cells (madeCells #[.string ⟨#[]⟩] t.size) 9)
  generalize w.alloc (.cells (madeCells #[.string ⟨#[]⟩] t.size) 9) = w0 at hmk hmade hb0
  have R0 : Hid (w0.rowIs w.heap.size 9 t.size (rowG (Tm.rwL (lst t) 0))) := hmade.congr fun j hj => by
    unfold rowG Tm.rwL
    rw [List.getD_eq_getElem?_getD, List.getElem?_replicate, lst_len, if_pos hj]
    rfl
  have HB0 := hid hb0
  obtain ⟨T, hT⟩ : ∃ T, T = lst t := ⟨_, rfl⟩
  rw [← hT] at R0
  have HT := hid hT
  have hTl : T.length = t.size := by rw [hT, lst_len]
  obtain ⟨N, hN⟩ : ∃ N, N = w.heap.size := ⟨_, rfl⟩
  rw [← hN] at R0 hmk
  have hNw : w.heap.size ≤ N := by omega
  clear hmade hb0 hT hN
  go_enter Try.func13, Try.ntmps13
  go_wp2
  go_loopw [17] (fun x wr => ∃ m : Nat, m ≤ t.size ∧ x = .int .i64 m ∧ Hid (wr.rowIs N 9 t.size (rowG (Tm.rwL T m))) ∧ Hid (Below w.heap.size w wr)) (fun x _ => t.size - (intOf x).toNat)
  case atStart => exact ⟨0, by omega, rfl, R0, HB0⟩
  case round =>
    clear R0 HB0 hmk
    obtain ⟨m, hm, rfl, HR, HB⟩ := hrel
    by_cases hlt : m < t.size
    · have hlt' : (m : Int) < (t.size : Int) := by omega
      obtain ⟨L, hL⟩ : ∃ L, L = Tm.rwL T m := ⟨_, rfl⟩
      rw [← hL] at HR
      have hLs : ∀ k, k < t.size → (L.getD k []).length = m := fun k hk => by
        rw [hL]
        refine Tm.rwL_size T m _ ?_
        rw [List.getD_eq_getElem?_getD, List.getElem?_eq_getElem (by rw [Tm.rwL_len, hTl]; exact hk)]
        exact List.getElem_mem _
      have HL := hid hL
      have HLS := hid hLs
      have R1 : Hid (wr.rowIs N 9 t.size (frG T L 0)) := HR.out.congr fun j hj => by
        unfold frG rowG
        rw [if_neg (by omega)]
      clear hL hLs HR
      go_wp2
      go_loopw [21] (fun x wq => ∃ k : Nat, k ≤ t.size ∧ x = .int .i64 k ∧ Hid (wq.rowIs N 9 t.size (frG T L k)) ∧ Hid (Below w.heap.size w wq)) (fun x _ => t.size - (intOf x).toNat)
      case atStart => exact ⟨0, by omega, rfl, R1, HB⟩
      case round =>
        clear R1 HB
        obtain ⟨k, hk, rfl, HR, HB⟩ := hrel
        by_cases hlt2 : k < t.size
        · have hlt2' : (k : Int) < (t.size : Int) := by omega
          obtain ⟨k1, hk1⟩ : ∃ k1, k1 = k + 1 := ⟨_, rfl⟩
          have ek1 : (k : Int) + 1 = (k1 : Int) := by omega
          have hk1t : (k1 : Int) ≤ (t.size : Int) := by omega
          have hk1k : (k : Int) ≤ (k1 : Int) := by omega
          have hk1t2 : k1 ≤ t.size := by omega
          have hk1k2 : k ≤ k1 := by omega
          have hwk : IntKind.i64.wrap (k1 : Int) = (k1 : Int) := IntWalk.i64_in _ (by omega)
          have hk10 : (0 : Int) ≤ (k1 : Int) := by omega
          have hc := HR.out.cell hlt2
          have hroom := HR.out.frozen k
          rw [show frG T L k k = .string (mkB (L.getD k [])) by unfold frG; rw [if_neg (by omega)]] at hc
          obtain ⟨V, hV⟩ : ∃ V, V = mkB (L.getD k []) := ⟨_, rfl⟩
          rw [← hV] at hc
          have hVs : V.size = m := by rw [hV, mkB_size]; exact HLS.out k hlt2
          obtain ⟨V2, hV2⟩ : ∃ V2, V2 = mkB (T.getD k 0 :: L.getD k []) := ⟨_, rfl⟩
          have hz1 : (t.extract k k1).size = 1 := by rw [size_ext]; omega
          have hadd := fun W : World => run_string_add_sum (P := Try.prog) W (t.extract k k1) V (by omega)
          have hcat : t.extract k k1 ++ V = V2 := by
            refine lst_inj ?_
            rw [lst_app, hV, hV2, mkB_lst, mkB_lst, lst_mid, ← HT.out, hk1, Nat.add_sub_cancel_left, List.drop_eq_getElem_cons (by rw [hTl]; exact hlt2), List.take_succ_cons, List.take_zero]
            have hkT : k < T.length := by omega
            rw [show T.getD k 0 = T[k] by rw [List.getD_eq_getElem?_getD, List.getElem?_eq_getElem hkT, Option.getD_some]]
            rfl
          rw [hcat] at hadd
          have RS := hid (frG_store HR.out hV2)
          have HBS := hid (fun d => (bl_drewN HB.out d).setCell (p := ⟨N, k, none⟩) (show w.heap.size ≤ N from hNw) (.string V2))
          have hbig : ¬ 9223372036854775807 < t.size := by omega
          have HKK := hid hk1
          clear HR HB hV hV2 hcat hk1
          go_wp2
          go_region
          go_wp2
          exact ⟨⟨k1, hk1t2, rfl, hid (show (wr.setCell ⟨N, k, none⟩ (.string V2)).rowIs N 9 t.size (frG T L k1) by rw [HKK.out]; exact RS.out 0), hid (HBS.out 0).drew⟩, by have := HKK.out; simp [intOf]; omega⟩
        · obtain rfl : k = t.size := by omega
          have hdl : decide ((t.size : Int) < (t.size : Int)) = false := decide_eq_false (by omega)
          have hlen : (Tm.frn T L).length = t.size := by rw [Tm.frn_len, hTl]
          have hS := Try.slices_Sort_string N 0 t.size (Tm.frn T L) wr (holds_row HR.out hTl.symm) HR.out.lt (by omega)
          rw [hlen] at hS
          have HS := hid hS
          clear hS
          go_wp2_with fail
          with_reducible refine HS.out.mono ?_
          rintro e w2 ⟨rfl, n, os, rfl⟩
          have hrow2 := rowIs_srt HR.out (Tm.srtL (Tm.frn T L)) (by rw [Tm.srtL_len, hlen]) n os
          have hb2 := HB.out.grown (grownBy_sorted (w := wr) (g := N) (n := n) (os := os) (Tm.srtL (Tm.frn T L)).toArray) HB.out.size (fun k hk => by injection hk with hk; omega)
          rw [show ((Tm.frn T L).mergeSort fun x y => decide (x ≤ y)) = Tm.srtL (Tm.frn T L) from rfl]
          generalize Sort.grow (Sort.putRow Go.Proofs.encStr (Sort.ahead wr n) N 0 (Tm.srtL (Tm.frn T L)).toArray) os = w3 at hrow2 hb2 ⊢
          rw [show Tm.srtL (Tm.frn T L) = Tm.rwL T (m + 1) by rw [HL.out]; rfl] at hrow2
          have HR2 := hid hrow2
          have HB2 := hid hb2
          clear hrow2 hb2 HS HR HB
          go_wp2
          go_roundw
          case measure => simp [intOf]; omega
          case rel => exact ⟨m + 1, by omega, by go_num, HR2, HB2⟩
    · obtain rfl : m = t.size := by omega
      have hdl : decide ((t.size : Int) < (t.size : Int)) = false := decide_eq_false (by omega)
      have ha' : (a : Int) < (t.size : Int) := by omega
      have hc := HR.out.cell ha
      obtain ⟨V, hV⟩ : ∃ V, V = mkB ((Tm.rwL T t.size).getD a []) := ⟨_, rfl⟩
      rw [show rowG (Tm.rwL T t.size) a = .string V by rw [hV]; rfl] at hc
      have hVs : V.size = t.size := by
        rw [hV, mkB_size]
        refine Tm.rwL_size T t.size _ ?_
        rw [List.getD_eq_getElem?_getD, List.getElem?_eq_getElem (by rw [Tm.rwL_len, hTl]; exact ha)]
        exact List.getElem_mem _
      have hVs2 : V.size ≤ 200 := by omega
      rw [HT.out] at hV
      have HV := hid hV
      clear hV hVs
      go_wp2_with fail
      with_reducible refine (TurnsOf_ok V _ hVs2).mono ?_
      rintro e w2 ⟨u, k, rfl, hp, hb2⟩
      have HP := hid hp
      have HB2 := hid (bl_then HB.out hb2)
      have hc2 : w2.cell? ⟨N, a, none⟩ = some (.string V) := (hb2.cell (p := ⟨N, a, none⟩) HR.out.lt).trans hc
      clear hp hb2 HB HR hc
      by_cases hut : u = t
      · subst hut
        have hd2 : (u.toList == u.toList) = true := by simp
        by_cases hka : k = a
        · subst hka
          have hd3 : ((k : Int) == (k : Int)) = true := by simp
          go_wp2
          go_ret2
          exact ⟨⟨V, HV.out, .inl ⟨HP.out, rfl⟩⟩, HB2.out⟩
        · have hd3 : ((k : Int) == (a : Int)) = false := beq_eq_false_iff_ne.2 (by omega)
          have HK := hid hka
          clear hka
          go_wp2
          go_ret2
          exact ⟨⟨V, HV.out, .inr ⟨fun h => HK.out (HP.out.unique h).2, rfl⟩⟩, HB2.out⟩
      · have hd2 : (u.toList == t.toList) = false := beq_eq_false_iff_ne.2 fun e => hut (list_eq.1 e)
        have HU := hid hut
        clear hut
        go_wp2
        go_ret2
        exact ⟨⟨V, HV.out, .inr ⟨fun h => HU.out (lst_inj (HP.out.unique h).1), rfl⟩⟩, HB2.out⟩
end Go.Proofs.Ytljpjjokfkbdcaa
