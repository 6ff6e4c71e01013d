/-
Several texts of this proof, one behind the other.
-/
import Derived.Test.YtgkagigagcamoaaShSt
import Derived.Test.YtgkagigagcamoaaSeg36
import Derived.Test.YtgkagigagcamoaaShPast
import Derived.Test.YtgkagigagcamoaaShDo
import Derived.Test.YtgkagigagcamoaaOrdL

/-
The contract of shift.All (Check, Do, Past: ShCk, ShDo, ShPast).
-/
namespace Go.Proofs.Ytgkagigagcamoaa
open Go.RowKit

theorem flat_set : ∀ (L : List Sh.Op) (k : Nat) (z : Sh.Op), k < L.length → (L.set k z).flatMap opC = (((L.flatMap opC).set (k * 3) (.int .i64 z.k)).set (k * 3 + 1) (.int .i64 z.a)).set (k * 3 + 2) (.int .u8 (z.b.toNat : Int))
  | [], _, _, h => absurd h (Nat.not_lt_zero _)
  | x :: t, 0, z, _ => by simp [opC]
  | x :: t, k + 1, z, h => by
    have ih := flat_set t k z (by simpa using h)
    have hl : (opC x).length = 3 := rfl
    rw [List.set_cons_succ, List.flatMap_cons, List.flatMap_cons, ih, List.set_append_right _ _ (by omega), List.set_append_right _ _ (by omega), List.set_append_right _ _ (by omega), hl,
      show (k + 1) * 3 - 3 = k * 3 by omega, show (k + 1) * 3 + 1 - 3 = k * 3 + 1 by omega, show (k + 1) * 3 + 2 - 3 = k * 3 + 2 by omega]
/-- An op is written into a row of the call's own. -/
theorem OwnO.put {w : World} {base n cap g k : Nat} {L : List Sh.Op} (h : OwnO w base (.slice (some ⟨g, 0, none⟩) n cap) L) (hk : k < L.length) (z : Sh.Op) : OwnO (putO w g (k * 3) z) base (.slice (some ⟨g, 0, none⟩) n cap) (L.set k z) := by
  unfold OwnO at h ⊢
  rw [List.length_set]
  obtain ⟨h0, h1⟩ := h
  refine ⟨by rw [op_len, List.length_set], ?_⟩
  rcases h1 with ⟨h7, _⟩ | ⟨g2, cap2, cur, h7, h8, h9, h10, h11, h12, h13⟩
  · cases h7
  · injection h7 with h7 h7n h7c
    injection h7 with h7
    injection h7 with h7
    subst h7
    have hs : ∀ (w : World) (cs : Array Value) (j : Nat) (v : Value), w.heap[g]? = some (.cells cs 23) → (w.setCell ⟨g, j, none⟩ v).heap[g]? = some (.cells (cs.setIfInBounds j v) 23) := fun w cs j v h => by
      unfold World.setCell
      simp only
      rw [Array.getElem?_modify, if_pos rfl, h]
      rfl
    refine .inr ⟨g, cap2, ((cur.setIfInBounds (k * 3) (.int .i64 z.k)).setIfInBounds (k * 3 + 1) (.int .i64 z.a)).setIfInBounds (k * 3 + 2) (.int .u8 (z.b.toNat : Int)), by rw [h7c, h7n], h8, ?_, h10, h11, by simpa using h12, ?_⟩
    · exact hs _ _ _ _ (hs _ _ _ _ (hs _ _ _ _ h9))
    · rw [Array.toList_setIfInBounds, Array.toList_setIfInBounds, Array.toList_setIfInBounds, List.take_set, List.take_set, List.take_set, h13, flat_set L k z hk]
theorem OwnO.apart {w : World} {base : Nat} {v : Value} {L : List Sh.Op} (h : OwnO w base v L) (g p : Nat) (z : Sh.Op) (hne : ∀ k, v.ownBlock = some k → k ≠ g) : OwnO (putO w g p z) base v L :=
  h.of_block fun k hk => putO_heap _ _ _ _ _ (hne k hk)
theorem OwnO.base {w : World} {base base' : Nat} {v : Value} {L : List Sh.Op} (h : OwnO w base v L) (hb : base' ≤ base) : OwnO w base' v L := by
  refine ⟨h.1, ?_⟩
  rcases h.2 with hn | ⟨g, cap, cur, rfl, h1, rest⟩
  · exact .inl hn
  · exact .inr ⟨g, cap, cur, rfl, Nat.le_trans hb h1, rest⟩
/-- An op whose kind is one and whose place is at most M. -/
def Bd (M : Int) (x : Sh.Op) : Prop := Kd x ∧ -M ≤ x.a ∧ x.a ≤ M
theorem Bd.past {M : Int} {x : Sh.Op} (y : Sh.Op) (f : Bool) (h0 : 0 ≤ M) (h : Bd M x) : Bd (M + 1) (Sh.past x y f) := by
  obtain ⟨h1, h2, h3⟩ := h
  refine ⟨kd_past h1, ?_⟩
  unfold Sh.past Sh.none_
  repeat' split
  all_goals (try simp only)
  all_goals omega
theorem Bd.more {M N : Int} {x : Sh.Op} (h : Bd M x) (hl : M ≤ N) : Bd N x := ⟨h.1, by have := h.2.1; omega, by have := h.2.2; omega⟩
theorem bd_ok {n : Int} {x : Sh.Op} (h : Sh.opErr n x = 0) : Bd 1000 x := by
  refine ⟨kd_ok h, ?_⟩
  obtain ⟨⟨h0, h1⟩, h2, _⟩ := Sh.err_zero.1 h
  rcases h1 with ⟨a1, a2, a3⟩ | ⟨a1, a2, a3, _⟩ | ⟨a1, a2, _⟩ <;> omega
theorem bd_row {C : Int} : ∀ {L : List Sh.Op} {n : Int}, Sh.sErr C n L = 0 → ∀ k, k < L.length → Bd 1000 (L.getD k Sh.zero)
  | [], _, _, k, hk => absurd hk (Nat.not_lt_zero _)
  | x :: L, n, h, k, hk => by
    simp only [Sh.sErr] at h
    by_cases h1 : Sh.opErr n x = 0
    · rw [if_pos h1] at h
      match k, hk with
      | 0, _ => exact bd_ok h1
      | k + 1, hk => exact bd_row h k (by simpa using hk)
    · rw [if_neg h1] at h
      exact absurd h h1
theorem drop_getD {L : List Sh.Op} {k : Nat} (h : k < L.length) : L.drop k = L.getD k Sh.zero :: L.drop (k + 1) := by
  rw [List.drop_eq_getElem_cons h, List.getD_eq_getElem?_getD, List.getElem?_eq_getElem h]
  rfl
theorem take_getD {L : List Sh.Op} {k : Nat} (h : k < L.length) : L.take (k + 1) = L.take k ++ [L.getD k Sh.zero] := by
  rw [List.take_add_one, List.getD_eq_getElem?_getD, List.getElem?_eq_getElem h]
  rfl
theorem set_drop {L : List Sh.Op} {k : Nat} (z : Sh.Op) : (L.set k z).drop (k + 1) = L.drop (k + 1) := by
  rw [List.drop_set, if_pos (by omega)]
theorem set_take {L : List Sh.Op} {k : Nat} (z : Sh.Op) (h : k < L.length) : (L.set k z).take (k + 1) = L.take k ++ [z] := by
  rw [take_getD (by rw [List.length_set]; exact h), List.take_set_of_le (Nat.le_refl _)]
  simp [h]
theorem set_get {L : List Sh.Op} {k : Nat} (z : Sh.Op) (h : k < L.length) : (L.set k z).getD k Sh.zero = z := by
  simp [h]
theorem set_ne {L : List Sh.Op} {k j : Nat} (z : Sh.Op) (h : k ≠ j) : (L.set k z).getD j Sh.zero = L.getD j Sh.zero := by
  simp [List.getElem?_set_ne h]
theorem set_same {L : List Sh.Op} {k : Nat} (h : k < L.length) : L.set k (L.getD k Sh.zero) = L := by
  rw [List.getD_eq_getElem?_getD, List.getElem?_eq_getElem h]
  simp
/-- Two rows in a literal: the one, the other. -/
theorem both_rows {w : World} {A B : Option Addr} {p q c1 c2 : Nat} {g h : Nat → Sh.Op} {t : TypeId} (h1 : OpIn w A p g) (h2 : OpIn w B q h) (c n : Int) :
    ∀ k, k < 2 → ∃ (X : Option Addr) (r cx : Nat) (f : Nat → Sh.Op), (w.alloc (.cells #[.slice A p c1, .slice B q c2] t)).cell? ⟨w.heap.size, k, none⟩ = some (.slice X r cx) ∧ OpIn (w.alloc (.cells #[.slice A p c1, .slice B q c2] t)) X r f ∧ Sh.sErr c n (ol f r) = if k = 0 then Sh.sErr c n (ol g p) else Sh.sErr c n (ol h q) := by
  intro k hk
  have hc := fun j => cell_of_row (w.alloc (.cells #[.slice A p c1, .slice B q c2] t)) w.heap.size j _ _ _ (heap_alloc_new w _)
  match k, hk with
  | 0, _ => exact ⟨A, p, c1, g, by rw [hc]; rfl, h1.keep (bl_new w _), rfl⟩
  | 1, _ => exact ⟨B, q, c2, h, by rw [hc]; rfl, h2.keep (bl_new w _), rfl⟩
set_option maxHeartbeats 8000000 in
set_option maxRecDepth 100000 in
theorem All_any {A B : Option Addr} {p q c1 c2 : Nat} {g h : Nat → Sh.Op} (n : Int) (w : World) (h1 : OpIn w A p g) (h2 : OpIn w B q h) (hn : N64 n) :
    Calls Try.prog 16 #[.int .i64 n, .slice A p c1, .slice B q c2] w (AllPost n (ol g p) (ol h q) w) := by
  have hall : Sh.allErr n (ol g p) (ol h q) = if 30 < p ∨ 30 < q then 2 else if Sh.sErr ((p : Int) + (q : Int)) n (ol g p) = 0 then Sh.sErr ((p : Int) + (q : Int)) n (ol h q) else Sh.sErr ((p : Int) + (q : Int)) n (ol g p) := by
    unfold Sh.allErr
    rw [ol_len, ol_len]
  have HALL := hid hall
  have H1 := hid h1
  have H2 := hid h2
  have HN := hid hn
  have hpm : p ≤ 9223372036854775807 := by have := h1.len; unfold maxLen at this; omega
  have hqm : q ≤ 9223372036854775807 := by have := h2.len; unfold maxLen at this; omega
  have stop : ∀ (z : Int) (w' : World), Sh.allErr n (ol g p) (ol h q) = z → z ≠ 0 → Below w.heap.size w w' → AllPost n (ol g p) (ol h q) w (.returned (.tuple #[.slice none 0 0, .slice none 0 0, .int .i64 z])) w' := fun z w' hz h0 hb =>
    ⟨none, 0, none, 0, [], [], z, rfl, ⟨hz.symm, (if_neg h0).symm, (if_neg h0).symm⟩, OwnO.zero _ _, OwnO.zero _ _, (fun _ hk => by cases hk), hb⟩
  have STOP := hid stop
  by_cases hbig : 30 < p ∨ 30 < q
  · have hv : Sh.allErr n (ol g p) (ol h q) = 2 := by rw [hall, if_pos hbig]
    have HV := hid hv
    clear hall h1 h2 hn stop hv
    by_cases hp : 30 < p
    · have hd : decide ((30 : Int) < (p : Int)) = true := decide_eq_true (by omega)
      clear hbig
      go_enter Try.func16, Try.ntmps16
      go_wp2
      go_ret3
      exact STOP.out 2 _ HV.out (by decide) (Below.refl _ _)
    · have hd : decide ((30 : Int) < (p : Int)) = false := decide_eq_false (by omega)
      have hd2 : decide ((30 : Int) < (q : Int)) = true := decide_eq_true (by omega)
      have hd' : ¬ 30 < p := hp
      have hd2' : 30 < q := by omega
      clear hbig
      go_enter Try.func16, Try.ntmps16
      go_wp2
      go_ret3
      exact STOP.out 2 _ HV.out (by decide) (Below.refl _ _)
  · have hd1 : decide ((30 : Int) < (p : Int)) = false := decide_eq_false (by omega)
    have hd2 : decide ((30 : Int) < (q : Int)) = false := decide_eq_false (by omega)
    have hd1' : ¬ 30 < p := by omega
    have hd2' : ¬ 30 < q := by omega
    obtain ⟨C, hC⟩ : ∃ C : Int, C = (p : Int) + (q : Int) := ⟨_, rfl⟩
    obtain ⟨M, hM⟩ : ∃ M : Int, M = 200 - C := ⟨_, rfl⟩
    have HM := hid hM
    have HC60 : Hid (0 ≤ C ∧ C ≤ 60) := by show _ ∧ _; omega
    have hw1 : IntKind.i64.wrap (200 - (p : Int)) = 200 - (p : Int) := IntWalk.i64_in _ (by omega)
    have hw2 : IntKind.i64.wrap (200 - (p : Int) - (q : Int)) = M := by rw [IntWalk.i64_in _ (by omega)]; omega
    have hv : Hid (Sh.allErr n (ol g p) (ol h q) = if Sh.sErr C n (ol g p) = 0 then Sh.sErr C n (ol h q) else Sh.sErr C n (ol g p)) := by show _ = _; rw [HALL.out, if_neg hbig, hC]
    have HR := hid (both_rows (c1 := c1) (c2 := c2) (t := 33) h1 h2 C n)
    have HB := hid (bl_new w (.cells #[.slice A p c1, .slice B q c2] 33))
    have HP30 : Hid (p ≤ 30 ∧ q ≤ 30) := by show _ ∧ _; omega
    clear hall h1 h2 hn hC hM hbig HALL stop
    go_enter Try.func16, Try.ntmps16
    go_wp2
    obtain ⟨N, hN⟩ : ∃ N, N = w.heap.size := ⟨_, rfl⟩
    have HNN := hid hN
    rw [← hN] at HR ⊢
    clear hN
    obtain ⟨w0, hw0⟩ : ∃ w0, w0 = w.alloc (.cells #[.slice A p c1, .slice B q c2] 33) := ⟨_, rfl⟩
    rw [← hw0] at HR HB ⊢
    clear hw0
    go_loopw [33] (fun x wr => ∃ k : Nat, k ≤ 2 ∧ x = .int .i64 (k : Int) ∧ Hid (∀ j, j < k → (if j = 0 then Sh.sErr C n (ol g p) else Sh.sErr C n (ol h q)) = 0) ∧ Hid (Below w0.heap.size w0 wr)) (fun x _ => 2 - (intOf x).toNat)
    case atStart => exact ⟨0, by omega, rfl, fun j hj => absurd hj (Nat.not_lt_zero _), Below.refl _ _⟩
    case round =>
      obtain ⟨k, hk, rfl, HZ, HW⟩ := hrel
      by_cases hk2 : k < 2
      · obtain ⟨X, r, cx, f, hcell, hin, herr⟩ := HR.out k hk2
        have hNlt : N < w0.heap.size := World.block_lt_of_cell? w0 _ hcell
        have hcell := (HW.out.cell (p := ⟨N, k, none⟩) hNlt).trans hcell
        have HIN := hid (hin.keep HW.out)
        have HERR := hid herr
        have hk2' : (k : Int) < 2 := by omega
        clear hin herr
        go_wp2_with fail
        with_reducible refine (steps_any C n M wr HIN.out HN.out HM.out HC60.out).mono ?_
        rintro e w8 ⟨rfl, hb8⟩
        have HW2 := hid (bl_then HW.out hb8)
        obtain ⟨z, hz⟩ : ∃ z, z = Sh.sErr C n (ol f r) := ⟨_, rfl⟩
        rw [← hz]
        have HZZ := hid hz
        clear hb8 hz
        by_cases hz0 : z = 0
        · subst hz0
          have HZ2 : Hid (∀ j, j < k + 1 → (if j = 0 then Sh.sErr C n (ol g p) else Sh.sErr C n (ol h q)) = 0) := fun j hj => by
            by_cases hjk : j < k
            · exact HZ.out j hjk
            · obtain rfl : j = k := by omega
              exact HERR.out.symm.trans HZZ.out.symm
          clear HZ
          go_wp2
          go_roundw
          case measure => simp [intOf]; omega
          case rel => exact ⟨k + 1, by omega, by go_num, HZ2.out, HW2.out⟩
        · have hzz : (z != 0) = true := bne_iff_ne.2 hz0
          have hzz' : (z == 0) = false := beq_eq_false_iff_ne.2 hz0
          have HF : Hid (Sh.allErr n (ol g p) (ol h q) = z) := by
            have e2 := HERR.out
            rw [← HZZ.out] at e2
            show _ = _
            rw [hv.out]
            match k, hk2 with
            | 0, _ =>
              rw [if_pos rfl] at e2
              rw [← e2, if_neg hz0]
            | 1, _ =>
              have e3 := HZ.out 0 (by omega)
              rw [if_pos rfl] at e3
              rw [if_neg (by omega)] at e2
              rw [if_pos e3, ← e2]
          have HZ0 := hid hz0
          clear hz0 HZ
          go_wp2
          go_ret3
          exact STOP.out z _ HF.out HZ0.out (bl_then HB.out HW2.out)
      · obtain rfl : k = 2 := by omega
        have e1 := HZ.out 0 (by omega)
        have e2 := HZ.out 1 (by omega)
        rw [if_pos rfl] at e1
        rw [if_neg (by omega)] at e2
        have HE0 : Hid (Sh.allErr n (ol g p) (ol h q) = 0) := by show _ = _; rw [hv.out, if_pos e1, e2]
        have HB1 := hid (bl_then HB.out HW.out)
        have HA0 : Hid (∀ k, k < p → Bd 1000 ((ol g p).getD k Sh.zero)) := fun k hk => bd_row e1 k (by rw [ol_len]; exact hk)
        have HB0 : Hid (∀ k, k < q → Bd 1000 ((ol h q).getD k Sh.zero)) := fun k hk => bd_row e2 k (by rw [ol_len]; exact hk)
        have hk2' : decide ((2 : Int) < 2) = false := rfl
        clear e1 e2 HZ hv HR HW HB STOP
        have hA : A = none → p = 0 := fun e => by
          by_cases h0 : 0 < p
          · obtain ⟨b, o, e', _⟩ := H1.out.row 0 h0
            rw [e] at e'; cases e'
          · omega
        have hB : B = none → q = 0 := fun e => by
          by_cases h0 : 0 < q
          · obtain ⟨b, o, e', _⟩ := H2.out.row 0 h0
            rw [e] at e'; cases e'
          · omega
        have HAN := hid hA
        have HBN := hid hB
        clear hA hB
        go_wp2_with fail
        with_reducible refine (clone_o A p c1 g wr (H1.out.row.keep HB1.out) (by have := HP30.out; omega) HAN.out).mono ?_
        rintro e w4 ⟨v1, rfl, hown1, hb4⟩
        have HB4 := hid (bl_then HB1.out hb4)
        have HO1 := hid (hown1.base HB1.out.size)
        have HLT1 := hid hown1.lt_
        clear hown1 hb4
        go_wp2_with fail
        with_reducible refine (clone_o B q c2 h w4 (H2.out.row.keep HB4.out) (by have := HP30.out; omega) HBN.out).mono ?_
        rintro e w5 ⟨v2, rfl, hown2, hb5⟩
        have HB5 := hid (bl_then HB4.out hb5)
        have HO1' := hid (HO1.out.low hb5)
        have HO2 := hid (hown2.base HB4.out.size)
        have HAP : Hid (∀ k, v1.ownBlock = some k → v2.ownBlock ≠ some k) := fun k hk hk2 => by
          have a1 := (HLT1.out k hk).2
          have a2 := (hown2.lt_ k hk2).1
          omega
        obtain ⟨A1, ca, hv1, -, -⟩ := HO1'.out.row
        obtain ⟨B1, cb, hv2, -, -⟩ := HO2.out.row
        rw [ol_len] at hv1 hv2
        subst hv1 hv2
        have HLA : Hid ((ol g p).length = p) := ol_len g p
        have HLB : Hid ((ol h q).length = q) := ol_len h q
        obtain ⟨LA, hLA⟩ : ∃ LA, LA = ol g p := ⟨_, rfl⟩
        obtain ⟨LB, hLB⟩ : ∃ LB, LB = ol h q := ⟨_, rfl⟩
        have FIN : Hid (∀ (w' : World) (u v : List Sh.Op), Sh.allA LA LB = (u, v) → u.length = p → v.length = q → OwnO w' w.heap.size (.slice A1 p ca) u → OwnO w' w.heap.size (.slice B1 q cb) v → Below w.heap.size w w' →
            AllPost n (ol g p) (ol h q) w (.returned (.tuple #[.slice A1 p ca, .slice B1 q cb, .int .i64 0])) w') := by
          intro w' u v he hu hv ho1 ho2 hb
          refine ⟨A1, ca, B1, cb, u, v, 0, by rw [hu, hv], ⟨HE0.out.symm, by rw [if_pos rfl, ← hLA, ← hLB, he], by rw [if_pos rfl, ← hLA, ← hLB, he]⟩, by rw [hu]; exact ho1, by rw [hv]; exact ho2, ?_, hb⟩
          rw [hu, hv]
          exact HAP.out
        rw [← hLA] at HA0 HO1' HLA ⊢
        rw [← hLB] at HB0 HO2 HLB ⊢
        have HP60 : Hid (p ≤ 1000) := by have := HP30.out; show _ ≤ _; omega
        have hpm2 : p ≤ 9223372036854775807 := hpm
        clear hown2 hb5 hLA hLB HO1 HLT1 HB4 HB1 HE0 H1 H2 HAN HBN
        go_wp2
        go_loopw [51] (fun x wr => ∃ (i : Nat) (FA FB : List Sh.Op), i ≤ p ∧ x = .int .i64 (i : Int) ∧ Hid (FA.length = p) ∧ Hid (FB.length = q) ∧ Hid (OwnO wr w.heap.size (.slice A1 p ca) FA) ∧ Hid (OwnO wr w.heap.size (.slice B1 q cb) FB) ∧
          Hid (Sh.allA LA LB = (FA.take i ++ (Sh.allA (FA.drop i) FB).1, (Sh.allA (FA.drop i) FB).2)) ∧ Hid (∀ k, i ≤ k → k < p → Bd 1000 (FA.getD k Sh.zero)) ∧ Hid (∀ k, k < q → Bd (1000 + (i : Int)) (FB.getD k Sh.zero)) ∧ Hid (Below w.heap.size w wr)) (fun x _ => p - (intOf x).toNat)
        case atStart => exact ⟨0, LA, LB, by omega, rfl, HLA.out, HLB.out, HO1'.out, HO2.out, by show _ = _; rw [List.take_zero, List.drop_zero]; rfl, fun k _ hk => HA0.out k hk, fun k hk => (HB0.out k hk).more (by omega), HB5.out⟩
        case round =>
          obtain ⟨i, FA, FB, hi, rfl, HFA, HFB, HOA, HOB, HEQ, HBA, HBB, HBW⟩ := hrel
          by_cases hip : i < p
          · have hip' : (i : Int) < (p : Int) := by omega
            have hiA : i < FA.length := by rw [HFA.out]; exact hip
            obtain ⟨x, hx⟩ : ∃ x, x = FA.getD i Sh.zero := ⟨_, rfl⟩
            have HXB : Hid (Bd 1000 x) := by show Bd _ _; rw [hx]; exact HBA.out i (Nat.le_refl _) hip
            have HDR : Hid (FA.drop i = x :: FA.drop (i + 1)) := by show _ = _; rw [hx]; exact drop_getD hiA
            have HSET : Hid (FA.set i x = FA) := by show _ = _; rw [hx]; exact set_same hiA
            have HIA := hid hiA
            clear hx hiA
            go_wp2
            obtain ⟨wq, hwq⟩ : ∃ wq, wq = wr := ⟨_, rfl⟩
            rw [← hwq] at HOA HOB HBW ⊢
            clear hwq
            go_loopw [56] (fun y w7 => ∃ (j : Nat) (x' : Sh.Op) (GB : List Sh.Op), j ≤ q ∧ y = .int .i64 (j : Int) ∧ Hid (GB.length = q) ∧ Hid (OwnO w7 w.heap.size (.slice A1 p ca) (FA.set i x')) ∧ Hid (OwnO w7 w.heap.size (.slice B1 q cb) GB) ∧
              Hid (Sh.thru x FB = ((Sh.thru x' (GB.drop j)).1, GB.take j ++ (Sh.thru x' (GB.drop j)).2)) ∧ Hid (Bd (1000 + (j : Int)) x') ∧ Hid (∀ k, j ≤ k → k < q → Bd (1000 + (i : Int)) (GB.getD k Sh.zero)) ∧ Hid (∀ k, k < q → Bd (1000 + (i : Int) + 1) (GB.getD k Sh.zero)) ∧ Hid (Below w.heap.size w w7)) (fun y _ => q - (intOf y).toNat)
            case atStart => exact ⟨0, x, FB, by omega, rfl, HFB.out, by show OwnO _ _ _ _; rw [HSET.out]; exact HOA.out, HOB.out, by show _ = _; rw [List.take_zero, List.drop_zero]; rfl, HXB.out.more (by omega), fun k _ hk => HBB.out k hk, fun k hk => (HBB.out k hk).more (by omega), HBW.out⟩
            case round =>
              obtain ⟨j, x', GB, hj, rfl, HGB, HOA2, HOB2, HTH, HXB2, HGB1, HGB2, HBW2⟩ := hrel
              by_cases hjq : j < q
              · have hjq' : (j : Int) < (q : Int) := by omega
                have hjB : j < GB.length := by rw [HGB.out]; exact hjq
                have HJB := hid hjB
                have hla : (FA.set i x').length = p := by rw [List.length_set, HFA.out]
                obtain ⟨ga, ca', hva, -, -, hga, hca⟩ := HOA2.out.opAt (by rw [hla]; omega)
                obtain ⟨gb, cb', hvb, -, -, hgb, hcb⟩ := HOB2.out.opAt (by omega)
                injection hva with hva hvn hva'
                injection hvb with hvb hvm hvb'
                clear hvn hvm
                subst hva hvb hva' hvb'
                have hxa := hca i (by rw [hla]; exact hip)
                rw [set_get x' HIA.out, Nat.zero_add] at hxa
                obtain ⟨y, hy⟩ : ∃ y, y = GB.getD j Sh.zero := ⟨_, rfl⟩
                have hyb := hcb j hjB
                rw [← hy, Nat.zero_add] at hyb
                have HXA := hid hxa
                have HYB := hid hyb
                have hne : ga ≠ gb := fun e => HAP.out ga rfl (by rw [e]; rfl)
                have HNE := hid hne
                have HYD : Hid (Bd (1000 + (i : Int)) y) := by show Bd _ _; rw [hy]; exact HGB1.out j (Nat.le_refl _) hjq
                have HDB : Hid (GB.drop j = y :: GB.drop (j + 1)) := by show _ = _; rw [hy]; exact drop_getD hjB
                obtain ⟨z1, hz1⟩ : ∃ z1, z1 = Sh.past x' y true := ⟨_, rfl⟩
                obtain ⟨z2, hz2⟩ : ∃ z2, z2 = Sh.past y x' false := ⟨_, rfl⟩
                have HC1 : Hid (∀ W, Calls Try.prog 39 #[.agg #[.int .i64 x'.k, .int .i64 x'.a, .int .u8 (x'.b.toNat : Int)], .agg #[.int .i64 y.k, .int .i64 y.a, .int .u8 (y.b.toNat : Int)], .bool true] W fun e w' => e = .returned (.agg #[.int .i64 z1.k, .int .i64 z1.a, .int .u8 (z1.b.toNat : Int)]) ∧ Below W.heap.size W w') := fun W => by
                  rw [hz1]; exact spast_any x' y true W (by have := HXB2.out.2; have := HP60.out; have := HP30.out; omega) HYD.out.1
                have HC2 : Hid (∀ W, Calls Try.prog 39 #[.agg #[.int .i64 y.k, .int .i64 y.a, .int .u8 (y.b.toNat : Int)], .agg #[.int .i64 x'.k, .int .i64 x'.a, .int .u8 (x'.b.toNat : Int)], .bool false] W fun e w' => e = .returned (.agg #[.int .i64 z2.k, .int .i64 z2.a, .int .u8 (z2.b.toNat : Int)]) ∧ Below W.heap.size W w') := fun W => by
                  rw [hz2]; exact spast_any y x' false W (by have := HYD.out.2; have := HP60.out; omega) HXB2.out.1
                have HZ1 : Hid (Bd (1000 + ((j + 1 : Nat) : Int)) z1) := by show Bd _ _; rw [hz1]; exact (HXB2.out.past y true (by omega)).more (by omega)
                have HZ2 : Hid (Bd (1000 + (i : Int) + 1) z2) := by show Bd _ _; rw [hz2]; exact HYD.out.past x' false (by omega)
                have HTH2 : Hid (Sh.thru x FB = ((Sh.thru z1 (GB.drop (j + 1))).1, GB.take j ++ z2 :: (Sh.thru z1 (GB.drop (j + 1))).2)) := by
                  show _ = _
                  rw [HTH.out, HDB.out, hz1, hz2]
                  simp only [Sh.thru]
                have hsz : ga < wr.heap.size := hga
                have hsz2 : gb < wr.heap.size := hgb
                have hip2 : i < p := hip
                clear hca hcb hla hy hz1 hz2 hxa hyb hjB hga hgb
                obtain ⟨a0, a1, a2, a3, a4, a5⟩ := HXA.out
                obtain ⟨b0, b1, b2, b3, b4, b5⟩ := HYB.out
                have hDr : Below wr.heap.size wr wr.drew := bl_drewN (Below.refl _ _) 1
                have HT : Hid (∀ W, Below wr.heap.size wr W → (W.cell? ⟨ga, i * 3, none⟩ = some (.int .i64 x'.k) ∧ W.cell? ⟨ga, i * 3 + 1, none⟩ = some (.int .i64 x'.a) ∧ W.cell? ⟨ga, i * 3 + 2, none⟩ = some (.int .u8 (x'.b.toNat : Int))) ∧
                    (W.cell? ⟨gb, j * 3, none⟩ = some (.int .i64 y.k) ∧ W.cell? ⟨gb, j * 3 + 1, none⟩ = some (.int .i64 y.a) ∧ W.cell? ⟨gb, j * 3 + 2, none⟩ = some (.int .u8 (y.b.toNat : Int)))) := fun W hW => by
                  obtain ⟨a0, a1, a2, -⟩ := HXA.out.block (hW.block ga hsz)
                  obtain ⟨b0, b1, b2, -⟩ := HYB.out.block (hW.block gb hsz2)
                  exact ⟨⟨a0, a1, a2⟩, ⟨b0, b1, b2⟩⟩
                go_wp2_with fail
                have hS0 := HT.out _ hDr
                clear a0 a1 a2 b0 b1 b2 a3 a4 a5 b3 b4 b5
                refine wp_region_L (fun W => (W.cell? ⟨ga, i * 3, none⟩ = some (.int .i64 x'.k) ∧ W.cell? ⟨ga, i * 3 + 1, none⟩ = some (.int .i64 x'.a) ∧ W.cell? ⟨ga, i * 3 + 2, none⟩ = some (.int .u8 (x'.b.toNat : Int))) ∧ (W.cell? ⟨gb, j * 3, none⟩ = some (.int .i64 y.k) ∧ W.cell? ⟨gb, j * 3 + 1, none⟩ = some (.int .i64 y.a) ∧ W.cell? ⟨gb, j * 3 + 2, none⟩ = some (.int .u8 (y.b.toNat : Int)))) 23 (by kernel_rfl) hS0 (fun hHeld => ?_)
                clear hHeld
                refine wpAnyL_take0 (i := 0) (oi := { dst := Option.some 59, op := Op.move (Operand.tmp 1), type := 33, pos := "shift.go:98", after := #[], guard := Option.none }) (v := ?tv1) rfl (by kernel_rfl) (by kernel_rfl) (by kernel_rfl) rfl (fun _ _ _ h => h) (Or.inl ⟨by rfl, ?ty1⟩) (by first | exact fun _ => by assumption | exact fun h => absurd (show true = false from h) (by decide)) ?tr1; (case ty1 => (intro w hSw; (try dsimp only at hSw); clear hSw; go_simp; try (with_reducible rfl))); (try simp only [Act.put, List.setIfInBounds_toArray, List.set_cons_zero, List.set_cons_succ]); refine wpAnyL_take0 (i := 1) (oi := { dst := Option.some 60, op := Op.move (Operand.tmp 13), type := 3, pos := "shift.go:98", after := #[], guard := Option.none }) (v := ?tv2) rfl (by kernel_rfl) (by kernel_rfl) (by kernel_rfl) rfl (fun _ _ _ h => h) (Or.inl ⟨by rfl, ?ty2⟩) (by first | exact fun _ => by assumption | exact fun h => absurd (show true = false from h) (by decide)) ?tr2; (case ty2 => (intro w hSw; (try dsimp only at hSw); clear hSw; go_simp; try (with_reducible rfl))); (try simp only [Act.put, List.setIfInBounds_toArray, List.set_cons_zero, List.set_cons_succ]); refine wpAnyL_take0 (i := 2) (oi := { dst := Option.some 61, op := Op.move (Operand.tmp 2), type := 33, pos := "shift.go:98", after := #[{ on := 23, ground := Ground.gcOnly Departure.lateStores }], guard := Option.none }) (v := ?tv3) rfl (by kernel_rfl) (by kernel_rfl) (by kernel_rfl) rfl (fun _ _ _ h => h) (Or.inl ⟨by rfl, ?ty3⟩) (by first | exact fun _ => by assumption | exact fun h => absurd (show true = false from h) (by decide)) ?tr3; (case ty3 => (intro w hSw; (try dsimp only at hSw); clear hSw; go_simp; try (with_reducible rfl))); (try simp only [Act.put, List.setIfInBounds_toArray, List.set_cons_zero, List.set_cons_succ]); refine wpAnyL_take0 (i := 3) (oi := { dst := Option.some 62, op := Op.move (Operand.tmp 14), type := 3, pos := "shift.go:98", after := #[{ on := 23, ground := Ground.gcOnly Departure.lateStores }], guard := Option.none }) (v := ?tv4) rfl (by kernel_rfl) (by kernel_rfl) (by kernel_rfl) rfl (fun _ _ _ h => h) (Or.inl ⟨by rfl, ?ty4⟩) (by first | exact fun _ => by assumption | exact fun h => absurd (show true = false from h) (by decide)) ?tr4; (case ty4 => (intro w hSw; (try dsimp only at hSw); clear hSw; go_simp; try (with_reducible rfl))); (try simp only [Act.put, List.setIfInBounds_toArray, List.set_cons_zero, List.set_cons_succ]); refine wpAnyL_take0 (i := 4) (oi := { dst := Option.some 63, op := Op.move (Operand.tmp 1), type := 33, pos := "shift.go:98", after := #[], guard := Option.none }) (v := ?tv5) rfl (by kernel_rfl) (by kernel_rfl) (by kernel_rfl) rfl (fun _ _ _ h => h) (Or.inl ⟨by rfl, ?ty5⟩) (by first | exact fun _ => by assumption | exact fun h => absurd (show true = false from h) (by decide)) ?tr5; (case ty5 => (intro w hSw; (try dsimp only at hSw); clear hSw; go_simp; try (with_reducible rfl))); (try simp only [Act.put, List.setIfInBounds_toArray, List.set_cons_zero, List.set_cons_succ]); refine wpAnyL_take0 (i := 5) (oi := { dst := Option.some 64, op := Op.move (Operand.tmp 13), type := 3, pos := "shift.go:98", after := #[], guard := Option.none }) (v := ?tv6) rfl (by kernel_rfl) (by kernel_rfl) (by kernel_rfl) rfl (fun _ _ _ h => h) (Or.inl ⟨by rfl, ?ty6⟩) (by first | exact fun _ => by assumption | exact fun h => absurd (show true = false from h) (by decide)) ?tr6; (case ty6 => (intro w hSw; (try dsimp only at hSw); clear hSw; go_simp; try (with_reducible rfl))); (try simp only [Act.put, List.setIfInBounds_toArray, List.set_cons_zero, List.set_cons_succ]); refine wpAnyL_take0 (i := 6) (oi := { dst := Option.some 65, op := Op.indexAddr 33 (Operand.tmp 63) (Operand.tmp 64), type := 0, pos := "shift.go:98", after := #[{ on := 4, ground := Ground.data }, { on := 5, ground := Ground.data }], guard := Option.none }) (v := ?tv7) rfl (by kernel_rfl) (by kernel_rfl) (by kernel_rfl) rfl (fun _ _ _ h => h) (Or.inl ⟨by rfl, ?ty7⟩) (by first | exact fun _ => by assumption | exact fun h => absurd (show true = false from h) (by decide)) ?tr7; (case ty7 => (intro w hSw; (try dsimp only at hSw); clear hSw; go_simp; try (with_reducible rfl))); (try simp only [Act.put, List.setIfInBounds_toArray, List.set_cons_zero, List.set_cons_succ]); refine wpAnyL_take1 (i := 7) (oi := { dst := Option.some 66, op := Op.load 23 (Operand.tmp 65), type := 23, pos := "shift.go:98", after := #[{ on := 6, ground := Ground.data }], guard := Option.none }) (v := ?tv8) rfl (by kernel_rfl) (by kernel_rfl) (by kernel_rfl) rfl (by kernel_rfl) (by kernel_rfl) (fun _ _ _ h => h) (Or.inl ⟨by rfl, ?ty8⟩) (by first | exact fun _ => by assumption | exact fun h => absurd (show true = false from h) (by decide)) ?tr8; (case ty8 => (intro w hSw; (try dsimp only at hSw); go_simp; try (with_reducible rfl))); (try simp only [Act.put, List.setIfInBounds_toArray, List.set_cons_zero, List.set_cons_succ]); refine wpAnyL_take0 (i := 8) (oi := { dst := Option.some 67, op := Op.move (Operand.tmp 2), type := 33, pos := "shift.go:98", after := #[], guard := Option.none }) (v := ?tv9) rfl (by kernel_rfl) (by kernel_rfl) (by kernel_rfl) rfl (fun _ _ _ h => h) (Or.inl ⟨by rfl, ?ty9⟩) (by first | exact fun _ => by assumption | exact fun h => absurd (show true = false from h) (by decide)) ?tr9; (case ty9 => (intro w hSw; (try dsimp only at hSw); clear hSw; go_simp; try (with_reducible rfl))); (try simp only [Act.put, List.setIfInBounds_toArray, List.set_cons_zero, List.set_cons_succ]); refine wpAnyL_take0 (i := 9) (oi := { dst := Option.some 68, op := Op.move (Operand.tmp 14), type := 3, pos := "shift.go:98", after := #[], guard := Option.none }) (v := ?tv10) rfl (by kernel_rfl) (by kernel_rfl) (by kernel_rfl) rfl (fun _ _ _ h => h) (Or.inl ⟨by rfl, ?ty10⟩) (by first | exact fun _ => by assumption | exact fun h => absurd (show true = false from h) (by decide)) ?tr10; (case ty10 => (intro w hSw; (try dsimp only at hSw); clear hSw; go_simp; try (with_reducible rfl))); (try simp only [Act.put, List.setIfInBounds_toArray, List.set_cons_zero, List.set_cons_succ]); refine wpAnyL_take0 (i := 10) (oi := { dst := Option.some 69, op := Op.indexAddr 33 (Operand.tmp 67) (Operand.tmp 68), type := 0, pos := "shift.go:98", after := #[{ on := 8, ground := Ground.data }, { on := 9, ground := Ground.data }], guard := Option.none }) (v := ?tv11) rfl (by kernel_rfl) (by kernel_rfl) (by kernel_rfl) rfl (fun _ _ _ h => h) (Or.inl ⟨by rfl, ?ty11⟩) (by first | exact fun _ => by assumption | exact fun h => absurd (show true = false from h) (by decide)) ?tr11; (case ty11 => (intro w hSw; (try dsimp only at hSw); clear hSw; go_simp; try (with_reducible rfl))); (try simp only [Act.put, List.setIfInBounds_toArray, List.set_cons_zero, List.set_cons_succ]); refine wpAnyL_take1 (i := 11) (oi := { dst := Option.some 70, op := Op.load 23 (Operand.tmp 69), type := 23, pos := "shift.go:98", after := #[{ on := 10, ground := Ground.data }], guard := Option.none }) (v := ?tv12) rfl (by kernel_rfl) (by kernel_rfl) (by kernel_rfl) rfl (by kernel_rfl) (by kernel_rfl) (fun _ _ _ h => h) (Or.inl ⟨by rfl, ?ty12⟩) (by first | exact fun _ => by assumption | exact fun h => absurd (show true = false from h) (by decide)) ?tr12; (case ty12 => (intro w hSw; (try dsimp only at hSw); go_simp; try (with_reducible rfl))); (try simp only [Act.put, List.setIfInBounds_toArray, List.set_cons_zero, List.set_cons_succ]); refine wpAnyL_take0 (i := 13) (oi := { dst := Option.some 72, op := Op.move (Operand.tmp 2), type := 33, pos := "shift.go:98", after := #[], guard := Option.none }) (v := ?tv13) rfl (by kernel_rfl) (by kernel_rfl) (by kernel_rfl) rfl (fun _ _ _ h => h) (Or.inl ⟨by rfl, ?ty13⟩) (by first | exact fun _ => by assumption | exact fun h => absurd (show true = false from h) (by decide)) ?tr13; (case ty13 => (intro w hSw; (try dsimp only at hSw); clear hSw; go_simp; try (with_reducible rfl))); (try simp only [Act.put, List.setIfInBounds_toArray, List.set_cons_zero, List.set_cons_succ]); refine wpAnyL_take0 (i := 14) (oi := { dst := Option.some 73, op := Op.move (Operand.tmp 14), type := 3, pos := "shift.go:98", after := #[], guard := Option.none }) (v := ?tv14) rfl (by kernel_rfl) (by kernel_rfl) (by kernel_rfl) rfl (fun _ _ _ h => h) (Or.inl ⟨by rfl, ?ty14⟩) (by first | exact fun _ => by assumption | exact fun h => absurd (show true = false from h) (by decide)) ?tr14; (case ty14 => (intro w hSw; (try dsimp only at hSw); clear hSw; go_simp; try (with_reducible rfl))); (try simp only [Act.put, List.setIfInBounds_toArray, List.set_cons_zero, List.set_cons_succ]); refine wpAnyL_take0 (i := 15) (oi := { dst := Option.some 74, op := Op.indexAddr 33 (Operand.tmp 72) (Operand.tmp 73), type := 0, pos := "shift.go:98", after := #[{ on := 13, ground := Ground.data }, { on := 14, ground := Ground.data }], guard := Option.none }) (v := ?tv15) rfl (by kernel_rfl) (by kernel_rfl) (by kernel_rfl) rfl (fun _ _ _ h => h) (Or.inl ⟨by rfl, ?ty15⟩) (by first | exact fun _ => by assumption | exact fun h => absurd (show true = false from h) (by decide)) ?tr15; (case ty15 => (intro w hSw; (try dsimp only at hSw); clear hSw; go_simp; try (with_reducible rfl))); (try simp only [Act.put, List.setIfInBounds_toArray, List.set_cons_zero, List.set_cons_succ]); refine wpAnyL_take1 (i := 16) (oi := { dst := Option.some 75, op := Op.load 23 (Operand.tmp 74), type := 23, pos := "shift.go:98", after := #[{ on := 15, ground := Ground.data }], guard := Option.none }) (v := ?tv16) rfl (by kernel_rfl) (by kernel_rfl) (by kernel_rfl) rfl (by kernel_rfl) (by kernel_rfl) (fun _ _ _ h => h) (Or.inl ⟨by rfl, ?ty16⟩) (by first | exact fun _ => by assumption | exact fun h => absurd (show true = false from h) (by decide)) ?tr16; (case ty16 => (intro w hSw; (try dsimp only at hSw); go_simp; try (with_reducible rfl))); (try simp only [Act.put, List.setIfInBounds_toArray, List.set_cons_zero, List.set_cons_succ]); refine wpAnyL_take0 (i := 17) (oi := { dst := Option.some 76, op := Op.move (Operand.tmp 1), type := 33, pos := "shift.go:98", after := #[], guard := Option.none }) (v := ?tv17) rfl (by kernel_rfl) (by kernel_rfl) (by kernel_rfl) rfl (fun _ _ _ h => h) (Or.inl ⟨by rfl, ?ty17⟩) (by first | exact fun _ => by assumption | exact fun h => absurd (show true = false from h) (by decide)) ?tr17; (case ty17 => (intro w hSw; (try dsimp only at hSw); clear hSw; go_simp; try (with_reducible rfl))); (try simp only [Act.put, List.setIfInBounds_toArray, List.set_cons_zero, List.set_cons_succ]); refine wpAnyL_take0 (i := 18) (oi := { dst := Option.some 77, op := Op.move (Operand.tmp 13), type := 3, pos := "shift.go:98", after := #[], guard := Option.none }) (v := ?tv18) rfl (by kernel_rfl) (by kernel_rfl) (by kernel_rfl) rfl (fun _ _ _ h => h) (Or.inl ⟨by rfl, ?ty18⟩) (by first | exact fun _ => by assumption | exact fun h => absurd (show true = false from h) (by decide)) ?tr18; (case ty18 => (intro w hSw; (try dsimp only at hSw); clear hSw; go_simp; try (with_reducible rfl))); (try simp only [Act.put, List.setIfInBounds_toArray, List.set_cons_zero, List.set_cons_succ]); refine wpAnyL_take0 (i := 19) (oi := { dst := Option.some 78, op := Op.indexAddr 33 (Operand.tmp 76) (Operand.tmp 77), type := 0, pos := "shift.go:98", after := #[{ on := 17, ground := Ground.data }, { on := 18, ground := Ground.data }], guard := Option.none }) (v := ?tv19) rfl (by kernel_rfl) (by kernel_rfl) (by kernel_rfl) rfl (fun _ _ _ h => h) (Or.inl ⟨by rfl, ?ty19⟩) (by first | exact fun _ => by assumption | exact fun h => absurd (show true = false from h) (by decide)) ?tr19; (case ty19 => (intro w hSw; (try dsimp only at hSw); clear hSw; go_simp; try (with_reducible rfl))); (try simp only [Act.put, List.setIfInBounds_toArray, List.set_cons_zero, List.set_cons_succ]); refine wpAnyL_take1 (i := 20) (oi := { dst := Option.some 79, op := Op.load 23 (Operand.tmp 78), type := 23, pos := "shift.go:98", after := #[{ on := 19, ground := Ground.data }], guard := Option.none }) (v := ?tv20) rfl (by kernel_rfl) (by kernel_rfl) (by kernel_rfl) rfl (by kernel_rfl) (by kernel_rfl) (fun _ _ _ h => h) (Or.inl ⟨by rfl, ?ty20⟩) (by first | exact fun _ => by assumption | exact fun h => absurd (show true = false from h) (by decide)) ?tr20; (case ty20 => (intro w hSw; (try dsimp only at hSw); go_simp; try (with_reducible rfl))); (try simp only [Act.put, List.setIfInBounds_toArray, List.set_cons_zero, List.set_cons_succ])
                clear hS0
                refine wpAnyL_ready (rs := [12]) (by kernel_rfl) (by simp) ?_
                refine AllReadyL.cons (o := { dst := Option.some 71, op := Op.call { callee := Callee.value (Operand.func 39), args := #[Operand.tmp 66, Operand.tmp 70, Operand.const (Value.bool Bool.true)], argTypes := #[23, 23, 4] }, type := 23, pos := "shift.go:98", after := #[{ on := 7, ground := Ground.data }, { on := 11, ground := Ground.data }], guard := Option.none }) rfl (fun K hK => ?_) AllReadyL.nil
                go_simp
                with_reducible refine (HC1.out wr.drew).mono ?_
                rintro e w9 ⟨rfl, hb9⟩
                have hb9 : Below wr.heap.size wr w9 := bl_then hDr hb9
                have hS0 := HT.out _ hb9
                refine hK.out _ _ (fun _ => hS0) (fun hHeld => ?_)
                clear hK K hHeld
                (try simp only [Act.put, List.setIfInBounds_toArray, List.set_cons_zero, List.set_cons_succ])
                refine wpAnyL_ready (rs := [21]) (by kernel_rfl) (by simp) ?_
                refine AllReadyL.cons (o := { dst := Option.some 80, op := Op.call { callee := Callee.value (Operand.func 39), args := #[Operand.tmp 75, Operand.tmp 79, Operand.const (Value.bool Bool.false)], argTypes := #[23, 23, 4] }, type := 23, pos := "shift.go:98", after := #[{ on := 16, ground := Ground.data }, { on := 20, ground := Ground.data }, { on := 12, ground := Ground.chain }], guard := Option.none }) rfl (fun K hK => ?_) AllReadyL.nil
                go_simp
                with_reducible refine (HC2.out w9).mono ?_
                rintro e w10 ⟨rfl, hb10⟩
                have hb10 : Below wr.heap.size wr w10 := bl_then hb9 hb10
                have hS1 := HT.out _ hb10
                clear hS0
                refine hK.out _ _ (fun _ => hS1) (fun hHeld => ?_)
                clear hK K hHeld
                (try simp only [Act.put, List.setIfInBounds_toArray, List.set_cons_zero, List.set_cons_succ])
                refine wpAnyL_take0 (i := 22) (oi := { dst := Option.some 81, op := Op.indexAddr 33 (Operand.tmp 59) (Operand.tmp 60), type := 0, pos := "shift.go:98", after := #[{ on := 0, ground := Ground.data }, { on := 1, ground := Ground.data }, { on := 0, ground := Ground.phase }, { on := 1, ground := Ground.phase }, { on := 2, ground := Ground.textOnly Departure.lateStores }, { on := 3, ground := Ground.textOnly Departure.lateStores }, { on := 4, ground := Ground.phase }, { on := 5, ground := Ground.phase }, { on := 6, ground := Ground.phase }, { on := 7, ground := Ground.phase }, { on := 8, ground := Ground.phase }, { on := 9, ground := Ground.phase }, { on := 10, ground := Ground.phase }, { on := 11, ground := Ground.phase }, { on := 12, ground := Ground.phase }, { on := 13, ground := Ground.textOnly Departure.lateStores }, { on := 14, ground := Ground.textOnly Departure.lateStores }, { on := 15, ground := Ground.textOnly Departure.lateStoresUnsure }, { on := 16, ground := Ground.phase }, { on := 17, ground := Ground.textOnly Departure.lateStores }, { on := 18, ground := Ground.textOnly Departure.lateStores }, { on := 19, ground := Ground.textOnly Departure.lateStoresUnsure }, { on := 20, ground := Ground.phase }, { on := 21, ground := Ground.phase }], guard := Option.none }) (v := ?tv21) rfl (by kernel_rfl) (by kernel_rfl) (by kernel_rfl) rfl (fun _ _ _ h => h) (Or.inl ⟨by rfl, ?ty21⟩) (by first | exact fun _ => by assumption | exact fun h => absurd (show true = false from h) (by decide)) ?tr21; (case ty21 => (intro w hSw; (try dsimp only at hSw); clear hSw; go_simp; try (with_reducible rfl))); (try simp only [Act.put, List.setIfInBounds_toArray, List.set_cons_zero, List.set_cons_succ])
                obtain ⟨r0, r1, r2, r3, r4, r5⟩ := HXA.out.block (hb10.block ga hsz)
                obtain ⟨s0, s1, s2, s3, s4, s5⟩ := HYB.out.block (hb10.block gb hsz2)
                refine wpAnyL_ready (rs := [23]) (by kernel_rfl) (by simp) ?_
                refine AllReadyL.cons (o := { dst := Option.none, op := Op.store 23 (Operand.tmp 81) (Operand.tmp 71), type := 0, pos := "shift.go:98", after := #[{ on := 22, ground := Ground.data }, { on := 12, ground := Ground.data }, { on := 21, ground := Ground.chain }, { on := 0, ground := Ground.phase }, { on := 1, ground := Ground.phase }, { on := 2, ground := Ground.textOnly Departure.lateStores }, { on := 3, ground := Ground.textOnly Departure.lateStores }, { on := 4, ground := Ground.phase }, { on := 5, ground := Ground.phase }, { on := 6, ground := Ground.phase }, { on := 7, ground := Ground.phase }, { on := 8, ground := Ground.phase }, { on := 9, ground := Ground.phase }, { on := 10, ground := Ground.phase }, { on := 11, ground := Ground.phase }, { on := 12, ground := Ground.phase }, { on := 13, ground := Ground.textOnly Departure.lateStores }, { on := 14, ground := Ground.textOnly Departure.lateStores }, { on := 15, ground := Ground.textOnly Departure.lateStoresUnsure }, { on := 16, ground := Ground.phase }, { on := 17, ground := Ground.textOnly Departure.lateStores }, { on := 18, ground := Ground.textOnly Departure.lateStores }, { on := 19, ground := Ground.textOnly Departure.lateStoresUnsure }, { on := 20, ground := Ground.phase }, { on := 21, ground := Ground.phase }], guard := Option.none }) rfl (fun K hK => ?_) AllReadyL.nil
                go_simp
                refine hK.out _ _ (fun h => absurd (show true = false from h) (by decide)) (fun hHeld => ?_)
                clear hK K hHeld
                obtain ⟨w11, hw11⟩ : ∃ w11, w11 = putO w10 ga (i * 3) z1 := ⟨_, rfl⟩
                have hE : ((w10.setCell ⟨ga, i * 3, none⟩ (.int .i64 z1.k)).setCell ⟨ga, i * 3 + 1, none⟩ (.int .i64 z1.a)).setCell ⟨ga, i * 3 + 2, none⟩ (.int .u8 (z1.b.toNat : Int)) = w11 := hw11.symm
                rw [hE]
                have HW11 := hid hw11
                clear r0 r1 r2 r3 r4 r5 s0 s1 s2 s3 s4 s5 hE hS1 hw11
                obtain ⟨s0, s1, s2, s3, s4, s5⟩ : Op3 w11 gb (j * 3) y := by
                  rw [HW11.out]
                  exact (HYB.out.block (hb10.block gb hsz2)).block (putO_heap _ _ _ _ _ HNE.out.symm)
                refine wpAnyL_take0 (i := 24) (oi := { dst := Option.some 82, op := Op.indexAddr 33 (Operand.tmp 61) (Operand.tmp 62), type := 0, pos := "shift.go:98", after := #[{ on := 2, ground := Ground.data }, { on := 3, ground := Ground.data }, { on := 0, ground := Ground.phase }, { on := 1, ground := Ground.phase }, { on := 2, ground := Ground.phase }, { on := 3, ground := Ground.phase }, { on := 4, ground := Ground.phase }, { on := 5, ground := Ground.phase }, { on := 6, ground := Ground.phase }, { on := 7, ground := Ground.phase }, { on := 8, ground := Ground.phase }, { on := 9, ground := Ground.phase }, { on := 10, ground := Ground.phase }, { on := 11, ground := Ground.phase }, { on := 12, ground := Ground.phase }, { on := 13, ground := Ground.phase }, { on := 14, ground := Ground.phase }, { on := 15, ground := Ground.phase }, { on := 16, ground := Ground.phase }, { on := 17, ground := Ground.phase }, { on := 18, ground := Ground.phase }, { on := 19, ground := Ground.phase }, { on := 20, ground := Ground.phase }, { on := 21, ground := Ground.phase }, { on := 22, ground := Ground.phase }, { on := 23, ground := Ground.phase }], guard := Option.none }) (v := ?tv22) rfl (by kernel_rfl) (by kernel_rfl) (by kernel_rfl) rfl (fun _ _ _ h => h) (Or.inl ⟨by rfl, ?ty22⟩) (by first | exact fun _ => by assumption | exact fun h => absurd (show true = false from h) (by decide)) ?tr22; (case ty22 => (intro w hSw; (try dsimp only at hSw); clear hSw; go_simp; try (with_reducible rfl))); (try simp only [Act.put, List.setIfInBounds_toArray, List.set_cons_zero, List.set_cons_succ])
                refine wpAnyL_ready (rs := [25]) (by kernel_rfl) (by simp) ?_
                refine AllReadyL.cons (o := { dst := Option.none, op := Op.store 23 (Operand.tmp 82) (Operand.tmp 80), type := 0, pos := "shift.go:98", after := #[{ on := 24, ground := Ground.data }, { on := 21, ground := Ground.data }, { on := 23, ground := Ground.chain }, { on := 0, ground := Ground.phase }, { on := 1, ground := Ground.phase }, { on := 2, ground := Ground.phase }, { on := 3, ground := Ground.phase }, { on := 4, ground := Ground.phase }, { on := 5, ground := Ground.phase }, { on := 6, ground := Ground.phase }, { on := 7, ground := Ground.phase }, { on := 8, ground := Ground.phase }, { on := 9, ground := Ground.phase }, { on := 10, ground := Ground.phase }, { on := 11, ground := Ground.phase }, { on := 12, ground := Ground.phase }, { on := 13, ground := Ground.phase }, { on := 14, ground := Ground.phase }, { on := 15, ground := Ground.phase }, { on := 16, ground := Ground.phase }, { on := 17, ground := Ground.phase }, { on := 18, ground := Ground.phase }, { on := 19, ground := Ground.phase }, { on := 20, ground := Ground.phase }, { on := 21, ground := Ground.phase }, { on := 22, ground := Ground.phase }, { on := 23, ground := Ground.phase }], guard := Option.none }) rfl (fun K hK => ?_) AllReadyL.nil
                go_simp
                refine hK.out _ _ (fun h => absurd (show true = false from h) (by decide)) (fun hHeld => ?_)
                clear hK K hHeld
                obtain ⟨w12, hw12⟩ : ∃ w12, w12 = putO w11 gb (j * 3) z2 := ⟨_, rfl⟩
                have hE : ((w11.setCell ⟨gb, j * 3, none⟩ (.int .i64 z2.k)).setCell ⟨gb, j * 3 + 1, none⟩ (.int .i64 z2.a)).setCell ⟨gb, j * 3 + 2, none⟩ (.int .u8 (z2.b.toNat : Int)) = w12 := hw12.symm
                rw [hE]
                clear s0 s1 s2 s3 s4 s5 hE
                refine wpAnyL_done (by kernel_rfl) ?_ _
                have HOA3 : Hid (OwnO w12 w.heap.size (.slice (some ⟨ga, 0, none⟩) p ca) (FA.set i z1)) := by
                  have e := ((HOA2.out.low hb10).put (k := i) (by rw [List.length_set]; exact HIA.out) z1).apart gb (j * 3) z2 (fun k hk e => HNE.out ((Option.some.inj hk).trans e))
                  rw [List.set_set] at e
                  show OwnO _ _ _ _
                  rw [hw12, HW11.out]
                  exact e
                have HOB3 : Hid (OwnO w12 w.heap.size (.slice (some ⟨gb, 0, none⟩) q cb) (GB.set j z2)) := by
                  have e := ((HOB2.out.low hb10).apart ga (i * 3) z1 (fun k hk e => HNE.out ((Option.some.inj hk).trans e).symm)).put (k := j) HJB.out z2
                  show OwnO _ _ _ _
                  rw [hw12, HW11.out]
                  exact e
                have HBW3 : Hid (Below w.heap.size w w12) := by
                  show Below _ _ _
                  rw [hw12, HW11.out]
                  exact bl_putO (bl_putO (bl_then HBW2.out hb10) (HOA2.out.lt_ ga rfl).1) (HOB2.out.lt_ gb rfl).1
                clear hw12
                go_wp2
                go_roundw
                case measure => simp [intOf]; omega
                case rel =>
                  have hjB := HJB.out
                  refine ⟨j + 1, z1, GB.set j z2, by omega, by go_num, by show _ = _; rw [List.length_set]; exact HGB.out, HOA3.out, HOB3.out, ?_, HZ1.out, fun k hk hkq => ?_, fun k hk => ?_, HBW3.out⟩
                  · show _ = _
                    rw [HTH2.out, set_drop, set_take z2 hjB, List.append_assoc]
                    rfl
                  · rw [set_ne z2 (by omega)]
                    exact HGB1.out k (by omega) hkq
                  · by_cases hkj : k = j
                    · subst hkj
                      rw [set_get z2 hjB]
                      exact HZ2.out
                    · rw [set_ne z2 (by omega)]
                      exact HGB2.out k hk
              · obtain rfl : j = q := by omega
                have hkd : decide ((j : Int) < (j : Int)) = false := decide_eq_false (by omega)
                have HTH2 : Hid (Sh.thru x FB = (x', GB)) := by
                  show _ = _
                  rw [HTH.out, List.take_of_length_le (by rw [HGB.out]; exact Nat.le_refl _), List.drop_eq_nil_of_le (by rw [HGB.out]; exact Nat.le_refl _)]
                  simp only [Sh.thru, List.append_nil]
                have HEQ2 : Hid (Sh.allA LA LB = ((FA.set i x').take (i + 1) ++ (Sh.allA ((FA.set i x').drop (i + 1)) GB).1, (Sh.allA ((FA.set i x').drop (i + 1)) GB).2)) := by
                  show _ = _
                  rw [HEQ.out, HDR.out, set_drop, set_take x' HIA.out]
                  simp only [Sh.allA]
                  rw [HTH2.out, List.append_assoc]
                  rfl
                clear HTH HEQ
                go_wp2
                go_roundw
                case measure => simp [intOf]; omega
                case rel => exact ⟨i + 1, FA.set i x', GB, by omega, by go_num, by show _ = _; rw [List.length_set]; exact HFA.out, HGB.out, HOA2.out, HOB2.out, HEQ2.out, fun k hk hkp => by rw [set_ne x' (by omega)]; exact HBA.out k (by omega) hkp, fun k hk => (HGB2.out k hk).more (by omega), HBW2.out⟩
          · obtain rfl : i = p := by omega
            have hkd : decide ((i : Int) < (i : Int)) = false := decide_eq_false (by omega)
            have HEQ2 : Hid (Sh.allA LA LB = (FA, FB)) := by
              show _ = _
              rw [HEQ.out, List.take_of_length_le (by rw [HFA.out]; exact Nat.le_refl _), List.drop_eq_nil_of_le (by rw [HFA.out]; exact Nat.le_refl _)]
              simp only [Sh.allA, List.append_nil]
            clear HEQ
            go_wp2
            go_ret3
            exact FIN.out _ _ _ HEQ2.out HFA.out HFB.out HOA.out HOB.out HBW.out
end Go.Proofs.Ytgkagigagcamoaa


/-
Struct variables that hold an op, and stay as they are.
-/
namespace Go.Proofs.Ytgkagigagcamoaa
open Go.RowKit

/-- Block N is a struct variable that holds the op x. -/
def Bx (w : World) (N : Nat) (x : Sh.Op) : Prop :=
  N < w.heap.size ∧ w.cell? ⟨N, 0, none⟩ = some (.int .i64 x.k) ∧ w.cell? ⟨N, 1, none⟩ = some (.int .i64 x.a) ∧ w.cell? ⟨N, 2, none⟩ = some (.int .u8 (x.b.toNat : Int))
theorem Bx.new (w : World) (x : Sh.Op) (N : Nat) (hN : w.heap.size = N) : Bx (w.alloc (.cells #[.int .i64 x.k, .int .i64 x.a, .int .u8 (x.b.toNat : Int)] 23)) N x := by
  subst hN
  exact ⟨by simp, op_new w x _⟩
theorem Bx.keep {w w' : World} {N : Nat} {x : Sh.Op} (h : Bx w N x) (hb : Below w.heap.size w w') : Bx w' N x :=
  ⟨Nat.lt_of_lt_of_le h.1 hb.size, (hb.cell (p := ⟨N, 0, none⟩) h.1).trans h.2.1, (hb.cell (p := ⟨N, 1, none⟩) h.1).trans h.2.2.1, (hb.cell (p := ⟨N, 2, none⟩) h.1).trans h.2.2.2⟩
/-- Two boxes, one behind the other. -/
theorem Bx.two (w : World) (x y : Sh.Op) : Bx ((w.alloc (.cells #[.int .i64 x.k, .int .i64 x.a, .int .u8 (x.b.toNat : Int)] 23)).alloc (.cells #[.int .i64 y.k, .int .i64 y.a, .int .u8 (y.b.toNat : Int)] 23)) w.heap.size x ∧
    Bx ((w.alloc (.cells #[.int .i64 x.k, .int .i64 x.a, .int .u8 (x.b.toNat : Int)] 23)).alloc (.cells #[.int .i64 y.k, .int .i64 y.a, .int .u8 (y.b.toNat : Int)] 23)) (w.heap.size + 1) y ∧
    Below w.heap.size w ((w.alloc (.cells #[.int .i64 x.k, .int .i64 x.a, .int .u8 (x.b.toNat : Int)] 23)).alloc (.cells #[.int .i64 y.k, .int .i64 y.a, .int .u8 (y.b.toNat : Int)] 23)) :=
  ⟨(Bx.new w x _ rfl).keep (bl_new _ _), Bx.new _ y _ (by simp), bl_then (bl_new w _) (bl_new _ _)⟩
/-- What a check lets by is small. -/
theorem op_small {n : Int} {x : Sh.Op} (h : Sh.opErr n x = 0) : 0 ≤ x.k ∧ x.k ≤ 3 ∧ 0 ≤ x.a ∧ x.a ≤ 200 := by
  obtain ⟨⟨h0, h1⟩, h2, _⟩ := Sh.err_zero.1 h
  rcases h1 with ⟨a1, a2, a3⟩ | ⟨a1, a2, a3, _⟩ | ⟨a1, a2, _⟩ <;> omega
theorem past_small {n m : Int} {x y : Sh.Op} (f : Bool) (hx : Sh.opErr n x = 0) (hy : Sh.opErr n y = 0) (hm : m = n + Sh.lon y) (hn : n ≤ 198) : Sh.opErr m (Sh.past x y f) = 0 := by
  obtain ⟨k1, k2, k3⟩ := Sh.err_zero.1 hx
  obtain ⟨l1, l2, l3⟩ := Sh.err_zero.1 hy
  have := Sh.past_ok f k1 l1
  have hl := Sh.lon_le y
  subst hm
  exact Sh.err_zero.2 ⟨this, by omega, fun _ => by omega⟩
/-- The length behind an operation. -/
theorem do_size {s : ByteArray} {x : Sh.Op} (h : Sh.opErr (s.size : Int) x = 0) : ((mkS (Sh.doL (lst s) x)).size : Int) = (s.size : Int) + Sh.lon x := by
  have h1 := (Sh.err_zero.1 h).1
  rw [← lst_len] at h1
  have h2 := Sh.do_len h1
  rw [← lst_len (mkS _), lst_mk, h2, lst_len]
end Go.Proofs.Ytgkagigagcamoaa


/-
quillkeep.row and quilltop.typed: a text with a row of ops done; what is told of a row that All lets by.
-/
namespace Go.Proofs.Ytgkagigagcamoaa
open Go.RowKit

/-- What All's answer 0 tells. -/
structure AllGood (n : Int) (A B : List Sh.Op) : Prop where
  la : A.length ≤ 30
  lb : B.length ≤ 30
  ra : Sh.RowOk n A
  rb : Sh.RowOk n B
  ta : n + Sh.tot A + (A.length + B.length) ≤ 200
  tb : n + Sh.tot B + (A.length + B.length) ≤ 200
theorem AllIs.good {n : Int} {A B u v : List Sh.Op} {e : Int} (h : AllIs n A B u v e) (_ : N64 n) (he : e = 0) : AllGood n A B := by
  obtain ⟨h1, h2, ⟨h3, h4⟩, h5, h6⟩ := Sh.allErr_zero.1 (h.ok he).1
  exact ⟨h1, h2, h3, h5, h4, h6⟩
theorem run_size {s : ByteArray} {L : List Sh.Op} (h : Sh.RowOk (s.size : Int) L) : ((mkS (Sh.run (lst s) L)).size : Int) = (s.size : Int) + Sh.tot L := by
  have h1 := Sh.rowOk_ok h
  rw [← lst_len] at h1
  have := Sh.run_len h1
  rw [← lst_len (mkS _), lst_mk, this, lst_len]
theorem row_wf {L : List Sh.Op} : ∀ {n : Int}, Sh.RowOk n L → ∀ x, x ∈ L → OpWf x := by
  induction L with
  | nil => intro n _ x hx; simp at hx
  | cons y L ih =>
    intro n h x hx
    rw [List.mem_cons] at hx
    rcases hx with rfl | hx
    · have := op_small h.1
      exact ⟨by omega, by omega, by omega, by omega⟩
    · exact ih h.2 x hx
theorem getD_wf {L : List Sh.Op} {n : Int} (h : Sh.RowOk n L) : ∀ k, k < L.length → OpWf (L.getD k Sh.zero) := fun k hk => by
  rw [List.getD_eq_getElem?_getD, List.getElem?_eq_getElem hk]
  exact row_wf h _ (List.getElem_mem hk)
theorem small_len {n : Nat} (h : n ≤ 1000000) : n ≤ maxLen := Nat.le_trans h (by decide)
set_option maxHeartbeats 1000000 in
theorem row_any {A : Option Addr} {n c : Nat} {g : Nat → Sh.Op} (s : ByteArray) (w : World) (h : OpIn w A n g) (hok : Sh.RowOk (s.size : Int) (ol g n)) :
    Calls Try.prog 23 #[.string s, .slice A n c] w fun e w' => e = .returned (.tuple #[.string (mkS (Sh.run (lst s) (ol g n))), .bool true]) ∧ Below w.heap.size w w' := by
  have H := hid h
  have HOK := hid hok
  have hnm := h.len
  unfold maxLen at hnm
  clear h hok
  go_enter Try.func23, Try.ntmps23
  go_wp2
  go_loopw [0, 12] (fun v x wr => ∃ (k : Nat) (t : ByteArray), k ≤ n ∧ x = .int .i64 (k : Int) ∧ v = .string t ∧ Hid (Sh.run (lst s) (ol g n) = Sh.run (lst t) ((ol g n).drop k)) ∧ Hid (Sh.RowOk (t.size : Int) ((ol g n).drop k)) ∧ Hid (Below w.heap.size w wr)) (fun _ x _ => n - (intOf x).toNat)
  case atStart => exact ⟨0, s, by omega, rfl, rfl, by show _ = _; rw [List.drop_zero], by show Sh.RowOk _ _; rw [List.drop_zero]; exact HOK.out, Below.refl _ _⟩
  case round =>
    obtain ⟨k, t, hk, rfl, rfl, HR, HO, HB⟩ := hrel
    by_cases hkn : k < n
    · obtain ⟨b, o, rfl, hlt, c0, c1, c2⟩ := (H.out.row.keep HB.out) k hkn
      have hkn' : (k : Int) < (n : Int) := by omega
      obtain ⟨x, hx⟩ : ∃ x, x = g k := ⟨_, rfl⟩
      have hxw := H.out.wf k hkn
      have hdr : (ol g n).drop k = x :: (ol g n).drop (k + 1) := by rw [hx]; exact ol_drop hkn
      rw [← hx] at c0 c1 c2 hxw
      rw [hdr] at HR HO
      have ho := HO.out
      have hr := op_range ho.1
      have htm : t.size ≤ maxLen := Nat.le_trans (show t.size ≤ 200 by omega) (by decide)
      have O1 := hid ho.1
      have O2 := hid ho.2
      have HXW := hid hxw
      have BX := hid (Bx.new wr x _ rfl)
      have HB2 := hid (bl_then HB.out (bl_new wr (.cells #[.int .i64 x.k, .int .i64 x.a, .int .u8 (x.b.toNat : Int)] 23)))
      obtain ⟨-, x0, x1, x2⟩ := BX.out
      clear hx hdr hxw ho hr HO HB
      go_wp2_with fail
      with_reducible refine (Do_any t x _ htm HXW.out).mono ?_
      rintro e w2 ⟨u, z, rfl, hd, hb⟩
      obtain ⟨rfl, hu⟩ := hd.ok O1.out
      have HB3 := hid (bl_then HB2.out hb)
      have hsz := do_size O1.out
      rw [← hu] at hsz
      have HR2 : Hid (Sh.run (lst s) (ol g n) = Sh.run (lst u) ((ol g n).drop (k + 1))) := by
        show _ = _
        rw [HR.out, hu, lst_mk]
        rfl
      have HO2 : Hid (Sh.RowOk (u.size : Int) ((ol g n).drop (k + 1))) := by
        show Sh.RowOk _ _
        rw [hsz]
        exact O2.out
      clear hd hb hu hsz x0 x1 x2 BX HB2 HR
      go_wp2
      go_roundw
      case measure => simp [intOf]; omega
      case rel => exact ⟨k + 1, u, by omega, by go_num, rfl, HR2, HO2, HB3⟩
    · obtain rfl : k = n := by omega
      have hkd : decide ((k : Int) < (k : Int)) = false := decide_eq_false (by omega)
      have HF : Hid (mkS (Sh.run (lst s) (ol g k)) = t) := by
        show _ = _
        rw [HR.out, ol_end]
        exact mk_lst t
      clear HR HO
      go_wp2
      go_ret2
      exact ⟨by rw [HF.out]; rfl, HB.out⟩
set_option maxHeartbeats 1000000 in
theorem typed_any {A : Option Addr} {n c : Nat} {g : Nat → Sh.Op} (s : ByteArray) (w : World) (h : OpIn w A n g) (hok : Sh.RowOk (s.size : Int) (ol g n)) :
    Calls Try.prog 37 #[.string s, .slice A n c] w fun e w' => e = .returned (.tuple #[.string (mkS (Sh.run (lst s) (ol g n))), .bool true]) ∧ Below w.heap.size w w' := by
  have H := hid h
  have HOK := hid hok
  have hnm := h.len
  unfold maxLen at hnm
  clear h hok
  go_enter Try.func37, Try.ntmps37
  go_wp2
  go_loopw [0, 12] (fun v x wr => ∃ (k : Nat) (t : ByteArray), k ≤ n ∧ x = .int .i64 (k : Int) ∧ v = .string t ∧ Hid (Sh.run (lst s) (ol g n) = Sh.run (lst t) ((ol g n).drop k)) ∧ Hid (Sh.RowOk (t.size : Int) ((ol g n).drop k)) ∧ Hid (Below w.heap.size w wr)) (fun _ x _ => n - (intOf x).toNat)
  case atStart => exact ⟨0, s, by omega, rfl, rfl, by show _ = _; rw [List.drop_zero], by show Sh.RowOk _ _; rw [List.drop_zero]; exact HOK.out, Below.refl _ _⟩
  case round =>
    obtain ⟨k, t, hk, rfl, rfl, HR, HO, HB⟩ := hrel
    by_cases hkn : k < n
    · obtain ⟨b, o, rfl, hlt, c0, c1, c2⟩ := (H.out.row.keep HB.out) k hkn
      have hkn' : (k : Int) < (n : Int) := by omega
      obtain ⟨x, hx⟩ : ∃ x, x = g k := ⟨_, rfl⟩
      have hxw := H.out.wf k hkn
      have hdr : (ol g n).drop k = x :: (ol g n).drop (k + 1) := by rw [hx]; exact ol_drop hkn
      rw [← hx] at c0 c1 c2 hxw
      rw [hdr] at HR HO
      have ho := HO.out
      have hr := op_range ho.1
      have htm : t.size ≤ maxLen := Nat.le_trans (show t.size ≤ 200 by omega) (by decide)
      have O1 := hid ho.1
      have O2 := hid ho.2
      have HXW := hid hxw
      have BX := hid (Bx.new wr x _ rfl)
      have HB2 := hid (bl_then HB.out (bl_new wr (.cells #[.int .i64 x.k, .int .i64 x.a, .int .u8 (x.b.toNat : Int)] 23)))
      obtain ⟨-, x0, x1, x2⟩ := BX.out
      clear hx hdr hxw ho hr HO HB
      go_wp2_with fail
      with_reducible refine (Do_any t x _ htm HXW.out).mono ?_
      rintro e w2 ⟨u, z, rfl, hd, hb⟩
      obtain ⟨rfl, hu⟩ := hd.ok O1.out
      have HB3 := hid (bl_then HB2.out hb)
      have hsz := do_size O1.out
      rw [← hu] at hsz
      have HR2 : Hid (Sh.run (lst s) (ol g n) = Sh.run (lst u) ((ol g n).drop (k + 1))) := by
        show _ = _
        rw [HR.out, hu, lst_mk]
        rfl
      have HO2 : Hid (Sh.RowOk (u.size : Int) ((ol g n).drop (k + 1))) := by
        show Sh.RowOk _ _
        rw [hsz]
        exact O2.out
      clear hd hb hu hsz x0 x1 x2 BX HB2 HR
      go_wp2
      go_roundw
      case measure => simp [intOf]; omega
      case rel => exact ⟨k + 1, u, by omega, by go_num, rfl, HR2, HO2, HB3⟩
    · obtain rfl : k = n := by omega
      have hkd : decide ((k : Int) < (k : Int)) = false := decide_eq_false (by omega)
      have HF : Hid (mkS (Sh.run (lst s) (ol g k)) = t) := by
        show _ = _
        rw [HR.out, ol_end]
        exact mk_lst t
      clear HR HO
      go_wp2
      go_ret2
      exact ⟨by rw [HF.out]; rfl, HB.out⟩
end Go.Proofs.Ytgkagigagcamoaa

