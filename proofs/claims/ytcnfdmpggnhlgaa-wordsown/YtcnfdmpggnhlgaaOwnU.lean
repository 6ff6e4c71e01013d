/-
What may be spoilt: slices of a call's own; the functions of the words' packages, each by one contract; slices.Clone and slices.Equal at strings, slices.Contains at hits that are not there.
-/
import Derived.Test.YtcnfdmpggnhlgaaSpoil
import Derived.Test.YtcnfdmpggnhlgaaWRows
import Derived.Test.YtcnfdmpggnhlgaaTFind
import Derived.Test.YtcnfdmpggnhlgaaHIndex
import Derived.Test.YtcnfdmpggnhlgaaShelfQ
namespace Go.Proofs.Ytcnfdmpggnhlgaa
open Go.RowKit

/-- A slice of numbers of a call's own, or none. -/
def SpI (w : World) (base : Nat) (v : Value) : Prop := v = .slice none 0 0 ∨ ∃ B n f, v = .slice (some ⟨B, 0, none⟩) n n ∧ base ≤ B ∧ n ≤ 1000 ∧ w.rowIs B 3 n f
/-- A slice of hits of a call's own, or none. -/
def SpH (w : World) (base : Nat) (v : Value) : Prop := v = .slice none 0 0 ∨ ∃ B n c, v = .slice (some ⟨B, 0, none⟩) n c ∧ base ≤ B ∧ n ≤ c ∧ c ≤ maxLen ∧ Blk w B (c * 2) 55
theorem SpI.block {w : World} {base : Nat} {v : Value} (h : SpI w base v) {k : Nat} (e : v.ownBlock = some k) : base ≤ k ∧ k < w.heap.size := by
  rcases h with rfl | ⟨B, n, f, rfl, h1, _, h2⟩
  · cases e
  · have : B = k := by injection e
    subst this
    exact ⟨h1, h2.lt⟩
theorem SpI.keep {w w' : World} {base : Nat} {v : Value} (h : SpI w base v) (e : ∀ k, v.ownBlock = some k → w'.heap[k]? = w.heap[k]?) : SpI w' base v := by
  rcases h with rfl | ⟨B, n, f, rfl, h1, h3, c, h4, h5⟩
  · exact .inl rfl
  · exact .inr ⟨B, n, f, rfl, h1, h3, c, (e B rfl).trans h4, h5⟩
theorem SpH.block {w : World} {base : Nat} {v : Value} (h : SpH w base v) {k : Nat} (e : v.ownBlock = some k) : base ≤ k ∧ k < w.heap.size := by
  rcases h with rfl | ⟨B, n, c, rfl, h1, _, _, h2⟩
  · cases e
  · have : B = k := by injection e
    subst this
    exact ⟨h1, h2.lt⟩
theorem SpH.keep {w w' : World} {base : Nat} {v : Value} (h : SpH w base v) (e : ∀ k, v.ownBlock = some k → w'.heap[k]? = w.heap[k]?) : SpH w' base v := by
  rcases h with rfl | ⟨B, n, c, rfl, h1, h3, h4, h5⟩
  · exact .inl rfl
  · exact .inr ⟨B, n, c, rfl, h1, h3, h4, h5.of_block (e B rfl)⟩
theorem spoilI_any (w : World) (base : Nat) (v : Value) (x : Int) (h : SpI w base v) :
    Calls Try.prog 37 #[v, .int .i64 x] w fun e w' => e = .returned (.tuple #[]) ∧ w.grownBy w' v.ownBlock := by
  rcases h with rfl | ⟨B, n, f, rfl, h1, h3, h4⟩
  · refine (spoil_nil x w).mono ?_
    rintro e w1 ⟨rfl, rfl⟩
    exact ⟨rfl, sp_refl _ _⟩
  · exact spoil_row B n x f w h4 h3
theorem spoilH_any (w : World) (base : Nat) (v : Value) (a b : Int) (h : SpH w base v) :
    Calls Try.prog 38 #[v, .agg #[.int .i64 a, .int .i64 b]] w fun e w' => e = .returned (.tuple #[]) ∧ w.grownBy w' v.ownBlock := by
  rcases h with rfl | ⟨B, n, c, rfl, h1, h3, h4, h5⟩
  · refine (spoilH_nil _ a b rfl w).mono ?_
    rintro e w1 ⟨rfl, hb⟩
    exact ⟨rfl, hb.os, hb.tape, hb.output, hb.size, fun k hk _ => hb.block k hk⟩
  · exact spoilH_row B n c a b w h5 h3 h4

/-- The error that the words' packages answer a string with. -/
def codeW (s : ByteArray) : Int := if s.size ≤ 200 then 0 else 2
theorem Borders_u (s : ByteArray) (w : World) : Calls Try.prog 34 #[.string s] w fun e w' =>
    ∃ A n c g, e = .returned (.tuple #[.slice A n c, .int .i64 (codeW s)]) ∧ IRow w' A n g ∧ n ≤ 1000 ∧ (∀ k, k < n → g k ≠ -7) ∧ SpI w' w.heap.size (.slice A n c) ∧ Below w.heap.size w w' := by
  unfold codeW
  by_cases hs : s.size ≤ 200
  · rw [if_pos hs]
    refine (Borders_row s w hs).mono ?_
    rintro e w1 ⟨B, rfl, h1, h2, h3⟩
    exact ⟨_, _, _, _, rfl, irow_of h2, by omega, fun k _ e => by omega, .inr ⟨B, _, _, rfl, h1, by omega, h2⟩, h3⟩
  · rw [if_neg hs]
    refine (Borders_large s w (by omega)).mono ?_
    rintro e w1 ⟨rfl, rfl⟩
    exact ⟨none, 0, 0, fun _ => 0, rfl, IRow.none_ _ _ _, by omega, fun k hk => by omega, .inl rfl, Below.refl _ _⟩
theorem Fronts_u (s : ByteArray) (w : World) : Calls Try.prog 35 #[.string s] w fun e w' => ∃ v, e = .returned (.tuple #[v, .int .i64 (codeW s)]) ∧ SpI w' w.heap.size v ∧ Below w.heap.size w w' := by
  unfold codeW
  by_cases hs : s.size ≤ 200
  · rw [if_pos hs]
    refine (Fronts_row s w hs).mono ?_
    rintro e w1 ⟨B, rfl, h1, h2, h3⟩
    exact ⟨_, rfl, .inr ⟨B, _, _, rfl, h1, by omega, h2⟩, h3⟩
  · rw [if_neg hs]
    refine (Fronts_large s w (by omega)).mono ?_
    rintro e w1 ⟨rfl, rfl⟩
    exact ⟨_, rfl, .inl rfl, Below.refl _ _⟩
theorem Order_u (s : ByteArray) (w : World) : Calls Try.prog 9 #[.string s] w fun e w' => ∃ v, e = .returned (.tuple #[v, .int .i64 (codeW s)]) ∧ SpI w' w.heap.size v ∧ Below w.heap.size w w' := by
  unfold codeW
  by_cases hs : s.size ≤ 200
  · rw [if_pos hs]
    refine (Order_ok s w hs).mono ?_
    rintro e w1 ⟨B, rfl, h1, h2, h3⟩
    exact ⟨_, rfl, .inr ⟨B, _, _, rfl, h1, by omega, h2⟩, h3⟩
  · rw [if_neg hs]
    refine (Order_large s w (by omega)).mono ?_
    rintro e w1 ⟨rfl, rfl⟩
    exact ⟨_, rfl, .inl rfl, Below.refl _ _⟩
theorem OwnH.sp {w : World} {base : Nat} {v : Value} {H : List (Nat × Nat)} (h : OwnH w base v H) : SpH w base v := by
  rcases h.2 with ⟨rfl, _⟩ | ⟨g, cap, cur, rfl, h1, h2, h3, h4, h5, _⟩
  · exact .inl rfl
  · exact .inr ⟨g, _, cap, rfl, h1, h3, h4, cur, h2, h5⟩
theorem hits_few (g : Nat → ByteArray) (n : Nat) (s : ByteArray) (hn : n ≤ 10) (hs : s.size ≤ 200) : (hitsL g n (wd s) s.size).length ≤ 1000000 := by
  have h1 := hitsL_len g n (wd s) s.size
  have h2 : s.size * n ≤ 200 * 10 := Nat.mul_le_mul hs hn
  have h3 : n * s.size ≤ 10 * 200 := Nat.mul_le_mul hn hs
  omega
theorem TFind_u (w : World) (A : Option Addr) (n c : Nat) (g : Nat → ByteArray) (s : ByteArray) (hrow : SRow w A n g) (hc : n ≤ c) : Calls Try.prog 36 #[.string s, .slice A n c] w fun e w' =>
    ∃ A' n' c' h cd, e = .returned (.tuple #[.slice A' n' c', .int .i64 cd]) ∧ HRow w' A' n' h ∧ n' ≤ 1000000 ∧ SpH w' w.heap.size (.slice A' n' c') ∧ Below w.heap.size w w' := by
  by_cases hs : s.size ≤ 200
  · by_cases hx : patsErr g n = 0
    · refine (TFind_ok w A n c g s hs hrow hc hx).mono ?_
      rintro e w1 ⟨v, rfl, ho, hb⟩
      have hsp := ho.sp
      obtain ⟨A', c', rfl, _, hr⟩ := ho.row
      exact ⟨A', _, c', _, 0, rfl, hr, hits_few g n s (patsErr_zero hx).1 hs, hsp, hb⟩
    · refine (TFind_err w A n c g s hs hrow hc hx).mono ?_
      rintro e w1 ⟨rfl, rfl⟩
      exact ⟨none, 0, 0, fun _ => (0, 0), _, rfl, fun k hk => by omega, by omega, .inl rfl, Below.refl _ _⟩
  · refine (TFind_large w A n c s (by omega)).mono ?_
    rintro e w1 ⟨rfl, rfl⟩
    exact ⟨none, 0, 0, fun _ => (0, 0), _, rfl, fun k hk => by omega, by omega, .inl rfl, Below.refl _ _⟩

theorem hindex_neg {A : Option Addr} {n c : Nat} {h : Nat → Nat × Nat} {w : World} (a b : Int) (ha : a < 0) (hr : HRow w A n h) (hn : n ≤ 1000000) :
    Calls Try.prog 71 #[.slice A n c, .agg #[.int .i64 a, .int .i64 b]] w fun e w' => e = .returned (.int .i64 (-1)) ∧ Below w.heap.size w w' := by
  have hq := hit_eql
  have hgd := hit_guard
  have HR := hid (hr.keep (bl_new w (.cells #[.int .i64 a, .int .i64 b] 55)))
  have HX1 : Hid ((w.alloc (.cells #[.int .i64 a, .int .i64 b] 55)).cell? ⟨w.heap.size, 0, none⟩ = some (.int .i64 a)) := by show _ = _; simp
  have HX2 : Hid ((w.alloc (.cells #[.int .i64 a, .int .i64 b] 55)).cell? ⟨w.heap.size, 1, none⟩ = some (.int .i64 b)) := by show _ = _; simp
  have HB := hid (bl_new w (.cells #[.int .i64 a, .int .i64 b] 55))
  clear hr
  go_enter Try.func71, Try.ntmps71
  go_wp2
  generalize w.alloc (.cells #[.int .i64 a, .int .i64 b] 55) = w0 at *
  have hx1 := HX1.out
  have hx2 := HX2.out
  go_loopw [8] (fun i wr => ∃ k : Nat, k ≤ n ∧ i = .int .i64 k ∧ ∃ d, wr = w0.drewN d) (fun i _ => n - (intOf i).toNat)
  case atStart => exact ⟨0, by omega, rfl, 0, rfl⟩
  case round =>
    obtain ⟨k, hk, rfl, d, rfl⟩ := hrel
    by_cases hkn : k < n
    · obtain ⟨bb, o, rfl, _, h1, h2⟩ := HR.out k hkn
      have hne : ((a == ((h k).1 : Int)) && (b == ((h k).2 : Int))) = false := by
        have : (a == ((h k).1 : Int)) = false := by rw [beq_eq_false_iff_ne]; omega
        rw [this]; rfl
      generalize h k = y at *
      go_wp2
      go_quiet (fail)
      go_wp2
      go_roundw
      case measure => simp [intOf]; omega
      case rel => exact ⟨k + 1, by omega, by go_num, _, rfl⟩
    · have hkn' : decide ((k : Int) < (n : Int)) = false := decide_eq_false (by omega)
      go_wp2
      go_ret
      exact ⟨rfl, bl_drewN HB.out _⟩
theorem hcontains_neg {A : Option Addr} {n c : Nat} {h : Nat → Nat × Nat} {w : World} (a b : Int) (ha : a < 0) (hr : HRow w A n h) (hn : n ≤ 1000000) :
    Calls Try.prog 41 #[.slice A n c, .agg #[.int .i64 a, .int .i64 b]] w fun e w' => e = .returned (.bool false) ∧ Below w.heap.size w w' := by
  have HR := hid (hr.keep (bl_new w (.cells #[.int .i64 a, .int .i64 b] 55)))
  clear hr
  go_enter Try.func41, Try.ntmps41
  go_wp2_with fail
  with_reducible refine (hindex_neg a b ha HR.out hn).mono ?_
  rintro e w1 ⟨rfl, hb⟩
  go_wp2
  go_ret
  exact ⟨rfl, bl_then (bl_new w _) hb⟩

theorem clone_t (w : World) (A : Option Addr) (n c : Nat) (g : Nat → ByteArray) (hrow : SRow w A n g) (hbig : n * 16 ≤ 140737488351232) :
    Calls Try.prog 33 #[.slice A n c] w fun e w' => (∃ A' c', e = .returned (.slice A' n c') ∧ SRow w' A' n g) ∧ Below w.heap.size w w' := by
  have key : ∀ (v' : Value) (w' : World), w'.ownsRow w.heap.size 9 1 v' n ((List.range n).map fun k => Value.string (g k)) → ∃ A' c', v' = .slice A' n c' ∧ SRow w' A' n g := by
    intro v' w' ho
    have hcell := fun gg cap (e : v' = .slice (some ⟨gg, 0, none⟩) n cap) (k : Nat) (hk : k < n) => World.ownsRow.cellAt (e ▸ ho) k (by omega)
    have hlt := World.ownsRow.lt ho
    rcases ho.2 with ⟨rfl, h0⟩ | ⟨gg, cap, cur, rfl, _⟩
    · exact ⟨none, 0, by rw [h0], fun k hk => by omega⟩
    · refine ⟨some ⟨gg, 0, none⟩, cap, rfl, fun k hk => ⟨gg, 0, rfl, (hlt gg rfl).2, ?_⟩⟩
      rw [Nat.zero_add, hcell gg cap rfl k hk]
      simp [hk]
  cases A with
  | none =>
    have h0 : n = 0 := by
      rcases Nat.eq_zero_or_pos n with e | e
      · exact e
      · obtain ⟨b, o, e, _⟩ := hrow 0 e
        cases e
    subst h0
    refine (Try.slices_Clone_string_nil 0 c w).mono ?_
    rintro e w1 ⟨rfl, rfl⟩
    exact ⟨⟨none, 0, rfl, fun k hk => by omega⟩, Below.refl _ _⟩
  | some a =>
    by_cases h0 : n = 0
    · subst h0
      refine (Try.slices_Clone_string_zero a c w).mono ?_
      rintro e w1 ⟨v', rfl, ho, _, hb⟩
      obtain ⟨A', c', rfl, hr⟩ := key _ _ ho
      exact ⟨⟨A', c', rfl, hr⟩, hb⟩
    · obtain ⟨b, o, e, _, _⟩ := hrow 0 (by omega)
      cases e
      refine (Try.slices_Clone_string b o n c ((List.range n).map g) w (by simp) (by omega) ?_).mono ?_
      · intro j hj
        have hj' : j < n := by simpa using hj
        obtain ⟨b', o', e, _, hc⟩ := hrow j hj'
        cases e
        rw [hc]
        simp [hj']
      · rintro e w1 ⟨v', rfl, ho, _, hb⟩
        rw [List.take_of_length_le (by simp), List.map_map] at ho
        obtain ⟨A', c', rfl, hr⟩ := key _ _ ho
        exact ⟨⟨A', c', rfl, hr⟩, hb⟩
theorem sequal_same {A1 A2 : Option Addr} {n c1 c2 : Nat} {g : Nat → ByteArray} {w : World} (h1 : SRow w A1 n g) (h2 : SRow w A2 n g) (hn : n ≤ maxLen) :
    Calls Try.prog 39 #[.slice A1 n c1, .slice A2 n c2] w fun e w' => e = .returned (.bool true) ∧ Drew w w' := by
  unfold maxLen at hn
  by_cases h0 : n = 0
  · subst h0
    refine (Try.slices_Equal_string_empty A1 A2 c1 0 c2 w (by omega)).mono ?_
    rintro e w1 ⟨rfl, rfl⟩
    exact ⟨rfl, Drew.refl _⟩
  · obtain ⟨b1, o1, rfl, _, _⟩ := h1 0 (by omega)
    obtain ⟨b2, o2, rfl, _, _⟩ := h2 0 (by omega)
    refine (Try.slices_Equal_string b1 o1 n c1 b2 o2 n c2 ((List.range n).map g) ((List.range n).map g) w (by simp) (by simp) (by omega) (by omega) (fun j hj => ?_) (fun j hj => ?_)).mono ?_
    · have hj' : j < n := by simpa using hj
      obtain ⟨b', o', e, _, hc⟩ := h1 j hj'
      cases e
      rw [hc]
      simp [hj']
    · have hj' : j < n := by simpa using hj
      obtain ⟨b', o', e, _, hc⟩ := h2 j hj'
      cases e
      rw [hc]
      simp [hj']
    rintro e w1 ⟨rfl, q, rfl⟩
    exact ⟨ret_bool (by simp), q, rfl⟩
theorem SpI.after {w w' : World} {base : Nat} {v : Value} (h : SpI w base v) (hb : Below w.heap.size w w') : SpI w' base v := h.keep fun k e => hb.block k (h.block e).2
theorem SpH.after {w w' : World} {base : Nat} {v : Value} (h : SpH w base v) (hb : Below w.heap.size w w') : SpH w' base v := h.keep fun k e => hb.block k (h.block e).2
theorem SpI.past {w w' : World} {base : Nat} {v : Value} {o : Option Nat} (h : SpI w base v) (hg : w.grownBy w' o) (hn : ∀ k, o = some k → k < base) : SpI w' base v := h.keep fun k e => hg.block k (h.block e).2 fun e2 => by
  have h1 := hn k e2.symm
  have h2 := (h.block e).1
  omega
theorem SpH.past {w w' : World} {base : Nat} {v : Value} {o : Option Nat} (h : SpH w base v) (hg : w.grownBy w' o) (hn : ∀ k, o = some k → k < base) : SpH w' base v := h.keep fun k e => hg.block k (h.block e).2 fun e2 => by
  have h1 := hn k e2.symm
  have h2 := (h.block e).1
  omega
theorem SpI.low {w w' : World} {base N : Nat} {v : Value} (h : SpI w base v) (hg : w.grownBy w' v.ownBlock) (hN : N ≤ base) (hs : N ≤ w.heap.size) : Below N w w' :=
  (Below.refl N w).grown hg hs fun k hk => by have := (h.block hk).1; omega
theorem SpH.low {w w' : World} {base N : Nat} {v : Value} (h : SpH w base v) (hg : w.grownBy w' v.ownBlock) (hN : N ≤ base) (hs : N ≤ w.heap.size) : Below N w w' :=
  (Below.refl N w).grown hg hs fun k hk => by have := (h.block hk).1; omega
end Go.Proofs.Ytcnfdmpggnhlgaa
