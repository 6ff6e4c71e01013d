
/-
What the steps of package merge reckon: the edits of the one script that are not in the other; the place of an edit that no edit of the other script touches; both, sorted. No program is named here.
-/
import Derived.Test.YtgkagigagcamoaaMgMath
namespace Go.Proofs.Ytgkagigagcamoaa.Es

/-- The edits of B that are not in A. -/
def wo (A B : List Ev) : List Ev := B.filter fun x => !has A x
theorem wo_nil (A : List Ev) : wo A [] = [] := rfl
theorem wo_snoc (A B : List Ev) (x : Ev) : wo A (B ++ [x]) = if has A x = true then wo A B else wo A B ++ [x] := by
  unfold wo
  rw [List.filter_append, List.filter_cons]
  by_cases h : has A x = true
  · rw [if_pos h, if_neg (by rw [h]; decide)]
    simp
  · rw [if_neg h, if_pos (by simpa using h)]
    simp
theorem wo_mem {A B : List Ev} {x : Ev} : x ∈ wo A B ↔ x ∈ B ∧ x ∉ A := by
  unfold wo
  rw [List.mem_filter]
  refine and_congr_right fun _ => ?_
  rw [Bool.not_eq_true', ← Bool.not_eq_true, has_iff]
theorem wo_len (A B : List Ev) : (wo A B).length ≤ B.length := List.length_filter_le _ _
theorem behL_wo (A B : List Ev) : behL A B = (wo A B).map fun x => ⟨x.a + upTo A x.a, x.d, x.s⟩ := rfl
/-- Where a place is that no edit touches. -/
theorem plc_up {n : Nat} {t : Int} : ∀ {A : List Ev} {e m : Int}, Ch n e A → (∀ y, y ∈ A → t < y.a ∨ y.a + y.d < t) → plc t m A = (t + (m + upTo A t), true)
  | [], _, m, _, _ => by simp [plc, upTo, gro]
  | y :: L, e, m, hc, h => by
    have h1 := h y (by simp)
    have h2 := ch_mem hc (x := y) (by simp)
    have hp := ch_apart hc
    rw [List.pairwise_cons] at hp
    rcases h1 with h1 | h1
    · have hz : (y :: L).filter (fun z => decide (z.a + z.d < t)) = [] := by
        rw [List.filter_eq_nil_iff]
        intro z hz
        rw [decide_eq_true_iff]
        have h3 := ch_mem hc hz
        rw [List.mem_cons] at hz
        rcases hz with rfl | hz
        · omega
        · have := hp.1 z hz
          omega
      simp only [plc, if_pos h1]
      unfold upTo
      rw [hz]
      simp [gro]
    · have ih := plc_up (t := t) (A := L) (m := m + ((y.s.size : Int) - y.d)) hc.2 fun z hz => h z (List.mem_cons_of_mem _ hz)
      simp only [plc]
      rw [if_neg (by omega), if_neg (by omega), ih]
      have : upTo (y :: L) t = ((y.s.size : Int) - y.d) + upTo L t := by
        unfold upTo
        rw [List.filter_cons, if_pos (decide_eq_true h1)]
        rfl
      rw [this]
      congr 1
      omega
theorem apart_of {n m : Nat} {A B : List Ev} {e f : Int} (ha : Ch n e A) (hb : Ch m f B) (hc : ¬ Cls A B) {x : Ev} (hx : x ∈ wo A B) : ∀ y, y ∈ A → x.a < y.a ∨ y.a + y.d < x.a := fun y hy => by
  obtain ⟨h1, h2⟩ := wo_mem.1 hx
  have d1 := ch_mem ha hy
  have d2 := ch_mem hb h1
  refine Classical.byContradiction fun hn => hc ⟨y, hy, x, h1, fun e => h2 (e ▸ hy), ?_, ?_⟩ <;> omega
theorem place_wo {n m : Nat} {A B : List Ev} {e f : Int} (ha : Ch n e A) (hb : Ch m f B) (hc : ¬ Cls A B) {x : Ev} (hx : x ∈ wo A B) : (plc x.a 0 A).1 = x.a + upTo A x.a := by
  rw [plc_up ha (apart_of ha hb hc hx), Int.zero_add]
/-- The one script and what is left of the other, sorted, are both. -/
theorem isBo_sorted {n m : Nat} {A B G : List Ev} {e f : Int} (ha : Ch n e A) (hb : Ch m f B) (hc : ¬ Cls A B) (hp : G.Perm (A ++ wo A B)) (hs : G.Pairwise fun x y => x.a ≤ y.a) : IsBo A B G := by
  have hd : (A ++ wo A B).Pairwise fun x y => x.a ≠ y.a := by
    rw [List.pairwise_append]
    refine ⟨(ch_inc ha).imp fun h => by omega, ((ch_inc hb).filter _).imp fun h => by omega, fun x hx y hy => ?_⟩
    have d1 := ch_mem ha hx
    rcases apart_of ha hb hc hy x hx with h | h <;> omega
  have hd2 : G.Pairwise fun x y => x.a ≠ y.a := (hp.pairwise_iff fun h => Ne.symm h).2 hd
  refine ⟨(hs.and hd2).imp fun h => by have := h.1; have := h.2; omega, fun x => ?_⟩
  rw [hp.mem_iff, List.mem_append, wo_mem]
  constructor
  · rintro (h | h)
    · exact .inl h
    · exact .inr h.1
  · rintro (h | h)
    · exact .inl h
    · by_cases hx : x ∈ A
      · exact .inl hx
      · exact .inr ⟨h, hx⟩
/-- Does some edit of the one clash with some of the other? -/
def clsB (A B : List Ev) : Bool := A.any fun x => B.any (cl x)
theorem clsB_iff {A B : List Ev} : clsB A B = true ↔ Cls A B := by
  unfold clsB Cls
  rw [List.any_eq_true]
  refine exists_congr fun x => and_congr_right fun _ => ?_
  rw [List.any_eq_true]
  exact exists_congr fun y => and_congr_right fun _ => cl_iff
theorem clsB_no {A B : List Ev} : clsB A B = false ↔ ¬ Cls A B := by rw [← Bool.not_eq_true, clsB_iff]
end Go.Proofs.Ytgkagigagcamoaa.Es
