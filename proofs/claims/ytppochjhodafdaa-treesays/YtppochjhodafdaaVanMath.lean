/-
Plain mathematics on weights: VAN LEEUWEN: two rising rows; the two least are made one, behind the second row. No program is named here.
-/
import Derived.Test.YtppochjhodafdaaTreeMath
namespace Go.Proofs.Ytppochjhodafdaa
namespace Hm

/-- x is taken off the front of one of the rows, the lesser. -/
def Tk (x : Int) (La Lb La' Lb' : List Int) : Prop := (La = x :: La' ∧ Lb' = Lb ∧ ∀ y L, Lb = y :: L → x ≤ y) ∨ (Lb = x :: Lb' ∧ La' = La ∧ ∀ y L, La = y :: L → x < y)
/-- Both rows rise; what has been made is no more than twice the least. -/
structure VL (La Lb : List Int) : Prop where
  sa : La.Pairwise (· ≤ ·)
  sb : Lb.Pairwise (· ≤ ·)
  low : ∃ m : Int, 0 ≤ m ∧ (∀ u ∈ La ++ Lb, m ≤ u) ∧ ∀ z ∈ Lb, z ≤ 2 * m
theorem tk_min {x : Int} {La Lb La' Lb' : List Int} (ha : La.Pairwise (· ≤ ·)) (hb : Lb.Pairwise (· ≤ ·)) (h : Tk x La Lb La' Lb') :
    (La ++ Lb).Perm (x :: (La' ++ Lb')) ∧ (∀ u ∈ La' ++ Lb', x ≤ u) ∧ La'.Pairwise (· ≤ ·) ∧ Lb'.Pairwise (· ≤ ·) ∧ (∀ z ∈ Lb', z ∈ Lb) := by
  rcases h with ⟨rfl, rfl, h3⟩ | ⟨rfl, rfl, h3⟩
  · have ha' := List.pairwise_cons.1 ha
    refine ⟨List.Perm.refl _, fun u hu => ?_, ha'.2, hb, fun z hz => hz⟩
    rcases List.mem_append.1 hu with hu | hu
    · exact ha'.1 u hu
    · match Lb', hb, h3, hu with
      | y :: L, hb, h3, hu =>
        have h4 := h3 y L rfl
        rcases List.mem_cons.1 hu with rfl | hu
        · exact h4
        · exact Int.le_trans h4 ((List.pairwise_cons.1 hb).1 u hu)
  · have hb' := List.pairwise_cons.1 hb
    refine ⟨List.perm_middle, fun u hu => ?_, ha, hb'.2, fun z hz => List.mem_cons_of_mem _ hz⟩
    rcases List.mem_append.1 hu with hu | hu
    · match La', ha, h3, hu with
      | y :: L, ha, h3, hu =>
        have h4 := h3 y L rfl
        rcases List.mem_cons.1 hu with rfl | hu
        · omega
        · have := (List.pairwise_cons.1 ha).1 u hu
          omega
    · exact hb'.1 u hu
def tsum : List Int → Int
  | [] => 0
  | x :: L => x + tsum L
theorem tsum_perm {L M : List Int} (h : L.Perm M) : tsum L = tsum M := by
  induction h with
  | nil => rfl
  | cons x _ ih => unfold tsum; rw [ih]
  | swap x y l => simp only [tsum]; omega
  | trans _ _ h1 h2 => exact h1.trans h2
theorem tsum_nonneg : ∀ {L : List Int}, (∀ u ∈ L, 0 ≤ u) → 0 ≤ tsum L
  | [], _ => by decide
  | x :: L, h => by
    have h1 := h x List.mem_cons_self
    have h2 := tsum_nonneg (L := L) fun u hu => h u (List.mem_cons_of_mem _ hu)
    show 0 ≤ x + tsum L
    omega
theorem VL.step {x y : Int} {La Lb La1 Lb1 La2 Lb2 : List Int} (h : VL La Lb) (h1 : Tk x La Lb La1 Lb1) (h2 : Tk y La1 Lb1 La2 Lb2) :
    VL La2 (Lb2 ++ [x + y]) ∧ 0 ≤ x ∧ 0 ≤ y ∧ tsum (La2 ++ (Lb2 ++ [x + y])) = tsum (La ++ Lb) ∧ x + y ≤ tsum (La ++ Lb) ∧ La.length + Lb.length = La2.length + Lb2.length + 2 ∧
    ∀ c, Best ((La2 ++ (Lb2 ++ [x + y])).map Int.toNat) c → Best ((La ++ Lb).map Int.toNat) (x.toNat + y.toNat + c) := by
  obtain ⟨p1, q1, r1, s1, t1⟩ := tk_min h.sa h.sb h1
  obtain ⟨p2, q2, r2, s2, t2⟩ := tk_min r1 s1 h2
  obtain ⟨m, m0, m1, m2⟩ := h.low
  have pp := p1.trans (p2.cons x)
  have hx : m ≤ x := m1 x (p1.mem_iff.2 List.mem_cons_self)
  have hxy : x ≤ y := q1 y (p2.mem_iff.2 List.mem_cons_self)
  have pe : (La2 ++ (Lb2 ++ [x + y])).Perm ((x + y) :: (La2 ++ Lb2)) := by
    rw [← List.append_assoc]
    exact List.perm_append_comm
  have hnn : ∀ u ∈ La2 ++ Lb2, 0 ≤ u := fun u hu => by have := q2 u hu; omega
  have hs : tsum (La ++ Lb) = x + (y + tsum (La2 ++ Lb2)) := tsum_perm pp
  have hz := tsum_nonneg hnn
  refine ⟨⟨r2, ?_, y, by omega, fun u hu => ?_, fun z hz => ?_⟩, by omega, by omega, ?_, by omega, ?_, fun c hc => ?_⟩
  · rw [List.pairwise_append]
    refine ⟨s2, List.pairwise_singleton _ _, fun a ha b hb => ?_⟩
    rw [List.mem_singleton.1 hb]
    have := m2 a (t1 a (t2 a ha))
    omega
  · rcases List.mem_append.1 hu with hu | hu
    · exact q2 u (List.mem_append_left _ hu)
    · rcases List.mem_append.1 hu with hu | hu
      · exact q2 u (List.mem_append_right _ hu)
      · rw [List.mem_singleton.1 hu]; omega
  · rcases List.mem_append.1 hz with hz | hz
    · have := m2 z (t1 z (t2 z hz))
      omega
    · rw [List.mem_singleton.1 hz]; omega
  · rw [tsum_perm pe, hs]
    show x + y + tsum (La2 ++ Lb2) = _
    omega
  · have := pp.length_eq
    simp only [List.length_append, List.length_cons] at this
    omega
  · have e1 : (x + y).toNat = x.toNat + y.toNat := by omega
    have hc2 := hc.perm (pe.map Int.toNat)
    rw [List.map_cons, e1] at hc2
    have hst := Best.step (x := x.toNat) (y := y.toNat) (R := (La2 ++ Lb2).map Int.toNat) (by omega) (fun z hz => by
      obtain ⟨u, hu, rfl⟩ := List.mem_map.1 hz
      have := q2 u hu
      omega) hc2
    exact hst.perm (pp.map Int.toNat).symm
end Hm
end Go.Proofs.Ytppochjhodafdaa
