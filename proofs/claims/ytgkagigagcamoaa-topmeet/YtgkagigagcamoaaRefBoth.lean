
/-
The contracts of quillref.BothOf and quillref.BehindOf.
-/
import Derived.Test.YtgkagigagcamoaaCompactE
import Derived.Test.YtgkagigagcamoaaConcatE
import Derived.Test.YtgkagigagcamoaaSeg35
import Derived.Test.YtgkagigagcamoaaRefEd
import Derived.Test.YtgkagigagcamoaaMgP
namespace Go.Proofs.Ytgkagigagcamoaa
open Go.RowKit

theorem surj_ : ∀ (n : Nat) (h : Nat → Nat), (∀ k, k < n → h k < n) → (∀ i j, i < n → j < n → h i = h j → i = j) → ∀ y, y < n → ∃ k, k < n ∧ h k = y
  | 0, _, _, _, y, hy => by omega
  | n + 1, h, hb, hi, y, hy => by
    have hz := hb n (by omega)
    have ih := surj_ n (fun k => if h k = n then h n else h k) (fun k hk => by
      by_cases c : h k = n
      · have : h n ≠ n := fun e => by have := hi k n (by omega) (by omega) (by omega); omega
        simp only [if_pos c]; omega
      · have := hb k (by omega)
        simp only [if_neg c]; omega) (fun i j hin hjn e => by
      have a1 := hi i j (by omega) (by omega)
      have a2 := hi i n (by omega) (by omega)
      have a3 := hi j n (by omega) (by omega)
      by_cases c1 : h i = n
      · by_cases c2 : h j = n
        · exact a1 (by omega)
        · simp only [if_pos c1, if_neg c2] at e
          have := a3 e.symm
          omega
      · by_cases c2 : h j = n
        · simp only [if_neg c1, if_pos c2] at e
          have := a2 e
          omega
        · simp only [if_neg c1, if_neg c2] at e
          exact a1 e)
    by_cases hyn : y = n
    · by_cases c : h n = n
      · exact ⟨n, by omega, by omega⟩
      · obtain ⟨k, hk, e⟩ := ih (h n) (by omega)
        by_cases c1 : h k = n
        · exact ⟨k, by omega, by omega⟩
        · simp only [if_neg c1] at e
          have := hi k n (by omega) (by omega) e
          omega
    · obtain ⟨k, hk, e⟩ := ih y (by omega)
      by_cases c1 : h k = n
      · simp only [if_pos c1] at e
        exact ⟨n, by omega, e⟩
      · simp only [if_neg c1] at e
        exact ⟨k, by omega, e⟩
/-- A row of the call's own that is not empty, cell by cell. -/
theorem OwnE.evAt {w : World} {base : Nat} {v : Value} {L : List Es.Ev} (h : OwnE w base v L) (h0 : 0 < L.length) : ∃ g cap, v = .slice (some ⟨g, 0, none⟩) L.length cap ∧ L.length ≤ cap ∧ base ≤ g ∧ g < w.heap.size ∧ ∀ k, k < L.length → Ev3 w g (0 + k * 3) (L.getD k Es.none_) := by
  have hlt := World.ownsRow.lt h
  rcases h.2 with ⟨rfl, h1⟩ | ⟨g, cap, cur, rfl, h1, h2, h3, h4, h5, h6⟩
  · omega
  · refine ⟨g, cap, rfl, h3, h1, (hlt g rfl).2, fun k hk => ?_⟩
    have hf := ev_flat L k hk
    have hcell : ∀ j, j < L.length * 3 → w.cell? ⟨g, j, none⟩ = (L.flatMap evC)[j]? := by
      intro j hj
      rw [← h6, List.getElem?_take, if_pos hj, cell_of_row _ _ _ _ _ _ h2]
      simp
    have hfz : ∀ j, w.frozen? ⟨g, j, none⟩ = false := fun j => by
      unfold World.frozen?
      rw [h2]
      simp
    have e : L.getD k Es.none_ = L[k] := by rw [List.getD_eq_getElem?_getD, List.getElem?_eq_getElem hk]; rfl
    unfold Ev3
    rw [Nat.zero_add, hcell _ (by omega), hcell _ (by omega), hcell _ (by omega), hf.1, hf.2.1, hf.2.2, e]
    exact ⟨rfl, rfl, rfl, hfz _, hfz _, hfz _⟩
/-- The order of places, of two at one place the earlier one first. -/
def cfE (E : Nat → Es.Ev) (x y : Nat) : Int := (E x).a - (E y).a
def RE (E : Nat → Es.Ev) (x y : Nat) : Prop := (E x).a < (E y).a ∨ ((E x).a = (E y).a ∧ x < y)
theorem ord_E (E : Nat → Es.Ev) : St.Ord (ltE (cfE E)) (RE E) where
  tr := by unfold RE; intro x y z h1 h2; omega
  yes := by unfold RE ltE cfE; intro x y h1 h2; omega
  no := by unfold RE ltE cfE; intro x y h1 h2; omega
/-- What is sorted and compacted is both. -/
theorem both_of {a b : List Es.Ev} {N n : Nat} {f : Nat → Nat} {E : Nat → Es.Ev} (ha : Es.Ch N (-1) a) (hb : Es.Ch N (-1) b) (hc : ¬ Es.Cls a b) (hE : el E n = a ++ b) (hp : St.PI 0 n id f) (hs : St.Srt (RE E) 0 n f) : Es.IsBo a b (cp (fun k => E (f k)) n) := by
  have hmem : ∀ k, k < n → E k ∈ a ∨ E k ∈ b := fun k hk => by
    rw [← List.mem_append, ← hE]
    unfold el
    exact List.mem_map.2 ⟨k, List.mem_range.2 hk, rfl⟩
  have hin : ∀ k, k < n → f k < n := fun k hk => by
    obtain ⟨j, _, hj, e⟩ := hp.ins k (Nat.zero_le _) hk
    rw [e]; exact hj
  refine ⟨cp_inc (fun i j hij hj => ?_) (fun i j hij hj e => ?_), fun x => ?_⟩
  · have := hs i j (Nat.zero_le _) hij hj
    unfold RE at this
    omega
  · refine Classical.byContradiction fun hne => ?_
    have m1 := hmem _ (hin i (by omega))
    have m2 := hmem _ (hin j hj)
    have d1 : 0 ≤ (E (f i)).d := by
      rcases m1 with m | m
      · exact (Es.ch_mem ha m).2.2.1
      · exact (Es.ch_mem hb m).2.2.1
    have d2 : 0 ≤ (E (f j)).d := by
      rcases m2 with m | m
      · exact (Es.ch_mem ha m).2.2.1
      · exact (Es.ch_mem hb m).2.2.1
    have hcl : Es.Cl (E (f i)) (E (f j)) := ⟨hne, by omega, by omega⟩
    rcases m1 with m | m <;> rcases m2 with k | k
    · exact Es.ch_no_self ha ⟨_, m, _, k, hcl⟩
    · exact hc ⟨_, m, _, k, hcl⟩
    · exact hc (Es.Cls.symm ⟨_, m, _, k, hcl⟩)
    · exact Es.ch_no_self hb ⟨_, m, _, k, hcl⟩
  · rw [cp_mem, ← List.mem_append, ← hE]
    unfold el
    rw [List.mem_map, List.mem_map]
    constructor
    · rintro ⟨k, hk, rfl⟩
      exact ⟨f k, List.mem_range.2 (hin k (List.mem_range.1 hk)), rfl⟩
    · rintro ⟨k, hk, rfl⟩
      obtain ⟨j, hj, e⟩ := surj_ n f hin (fun i j _ _ e => hp.inj (fun x y e => e) i j e) k (List.mem_range.1 hk)
      exact ⟨j, List.mem_range.2 hj, by rw [e]⟩
/-- What BothOf answers. -/
def BoPost (N : Nat) (a b : List Es.Ev) (w : World) (e : Ending) (w' : World) : Prop :=
  ∃ (C : Option Addr) (c : Nat) (l : List Es.Ev) (x : Int), e = .returned (.tuple #[.slice C l.length c, .int .i64 x]) ∧ l.length ≤ c ∧ BoIs N a b l x ∧ EvRow w' C l.length (fun k => l.getD k Es.none_) ∧ Below w.heap.size w w'
theorem bn_of {N : Nat} {L : List Es.Ev} (h : Es.eErr N L = 0) {x : Es.Ev} (hx : x ∈ L) : Bn x := by
  obtain ⟨hc, h2, _, _⟩ := Es.err_ch h
  have := Es.ch_mem hc hx
  unfold Bn
  omega
theorem el_in {h : Nat → Es.Ev} {n k : Nat} (hk : k < n) : h k ∈ el h n := by
  unfold el
  exact List.mem_map.2 ⟨k, List.mem_range.2 hk, rfl⟩
/-- The end of it: what is both is checked. -/
theorem CR.evRow {w0 w : World} {b o n : Nat} {h : Nat → Es.Ev} (H : CR w0 b o n h w) : EvRow w (some ⟨b, o, none⟩) n h := fun k hk => by
  obtain ⟨a1, a2, a3, _⟩ := H.row k hk
  exact ⟨b, o, rfl, H.lt, a1, a2, a3⟩
end Go.Proofs.Ytgkagigagcamoaa
