
/-
A script out of the places of what is kept: edit by edit, what stands meanwhile; at the end it is a script, and what it takes and puts is what the two words have not in common. No program is named here.
-/
import Derived.Test.YtejcijlmpiiffaaDifMath
namespace Go.Proofs.Ytejcijlmpiiffaa.Df
open Sa Es

theorem evs_snoc : ∀ (G : List Sg) (k : Nat) (g : Sg), evs k (G ++ [g]) = evs k G ++ [⟨((k + (src G []).length + g.p.length : Nat) : Int), (g.d.length : Nat), mkS g.i⟩]
  | [], k, g => by simp [evs, src]
  | x :: G, k, g => by
    simp only [List.cons_append, evs, src, List.length_append]
    rw [evs_snoc G]
    congr 4
    · congr 1; omega
theorem src_snoc : ∀ (G : List Sg) (g : Sg) (q : List UInt8), src (G ++ [g]) q = src G (g.p ++ (g.d ++ q))
  | [], g, q => rfl
  | x :: G, g, q => by simp only [List.cons_append, src, src_snoc G g q]
theorem dst_snoc : ∀ (G : List Sg) (g : Sg) (q : List UInt8), dst (G ++ [g]) q = dst G (g.p ++ (g.i ++ q))
  | [], g, q => rfl
  | x :: G, g, q => by simp only [List.cons_append, dst, dst_snoc G g q]
theorem src_tail : ∀ (G : List Sg) (q r : List UInt8), src G (q ++ r) = src G q ++ r
  | [], q, r => rfl
  | x :: G, q, r => by simp only [src, src_tail G q r, List.append_assoc]
theorem dst_tail : ∀ (G : List Sg) (q r : List UInt8), dst G (q ++ r) = dst G q ++ r
  | [], q, r => rfl
  | x :: G, q, r => by simp only [dst, dst_tail G q r, List.append_assoc]
/-- Segments that touch not, none of them empty. -/
def Ga : Bool → List Sg → Prop
  | _, [] => True
  | f, g :: G => (f = true ∨ 0 < g.p.length) ∧ (0 < g.d.length ∨ 0 < g.i.length) ∧ Ga false G
theorem Ga.snoc : ∀ {f : Bool} {G : List Sg} {g : Sg}, Ga f G → ((G = [] ∧ f = true) ∨ 0 < g.p.length) → (0 < g.d.length ∨ 0 < g.i.length) → Ga f (G ++ [g])
  | _, [], _, _, h1, h2 => ⟨h1.imp (fun h => h.2) id, h2, trivial⟩
  | _, _ :: _, _, h, h1, h2 => ⟨h.1, h.2.1, Ga.snoc h.2.2 (.inr (h1.resolve_left fun h => by cases h.1)) h2⟩
theorem ga_tot : ∀ {f : Bool} {G : List Sg} (k : Nat), Ga f G → (G.length : Int) ≤ tot (evs k G)
  | _, [], _, _ => by simp [evs, tot]
  | _, g :: G, k, h => by
    have ih := ga_tot (k + g.p.length + g.d.length) h.2.2
    have h2 := h.2.1
    simp only [evs, tot, mk_size, List.length_cons]
    omega
theorem Ga.gd : ∀ {f : Bool} {G : List Sg} (k : Nat), Ga f G → tot (evs k G) ≤ 40 → Gd f G
  | _, [], _, _, _ => trivial
  | _, g :: G, k, h, ht => by
    have ih := ga_tot (k + g.p.length + g.d.length) h.2.2
    simp only [evs, tot, mk_size] at ht
    exact ⟨h.1, by omega, h.2.1, Ga.gd (k + g.p.length + g.d.length) h.2.2 (by omega)⟩

/-- So much of s and t is used up (i, j), k bytes of them kept; l: the edits so far, their segments G, the last of them ends at e. -/
structure Md (s t : List UInt8) (l : List Ev) (i j k : Nat) (G : List Sg) (e : Nat) : Prop where
  src_ : src G [] = s.take e
  el : e ≤ i
  dst_ : dst G ((s.drop e).take (i - e)) = t.take j
  evs_ : evs 0 G = l
  ga : Ga true G
  tot_ : tot l + 2 * (k : Int) = (i : Int) + (j : Int)
  il : i ≤ s.length
  jl : j ≤ t.length
/-- Something is kept behind the last edit. -/
def Mk (s t : List UInt8) (l : List Ev) (i j k : Nat) : Prop := ∃ G e, Md s t l i j k G e ∧ (G = [] ∨ e < i)
def Mf (s t : List UInt8) (l : List Ev) (i j k : Nat) : Prop := ∃ G e, Md s t l i j k G e
theorem Mk.start (s t : List UInt8) : Mk s t [] 0 0 0 := ⟨[], 0, ⟨by simp [src], Nat.le_refl _, by simp [dst], rfl, trivial, by simp [tot], Nat.zero_le _, Nat.zero_le _⟩, .inl rfl⟩
theorem Mk.few {s t : List UInt8} {l : List Ev} {i j k : Nat} (h : Mk s t l i j k) : l.length ≤ i + j := by
  obtain ⟨G, e, h, _⟩ := h
  have h1 := ga_tot 0 h.ga
  have h2 := evs_len 0 G
  rw [h.evs_] at h1 h2
  have := h.tot_
  omega
/-- An edit up to the next byte that is kept. -/
theorem Mk.edit {s t : List UInt8} {l : List Ev} {i j k p q : Nat} (h : Mk s t l i j k) (hi : i ≤ p) (hj : j ≤ q) (hp : p ≤ s.length) (hq : q ≤ t.length) (hne : i < p ∨ j < q) :
    Mf s t (l ++ [⟨(i : Int), ((p - i : Nat) : Int), mkS ((t.drop j).take (q - j))⟩]) p q k := by
  obtain ⟨G, e, h, he⟩ := h
  have h1 := h.el
  have h2 := h.il
  have h3 := h.jl
  have l1 : ((s.drop e).take (i - e)).length = i - e := by rw [List.length_take, List.length_drop]; omega
  have l2 : ((s.drop i).take (p - i)).length = p - i := by rw [List.length_take, List.length_drop]; omega
  have l3 : ((t.drop j).take (q - j)).length = q - j := by rw [List.length_take, List.length_drop]; omega
  have l4 : (src G []).length = e := by rw [h.src_, List.length_take]; omega
  refine ⟨G ++ [⟨(s.drop e).take (i - e), (s.drop i).take (p - i), (t.drop j).take (q - j)⟩], p, ?_, Nat.le_refl _, ?_, ?_, ?_, ?_, hp, hq⟩
  · rw [src_snoc]
    simp only []
    have := src_tail G [] ((s.drop e).take (i - e) ++ ((s.drop i).take (p - i) ++ []))
    rw [List.nil_append] at this
    rw [this, h.src_, List.append_nil, ← List.append_assoc]
    have e1 : s.take e ++ (s.drop e).take (i - e) = s.take i := by
      have := List.take_add (l := s) (i := e) (j := i - e)
      rw [← this]; congr 1; omega
    have e2 : s.take i ++ (s.drop i).take (p - i) = s.take p := by
      have := List.take_add (l := s) (i := i) (j := p - i)
      rw [← this]; congr 1; omega
    rw [e1, e2]
  · rw [dst_snoc]
    simp only []
    rw [Nat.sub_self, List.take_zero, List.append_nil, dst_tail, h.dst_]
    have := List.take_add (l := t) (i := j) (j := q - j)
    rw [← this]; congr 1; omega
  · rw [evs_snoc, h.evs_]
    simp only [l1, l2, l4]
    congr 3
    omega
  · exact Ga.snoc h.ga (he.imp (fun h => ⟨h, rfl⟩) fun h => by simp only [l1]; omega) (by simp only [l2, l3]; omega)
  · rw [tot_app]
    simp only [tot, mk_size, l3]
    have := h.tot_
    omega
theorem Mk.none_ {s t : List UInt8} {l : List Ev} {i j k : Nat} (h : Mk s t l i j k) : Mf s t l i j k := by
  obtain ⟨G, e, h, _⟩ := h
  exact ⟨G, e, h⟩
/-- A byte that is kept. -/
theorem Mf.kept {s t : List UInt8} {l : List Ev} {p q k : Nat} (h : Mf s t l p q k) (hp : p < s.length) (hq : q < t.length) (he : s.getD p 0 = t.getD q 0) : Mk s t l (p + 1) (q + 1) (k + 1) := by
  obtain ⟨G, e, h⟩ := h
  have h1 := h.el
  refine ⟨G, e, ⟨h.src_, by omega, ?_, h.evs_, h.ga, by have := h.tot_; omega, by omega, by omega⟩, .inr (by omega)⟩
  have e1 : (s.drop e).take (p + 1 - e) = (s.drop e).take (p - e) ++ [s.getD p 0] := by
    rw [show p + 1 - e = (p - e) + 1 by omega, List.take_add_one]
    congr 1
    rw [List.getElem?_drop, show e + (p - e) = p by omega, List.getD_eq_getElem?_getD, List.getElem?_eq_getElem hp]
    rfl
  have e2 : t.take (q + 1) = t.take q ++ [t.getD q 0] := by
    rw [List.take_add_one]
    congr 1
    rw [List.getD_eq_getElem?_getD, List.getElem?_eq_getElem hq]
    rfl
  rw [e1, dst_tail, h.dst_, e2, he]
/-- All of both is used up. -/
theorem Mf.end_ {s t : List UInt8} {l : List Ev} {k : Nat} (h : Mf s t l s.length t.length k) (hk : k = lc s t) (hs : s.length ≤ 200) (ht : t.length ≤ 200) (hd : df s t ≤ 20) : ∃ G q, Scr s l G q ∧ dst G q = t ∧ tot l = (df s t : Int) := by
  obtain ⟨G, e, h⟩ := h
  have htt := h.tot_
  have h2 := lc_two s t
  have htd : tot l = (df s t : Int) := by unfold df; omega
  have hg := ga_tot 0 h.ga
  rw [h.evs_] at hg
  have e1 : (s.drop e).take (s.length - e) = s.drop e := List.take_of_length_le (by rw [List.length_drop]; omega)
  have hdst := h.dst_
  rw [e1, List.take_length] at hdst
  refine ⟨G, s.drop e, ⟨?_, h.evs_, h.ga.gd 0 (by rw [h.evs_]; omega), by omega, hs, by rw [hdst]; exact ht⟩, hdst, htd⟩
  have := src_tail G [] (s.drop e)
  rw [List.nil_append, h.src_, List.take_append_drop] at this
  exact this
/-- Where the next byte that is kept stands; behind the last one the end. -/
def nx (L : List Nat) (n k : Nat) : Nat := (L ++ [n]).getD k 0
theorem nx_at {L : List Nat} {n k : Nat} (h : k < L.length) : nx L n k = L.getD k 0 := by
  unfold nx
  rw [List.getD_eq_getElem?_getD, List.getElem?_append_left h, ← List.getD_eq_getElem?_getD]
theorem nx_end {L : List Nat} {n : Nat} : nx L n L.length = n := by
  unfold nx
  simp
/-- What stands when the k-th of these is looked at. -/
def Rl (s t : List UInt8) (L M : List Nat) (l : List Ev) (i j k : Nat) : Prop :=
  (k ≤ L.length → Mk s t l i j k ∧ i ≤ nx L s.length k ∧ j ≤ nx M t.length k) ∧ (k = L.length + 1 → Mf s t l s.length t.length L.length) ∧ l.length ≤ 1000
theorem Rl.start (s t : List UInt8) (L M : List Nat) : Rl s t L M [] 0 0 0 := ⟨fun _ => ⟨Mk.start s t, Nat.zero_le _, Nat.zero_le _⟩, fun h => by omega, by simp⟩
theorem Rl.next {s t : List UInt8} {L M : List Nat} {l l' : List Ev} {i j k : Nat} (h : Rl s t L M l i j k) (hL : Lcs s t L M) (hs : s.length ≤ 200) (ht : t.length ≤ 200) (hk : k ≤ L.length)
    (hl : l' = if i < nx L s.length k ∨ j < nx M t.length k then l ++ [⟨(i : Int), ((nx L s.length k - i : Nat) : Int), mkS ((t.drop j).take (nx M t.length k - j))⟩] else l) :
    Rl s t L M l' (nx L s.length k + 1) (nx M t.length k + 1) (k + 1) := by
  obtain ⟨h1, hi, hj⟩ := h.1 hk
  have hml : M.length = L.length := by rw [hL.len, hL.same]
  have hfew := h1.few
  have hp : nx L s.length k ≤ s.length := by
    by_cases hkl : k < L.length
    · rw [nx_at hkl]; have := hL.left k hkl; omega
    · obtain rfl : k = L.length := by omega
      rw [nx_end]; exact Nat.le_refl _
  have hq : nx M t.length k ≤ t.length := by
    by_cases hkl : k < L.length
    · rw [nx_at (by omega)]; have := hL.right k hkl; omega
    · obtain rfl : k = M.length := by omega
      rw [nx_end]; exact Nat.le_refl _
  have hf : Mf s t l' (nx L s.length k) (nx M t.length k) k ∧ l'.length ≤ l.length + 1 := by
    by_cases c : i < nx L s.length k ∨ j < nx M t.length k
    · rw [if_pos c] at hl
      subst hl
      exact ⟨h1.edit hi hj hp hq c, by simp⟩
    · rw [if_neg c] at hl
      subst hl
      obtain rfl : i = nx L s.length k := by omega
      obtain rfl : j = nx M t.length k := by omega
      exact ⟨h1.none_, by omega⟩
  obtain ⟨hf, hlen⟩ := hf
  refine ⟨fun hk1 => ?_, fun hk1 => ?_, by omega⟩
  · have hkl : k < L.length := by omega
    have hkm : k < M.length := by omega
    have a1 := hL.left k hkl
    have a2 := hL.right k hkl
    have a3 := hL.alike k hkl
    rw [nx_at hkl, nx_at hkm] at hf ⊢
    refine ⟨hf.kept a1 a2 a3, ?_, ?_⟩
    · by_cases c : k + 1 < L.length
      · rw [nx_at c]; exact (hL.up k c).1
      · obtain e : k + 1 = L.length := by omega
        rw [e, nx_end]; exact a1
    · by_cases c : k + 1 < L.length
      · rw [nx_at (by omega)]; exact (hL.up k c).2
      · obtain e : k + 1 = M.length := by omega
        rw [e, nx_end]; exact a2
  · obtain rfl : k = L.length := by omega
    have e2 := nx_end (L := M) (n := t.length)
    rw [hml] at e2
    rw [nx_end, e2] at hf
    exact hf
theorem nx_le {s t : List UInt8} {L M : List Nat} (hL : Lcs s t L M) {k : Nat} (hk : k ≤ L.length) : nx L s.length k ≤ s.length ∧ nx M t.length k ≤ t.length := by
  have hml : M.length = L.length := by rw [hL.len, hL.same]
  constructor
  · by_cases hkl : k < L.length
    · rw [nx_at hkl]; have := hL.left k hkl; omega
    · obtain rfl : k = L.length := by omega
      rw [nx_end]; exact Nat.le_refl _
  · by_cases hkl : k < L.length
    · rw [nx_at (by omega)]; have := hL.right k hkl; omega
    · obtain rfl : k = M.length := by omega
      rw [nx_end]; exact Nat.le_refl _
theorem Rl.done {s t : List UInt8} {L M : List Nat} {l : List Ev} {i j k : Nat} (h : Rl s t L M l i j k) (hL : Lcs s t L M) (hs : s.length ≤ 200) (ht : t.length ≤ 200) (hk : k = L.length + 1) (hd : df s t ≤ 20) : ∃ G q, Scr s l G q ∧ dst G q = t ∧ tot l = (df s t : Int) :=
  (h.2.1 hk).end_ hL.len hs ht hd
end Go.Proofs.Ytejcijlmpiiffaa.Df
