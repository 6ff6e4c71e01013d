
/-
A good script, edit by edit: what is used up of the text when its k-th edit comes. No program is named here.
-/
import Derived.Test.YtgkagigagcamoaaEdMath
namespace Go.Proofs.Ytgkagigagcamoaa.Es

/-- When the k-th edit comes, P is used up. -/
structure St (s : List UInt8) (L : List Ev) (G : List Sg) (q : List UInt8) (k : Nat) (P : List UInt8) : Prop where
  s_ : s = P ++ src (G.drop k) q
  l_ : L.drop k = evs P.length (G.drop k)
theorem Scr.st {s : List UInt8} {L : List Ev} {G : List Sg} {q : List UInt8} (h : Scr s L G q) : St s L G q 0 [] :=
  ⟨by rw [List.nil_append, List.drop_zero, h.src_], by rw [List.drop_zero, List.drop_zero, List.length_nil, h.evs_]⟩
theorem St.next {s : List UInt8} {L : List Ev} {G : List Sg} {q : List UInt8} {k : Nat} {P : List UInt8} (h : St s L G q k P) (hk : k < G.length) :
    ∃ g, g ∈ G ∧ G.drop k = g :: G.drop (k + 1) ∧ L.getD k none_ = ⟨(P.length + g.p.length : Nat), (g.d.length : Nat), mkS g.i⟩ ∧ St s L G q (k + 1) (P ++ g.p ++ g.d) ∧
      (s.drop P.length).take g.p.length = g.p ∧ (s.drop (P.length + g.p.length)).take g.d.length = g.d ∧ P.length + g.p.length + g.d.length ≤ s.length := by
  have hG : G.drop k = G[k] :: G.drop (k + 1) := List.drop_eq_getElem_cons hk
  have h1 := h.s_
  have h2 := h.l_
  rw [hG] at h1 h2
  simp only [src, evs] at h1 h2
  have hl : k < L.length := by
    have : (L.drop k).length = L.length - k := List.length_drop
    rw [h2, List.length_cons] at this
    omega
  have hL : L.drop k = L[k] :: L.drop (k + 1) := List.drop_eq_getElem_cons hl
  rw [hL] at h2
  injection h2 with e1 e2
  refine ⟨G[k], List.getElem_mem hk, hG, ?_, ⟨?_, ?_⟩, ?_, ?_, ?_⟩
  · rw [List.getD_eq_getElem?_getD, List.getElem?_eq_getElem hl, Option.getD_some, e1]
  · rw [h1]; simp only [List.append_assoc]
  · rw [e2, List.length_append, List.length_append]
  · rw [h1, List.drop_left, List.take_left]
  · rw [h1, ← List.append_assoc, show P.length + G[k].p.length = (P ++ G[k].p).length by rw [List.length_append], List.drop_left, List.take_left]
  · have := congrArg List.length h1
    simp only [List.length_append] at this
    omega
theorem St.end_ {s : List UInt8} {L : List Ev} {G : List Sg} {q : List UInt8} {P : List UInt8} (h : St s L G q G.length P) : s.drop P.length = q := by
  have := h.s_
  rw [List.drop_length] at this
  rw [this]
  show (P ++ q).drop P.length = q
  rw [List.drop_left]
theorem dst_step (g : Sg) (G : List Sg) (q l : List UInt8) : l ++ dst (g :: G) q = (l ++ g.p ++ g.i) ++ dst G q := by
  simp only [dst, List.append_assoc]
/-- What is inserted into a good script is not too long. -/
theorem gd_mem : ∀ {f : Bool} {G : List Sg}, Gd f G → ∀ g, g ∈ G → g.i.length ≤ 40
  | _, [], _, g, hg => by simp at hg
  | _, x :: G, h, g, hg => by
    simp only [List.mem_cons] at hg
    rcases hg with rfl | hg
    · exact h.2.1
    · exact gd_mem h.2.2.2 g hg
/-- No edits: no error. -/
theorem err_nil {n : Int} (h0 : 0 ≤ n) (h : n ≤ 200) : eErr n [] = 0 := by
  unfold eErr
  rw [if_neg (by omega), if_neg (by simp), if_pos (by rfl), if_neg (by simp [gro]; omega)]
/-- A text of n bytes for which a script is good. -/
theorem scr_size {N : Int} {L : List Ev} (h : eErr N L = 0) : ∃ s : ByteArray, (s.size : Int) = N ∧ ∃ G q, Scr (lst s) L G q := by
  have hN : 0 ≤ N := by
    unfold eErr at h
    by_cases h1 : N < 0 ∨ 200 < N
    · rw [if_pos h1] at h; exact absurd h (by decide)
    · omega
  obtain ⟨n, rfl⟩ := Int.eq_ofNat_of_zero_le hN
  refine ⟨mkS (List.replicate n 0), by rw [mk_size, List.length_replicate], ?_⟩
  rw [lst_mk]
  exact scr_of (by rw [List.length_replicate]; exact h)
end Go.Proofs.Ytgkagigagcamoaa.Es
