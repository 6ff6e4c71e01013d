/-
Several texts of this proof, one behind the other.
-/
import Derived.Test.YtapjodbaaejldaaEvRow
import Derived.Test.YtapjodbaaejldaaBtwMath
import Derived.Test.YtapjodbaaejldaaSeg5
import Derived.Test.YtapjodbaaejldaaEdMath

/-
What package edit answers, as words: ApIs (Apply), UnIs (Undo), PlIs (Place), OfIs (Of); small facts on them.
-/
namespace Go.Proofs.Ytapjodbaaejldaa
open Go.RowKit

def ApIs (s : ByteArray) (L : List Es.Ev) (t : ByteArray) (x : Int) : Prop :=
  (x ≠ 0 ∧ x = Es.eErr (s.size : Int) L ∧ t = ByteArray.empty) ∨ (x = 0 ∧ ∃ G q, Es.Scr (lst s) L G q ∧ t = mkS (Es.dst G q))
def UnIs (s : ByteArray) (L M : List Es.Ev) (x : Int) : Prop :=
  (x ≠ 0 ∧ x = Es.eErr (s.size : Int) L ∧ M = []) ∨ (Es.eErr (s.size : Int) L = 0 ∧ ¬ Es.Few L ∧ x = 2 ∧ M = []) ∨ (x = 0 ∧ ∃ G q, Es.Scr (lst s) L G q ∧ Es.Few L ∧ M = Es.evs 0 (G.map Es.swp))
def PlIs (N : Int) (L : List Es.Ev) (t v : Int) (b : Bool) (x : Int) : Prop :=
  (x ≠ 0 ∧ x = Es.eErr N L ∧ v = 0 ∧ b = false) ∨ (Es.eErr N L = 0 ∧ (t < 0 ∨ N < t) ∧ x = 1 ∧ v = 0 ∧ b = false) ∨ (Es.eErr N L = 0 ∧ 0 ≤ t ∧ t ≤ N ∧ x = 0 ∧ v = (Es.plc t 0 L).1 ∧ b = (Es.plc t 0 L).2)
def OfIs (s t : ByteArray) (m : Nat) (x : Int) : Prop :=
  (¬ (s.size ≤ 200 ∧ t.size ≤ 200) ∧ m = 0 ∧ x = 2) ∨ ((s.size ≤ 200 ∧ t.size ≤ 200) ∧ s = t ∧ m = 0 ∧ x = 0) ∨
    ((s.size ≤ 200 ∧ t.size ≤ 200) ∧ s ≠ t ∧ 40 < (Es.btw (lst s) (lst t)).s.size ∧ m = 0 ∧ x = 2) ∨ ((s.size ≤ 200 ∧ t.size ≤ 200) ∧ s ≠ t ∧ (Es.btw (lst s) (lst t)).s.size ≤ 40 ∧ m = 1 ∧ x = 0)
theorem ApIs.err {s t : ByteArray} {L : List Es.Ev} {x : Int} (h : ApIs s L t x) : x = Es.eErr (s.size : Int) L := by
  rcases h with ⟨_, h, _⟩ | ⟨rfl, G, q, h, _⟩
  · exact h
  · have := h.err
    rw [lst_len] at this
    exact this.symm
theorem ApIs.ok {s t : ByteArray} {L : List Es.Ev} {x : Int} {G : List Es.Sg} {q : List UInt8} (h : ApIs s L t x) (hs : Es.Scr (lst s) L G q) : x = 0 ∧ t = mkS (Es.dst G q) := by
  have he := hs.err
  rw [lst_len] at he
  rcases h with ⟨h1, h2, _⟩ | ⟨rfl, G', q', h, rfl⟩
  · exact absurd (h2.trans he) h1
  · exact ⟨rfl, by rw [← h.done, hs.done]⟩
theorem ApIs.val {s t : ByteArray} {L : List Es.Ev} {x : Int} (h : ApIs s L t x) (hx : x = 0) : ∃ G q, Es.Scr (lst s) L G q ∧ t = mkS (Es.dst G q) := by
  rcases h with ⟨h1, _⟩ | ⟨_, h⟩
  · exact absurd hx h1
  · exact h
theorem ApIs.none_ {s t : ByteArray} {L : List Es.Ev} {x : Int} (h : ApIs s L t x) (hx : x ≠ 0) : t = ByteArray.empty := by
  rcases h with ⟨_, _, h⟩ | ⟨h, _⟩
  · exact h
  · exact absurd h hx
/-- At a text and a script that are written out. -/
theorem ApIs.lit {s t : ByteArray} {L : List Es.Ev} {x : Int} (h : ApIs s L t x) (he : Es.eErr (s.size : Int) L = 0) : x = 0 ∧ t = mkS (Es.doneL (lst s) L) := by
  have h1 := h.err
  rw [he] at h1
  obtain ⟨G, q, h2, rfl⟩ := h.val h1
  exact ⟨h1, by rw [h2.done]⟩
theorem UnIs.ok {s : ByteArray} {L M : List Es.Ev} {x : Int} {G : List Es.Sg} {q : List UInt8} (h : UnIs s L M x) (hs : Es.Scr (lst s) L G q) (hf : Es.Few L) : x = 0 ∧ M = Es.evs 0 (G.map Es.swp) := by
  have he := hs.err
  rw [lst_len] at he
  rcases h with ⟨h1, h2, _⟩ | ⟨_, h2, _⟩ | ⟨rfl, G', q', h, _, rfl⟩
  · exact absurd (h2.trans he) h1
  · exact absurd hf h2
  · exact ⟨rfl, by rw [← h.und, hs.und]⟩
theorem UnIs.err {s : ByteArray} {L M : List Es.Ev} {x : Int} (h : UnIs s L M x) (he : Es.eErr (s.size : Int) L ≠ 0) : x = Es.eErr (s.size : Int) L ∧ M = [] := by
  rcases h with ⟨_, h2, h3⟩ | ⟨h1, _⟩ | ⟨rfl, G, q, h, _⟩
  · exact ⟨h2, h3⟩
  · exact absurd h1 he
  · have := h.err
    rw [lst_len] at this
    exact absurd this he
theorem UnIs.none_ {s : ByteArray} {L M : List Es.Ev} {x : Int} (h : UnIs s L M x) (hx : x ≠ 0) : M = [] := by
  rcases h with ⟨_, _, h⟩ | ⟨_, _, _, h⟩ | ⟨h, _⟩
  · exact h
  · exact h
  · exact absurd h hx
theorem UnIs.val {s : ByteArray} {L M : List Es.Ev} {x : Int} (h : UnIs s L M x) (hx : x = 0) : ∃ G q, Es.Scr (lst s) L G q ∧ Es.Few L ∧ M = Es.evs 0 (G.map Es.swp) := by
  rcases h with ⟨h1, _⟩ | ⟨_, _, h1, _⟩ | ⟨_, h⟩
  · exact absurd hx h1
  · rw [hx] at h1; exact absurd h1 (by decide)
  · exact h
/-- The edits of a good script can be held. -/
theorem scr_wf {s : ByteArray} {L : List Es.Ev} {G : List Es.Sg} {q : List UInt8} (h : Es.Scr (lst s) L G q) : ∀ k, k < L.length → EvWf (L.getD k Es.none_) := by
  intro k hk
  obtain ⟨h1, _, h3, h4, h5⟩ := Es.ch_at k h.ch hk
  have h6 := h.from_
  exact ⟨by omega, by omega, by omega, by omega, Nat.le_trans h5 (by decide)⟩
theorem scr_len {s : ByteArray} {L : List Es.Ev} {G : List Es.Sg} {q : List UInt8} (h : Es.Scr (lst s) L G q) : L.length ≤ 20 := by rw [h.len]; exact h.few
theorem wf_lit (x : Es.Ev) (h : -1000 ≤ x.a ∧ x.a ≤ 1000 ∧ -1000 ≤ x.d ∧ x.d ≤ 1000 ∧ x.s.size ≤ 1000) : EvWf x :=
  ⟨by omega, by omega, by omega, by omega, Nat.le_trans h.2.2.2.2 (by decide)⟩
end Go.Proofs.Ytapjodbaaejldaa


/-
A good script, edit by edit: what is used up of the text when its k-th edit comes. No program is named here.
-/
namespace Go.Proofs.Ytapjodbaaejldaa.Es

/-- When the k-th edit comes, P is used up. -/
structure St (s : List UInt8) (L : List Ev) (G : List Sg) (q : List UInt8) (k : Nat) (P : List UInt8) : Prop where
  s_ : s = P ++ src (G.drop k) q
  l_ : L.drop k = evs P.length (G.drop k)
theorem Scr.st {s : List UInt8} {L : List Ev} {G : List Sg} {q : List UInt8} (h : Scr s L G q) : St s L G q 0 [] :=
  ⟨by rw [List.nil_append, List.drop_zero, h.src_], by rw [List.drop_zero, List.drop_zero, List.length_nil, h.evs_]⟩
theorem St.next {s : List UInt8} {L : List Ev} {G : List Sg} {q : List UInt8} {k : Nat} {P : List UInt8} (h : St s L G q k P) (hk : k < G.length) :
    ∃ g, g ∈ G ∧ G.drop k = g :: G.drop (k + 1) ∧ L.getD k none_ = ⟨(P.length + g.p.length : Nat), (g.d.length : Nat), mkS g.i⟩ ∧ St s L G q (k + 1) (P ++ g.p ++ g.d) ∧
      (s.drop P.length).take g.p.length = g.p ∧ (s.drop (P.length + g.p.length)).take g.d.length = g.d ∧ P.length + g.p.length + g.d.length ≤ s.length := by
  have hG : G.drop k = G[k] :: G.drop (k + 1) := List.drop_eq_getElem_cons hk
  have h1 := h.s_
  have h2 := h.l_
  rw [hG] at h1 h2
  simp only [src, evs] at h1 h2
  have hl : k < L.length := by
    have : (L.drop k).length = L.length - k := List.length_drop
    rw [h2, List.length_cons] at this
    omega
  have hL : L.drop k = L[k] :: L.drop (k + 1) := List.drop_eq_getElem_cons hl
  rw [hL] at h2
  injection h2 with e1 e2
  refine ⟨G[k], List.getElem_mem hk, hG, ?_, ⟨?_, ?_⟩, ?_, ?_, ?_⟩
  · rw [List.getD_eq_getElem?_getD, List.getElem?_eq_getElem hl, Option.getD_some, e1]
  · rw [h1]; simp only [List.append_assoc]
  · rw [e2, List.length_append, List.length_append]
  · rw [h1, List.drop_left, List.take_left]
  · rw [h1, ← List.append_assoc, show P.length + G[k].p.length = (P ++ G[k].p).length by rw [List.length_append], List.drop_left, List.take_left]
  · have := congrArg List.length h1
    simp only [List.length_append] at this
    omega
theorem St.end_ {s : List UInt8} {L : List Ev} {G : List Sg} {q : List UInt8} {P : List UInt8} (h : St s L G q G.length P) : s.drop P.length = q := by
  have := h.s_
  rw [List.drop_length] at this
  rw [this]
  show (P ++ q).drop P.length = q
  rw [List.drop_left]
theorem dst_step (g : Sg) (G : List Sg) (q l : List UInt8) : l ++ dst (g :: G) q = (l ++ g.p ++ g.i) ++ dst G q := by
  simp only [dst, List.append_assoc]
/-- What is inserted into a good script is not too long. -/
theorem gd_mem : ∀ {f : Bool} {G : List Sg}, Gd f G → ∀ g, g ∈ G → g.i.length ≤ 40
  | _, [], _, g, hg => by simp at hg
  | _, x :: G, h, g, hg => by
    simp only [List.mem_cons] at hg
    rcases hg with rfl | hg
    · exact h.2.1
    · exact gd_mem h.2.2.2 g hg
/-- No edits: no error. -/
theorem err_nil {n : Int} (h0 : 0 ≤ n) (h : n ≤ 200) : eErr n [] = 0 := by
  unfold eErr
  rw [if_neg (by omega), if_neg (by simp), if_pos (by rfl), if_neg (by simp [gro]; omega)]
/-- A text of n bytes for which a script is good. -/
theorem scr_size {N : Int} {L : List Ev} (h : eErr N L = 0) : ∃ s : ByteArray, (s.size : Int) = N ∧ ∃ G q, Scr (lst s) L G q := by
  have hN : 0 ≤ N := by
    unfold eErr at h
    by_cases h1 : N < 0 ∨ 200 < N
    · rw [if_pos h1] at h; exact absurd h (by decide)
    · omega
  obtain ⟨n, rfl⟩ := Int.eq_ofNat_of_zero_le hN
  refine ⟨mkS (List.replicate n 0), by rw [mk_size, List.length_replicate], ?_⟩
  rw [lst_mk]
  exact scr_of (by rw [List.length_replicate]; exact h)
end Go.Proofs.Ytapjodbaaejldaa.Es

