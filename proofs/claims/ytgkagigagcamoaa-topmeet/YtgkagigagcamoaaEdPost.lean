
/-
What package edit answers, as words: ApIs (Apply), UnIs (Undo), PlIs (Place), OfIs (Of); small facts on them.
-/
import Derived.Test.YtgkagigagcamoaaEvRow
import Derived.Test.YtgkagigagcamoaaBtwMath
import Derived.Test.YtgkagigagcamoaaApp
namespace Go.Proofs.Ytgkagigagcamoaa
open Go.RowKit

def ApIs (s : ByteArray) (L : List Es.Ev) (t : ByteArray) (x : Int) : Prop :=
  (x ≠ 0 ∧ x = Es.eErr (s.size : Int) L ∧ t = ByteArray.empty) ∨ (x = 0 ∧ ∃ G q, Es.Scr (lst s) L G q ∧ t = mkS (Es.dst G q))
def UnIs (s : ByteArray) (L M : List Es.Ev) (x : Int) : Prop :=
  (x ≠ 0 ∧ x = Es.eErr (s.size : Int) L ∧ M = []) ∨ (Es.eErr (s.size : Int) L = 0 ∧ ¬ Es.Few L ∧ x = 2 ∧ M = []) ∨ (x = 0 ∧ ∃ G q, Es.Scr (lst s) L G q ∧ Es.Few L ∧ M = Es.evs 0 (G.map Es.swp))
def PlIs (N : Int) (L : List Es.Ev) (t v : Int) (b : Bool) (x : Int) : Prop :=
  (x ≠ 0 ∧ x = Es.eErr N L ∧ v = 0 ∧ b = false) ∨ (Es.eErr N L = 0 ∧ (t < 0 ∨ N < t) ∧ x = 1 ∧ v = 0 ∧ b = false) ∨ (Es.eErr N L = 0 ∧ 0 ≤ t ∧ t ≤ N ∧ x = 0 ∧ v = (Es.plc t 0 L).1 ∧ b = (Es.plc t 0 L).2)
def OfIs (s t : ByteArray) (m : Nat) (x : Int) : Prop :=
  (¬ (s.size ≤ 200 ∧ t.size ≤ 200) ∧ m = 0 ∧ x = 2) ∨ ((s.size ≤ 200 ∧ t.size ≤ 200) ∧ s = t ∧ m = 0 ∧ x = 0) ∨
    ((s.size ≤ 200 ∧ t.size ≤ 200) ∧ s ≠ t ∧ 40 < (Es.btw (lst s) (lst t)).s.size ∧ m = 0 ∧ x = 2) ∨ ((s.size ≤ 200 ∧ t.size ≤ 200) ∧ s ≠ t ∧ (Es.btw (lst s) (lst t)).s.size ≤ 40 ∧ m = 1 ∧ x = 0)
theorem ApIs.err {s t : ByteArray} {L : List Es.Ev} {x : Int} (h : ApIs s L t x) : x = Es.eErr (s.size : Int) L := by
  rcases h with ⟨_, h, _⟩ | ⟨rfl, G, q, h, _⟩
  · exact h
  · have := h.err
    rw [lst_len] at this
    exact this.symm
theorem ApIs.ok {s t : ByteArray} {L : List Es.Ev} {x : Int} {G : List Es.Sg} {q : List UInt8} (h : ApIs s L t x) (hs : Es.Scr (lst s) L G q) : x = 0 ∧ t = mkS (Es.dst G q) := by
  have he := hs.err
  rw [lst_len] at he
  rcases h with ⟨h1, h2, _⟩ | ⟨rfl, G', q', h, rfl⟩
  · exact absurd (h2.trans he) h1
  · exact ⟨rfl, by rw [← h.done, hs.done]⟩
theorem ApIs.val {s t : ByteArray} {L : List Es.Ev} {x : Int} (h : ApIs s L t x) (hx : x = 0) : ∃ G q, Es.Scr (lst s) L G q ∧ t = mkS (Es.dst G q) := by
  rcases h with ⟨h1, _⟩ | ⟨_, h⟩
  · exact absurd hx h1
  · exact h
theorem ApIs.none_ {s t : ByteArray} {L : List Es.Ev} {x : Int} (h : ApIs s L t x) (hx : x ≠ 0) : t = ByteArray.empty := by
  rcases h with ⟨_, _, h⟩ | ⟨h, _⟩
  · exact h
  · exact absurd h hx
/-- At a text and a script that are written out. -/
theorem ApIs.lit {s t : ByteArray} {L : List Es.Ev} {x : Int} (h : ApIs s L t x) (he : Es.eErr (s.size : Int) L = 0) : x = 0 ∧ t = mkS (Es.doneL (lst s) L) := by
  have h1 := h.err
  rw [he] at h1
  obtain ⟨G, q, h2, rfl⟩ := h.val h1
  exact ⟨h1, by rw [h2.done]⟩
theorem UnIs.ok {s : ByteArray} {L M : List Es.Ev} {x : Int} {G : List Es.Sg} {q : List UInt8} (h : UnIs s L M x) (hs : Es.Scr (lst s) L G q) (hf : Es.Few L) : x = 0 ∧ M = Es.evs 0 (G.map Es.swp) := by
  have he := hs.err
  rw [lst_len] at he
  rcases h with ⟨h1, h2, _⟩ | ⟨_, h2, _⟩ | ⟨rfl, G', q', h, _, rfl⟩
  · exact absurd (h2.trans he) h1
  · exact absurd hf h2
  · exact ⟨rfl, by rw [← h.und, hs.und]⟩
theorem UnIs.err {s : ByteArray} {L M : List Es.Ev} {x : Int} (h : UnIs s L M x) (he : Es.eErr (s.size : Int) L ≠ 0) : x = Es.eErr (s.size : Int) L ∧ M = [] := by
  rcases h with ⟨_, h2, h3⟩ | ⟨h1, _⟩ | ⟨rfl, G, q, h, _⟩
  · exact ⟨h2, h3⟩
  · exact absurd h1 he
  · have := h.err
    rw [lst_len] at this
    exact absurd this he
theorem UnIs.none_ {s : ByteArray} {L M : List Es.Ev} {x : Int} (h : UnIs s L M x) (hx : x ≠ 0) : M = [] := by
  rcases h with ⟨_, _, h⟩ | ⟨_, _, _, h⟩ | ⟨h, _⟩
  · exact h
  · exact h
  · exact absurd h hx
theorem UnIs.val {s : ByteArray} {L M : List Es.Ev} {x : Int} (h : UnIs s L M x) (hx : x = 0) : ∃ G q, Es.Scr (lst s) L G q ∧ Es.Few L ∧ M = Es.evs 0 (G.map Es.swp) := by
  rcases h with ⟨h1, _⟩ | ⟨_, _, h1, _⟩ | ⟨_, h⟩
  · exact absurd hx h1
  · rw [hx] at h1; exact absurd h1 (by decide)
  · exact h
/-- The edits of a good script can be held. -/
theorem scr_wf {s : ByteArray} {L : List Es.Ev} {G : List Es.Sg} {q : List UInt8} (h : Es.Scr (lst s) L G q) : ∀ k, k < L.length → EvWf (L.getD k Es.none_) := by
  intro k hk
  obtain ⟨h1, _, h3, h4, h5⟩ := Es.ch_at k h.ch hk
  have h6 := h.from_
  exact ⟨by omega, by omega, by omega, by omega, Nat.le_trans h5 (by decide)⟩
theorem scr_len {s : ByteArray} {L : List Es.Ev} {G : List Es.Sg} {q : List UInt8} (h : Es.Scr (lst s) L G q) : L.length ≤ 20 := by rw [h.len]; exact h.few
theorem wf_lit (x : Es.Ev) (h : -1000 ≤ x.a ∧ x.a ≤ 1000 ∧ -1000 ≤ x.d ∧ x.d ≤ 1000 ∧ x.s.size ≤ 1000) : EvWf x :=
  ⟨by omega, by omega, by omega, by omega, Nat.le_trans h.2.2.2.2 (by decide)⟩
end Go.Proofs.Ytgkagigagcamoaa
