
/-
What package merge answers, as words: mgErr (Check), BothIs (Both), BehIs (Behind). No program is named here.
-/
import Derived.Test.YtgkagigagcamoaaMgMath
namespace Go.Proofs.Ytgkagigagcamoaa

/-- What both of two good scripts is, and with which error. -/
def BoIs (N : Nat) (a b l : List Es.Ev) (x : Int) : Prop :=
  (Es.Cls a b ∧ l = [] ∧ x = 9) ∨ (¬ Es.Cls a b ∧ ∃ L, Es.IsBo a b L ∧ ((Es.eErr N L ≠ 0 ∧ x = Es.eErr N L ∧ l = []) ∨ (Es.eErr N L = 0 ∧ x = 0 ∧ l = L)))
def mgErr (N : Int) (a b : List Es.Ev) : Int := if Es.eErr N a = 0 then Es.eErr N b else Es.eErr N a
def BothIs (N : Int) (a b l : List Es.Ev) (x : Int) : Prop :=
  (mgErr N a b ≠ 0 ∧ x = mgErr N a b ∧ l = []) ∨ (mgErr N a b = 0 ∧ BoIs N.toNat a b l x)
def behV (a b : List Es.Ev) (x : Int) : List Es.Ev := if x = 0 then Es.behL a b else []
theorem beh_zero (a b : List Es.Ev) : behV a b 0 = Es.behL a b := if_pos rfl
theorem beh_none {a b : List Es.Ev} {x : Int} (h : x ≠ 0) : behV a b x = [] := if_neg h
def BehIs (N : Int) (a b l : List Es.Ev) (x : Int) : Prop := ∃ l0, BothIs N a b l0 x ∧ l = behV a b x
theorem err_nat {N : Int} {a : List Es.Ev} (h : Es.eErr N a = 0) : ∃ n : Nat, N = (n : Int) ∧ n ≤ 200 ∧ Es.eErr (n : Int) a = 0 := by
  have h0 : 0 ≤ N ∧ N ≤ 200 := by
    unfold Es.eErr at h
    by_cases c : N < 0 ∨ 200 < N
    · rw [if_pos c] at h; exact absurd h (by decide)
    · omega
  obtain ⟨n, rfl⟩ := Int.eq_ofNat_of_zero_le h0.1
  exact ⟨n, rfl, by omega, h⟩
theorem mg_zero {N : Int} {a b : List Es.Ev} : mgErr N a b = 0 ↔ Es.eErr N a = 0 ∧ Es.eErr N b = 0 := by
  unfold mgErr
  split
  · rename_i h; exact ⟨fun k => ⟨h, k⟩, fun k => k.2⟩
  · rename_i h; exact ⟨fun k => absurd k h, fun k => absurd k.1 h⟩
theorem mg_comm {N : Int} {a b : List Es.Ev} : mgErr N a b = 0 ↔ mgErr N b a = 0 := by rw [mg_zero, mg_zero, and_comm]
theorem BoIs.same {N : Nat} {a b l m : List Es.Ev} {x y : Int} (h : BoIs N a b l x) (k : BoIs N a b m y) : l = m ∧ x = y := by
  rcases h with ⟨h1, h2, h3⟩ | ⟨h1, L, h2, h3⟩ <;> rcases k with ⟨k1, k2, k3⟩ | ⟨k1, M, k2, k3⟩
  · exact ⟨h2.trans k2.symm, h3.trans k3.symm⟩
  · exact absurd h1 k1
  · exact absurd k1 h1
  · obtain rfl := h2.unique k2
    rcases h3 with ⟨a1, a2, a3⟩ | ⟨a1, a2, a3⟩ <;> rcases k3 with ⟨b1, b2, b3⟩ | ⟨b1, b2, b3⟩
    · exact ⟨a3.trans b3.symm, a2.trans b2.symm⟩
    · exact absurd b1 a1
    · exact absurd a1 b1
    · exact ⟨a3.trans b3.symm, a2.trans b2.symm⟩
theorem BoIs.symm {N : Nat} {a b l : List Es.Ev} {x : Int} (h : BoIs N a b l x) : BoIs N b a l x := by
  rcases h with ⟨h1, h2, h3⟩ | ⟨h1, L, h2, h3⟩
  · exact .inl ⟨h1.symm, h2, h3⟩
  · exact .inr ⟨fun c => h1 c.symm, L, h2.symm, h3⟩
theorem BoIs.none_ {N : Nat} {a b l : List Es.Ev} {x : Int} (h : BoIs N a b l x) (hx : x ≠ 0) : l = [] := by
  rcases h with ⟨_, h2, _⟩ | ⟨_, L, _, ⟨_, _, h3⟩ | ⟨_, h3, _⟩⟩
  · exact h2
  · exact h3
  · exact absurd h3 hx
theorem BoIs.zero {N : Nat} {a b l : List Es.Ev} {x : Int} (h : BoIs N a b l x) (hx : x = 0) : ¬ Es.Cls a b ∧ Es.IsBo a b l ∧ Es.eErr N l = 0 := by
  rcases h with ⟨_, _, h3⟩ | ⟨h1, L, h2, ⟨h3, h4, _⟩ | ⟨h3, _, h5⟩⟩
  · rw [hx] at h3; exact absurd h3 (by decide)
  · exact absurd (h4.symm.trans hx) h3
  · subst h5; exact ⟨h1, h2, h3⟩
theorem BothIs.none_ {N : Int} {a b l : List Es.Ev} {x : Int} (h : BothIs N a b l x) (hx : x ≠ 0) : l = [] := by
  rcases h with ⟨_, _, h⟩ | ⟨_, h⟩
  · exact h
  · exact h.none_ hx
theorem BothIs.err {N : Int} {a b l : List Es.Ev} {x : Int} (h : BothIs N a b l x) (he : mgErr N a b ≠ 0) : x = mgErr N a b ∧ l = [] := by
  rcases h with ⟨_, h2, h3⟩ | ⟨h1, _⟩
  · exact ⟨h2, h3⟩
  · exact absurd h1 he
theorem BothIs.ok {N : Int} {a b l : List Es.Ev} {x : Int} (h : BothIs N a b l x) (he : mgErr N a b = 0) : BoIs N.toNat a b l x := by
  rcases h with ⟨h1, _⟩ | ⟨_, h⟩
  · exact absurd he h1
  · exact h
theorem BothIs.good {N : Int} {a b l : List Es.Ev} {x : Int} (h : BothIs N a b l x) (hx : x = 0) : mgErr N a b = 0 := by
  rcases h with ⟨h1, h2, _⟩ | ⟨h, _⟩
  · exact absurd (h2.symm.trans hx) h1
  · exact h
theorem BothIs.same {N : Int} {a b l m : List Es.Ev} {x y : Int} (h : BothIs N a b l x) (k : BothIs N a b m y) : l = m ∧ x = y := by
  by_cases he : mgErr N a b = 0
  · exact (h.ok he).same (k.ok he)
  · have h1 := h.err he
    have k1 := k.err he
    exact ⟨h1.2.trans k1.2.symm, h1.1.trans k1.1.symm⟩
theorem BehIs.of {N : Int} {a b l l0 : List Es.Ev} {x y : Int} (h : BehIs N a b l x) (k : BothIs N a b l0 y) : x = y ∧ l = behV a b y := by
  obtain ⟨l1, h1, h2⟩ := h
  obtain rfl := (h1.same k).2
  exact ⟨rfl, h2⟩
/-- Both, given what it is. -/
theorem BothIs.is_ {N : Nat} {a b l L : List Es.Ev} {x : Int} (h : BothIs (N : Int) a b l x) (ha : Es.eErr (N : Int) a = 0) (hb : Es.eErr (N : Int) b = 0) (hc : ¬ Es.Cls a b) (hL : Es.IsBo a b L) (hE : Es.eErr (N : Int) L = 0) : l = L ∧ x = 0 := by
  have := (h.ok (mg_zero.2 ⟨ha, hb⟩)).same (m := L) (y := 0) (.inr ⟨hc, L, hL, .inr ⟨by rw [Int.toNat_natCast]; exact hE, rfl, rfl⟩⟩)
  exact this
end Go.Proofs.Ytgkagigagcamoaa
