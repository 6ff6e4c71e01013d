/-
Plain mathematics of sorting numbers in place: what an unstable sort by partition leaves, heaps. No program is named here.
-/
import Derived.Test.YtljpjjokfkbdcaaStabMath
import Derived.Test.YtljpjjokfkbdcaaTurnMath
namespace Go.Proofs.Ytljpjjokfkbdcaa
namespace Bs
open St

/-- h holds in [a, b) what g holds there, in some order; elsewhere it is g. -/
def PB (a b : Nat) (g h : Nat → Nat) : Prop := ∃ p, PI a b id p ∧ ∀ k, h k = g (p k)
theorem PB.refl (a b : Nat) (g : Nat → Nat) : PB a b g g := ⟨id, PI.refl _ _ _, fun _ => rfl⟩
theorem PB.trans {a b : Nat} {g h i : Nat → Nat} (x : PB a b g h) (y : PB a b h i) : PB a b g i := by
  obtain ⟨p, hp, ep⟩ := x
  obtain ⟨q, hq, eq⟩ := y
  refine ⟨fun k => p (q k), ⟨fun k hk => ?_, fun k h1 h2 => ?_, fun _ u v e => ?_⟩, fun k => by rw [eq k, ep]⟩
  · show p (q k) = k
    rw [hq.out k hk, id, hp.out k hk, id]
  · obtain ⟨j, j1, j2, e⟩ := hq.ins k h1 h2
    obtain ⟨l, l1, l2, e2⟩ := hp.ins j j1 j2
    exact ⟨l, l1, l2, by show p (q k) = l; rw [e, id, e2, id]⟩
  · exact hq.inj (fun _ _ e => e) u v (hp.inj (fun _ _ e => e) _ _ e)
theorem PB.mono {a b c d : Nat} {g h : Nat → Nat} (x : PB a b g h) (h1 : c ≤ a) (h2 : b ≤ d) : PB c d g h := by
  obtain ⟨p, hp, ep⟩ := x
  exact ⟨p, hp.mono h1 h2, ep⟩
theorem PB.sw {a b i j : Nat} (g : Nat → Nat) (h1 : a ≤ i) (h2 : i < b) (h3 : a ≤ j) (h4 : j < b) : PB a b g (fun x => g (swI i j x)) := ⟨swI i j, PI.sw id h1 h2 h3 h4, fun _ => rfl⟩
theorem PB.out {a b : Nat} {g h : Nat → Nat} (x : PB a b g h) {k : Nat} (hk : k < a ∨ b ≤ k) : h k = g k := by
  obtain ⟨p, hp, ep⟩ := x
  rw [ep k, hp.out k hk, id]
theorem PB.ins {a b : Nat} {g h : Nat → Nat} (x : PB a b g h) {k : Nat} (h1 : a ≤ k) (h2 : k < b) : ∃ j, a ≤ j ∧ j < b ∧ h k = g j := by
  obtain ⟨p, hp, ep⟩ := x
  obtain ⟨j, j1, j2, e⟩ := hp.ins k h1 h2
  exact ⟨j, j1, j2, by rw [ep k, e, id]⟩
theorem PB.cnt {n : Nat} {g h : Nat → Nat} (x : PB 0 n g h) (P : Nat → Bool) : Tm.cnt (fun k => P (h k)) n = Tm.cnt (fun k => P (g k)) n := by
  obtain ⟨p, hp, ep⟩ := x
  have hb : Tm.Bij n p := ⟨fun k hk => by obtain ⟨j, _, j2, e⟩ := hp.ins k (Nat.zero_le _) hk; rw [e, id]; exact j2, fun i j _ _ e => hp.inj (fun _ _ e => e) i j e⟩
  rw [← hb.cnt (fun k => P (g k))]
  exact Tm.cnt_congr fun k _ => by rw [ep k]
def Sb (a b : Nat) (h : Nat → Nat) : Prop := ∀ i j, a ≤ i → i < j → j < b → h i ≤ h j
/-- Sorted but for the pairs inside [c, d). -/
def Md (a b c d : Nat) (h : Nat → Nat) : Prop := ∀ i j, a ≤ i → i < j → j < b → (i < c ∨ d ≤ j) → h i ≤ h j
/-- What stands before a is not greater. -/
def Lo (a b : Nat) (h : Nat → Nat) : Prop := 0 < a → ∀ k, a ≤ k → k < b → h (a - 1) ≤ h k
theorem Md.start (a b : Nat) (h : Nat → Nat) : Md a b a b h := fun i j h1 h2 h3 h4 => by omega
theorem Md.pb {a b c d : Nat} {g h : Nat → Nat} (m : Md a b c d g) (x : PB c d g h) (h1 : a ≤ c) (h2 : d ≤ b) : Md a b c d h := by
  intro i j i1 i2 i3 i4
  by_cases hi : c ≤ i ∧ i < d
  · obtain ⟨k, k1, k2, e⟩ := x.ins hi.1 hi.2
    rw [e, x.out (k := j) (by omega)]
    exact m k j (by omega) (by omega) i3 (by omega)
  · rw [x.out (k := i) (by omega)]
    by_cases hj : c ≤ j ∧ j < d
    · obtain ⟨k, k1, k2, e⟩ := x.ins hj.1 hj.2
      rw [e]
      exact m i k i1 (by omega) (by omega) (by omega)
    · rw [x.out (k := j) (by omega)]
      exact m i j i1 i2 i3 i4
theorem Md.done {a b c d : Nat} {h : Nat → Nat} (m : Md a b c d h) (s : Sb c d h) : Sb a b h := fun i j i1 i2 i3 => by
  by_cases hc : i < c ∨ d ≤ j
  · exact m i j i1 i2 i3 hc
  · exact s i j (by omega) i2 (by omega)
theorem Lo.pb {a b : Nat} {g h : Nat → Nat} (l : Lo a b g) (x : PB a b g h) : Lo a b h := fun h0 k k1 k2 => by
  obtain ⟨j, j1, j2, e⟩ := x.ins k1 k2
  rw [e, x.out (k := a - 1) (by omega)]
  exact l h0 j j1 j2
/-- The low side of what is left. -/
theorem Md.lo {a b c d : Nat} {h : Nat → Nat} (m : Md a b c d h) (l : Lo a b h) (h1 : a ≤ c) (h2 : d ≤ b) : Lo c d h := fun h0 k k1 k2 => by
  by_cases hc : c = a
  · subst hc; exact l h0 k k1 (by omega)
  · exact m (c - 1) k (by omega) (by omega) (by omega) (by omega)
/-- Behind partitionEqual. -/
theorem Md.equal {a b c d m p : Nat} {h : Nat → Nat} (x : Md a b c d h) (hp : ∀ k, c ≤ k → k < d → p ≤ h k) (hl : ∀ k, c ≤ k → k < m → h k ≤ p) : Md a b m d h := by
  intro i j i1 i2 i3 i4
  by_cases hc : i < c ∨ d ≤ j
  · exact x i j i1 i2 i3 hc
  · have h5 := hl i (by omega) (by omega)
    have h6 := hp j (by omega) (by omega)
    omega
/-- Behind partition: the pivot at m. -/
structure Cut (c d m : Nat) (h : Nat → Nat) : Prop where
  cm : c ≤ m
  md : m < d
  lt : ∀ k, c ≤ k → k < m → h k ≤ h m
  ge : ∀ k, m < k → k < d → h m ≤ h k
theorem Cut.left {c d m : Nat} {g h : Nat → Nat} (x : Cut c d m g) (p : PB c m g h) : Cut c d m h := by
  refine ⟨x.cm, x.md, fun k k1 k2 => ?_, fun k k1 k2 => ?_⟩
  · obtain ⟨j, j1, j2, e⟩ := p.ins k1 k2
    rw [e, p.out (k := m) (by omega)]
    exact x.lt j j1 j2
  · rw [p.out (k := m) (by omega), p.out (k := k) (by omega)]
    exact x.ge k k1 k2
theorem Cut.right {c d m : Nat} {g h : Nat → Nat} (x : Cut c d m g) (p : PB (m + 1) d g h) : Cut c d m h := by
  refine ⟨x.cm, x.md, fun k k1 k2 => ?_, fun k k1 k2 => ?_⟩
  · rw [p.out (k := m) (by omega), p.out (k := k) (by omega)]
    exact x.lt k k1 k2
  · obtain ⟨j, j1, j2, e⟩ := p.ins (show m + 1 ≤ k by omega) k2
    rw [e, p.out (k := m) (by omega)]
    exact x.ge j (by omega) j2
theorem Md.cutl {a b c d m : Nat} {h : Nat → Nat} (x : Md a b c d h) (k : Cut c d m h) (s : Sb c m h) : Md a b (m + 1) d h := by
  intro i j i1 i2 i3 i4
  by_cases hc : i < c ∨ d ≤ j
  · exact x i j i1 i2 i3 hc
  · by_cases hj : j < m
    · exact s i j (by omega) i2 hj
    · by_cases hi : i < m
      · have h1 := k.lt i (by omega) hi
        by_cases hjm : j = m
        · rw [hjm]; exact h1
        · have h2 := k.ge j (by omega) (by omega)
          omega
      · have : i = m := by omega
        subst this
        exact k.ge j (by omega) (by omega)
theorem Md.cutr {a b c d m : Nat} {h : Nat → Nat} (x : Md a b c d h) (k : Cut c d m h) (s : Sb (m + 1) d h) : Md a b c m h := by
  intro i j i1 i2 i3 i4
  by_cases hc : i < c ∨ d ≤ j
  · exact x i j i1 i2 i3 hc
  · by_cases hi : m < i
    · exact s i j (by omega) i2 (by omega)
    · by_cases hjm : j = m
      · rw [hjm]; exact k.lt i (by omega) (by omega)
      · have h2 := k.ge j (by omega) (by omega)
        by_cases him : i = m
        · rw [him]; exact h2
        · have h1 := k.lt i (by omega) (by omega)
          omega
theorem Cut.lo {c d m : Nat} {h : Nat → Nat} (k : Cut c d m h) : Lo (m + 1) d h := fun _ j j1 j2 => by
  rw [Nat.add_sub_cancel]; exact k.ge j (by omega) j2
theorem Lo.left {c d m : Nat} {h : Nat → Nat} (l : Lo c d h) (hm : m ≤ d) : Lo c m h := fun h0 k k1 k2 => l h0 k k1 (by omega)

/-- Insertion under way at j. -/
def Ib (a i j : Nat) (h : Nat → Nat) : Prop := ∀ x y, a ≤ x → x < y → y ≤ i → y ≠ j → h x ≤ h y
theorem Ib.start {a i : Nat} {h : Nat → Nat} (s : Sb a i h) : Ib a i i h := fun x y h1 h2 h3 h4 => s x y h1 h2 (by omega)
theorem Ib.step {a i j : Nat} {h : Nat → Nat} (p : Ib a i (j + 1) h) (hj : a ≤ j) (hji : j + 1 ≤ i) (hl : h (j + 1) < h j) : Ib a i j (fun x => h (swI (j + 1) j x)) := by
  have e0 : ∀ x, x ≠ j → x ≠ j + 1 → swI (j + 1) j x = x := fun x h1 h2 => by have := swI_spec (j + 1) j x; omega
  have e1 : swI (j + 1) j j = j + 1 := by have := swI_spec (j + 1) j j; omega
  have e2 : swI (j + 1) j (j + 1) = j := by have := swI_spec (j + 1) j (j + 1); omega
  intro x y h1 h2 h3 h4
  show h (swI (j + 1) j x) ≤ h (swI (j + 1) j y)
  by_cases hx : x = j
  · subst hx
    rw [e1]
    by_cases hy : y = x + 1
    · subst hy; rw [e2]; omega
    · rw [e0 y (by omega) hy]
      exact p (x + 1) y (by omega) (by omega) h3 hy
  · by_cases hx1 : x = j + 1
    · subst hx1
      rw [e2, e0 y (by omega) (by omega)]
      exact p j y hj (by omega) h3 (by omega)
    · rw [e0 x hx hx1]
      by_cases hy : y = j + 1
      · subst hy; rw [e2]
        exact p x j h1 (by omega) (by omega) (by omega)
      · rw [e0 y h4 hy]
        exact p x y h1 h2 h3 hy
theorem Ib.low {a i : Nat} {h : Nat → Nat} (p : Ib a i a h) : Sb a (i + 1) h := fun x y h1 h2 h3 => p x y h1 h2 (by omega) (by omega)
theorem Ib.done {a i j : Nat} {h : Nat → Nat} (p : Ib a i (j + 1) h) (hj : a ≤ j) (hji : j + 1 ≤ i) (hl : ¬ h (j + 1) < h j) : Sb a (i + 1) h := by
  intro x y h1 h2 h3
  by_cases hy : y = j + 1
  · subst hy
    by_cases hx : x = j
    · subst hx; omega
    · have := p x j h1 (by omega) (by omega) (by omega)
      omega
  · exact p x y h1 h2 (by omega) hy

/-- The children of every k from lo on, but for r, are not greater. -/
def Hp (f lo hi : Nat) (h : Nat → Nat) : Prop := ∀ k c, lo ≤ k → c < hi → (c = 2 * k + 1 ∨ c = 2 * k + 2) → h (f + c) ≤ h (f + k)
structure Hq (f lo hi r : Nat) (h : Nat → Nat) : Prop where
  rest : ∀ k c, lo ≤ k → k ≠ r → c < hi → (c = 2 * k + 1 ∨ c = 2 * k + 2) → h (f + c) ≤ h (f + k)
  up : ∀ k c, lo ≤ k → (r = 2 * k + 1 ∨ r = 2 * k + 2) → c < hi → (c = 2 * r + 1 ∨ c = 2 * r + 2) → h (f + c) ≤ h (f + k)
  lo : lo ≤ r
theorem Hq.start {f lo hi : Nat} {h : Nat → Nat} (p : Hp f (lo + 1) hi h) : Hq f lo hi lo h :=
  ⟨fun k c h1 h2 h3 h4 => p k c (by omega) h3 h4, fun k c h1 h2 h3 h4 => by omega, Nat.le_refl _⟩
theorem Hq.leaf {f lo hi r : Nat} {h : Nat → Nat} (p : Hq f lo hi r h) (hc : hi ≤ 2 * r + 1) : Hp f lo hi h := fun k c h1 h2 h3 => by
  by_cases hk : k = r
  · subst hk; omega
  · exact p.rest k c h1 hk h2 h3
theorem Hq.stop {f lo hi r c0 : Nat} {h : Nat → Nat} (p : Hq f lo hi r h) (hmax : ∀ c, c < hi → (c = 2 * r + 1 ∨ c = 2 * r + 2) → h (f + c) ≤ h (f + c0)) (hn : ¬ h (f + r) < h (f + c0)) : Hp f lo hi h := fun k c h1 h2 h3 => by
  by_cases hk : k = r
  · subst hk
    have := hmax c h2 h3
    omega
  · exact p.rest k c h1 hk h2 h3
theorem Hq.step {f lo hi r c0 : Nat} {h : Nat → Nat} (p : Hq f lo hi r h) (hc0 : c0 < hi) (hcr : c0 = 2 * r + 1 ∨ c0 = 2 * r + 2) (hmax : ∀ c, c < hi → (c = 2 * r + 1 ∨ c = 2 * r + 2) → h (f + c) ≤ h (f + c0)) (hn : h (f + r) < h (f + c0)) :
    Hq f lo hi c0 (fun x => h (swI (f + r) (f + c0) x)) := by
  have hlo := p.lo
  have e0 : ∀ x, x ≠ r → x ≠ c0 → swI (f + r) (f + c0) (f + x) = f + x := fun x h1 h2 => by have := swI_spec (f + r) (f + c0) (f + x); omega
  have e1 : swI (f + r) (f + c0) (f + r) = f + c0 := by have := swI_spec (f + r) (f + c0) (f + r); omega
  have e2 : swI (f + r) (f + c0) (f + c0) = f + r := by have := swI_spec (f + r) (f + c0) (f + c0); omega
  refine ⟨fun k c h1 h2 h3 h4 => ?_, fun k c h1 h2 h3 h4 => ?_, by omega⟩
  · show h (swI (f + r) (f + c0) (f + c)) ≤ h (swI (f + r) (f + c0) (f + k))
    by_cases hk : k = r
    · subst hk
      rw [e1]
      by_cases hc : c = c0
      · rw [hc, e2]; omega
      · rw [e0 c (by omega) hc]; exact hmax c h3 h4
    · rw [e0 k hk h2]
      by_cases hc : c = r
      · subst hc
        rw [e1]
        exact p.up k c0 h1 h4 hc0 hcr
      · by_cases hc2 : c = c0
        · exfalso; omega
        · rw [e0 c hc hc2]; exact p.rest k c h1 hk h3 h4
  · show h (swI (f + r) (f + c0) (f + c)) ≤ h (swI (f + r) (f + c0) (f + k))
    have hk : k = r := by omega
    subst hk
    rw [e1, e0 c (by omega) (by omega)]
    exact p.rest c0 c (by omega) (by omega) h3 h4
theorem Hp.top {f hi : Nat} {h : Nat → Nat} (p : Hp f 0 hi h) : ∀ k, k < hi → h (f + k) ≤ h f := by
  intro k
  induction k using Nat.strongRecOn with
  | _ k ih =>
    intro hk
    by_cases h0 : k = 0
    · subst h0; exact Nat.le_refl _
    · have h1 := p ((k - 1) / 2) k (Nat.zero_le _) hk (by omega)
      have h2 := ih ((k - 1) / 2) (by omega) (by omega)
      omega
theorem Hp.none_ {f lo hi : Nat} (h : Nat → Nat) (hl : hi ≤ 2 * lo + 1) : Hp f lo hi h := fun k c h1 h2 h3 => by omega
/-- The second phase: [f + i, f + n) is sorted and not less than what stands before. -/
structure Hs (f n i : Nat) (h : Nat → Nat) : Prop where
  heap : Hp f 0 i h
  srt : ∀ x y, x < y → y < n → i ≤ y → h (f + x) ≤ h (f + y)
  le : i ≤ n
theorem Hs.start {f n : Nat} {h : Nat → Nat} (p : Hp f 0 n h) : Hs f n n h := ⟨p, fun x y _ h2 h3 => by omega, Nat.le_refl _⟩
theorem Hs.swapped {f n i : Nat} {h : Nat → Nat} (p : Hs f n (i + 1) h) : Hp f 1 i (fun x => h (swI f (f + i) x)) ∧ ∀ x y, x < y → y < n → i ≤ y → h (swI f (f + i) (f + x)) ≤ h (swI f (f + i) (f + y)) := by
  have hle := p.le
  have e0 : ∀ x, x ≠ 0 → x ≠ i → swI f (f + i) (f + x) = f + x := fun x h1 h2 => by have := swI_spec f (f + i) (f + x); omega
  have e1 : swI f (f + i) (f + i) = f := by have := swI_spec f (f + i) (f + i); omega
  have e2 : swI f (f + i) (f + 0) = f + i := by have := swI_spec f (f + i) (f + 0); omega
  refine ⟨fun k c h1 h2 h3 => ?_, fun x y h1 h2 h3 => ?_⟩
  · show h (swI f (f + i) (f + c)) ≤ h (swI f (f + i) (f + k))
    rw [e0 c (by omega) (by omega), e0 k (by omega) (by omega)]
    exact p.heap k c (Nat.zero_le _) (by omega) h3
  · by_cases hy : y = i
    · subst hy
      rw [e1]
      by_cases hx : x = 0
      · subst hx; rw [e2]; exact p.heap.top y (by omega)
      · rw [e0 x hx (by omega)]; exact p.heap.top x (by omega)
    · rw [e0 y (by omega) hy]
      by_cases hx : x = 0
      · subst hx
        rw [e2]
        exact p.srt i y (by omega) h2 (by omega)
      · by_cases hxi : x = i
        · subst hxi
          rw [e1]
          exact p.srt 0 y (by omega) h2 (by omega)
        · rw [e0 x hx hxi]
          exact p.srt x y h1 h2 (by omega)
theorem Hs.next {f n i : Nat} {g h : Nat → Nat} (hs : ∀ x y, x < y → y < n → i ≤ y → g (f + x) ≤ g (f + y)) (q : PB f (f + i) g h) (hp : Hp f 0 i h) (hn : i ≤ n) : Hs f n i h := by
  refine ⟨hp, fun x y h1 h2 h3 => ?_, hn⟩
  rw [q.out (k := f + y) (by omega)]
  by_cases hx : x < i
  · obtain ⟨j, j1, j2, e⟩ := q.ins (k := f + x) (by omega) (by omega)
    rw [e]
    have := hs (j - f) y (by omega) h2 h3
    rw [show f + (j - f) = j by omega] at this
    exact this
  · rw [q.out (k := f + x) (by omega)]
    exact hs x y h1 h2 h3
theorem Hs.done {f n : Nat} {h : Nat → Nat} (p : Hs f n 0 h) : Sb f (f + n) h := fun i j h1 h2 h3 => by
  have := p.srt (i - f) (j - f) (by omega) (by omega) (by omega)
  rw [show f + (i - f) = i by omega, show f + (j - f) = j by omega] at this
  exact this
end Bs
end Go.Proofs.Ytljpjjokfkbdcaa
