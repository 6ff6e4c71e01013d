
/-
Plain mathematics on palindromes: how far one reaches round a middle, the first of the longest ones, the unlike ones in a word and in a longer one. No program is named here.
-/
import Derived.Test.YtapjodbaaejldaaUnMath
namespace Go.Proofs.Ytapjodbaaejldaa
namespace Mm

/-- From a up to b the bytes read the same from behind. -/
def Pal (f : Nat → UInt8) (a b : Nat) : Prop := ∀ i, a ≤ i → i < b → f i = f (a + b - 1 - i)
theorem Pal.none_ (f : Nat → UInt8) (a : Nat) : Pal f a a := fun i h1 h2 => by omega
theorem Pal.one (f : Nat → UInt8) (a : Nat) : Pal f a (a + 1) := fun i h1 h2 => by rw [show a + (a + 1) - 1 - i = i by omega]
theorem Pal.more {f : Nat → UInt8} {a b : Nat} (h : Pal f (a + 1) b) (hb : a + 1 ≤ b) (e : f a = f b) : Pal f a (b + 1) := by
  intro i h1 h2
  by_cases ha : i = a
  · subst ha
    rw [show i + (b + 1) - 1 - i = b by omega]; exact e
  · by_cases hi : i = b
    · subst hi
      rw [show a + (i + 1) - 1 - i = a by omega]; exact e.symm
    · have := h i (by omega) (by omega)
      rw [show a + 1 + b - 1 - i = a + (b + 1) - 1 - i by omega] at this
      exact this
theorem Pal.inner {f : Nat → UInt8} {a b a' b' : Nat} (h : Pal f a b) (h1 : a ≤ a') (h2 : a' + b' = a + b) : Pal f a' b' := by
  intro i h3 h4
  have := h i (by omega) (by omega)
  rw [show a + b - 1 - i = a' + b' - 1 - i by omega] at this
  exact this
theorem Pal.congr {f g : Nat → UInt8} {a b : Nat} (h : Pal f a b) (e : ∀ i, i < b → f i = g i) : Pal g a b := by
  intro i h1 h2
  rw [← e i h2, ← e (a + b - 1 - i) (by omega)]
  exact h i h1 h2
/-- How long the palindrome gets that is widened from a, b. -/
def rc (f : Nat → UInt8) (N : Nat) : Nat → Nat → Nat
  | 0, b => b
  | a + 1, b => if b < N ∧ f a = f b then rc f N a (b + 1) else b - (a + 1)
theorem rc_spec {f : Nat → UInt8} {N : Nat} : ∀ (a b : Nat), a ≤ b → b ≤ N → Pal f a b → ∃ a' b', a' + b' = a + b ∧ a' ≤ b' ∧ b' ≤ N ∧ rc f N a b = b' - a' ∧ Pal f a' b' ∧ (a' = 0 ∨ b' = N ∨ f (a' - 1) ≠ f b')
  | 0, b, h1, h2, h3 => ⟨0, b, rfl, h1, h2, rfl, h3, .inl rfl⟩
  | a + 1, b, h1, h2, h3 => by
    unfold rc
    by_cases hc : b < N ∧ f a = f b
    · rw [if_pos hc]
      obtain ⟨a', b', h4, h5⟩ := rc_spec (N := N) a (b + 1) (by omega) (by omega) (h3.more h1 hc.2)
      exact ⟨a', b', by omega, h5⟩
    · rw [if_neg hc]
      refine ⟨a + 1, b, rfl, h1, h2, rfl, h3, .inr ?_⟩
      by_cases hb : b = N
      · exact .inl hb
      · exact .inr fun e => hc ⟨by omega, e⟩
def arm (f : Nat → UInt8) (N c : Nat) : Nat := rc f N (c / 2) ((c + 1) / 2)
theorem arm_is (f : Nat → UInt8) {N c : Nat} (hc : c ≤ 2 * N) : ∃ a b, a + b = c ∧ a ≤ b ∧ b ≤ N ∧ arm f N c = b - a ∧ Pal f a b ∧ (a = 0 ∨ b = N ∨ f (a - 1) ≠ f b) := by
  have hp : Pal f (c / 2) ((c + 1) / 2) := by
    rcases Nat.lt_or_ge (c / 2) ((c + 1) / 2) with h | h
    · rw [show (c + 1) / 2 = c / 2 + 1 by omega]; exact Pal.one f _
    · rw [show (c + 1) / 2 = c / 2 by omega]; exact Pal.none_ f _
  obtain ⟨a, b, h1, h2⟩ := rc_spec (N := N) (c / 2) ((c + 1) / 2) (by omega) (by omega) hp
  exact ⟨a, b, by omega, h2⟩
theorem arm_max {f : Nat → UInt8} {N a b : Nat} (h : Pal f a b) (hab : a ≤ b) (hb : b ≤ N) : b - a ≤ arm f N (a + b) := by
  obtain ⟨a', b', h1, h2, h3, h4, h5, h6⟩ := arm_is f (N := N) (c := a + b) (by omega)
  rcases Nat.lt_or_ge (b' - a') (b - a) with hlt | hge
  · exfalso
    have := h (a' - 1) (by omega) (by omega)
    rw [show a + b - 1 - (a' - 1) = b' by omega] at this
    rcases h6 with h6 | h6 | h6
    · omega
    · omega
    · exact h6 this
  · omega
theorem arm_le {f : Nat → UInt8} {N c : Nat} (hc : c ≤ 2 * N) : arm f N c ≤ c ∧ arm f N c + c ≤ 2 * N ∧ (arm f N c + c) % 2 = 0 := by
  obtain ⟨a, b, h1, h2, h3, h4, _⟩ := arm_is f hc
  omega
theorem arm_pal {f : Nat → UInt8} {N c n : Nat} (hc : c ≤ 2 * N) (hn : n ≤ arm f N c) (hp : (n + c) % 2 = 0) : Pal f ((c - n) / 2) ((c + n) / 2) := by
  obtain ⟨a, b, h1, h2, h3, h4, h5, _⟩ := arm_is f hc
  exact h5.inner (by omega) (by omega)
theorem arm_end {f : Nat → UInt8} {N c : Nat} (hc : c ≤ 2 * N) : c = arm f N c ∨ arm f N c + c = 2 * N ∨ f ((c - arm f N c) / 2 - 1) ≠ f ((c + arm f N c) / 2) := by
  obtain ⟨a, b, h1, h2, h3, h4, h5, h6⟩ := arm_is f hc
  rw [h4]
  rcases h6 with h6 | h6 | h6
  · left; omega
  · right; left; omega
  · right; right
    rw [show (c - (b - a)) / 2 = a by omega, show (c + (b - a)) / 2 = b by omega]
    exact h6
theorem arm_back_le {f g : Nat → UInt8} {N c : Nat} (hc : c ≤ 2 * N) (e : ∀ i, i < N → g i = f (N - 1 - i)) : arm f N c ≤ arm g N (2 * N - c) := by
  obtain ⟨a, b, h1, h2, h3, h4, h5, _⟩ := arm_is f hc
  have hp : Pal g (N - b) (N - a) := by
    intro i h6 h7
    rw [e i (by omega), e (N - b + (N - a) - 1 - i) (by omega), h5 (N - 1 - i) (by omega) (by omega)]
    congr 1
    omega
  have := arm_max (N := N) hp (by omega) (by omega)
  rw [show N - b + (N - a) = 2 * N - c by omega] at this
  omega
theorem arm_back {f g : Nat → UInt8} {N c : Nat} (hc : c ≤ 2 * N) (e : ∀ i, i < N → g i = f (N - 1 - i)) : arm g N (2 * N - c) = arm f N c := by
  have h1 := arm_back_le hc e
  have h2 := arm_back_le (f := g) (g := f) (N := N) (c := 2 * N - c) (by omega) fun i hi => by
    rw [e (N - 1 - i) (by omega)]
    congr 1
    omega
  rw [show 2 * N - (2 * N - c) = c by omega] at h2
  omega
/-- From a up to b: the first of the longest palindromes. -/
def IsLg (f : Nat → UInt8) (N a b : Nat) : Prop := a ≤ b ∧ b ≤ N ∧ Pal f a b ∧ ∀ a' b', a' ≤ b' → b' ≤ N → Pal f a' b' → b' - a' < b - a ∨ (b' - a' = b - a ∧ a ≤ a')
/-- .. as far as the middles below i tell. -/
def LgAt (f : Nat → UInt8) (N i a b : Nat) : Prop := a ≤ b ∧ b ≤ N ∧ Pal f a b ∧ a + b ≤ i ∧ ∀ c, c < i → arm f N c < b - a ∨ (arm f N c = b - a ∧ a + b ≤ c)
theorem LgAt.zero (f : Nat → UInt8) (N : Nat) : LgAt f N 0 0 0 := ⟨by omega, by omega, Pal.none_ f 0, by omega, fun c h => by omega⟩
theorem LgAt.no {f : Nat → UInt8} {N i a b : Nat} (h : LgAt f N i a b) (hi : arm f N i ≤ b - a) : LgAt f N (i + 1) a b := by
  obtain ⟨h1, h2, h3, h4, h5⟩ := h
  refine ⟨h1, h2, h3, by omega, fun c hc => ?_⟩
  by_cases e : c = i
  · subst e; omega
  · exact h5 c (by omega)
theorem LgAt.yes {f : Nat → UInt8} {N i a b : Nat} (h : LgAt f N i a b) (hN : i ≤ 2 * N) (hi : b - a < arm f N i) : LgAt f N (i + 1) ((i - arm f N i) / 2) ((i + arm f N i) / 2) := by
  obtain ⟨h1, h2, h3, h4, h5⟩ := h
  obtain ⟨g1, g2, g3⟩ := arm_le (f := f) hN
  have hp := arm_pal hN (Nat.le_refl (arm f N i)) g3
  refine ⟨by omega, by omega, hp, by omega, fun c hc => ?_⟩
  rw [show (i + arm f N i) / 2 - (i - arm f N i) / 2 = arm f N i by omega]
  by_cases e : c = i
  · subst e; right; omega
  · have := h5 c (by omega); omega
theorem LgAt.done {f : Nat → UInt8} {N a b : Nat} (h : LgAt f N (2 * N + 1) a b) : IsLg f N a b := by
  obtain ⟨h1, h2, h3, h4, h5⟩ := h
  refine ⟨h1, h2, h3, fun a' b' g1 g2 g3 => ?_⟩
  have k1 := arm_max g3 g1 g2
  have k2 := h5 (a' + b') (by omega)
  omega
theorem IsLg.arm_le {f : Nat → UInt8} {N a b c : Nat} (h : IsLg f N a b) (hc : c ≤ 2 * N) : arm f N c ≤ b - a := by
  obtain ⟨a', b', h1, h2, h3, h4, h5, _⟩ := arm_is f hc
  have := h.2.2.2 a' b' h2 h3 h5
  omega
theorem IsLg.arm_eq {f : Nat → UInt8} {N a b : Nat} (h : IsLg f N a b) : arm f N (a + b) = b - a := by
  have h1 := h.arm_le (c := a + b) (by have := h.1; have := h.2.1; omega)
  have h2 := arm_max h.2.2.1 h.1 h.2.1
  omega
/-- The palindromes of s that have been met when the middles below c are done, and at c those longer than n. -/
def Met (f : Nat → UInt8) (N c : Nat) (n : Int) (a b : Nat) : Prop := a < b ∧ b ≤ N ∧ Pal f a b ∧ (a + b < c ∨ (a + b = c ∧ n < (b : Int) - (a : Int)))
theorem Met.next {f : Nat → UInt8} {N c a b : Nat} {n : Int} (hn : n ≤ 0) : Met f N c n a b ↔ Met f N (c + 1) (arm f N (c + 1)) a b := by
  constructor
  · rintro ⟨h1, h2, h3, h4⟩
    exact ⟨h1, h2, h3, .inl (by omega)⟩
  · rintro ⟨h1, h2, h3, h4⟩
    refine ⟨h1, h2, h3, ?_⟩
    rcases h4 with h4 | ⟨h4, h5⟩
    · rcases Nat.lt_or_ge (a + b) c with h | h
      · exact .inl h
      · exact .inr ⟨by omega, by omega⟩
    · exfalso
      have := arm_max h3 (by omega) h2
      rw [h4] at this
      omega
theorem Met.start {f : Nat → UInt8} {N a b : Nat} : ¬ Met f N 0 (arm f N 0) a b := by
  rintro ⟨h1, h2, h3, h4⟩
  omega
theorem Met.step {f : Nat → UInt8} {N c n a b : Nat} (hc : c ≤ 2 * N) (hn : n ≤ arm f N c) (hp : (n + c) % 2 = 0) (h0 : 0 < n) : Met f N c ((n : Int) - 2) a b ↔ Met f N c n a b ∨ (a = (c - n) / 2 ∧ b = (c + n) / 2) := by
  obtain ⟨g1, g2, g3⟩ := arm_le (f := f) hc
  constructor
  · rintro ⟨h1, h2, h3, h4⟩
    rcases h4 with h4 | ⟨h4, h5⟩
    · exact .inl ⟨h1, h2, h3, .inl h4⟩
    · by_cases h : (n : Int) < (b : Int) - (a : Int)
      · exact .inl ⟨h1, h2, h3, .inr ⟨h4, h⟩⟩
      · right; omega
  · rintro (⟨h1, h2, h3, h4⟩ | ⟨rfl, rfl⟩)
    · refine ⟨h1, h2, h3, ?_⟩
      rcases h4 with h4 | ⟨h4, h5⟩
      · exact .inl h4
      · exact .inr ⟨h4, by omega⟩
    · exact ⟨by omega, by omega, arm_pal hc hn hp, .inr ⟨by omega, by omega⟩⟩
theorem Met.done {f : Nat → UInt8} {N a b : Nat} {n : Int} : Met f N (2 * N + 1) n a b ↔ a < b ∧ b ≤ N ∧ Pal f a b := by
  constructor
  · rintro ⟨h1, h2, h3, _⟩; exact ⟨h1, h2, h3⟩
  · rintro ⟨h1, h2, h3⟩; exact ⟨h1, h2, h3, .inl (by omega)⟩
/-- The unlike palindromes of s. -/
def pl (s : List UInt8) : List (List UInt8) := (Sm.dl s).filter fun y => decide (y.reverse = y)
theorem mem_pl {s y : List UInt8} : y ∈ pl s ↔ (y ≠ [] ∧ y <:+: s) ∧ y.reverse = y := by
  unfold pl
  rw [List.mem_filter, Sm.mem_dl', decide_eq_true_iff]
theorem pl_nodup (s : List UInt8) : (pl s).Nodup := List.Pairwise.filter _ (Sm.dl_nodup s)
theorem pl_mono (s : List UInt8) (b : UInt8) : (pl s).length ≤ (pl (s ++ [b])).length :=
  Sm.nodup_le (pl_nodup s) fun x hx => by
    obtain ⟨⟨h1, u, v, h⟩, h2⟩ := mem_pl.1 hx
    exact mem_pl.2 ⟨⟨h1, u, v ++ [b], by rw [← List.append_assoc, h]⟩, h2⟩
/-- Of two palindromes at the end the shorter one stands before, too. -/
theorem short_before {s y z : List UInt8} {b : UInt8} (hy : y <:+ s ++ [b]) (hz : z <:+ s ++ [b]) (ry : y.reverse = y) (rz : z.reverse = z) (hl : y.length < z.length) : y <:+: s := by
  have hyz : y <:+ z := List.suffix_of_suffix_length_le hy hz (by omega)
  have hp : y <+: z := by
    have := List.reverse_prefix.2 hyz
    rw [ry, rz] at this
    exact this
  obtain ⟨t, ht⟩ := hp
  obtain ⟨u, hu⟩ := hz
  have htl : t ≠ [] := by
    rintro rfl
    rw [List.append_nil] at ht
    rw [ht] at hl
    omega
  refine ⟨u, t.dropLast, ?_⟩
  have e : u ++ y ++ t = s ++ [b] := by rw [List.append_assoc, ht, hu]
  have := congrArg List.dropLast e
  rw [List.dropLast_append_of_ne_nil htl, List.dropLast_concat] at this
  exact this
theorem pl_app (s : List UInt8) (b : UInt8) : (pl (s ++ [b])).length ≤ (pl s).length + 1 := by
  by_cases hx : ∃ z, z ∈ pl (s ++ [b]) ∧ ¬ z <:+: s
  · obtain ⟨z, hz, hzn⟩ := hx
    obtain ⟨⟨z1, z2⟩, z3⟩ := mem_pl.1 hz
    have hzs : z <:+ s ++ [b] := by
      rcases List.infix_concat_iff.1 z2 with h | h
      · exact h
      · exact absurd h hzn
    have := Sm.nodup_le (A := pl (s ++ [b])) (B := z :: pl s) (pl_nodup _) fun x hx => by
      obtain ⟨⟨x1, x2⟩, x3⟩ := mem_pl.1 hx
      by_cases hxn : x <:+: s
      · exact List.mem_cons_of_mem _ (mem_pl.2 ⟨⟨x1, hxn⟩, x3⟩)
      · have hxs : x <:+ s ++ [b] := by
          rcases List.infix_concat_iff.1 x2 with h | h
          · exact h
          · exact absurd h hxn
        have e : x = z := by
          rcases Nat.lt_trichotomy x.length z.length with h | h | h
          · exact absurd (short_before hxs hzs x3 z3 h) hxn
          · exact (List.suffix_of_suffix_length_le hxs hzs (by omega)).eq_of_length h
          · exact absurd (short_before hzs hxs z3 x3 h) hzn
        rw [e]
        exact List.mem_cons_self
    simpa using this
  · have := Sm.nodup_le (A := pl (s ++ [b])) (B := pl s) (pl_nodup _) fun x hx' => by
      obtain ⟨⟨x1, x2⟩, x3⟩ := mem_pl.1 hx'
      by_cases hxn : x <:+: s
      · exact mem_pl.2 ⟨⟨x1, hxn⟩, x3⟩
      · exact absurd ⟨x, hx', hxn⟩ hx
    omega
theorem pl_le (s : List UInt8) : (pl s).length ≤ s.length := by
  have key : ∀ t : List UInt8, (pl t.reverse).length ≤ t.length := by
    intro t
    induction t with
    | nil => decide +kernel
    | cons a t ih =>
      rw [List.reverse_cons, List.length_cons]
      have := pl_app t.reverse a
      omega
  have := key s.reverse
  rw [List.reverse_reverse, List.length_reverse] at this
  exact this
/-- A list without repeats of just the palindromes is as long. -/
theorem pl_len {s : List UInt8} {K : List (List UInt8)} (h : K.Nodup) (hm : ∀ y, y ∈ K ↔ y ∈ pl s) : K.length = (pl s).length := by
  have h1 := Sm.nodup_le h fun x hx => (hm x).1 hx
  have h2 := Sm.nodup_le (pl_nodup s) fun x hx => (hm x).2 hx
  omega
theorem pl_abaa : (pl [97, 98, 97, 97]).length = 4 := by
  have h1 := pl_le [97, 98, 97, 97]
  have h2 := Sm.nodup_le (A := [[97], [98], [97, 97], [97, 98, 97]]) (B := pl [97, 98, 97, 97]) (by decide) fun x hx => by
    simp only [List.mem_cons, List.not_mem_nil, or_false] at hx
    rcases hx with rfl | rfl | rfl | rfl
    · exact mem_pl.2 ⟨⟨by decide, [], [98, 97, 97], rfl⟩, rfl⟩
    · exact mem_pl.2 ⟨⟨by decide, [97], [97, 97], rfl⟩, rfl⟩
    · exact mem_pl.2 ⟨⟨by decide, [97, 98], [], rfl⟩, rfl⟩
    · exact mem_pl.2 ⟨⟨by decide, [], [97], rfl⟩, rfl⟩
  simp only [List.length_cons, List.length_nil] at h1 h2
  omega
/-- What the reference's two rows leave, when all pairs before (i, k) have been tried: at c the longest one so far. -/
def ArmAt (f : Nat → UInt8) (N i k : Nat) (g : Nat → Nat) : Prop :=
  (∀ c, c ≤ 2 * N → g c ≤ arm f N c) ∧ ∀ a b, a < b → b ≤ N → Pal f a b → (a < i ∨ (a = i ∧ b < k)) → b - a ≤ g (a + b)
theorem ArmAt.zero (f : Nat → UInt8) (N : Nat) : ArmAt f N 0 0 (fun _ => 0) := ⟨fun _ _ => Nat.zero_le _, fun a b _ _ _ h => by omega⟩
theorem ArmAt.no {f : Nat → UInt8} {N i k : Nat} {g : Nat → Nat} (h : ArmAt f N i k g) (hp : ¬ Pal f i k) : ArmAt f N i (k + 1) g := by
  refine ⟨h.1, fun a b h1 h2 h3 h4 => ?_⟩
  by_cases e : a = i ∧ b = k
  · obtain ⟨rfl, rfl⟩ := e
    exact absurd h3 hp
  · exact h.2 a b h1 h2 h3 (by omega)
theorem ArmAt.yes {f : Nat → UInt8} {N i k : Nat} {g : Nat → Nat} (h : ArmAt f N i k g) (hp : Pal f i k) (hik : i ≤ k) (hk : k ≤ N) : ArmAt f N i (k + 1) (fun c => if c = i + k then max (g c) (k - i) else g c) := by
  refine ⟨fun c hc => ?_, fun a b h1 h2 h3 h4 => ?_⟩
  · by_cases e : c = i + k
    · simp only [if_pos e]
      have h5 := h.1 c hc
      have h6 := arm_max hp hik hk
      rw [← e] at h6
      omega
    · simp only [if_neg e]
      exact h.1 c hc
  · by_cases e : a + b = i + k
    · simp only [if_pos e]
      by_cases e2 : a = i ∧ b = k
      · omega
      · have := h.2 a b h1 h2 h3 (by omega)
        omega
    · simp only [if_neg e]
      exact h.2 a b h1 h2 h3 (by omega)
theorem ArmAt.next {f : Nat → UInt8} {N i k : Nat} {g : Nat → Nat} (h : ArmAt f N i k g) (hk : N < k) : ArmAt f N (i + 1) (i + 1 + 1) g :=
  ⟨h.1, fun a b h1 h2 h3 h4 => h.2 a b h1 h2 h3 (by omega)⟩
theorem ArmAt.begin_ {f : Nat → UInt8} {N k : Nat} {g : Nat → Nat} (h : ArmAt f N 0 0 g) (hk : k ≤ 1) : ArmAt f N 0 k g :=
  ⟨h.1, fun a b h1 h2 h3 h4 => h.2 a b h1 h2 h3 (by omega)⟩
theorem ArmAt.done {f : Nat → UInt8} {N i k c : Nat} {g : Nat → Nat} (h : ArmAt f N i k g) (hi : N ≤ i) (hc : c ≤ 2 * N) : g c = arm f N c := by
  obtain ⟨a, b, h1, h2, h3, h4, h5, _⟩ := arm_is f hc
  have h6 := h.1 c hc
  rcases Nat.lt_or_ge a b with hl | hl
  · have := h.2 a b hl h3 h5 (by omega)
    rw [h1] at this
    omega
  · omega
end Mm
end Go.Proofs.Ytapjodbaaejldaa
