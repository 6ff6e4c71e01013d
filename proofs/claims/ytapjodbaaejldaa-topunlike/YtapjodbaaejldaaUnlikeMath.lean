
/-
A byte more: how many new words, how many new palindromes. Plain mathematics.
-/
import Derived.Test.YtapjodbaaejldaaMirMath
import Derived.Test.YtapjodbaaejldaaFind
namespace Go.Proofs.Ytapjodbaaejldaa
namespace Sm
open Lm

/-- The last l bytes of w. -/
def sfx (w : List UInt8) (l : Nat) : List UInt8 := w.drop (w.length - l)
theorem sfx_len {w : List UInt8} {l : Nat} (h : l ≤ w.length) : (sfx w l).length = l := by unfold sfx; rw [List.length_drop]; omega
theorem sfx_suf (w : List UInt8) (l : Nat) : sfx w l <:+ w := List.drop_suffix _ _
theorem sfx_of {w y : List UInt8} (h : y <:+ w) : y = sfx w y.length := List.suffix_iff_eq_drop.1 h
theorem sfx_in {w s : List UInt8} {l m : Nat} (h : sfx w m <:+: s) (hl : l ≤ m) (hm : m ≤ w.length) : sfx w l <:+: s :=
  (List.suffix_of_suffix_length_le (sfx_suf w l) (sfx_suf w m) (by rw [sfx_len hm, sfx_len (by omega)]; exact hl)).isInfix.trans h
/-- A byte more brings so many new words as the longest end that was there already leaves. -/
theorem dl_more {s : List UInt8} {b : UInt8} {L : Nat} (hL : L ≤ s.length + 1) (h1 : L = 0 ∨ sfx (s ++ [b]) L <:+: s) (h2 : ∀ l, L < l → l ≤ s.length + 1 → ¬ sfx (s ++ [b]) l <:+: s) : (dl (s ++ [b])).length = (dl s).length + (s.length + 1 - L) := by
  have hw : (s ++ [b]).length = s.length + 1 := by rw [List.length_append, List.length_singleton]
  obtain ⟨K, hK⟩ : ∃ K, K = (List.range (s.length + 1 - L)).map fun i => sfx (s ++ [b]) (L + 1 + i) := ⟨_, rfl⟩
  have hKl : K.length = s.length + 1 - L := by rw [hK, List.length_map, List.length_range]
  have hmem : ∀ x, x ∈ K ↔ ∃ l, L < l ∧ l ≤ s.length + 1 ∧ x = sfx (s ++ [b]) l := fun x => by
    rw [hK, List.mem_map]
    constructor
    · rintro ⟨i, hi, rfl⟩
      have := List.mem_range.1 hi
      exact ⟨L + 1 + i, by omega, by omega, rfl⟩
    · rintro ⟨l, e1, e2, rfl⟩
      exact ⟨l - (L + 1), List.mem_range.2 (by omega), by rw [show L + 1 + (l - (L + 1)) = l by omega]⟩
  have hKn : K.Nodup := by
    rw [hK]
    refine nodup_map List.nodup_range fun i j hi hj e => ?_
    have hi := List.mem_range.1 hi
    have hj := List.mem_range.1 hj
    have := congrArg List.length e
    rw [sfx_len (by omega), sfx_len (by omega)] at this
    omega
  have hn : (dl s ++ K).Nodup := by
    unfold List.Nodup
    refine List.pairwise_append.2 ⟨dl_nodup s, hKn, fun x hx y hy e => ?_⟩
    obtain ⟨l, e1, e2, rfl⟩ := (hmem y).1 hy
    subst e
    exact h2 l e1 e2 (mem_dl'.1 hx).2
  have g1 := nodup_le (dl_nodup (s ++ [b])) (B := dl s ++ K) fun x hx => by
    obtain ⟨x1, x2⟩ := mem_dl'.1 hx
    have hx0 := List.length_pos_iff.2 x1
    rw [List.mem_append]
    by_cases hxs : x <:+: s
    · exact .inl (mem_dl'.2 ⟨x1, hxs⟩)
    · rcases List.infix_concat_iff.1 x2 with h | h
      · right
        have e := sfx_of h
        have hle := h.length_le
        rw [hw] at hle
        refine (hmem x).2 ⟨x.length, ?_, hle, e⟩
        rcases Nat.lt_or_ge L x.length with q | q
        · exact q
        · exfalso
          rcases h1 with h1 | h1
          · omega
          · exact hxs (by rw [e]; exact sfx_in h1 q (by omega))
      · exact absurd h hxs
  have g2 := nodup_le hn (B := dl (s ++ [b])) fun x hx => by
    rcases List.mem_append.1 hx with h | h
    · obtain ⟨x1, u, v, h⟩ := mem_dl'.1 h
      exact mem_dl'.2 ⟨x1, u, v ++ [b], by rw [← List.append_assoc, h]⟩
    · obtain ⟨l, e1, e2, rfl⟩ := (hmem x).1 h
      refine mem_dl'.2 ⟨fun e => ?_, (sfx_suf _ _).isInfix⟩
      have := congrArg List.length e
      rw [sfx_len (by omega), List.length_nil] at this
      omega
  rw [List.length_append, hKl] at g1 g2
  omega
end Sm
namespace Mm
open Sm
theorem pl_old {s : List UInt8} {b : UInt8} {L : Nat} (hL : L ≤ s.length + 1) (hp : (sfx (s ++ [b]) L).reverse = sfx (s ++ [b]) L) (hmax : ∀ l, L < l → l ≤ s.length + 1 → ¬ (sfx (s ++ [b]) l).reverse = sfx (s ++ [b]) l) (h : sfx (s ++ [b]) L <:+: s) : (pl (s ++ [b])).length = (pl s).length := by
  have hw : (s ++ [b]).length = s.length + 1 := by rw [List.length_append, List.length_singleton]
  have g1 := pl_mono s b
  have g2 := nodup_le (A := pl (s ++ [b])) (B := pl s) (pl_nodup _) fun x hx => by
    obtain ⟨⟨x1, x2⟩, x3⟩ := mem_pl.1 hx
    refine mem_pl.2 ⟨⟨x1, ?_⟩, x3⟩
    rcases List.infix_concat_iff.1 x2 with q | q
    · have e := sfx_of q
      have hle := q.length_le
      rw [hw] at hle
      rcases Nat.lt_trichotomy x.length L with k | k | k
      · exact short_before q (sfx_suf _ L) x3 hp (by rw [sfx_len (by omega)]; exact k)
      · rw [e, k]; exact h
      · exact absurd (by rw [← e]; exact x3) (hmax _ k hle)
    · exact q
  omega
theorem pl_new {s : List UInt8} {b : UInt8} {L : Nat} (h0 : 0 < L) (hL : L ≤ s.length + 1) (hp : (sfx (s ++ [b]) L).reverse = sfx (s ++ [b]) L) (h : ¬ sfx (s ++ [b]) L <:+: s) : (pl (s ++ [b])).length = (pl s).length + 1 := by
  have hw : (s ++ [b]).length = s.length + 1 := by rw [List.length_append, List.length_singleton]
  have g1 := pl_app s b
  have g2 := nodup_le (A := sfx (s ++ [b]) L :: pl s) (B := pl (s ++ [b])) (List.nodup_cons.2 ⟨fun hm => h (mem_pl.1 hm).1.2, pl_nodup s⟩) fun x hx => by
    rcases List.mem_cons.1 hx with rfl | hx
    · refine mem_pl.2 ⟨⟨fun e => ?_, (sfx_suf _ _).isInfix⟩, hp⟩
      have := congrArg List.length e
      rw [sfx_len (by omega), List.length_nil] at this
      omega
    · obtain ⟨⟨x1, u, v, q⟩, x2⟩ := mem_pl.1 hx
      exact mem_pl.2 ⟨⟨x1, u, v ++ [b], by rw [← List.append_assoc, q]⟩, x2⟩
  rw [List.length_cons] at g2
  omega
/-- A palindrome at the end is told by its middle's arm. -/
theorem arm_last {f : Nat → UInt8} {N l : Nat} (hl : l ≤ N) : Pal f (N - l) N ↔ arm f N (2 * N - l) = l := by
  constructor
  · intro h
    have h1 := arm_max h (by omega) (Nat.le_refl N)
    rw [show N - l + N = 2 * N - l by omega] at h1
    have h2 := arm_le (f := f) (N := N) (c := 2 * N - l) (by omega)
    omega
  · intro h
    have := arm_pal (f := f) (N := N) (c := 2 * N - l) (n := l) (by omega) (by omega) (by omega)
    rw [show (2 * N - l - l) / 2 = N - l by omega, show (2 * N - l + l) / 2 = N by omega] at this
    exact this
/-- What the search for the longest one at the end holds, when it is at i. -/
structure Lt_ (f : Nat → UInt8) (N i m : Nat) : Prop where
  is_ : m = 0 ∨ arm f N (2 * N - m) = m ∧ m ≤ N
  max : ∀ c, c < i → c ≤ 2 * N → c + arm f N c = 2 * N → arm f N c ≤ m
theorem Lt_.zero (f : Nat → UInt8) (N : Nat) : Lt_ f N 0 0 := ⟨.inl rfl, fun _ h => absurd h (Nat.not_lt_zero _)⟩
theorem Lt_.no {f : Nat → UInt8} {N i m : Nat} (h : Lt_ f N i m) (hi : i + arm f N i ≠ 2 * N) : Lt_ f N (i + 1) m := by
  refine ⟨h.is_, fun c hc hcN e => ?_⟩
  rcases Nat.lt_or_ge c i with q | q
  · exact h.max c q hcN e
  · obtain rfl : c = i := by omega
    exact absurd e hi
theorem Lt_.yes {f : Nat → UInt8} {N i m : Nat} (h : Lt_ f N i m) (hiN : i ≤ 2 * N) (hi : i + arm f N i = 2 * N) : Lt_ f N (i + 1) (Max.max m (arm f N i)) := by
  have h2 := arm_le (f := f) hiN
  refine ⟨?_, fun c hc hcN e => ?_⟩
  · rcases Nat.le_total m (arm f N i) with q | q
    · rw [Nat.max_eq_right q]
      exact .inr ⟨by rw [show 2 * N - arm f N i = i by omega], by omega⟩
    · rw [Nat.max_eq_left q]; exact h.is_
  · rcases Nat.lt_or_ge c i with q | q
    · exact Nat.le_trans (h.max c q hcN e) (Nat.le_max_left _ _)
    · obtain rfl : c = i := by omega
      exact Nat.le_max_right _ _
theorem Lt_.done {f : Nat → UInt8} {N m : Nat} (hN : 0 < N) (h : Lt_ f N (2 * N + 1) m) : 0 < m ∧ m ≤ N ∧ Pal f (N - m) N ∧ ∀ l, m < l → l ≤ N → ¬ Pal f (N - l) N := by
  have key : ∀ l, l ≤ N → Pal f (N - l) N → l ≤ m := fun l hl hp => by
    have e := (arm_last hl).1 hp
    have := h.max (2 * N - l) (by omega) (by omega) (by omega)
    omega
  have h1 := key 1 hN (by have := Pal.one f (N - 1); rw [show N - 1 + 1 = N by omega] at this; exact this)
  have h2 : arm f N (2 * N - m) = m ∧ m ≤ N := by
    rcases h.is_ with q | q
    · omega
    · exact q
  exact ⟨h1, h2.2, (arm_last h2.2).2 h2.1, fun l hl hlN hp => by have := key l hlN hp; omega⟩
end Mm
end Go.Proofs.Ytapjodbaaejldaa
