
/-
Plain mathematics: how many unlike words there are in a word, in a longer one, in the reversed one, in a run. No program is named here.
-/
import Derived.Test.YtapjodbaaejldaaSufMath
namespace Go.Proofs.Ytapjodbaaejldaa
namespace Sm
open Lm

theorem mem_dl' {s y : List UInt8} : y ∈ dl s ↔ y ≠ [] ∧ y <:+: s := by
  rw [mem_dl]
  constructor
  · rintro ⟨h1, p, hp, t, ht⟩
    exact ⟨h1, s.take p, t, by rw [List.append_assoc, ht, List.take_append_drop]⟩
  · rintro ⟨h1, u, v, h⟩
    have h0 := List.length_pos_iff.2 h1
    have hl := congrArg List.length h
    simp only [List.length_append] at hl
    refine ⟨h1, u.length, by omega, v, ?_⟩
    rw [← h, List.append_assoc, List.drop_left]
theorem nodup_le {α : Type} [BEq α] [LawfulBEq α] : ∀ {A B : List α}, A.Nodup → (∀ x, x ∈ A → x ∈ B) → A.length ≤ B.length
  | [], B, _, _ => by simp
  | a :: A, B, h, hs => by
    have ha : a ∈ B := hs a List.mem_cons_self
    rw [List.nodup_cons] at h
    have := nodup_le (B := B.erase a) h.2 fun x hx => by
      have hne : x ≠ a := by rintro rfl; exact h.1 hx
      exact (List.mem_erase_of_ne hne).2 (hs x (List.mem_cons_of_mem _ hx))
    rw [List.length_erase_of_mem ha] at this
    have := List.length_pos_of_mem ha
    simp only [List.length_cons]
    omega
theorem nodup_map {α β : Type} {f : α → β} {L : List α} (h : L.Nodup) (hf : ∀ a b, a ∈ L → b ∈ L → f a = f b → a = b) : (L.map f).Nodup := by
  unfold List.Nodup
  rw [List.pairwise_map]
  exact List.Pairwise.imp_of_mem (fun {a b} ha hb hne e => hne (hf a b ha hb e)) h
theorem dl_ge (s : List UInt8) : s.length ≤ (dl s).length := by
  have := nodup_le (A := (List.range s.length).map fun i => s.take (i + 1)) (B := dl s) (nodup_map List.nodup_range fun a b ha hb e => by
    have h1 := List.mem_range.1 ha
    have h2 := List.mem_range.1 hb
    have := congrArg List.length e
    simp only [List.length_take] at this
    omega) fun x hx => by
    obtain ⟨i, hi, rfl⟩ := List.mem_map.1 hx
    have h1 := List.mem_range.1 hi
    refine mem_dl'.2 ⟨fun e => ?_, [], s.drop (i + 1), by simp⟩
    have := congrArg List.length e
    simp only [List.length_take, List.length_nil] at this
    omega
  simpa using this
theorem dl_mono (s : List UInt8) (b : UInt8) : (dl s).length ≤ (dl (s ++ [b])).length :=
  nodup_le (dl_nodup s) fun x hx => by
    obtain ⟨h1, u, v, h⟩ := mem_dl'.1 hx
    exact mem_dl'.2 ⟨h1, u, v ++ [b], by rw [← List.append_assoc, h]⟩
theorem dl_app (s : List UInt8) (b : UInt8) : (dl (s ++ [b])).length ≤ (dl s).length + s.length + 1 := by
  have := nodup_le (A := dl (s ++ [b])) (B := dl s ++ (List.range (s.length + 1)).map fun i => (s ++ [b]).drop i) (dl_nodup _) fun x hx => by
    obtain ⟨h1, h⟩ := mem_dl'.1 hx
    rw [List.mem_append]
    rcases List.infix_concat_iff.1 h with h | h
    · right
      have hl := h.length_le
      have h0 := List.length_pos_iff.2 h1
      rw [List.length_append, List.length_singleton] at hl
      refine List.mem_map.2 ⟨s.length + 1 - x.length, List.mem_range.2 (by omega), ?_⟩
      have := List.suffix_iff_eq_drop.1 h
      rw [List.length_append, List.length_singleton] at this
      exact this.symm
    · exact .inl (mem_dl'.2 ⟨h1, h⟩)
  rw [List.length_append, List.length_map, List.length_range] at this
  omega
theorem dl_rev (s : List UInt8) : (dl s.reverse).length = (dl s).length := by
  have key : ∀ s : List UInt8, (dl s).length ≤ (dl s.reverse).length := by
    intro s
    have := nodup_le (A := (dl s).map List.reverse) (B := dl s.reverse) (nodup_map (dl_nodup s) fun a b _ _ e => List.reverse_inj.1 e) fun x hx => by
      obtain ⟨y, hy, rfl⟩ := List.mem_map.1 hx
      obtain ⟨h1, h⟩ := mem_dl'.1 hy
      exact mem_dl'.2 ⟨by simpa using h1, List.reverse_infix.2 h⟩
    simpa using this
  have h1 := key s
  have h2 := key s.reverse
  rw [List.reverse_reverse] at h2
  omega
theorem dl_run (n : Nat) (a : UInt8) : (dl (List.replicate n a)).length = n := by
  have h1 := dl_ge (List.replicate n a)
  rw [List.length_replicate] at h1
  have h2 := nodup_le (A := dl (List.replicate n a)) (B := (List.range n).map fun i => List.replicate (i + 1) a) (dl_nodup _) fun x hx => by
    obtain ⟨hne, u, v, h⟩ := mem_dl'.1 hx
    have h0 := List.length_pos_iff.2 hne
    have hl := congrArg List.length h
    simp only [List.length_append, List.length_replicate] at hl
    refine List.mem_map.2 ⟨x.length - 1, List.mem_range.2 (by omega), ?_⟩
    rw [show x.length - 1 + 1 = x.length by omega]
    refine (List.eq_replicate_iff.2 ⟨rfl, fun c hc => ?_⟩).symm
    have : c ∈ List.replicate n a := by rw [← h]; simp [hc]
    exact List.eq_of_mem_replicate this
  rw [List.length_map, List.length_range] at h2
  omega
theorem aab_sa : saL [97, 97, 98] = [0, 1, 2] := SA.unique (saL_sa _) ⟨by decide +kernel, by decide +kernel⟩
theorem dl_aab : (dl [97, 97, 98]).length = 5 := by
  unfold dl PF blk C X sa
  rw [aab_sa]
  decide +kernel
end Sm
end Go.Proofs.Ytapjodbaaejldaa
