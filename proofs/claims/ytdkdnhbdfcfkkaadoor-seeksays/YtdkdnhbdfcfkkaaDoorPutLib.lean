/-
What seek.Put makes is what strings.ReplaceAll makes, as often as strings.Count tells.
-/
import Derived.Test.YtdkdnhbdfcfkkaaDoorPut
import Derived.Lib.Replace
namespace Go.Proofs.YtdkdnhbdfcfkkaaDoor
namespace Wm
theorem here_occ {S P : List UInt8} (h0 : 0 < P.length) {e j : Nat} (_ : e ≤ S.length) : Lib.occAt (S.drop e) P j = true ↔ Here S P (e + j) := by
  unfold Lib.occAt Here
  rw [List.drop_drop, List.isPrefixOf_iff_prefix, List.prefix_iff_eq_take]
  constructor
  · intro h
    have hl := congrArg List.length h
    rw [List.length_take, List.length_drop] at hl
    exact ⟨by omega, h.symm⟩
  · rintro ⟨_, h⟩
    exact h.symm
theorem put_lib {S P B : List UInt8} (h0 : 0 < P.length) : ∀ {l : List Nat} {e : Nat}, e ≤ S.length → l.Pairwise (· < ·) → (∀ x, x ∈ l → Here S P x) → (∀ x, e ≤ x → Here S P x → x ∈ l) →
    Lib.count (S.drop e) P = (greedy P.length e l).length ∧ Lib.replaceK P B (greedy P.length e l).length (S.drop e) = putT S B P.length e (greedy P.length e l) := by
  have hne : P ≠ [] := fun h => by rw [h] at h0; exact absurd h0 (by simp)
  intro l
  induction l with
  | nil =>
    intro e he _ _ hall
    have hi : Lib.index (S.drop e) P = -1 := Lib.index_none fun j _ => by
      cases hq : Lib.occAt (S.drop e) P j with
      | false => rfl
      | true => exact absurd (hall (e + j) (by omega) ((here_occ h0 he).1 hq)) (by simp)
    refine ⟨by rw [Lib.count_miss hi]; rfl, rfl⟩
  | cons a l ih =>
    intro e he hs hin hall
    rw [List.pairwise_cons] at hs
    have hin' : ∀ x, x ∈ l → Here S P x := fun x hx => hin x (List.mem_cons_of_mem _ hx)
    rw [greedy]
    by_cases hae : a < e
    · rw [if_pos hae]
      exact ih he hs.2 hin' fun x hx hh => by
        have := hall x hx hh
        rw [List.mem_cons] at this
        rcases this with rfl | h
        · omega
        · exact h
    · rw [if_neg hae]
      have ha := hin a (List.mem_cons_self ..)
      have hal := ha.1
      have hi : Lib.index (S.drop e) P = ((a - e : Nat) : Int) := by
        refine Lib.index_first (by rw [List.length_drop]; omega) ?_ fun j hj => ?_
        · rw [here_occ h0 he, show e + (a - e) = a by omega]; exact ha
        · cases hq : Lib.occAt (S.drop e) P j with
          | false => rfl
          | true =>
            have := hall (e + j) (by omega) ((here_occ h0 he).1 hq)
            rw [List.mem_cons] at this
            rcases this with h | h
            · omega
            · have := hs.1 _ h; omega
      obtain ⟨h1, h2⟩ := ih (e := a + P.length) hal hs.2 hin' fun x hx hh => by
        have := hall x (by omega) hh
        rw [List.mem_cons] at this
        rcases this with rfl | h
        · omega
        · exact h
      have hd : (S.drop e).drop (a - e + P.length) = S.drop (a + P.length) := by
        rw [List.drop_drop]; congr 1; omega
      refine ⟨?_, ?_⟩
      · rw [Lib.count_hit hne hi, hd, h1, List.length_cons]; omega
      · rw [List.length_cons, Lib.replaceK_hit _ _ _ _ _ hi, hd, h2, putT]
end Wm

theorem count_taken {s p : ByteArray} (h0 : 0 < p.size) : Lib.countB s p = (taken s p).length := by
  have h := (Wm.put_lib (S := s.data.toList) (P := p.data.toList) (B := []) (by rw [size_list]; exact h0) (l := places s p) (e := 0) (Nat.zero_le _) (Wm.oc_sorted _ _ _ _) (fun x hx => here_iff.2 ((places_mem h0).1 hx)) (fun x _ hx => (places_mem h0).2 (here_iff.1 hx))).1
  rw [List.drop_zero, size_list] at h
  exact h
theorem replace_taken {s p b : ByteArray} (h0 : 0 < p.size) : (⟨(Lib.replaceAll s.data.toList p.data.toList b.data.toList).toArray⟩ : ByteArray) = putS s p b := by
  have h := (Wm.put_lib (S := s.data.toList) (P := p.data.toList) (B := b.data.toList) (by rw [size_list]; exact h0) (l := places s p) (e := 0) (Nat.zero_le _) (Wm.oc_sorted _ _ _ _) (fun x hx => here_iff.2 ((places_mem h0).1 hx)) (fun x _ hx => (places_mem h0).2 (here_iff.1 hx)))
  rw [List.drop_zero, size_list] at h
  have e : Lib.replaceAll s.data.toList p.data.toList b.data.toList = (putS s p b).data.toList := by
    unfold Lib.replaceAll Lib.replace Lib.replaceNum
    split
    · rename_i hpb
      have hpb' : p = b := by
        have := beq_iff_eq.1 hpb
        cases p
        cases b
        simp at this
        simp [this]
      rw [← hpb', putS_self h0]
    · rw [if_pos (Or.inl (by decide)), h.1, h.2, putS_data]
      rfl
  rw [e]
end Go.Proofs.YtdkdnhbdfcfkkaaDoor
