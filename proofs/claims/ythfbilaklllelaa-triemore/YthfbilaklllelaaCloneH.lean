/-
The contracts of slices.Clone at rows of strings and of hits.
-/
import Derived.Test.YthfbilaklllelaaHits
import Derived.Test.YthfbilaklllelaaShelfC
import Derived.Lib.SliceRun
namespace Go.Proofs.Ythfbilaklllelaa
open Go.RowKit

theorem clone_s (w : World) (A : Option Addr) (n c : Nat) (g : Nat → ByteArray) (hrow : SRow w A n g) (hbig : n * 16 ≤ 140737488351232) (hA : A = none → n = 0) :
    Calls Try.prog 20 #[.slice A n c] w fun e w' => ∃ v', e = .returned v' ∧ w'.ownsRow w.heap.size 9 1 v' n ((List.range n).map fun k => Value.string (g k)) ∧ Below w.heap.size w w' := by
  cases A with
  | none =>
    have h0 := hA rfl
    subst h0
    refine (Try.slices_Clone_string_nil 0 c w).mono ?_
    rintro e w1 ⟨rfl, rfl⟩
    exact ⟨_, rfl, World.ownsRow_nil _ _ _ _, Below.refl _ _⟩
  | some a =>
    by_cases h0 : n = 0
    · subst h0
      refine (Try.slices_Clone_string_zero a c w).mono ?_
      rintro e w1 ⟨v', rfl, ho, _, hb⟩
      exact ⟨_, rfl, ho, hb⟩
    · obtain ⟨b, o, e, _, _⟩ := hrow 0 (by omega)
      cases e
      refine (Try.slices_Clone_string b o n c ((List.range n).map g) w (by simp) (by omega) ?_).mono ?_
      · intro j hj
        have hj' : j < n := by simpa using hj
        obtain ⟨b', o', e, _, hc⟩ := hrow j hj'
        cases e
        rw [hc]
        simp [hj']
      · rintro e w1 ⟨v', rfl, ho, _, hb⟩
        refine ⟨_, rfl, ?_, hb⟩
        rw [List.take_of_length_le (by simp), List.map_map] at ho
        exact ho

theorem clone_h_nil (n c : Nat) (w : World) :
    Calls Try.prog 22 #[.slice none n c] w fun e w' => e = .returned (.slice none 0 0) ∧ w = w' := by
  have hq := fun W : World => Lib.run_eql_slice_nil (P := Try.prog) W 23 36 none n c 0 0 Try.underlying23
  go_enter Try.func22, Try.ntmps22
  go_wp2
  go_ret
  exact ⟨rfl, rfl⟩
theorem flat_len : ∀ H : List (Nat × Nat), (H.flatMap hitC).length = H.length * 2
  | [] => rfl
  | x :: t => by
    rw [List.flatMap_cons, List.length_append, flat_len t, List.length_cons]
    have : (hitC x).length = 2 := rfl
    omega
theorem HRow.news {w : World} {b o n : Nat} {H : List (Nat × Nat)} (hn : n = H.length) (hr : HRow w (some ⟨b, o, none⟩) n (fun k => H.getD k (0, 0))) : ∀ j u, (H.flatMap hitC)[j]? = some u → w.cell? (Addr.add ⟨b, o, none⟩ j) = some u := by
  intro j u hj
  have hlt := (List.getElem?_eq_some_iff.1 hj).1
  rw [flat_len] at hlt
  obtain ⟨k, hk⟩ : ∃ k, k = j / 2 := ⟨_, rfl⟩
  have hkl : k < H.length := by omega
  obtain ⟨b', o', e, _, h1, h2⟩ := hr k (by omega)
  cases e
  have hf := flat_at H k hkl
  have e : H.getD k (0, 0) = H[k] := getD_lt hkl
  simp only [e] at h1 h2
  rw [Addr.add_lit]
  rcases Nat.mod_two_eq_zero_or_one j with hm | hm
  · have hj2 : j = k * 2 := by omega
    rw [hj2] at hj ⊢
    rw [h1, ← hj, hf.1]
  · have hj2 : j = k * 2 + 1 := by omega
    rw [hj2] at hj ⊢
    rw [← Nat.add_assoc, h2, ← hj, hf.2]
theorem hit_one (H : List (Nat × Nat)) : ∀ u ∈ H.flatMap hitC, u.oneCell' = true := by
  intro u hu
  obtain ⟨x, _, hx⟩ := List.mem_flatMap.1 hu
  simp [hitC] at hx
  rcases hx with rfl | rfl <;> rfl
theorem clone_h_some (b o n c : Nat) (H : List (Nat × Nat)) (w : World) (hn : n = H.length) (hr : HRow w (some ⟨b, o, none⟩) n (fun k => H.getD k (0, 0))) (hl : n ≤ 1000000) (h0 : 0 < n) :
    Calls Try.prog 22 #[.slice (some ⟨b, o, none⟩) n c] w fun e w' => ∃ g cap, e = .returned (.slice (some ⟨g, 0, none⟩) n cap) ∧ OwnH w' w.heap.size (.slice (some ⟨g, 0, none⟩) n cap) H ∧ Below w.heap.size w w' := by
  have hq := fun W : World => Lib.run_eql_slice_nil (P := Try.prog) W 23 36 (some ⟨b, o, none⟩) n c 0 0 Try.underlying23
  have HR := hid hr
  have HN := hid hn
  clear hr hn
  go_enter Try.func22, Try.ntmps22
  obtain ⟨i0, hi, hz0, hz1, hz2⟩ := info_parts Try.infoHit
  have H1 := hid hi
  have H2 := hid hz0
  have H3 := hid hz1
  have H4 := hid hz2
  have H5 := hid (HRow.news HN.out (HR.out.keep (bl_new w (.cells #[] 36))))
  have H6 := hid (hit_one H)
  have H7 : Hid ((w.alloc (.cells #[] 36)).ownsRow w.heap.size 36 2 (.slice (some ⟨w.heap.size, 0, none⟩) 0 0) 0 []) := World.ownsRow_made w #[] 0 (Nat.le_refl _) (by decide) rfl
  have H8 : Hid ((H.flatMap hitC).length = n * 2) := by rw [flat_len, HN.out]; rfl
  have H9 : Hid (w.heap.size ≤ (w.alloc (.cells #[] 36)).heap.size) := by show _ ≤ _; simp
  clear hi hz0 hz1 hz2
  go_wp2_with (at_builtin; with_reducible refine wpList_append_lies _ rfl _ _ 23 rfl w.heap.size 36 i0 (.agg #[.int .i64 0, .int .i64 0]) 2 16 Try.underlying23 H1.out H2.out H3.out H4.out rfl (by decide) (.slice (some ⟨w.heap.size, 0, none⟩) 0 0) 0 [] (by simp [Act.eval]) H7.out ⟨b, o, none⟩ n c (H.flatMap hitC) (by simp [Act.eval]) H8.out H5.out H6.out h0 (by unfold maxLen; omega) (by omega) H9.out _ rfl ?_; intro g cap w1 hown hgrow hat hlt; have G1 := hid hown; have G2 := hid hgrow; have G3 := hid hat; clear hown hgrow hat)
  go_ret
  refine ⟨g, cap, rfl, ?_, ?_⟩
  · have := G1.out
    rw [Nat.zero_add, List.nil_append] at this
    unfold OwnH
    rw [← HN.out]
    exact this
  · refine (bl_new w (.cells #[] 36)).grown G2.out H9.out ?_
    intro k hk
    simp [Value.ownBlock] at hk
    omega
end Go.Proofs.Ythfbilaklllelaa
