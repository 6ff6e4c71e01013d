
/-
Plain mathematics on weights: a list in the order of its weights, equal ones as they stood; HUFFMAN's forest built by it; the lengths that tree.Lens hands back. No program is named here.
-/
import Derived.Test.YtmgkoliindicgaaHufMath
import Derived.Test.YtmgkoliindicgaaTreeDefs
namespace Go.Proofs.Ytmgkoliindicgaa
namespace Hm
section
variable {α β : Type}
/-- Into a list that falls: before the first that weighs no more. -/
def rins (x : Nat × α) : List (Nat × α) → List (Nat × α)
  | [] => [x]
  | y :: T => if x.1 < y.1 then y :: rins x T else x :: y :: T
/-- Into a list that rises: behind the last that weighs no more. -/
def ins (x : Nat × α) (S : List (Nat × α)) : List (Nat × α) := (rins x S.reverse).reverse
def isort (L : List (Nat × α)) : List (Nat × α) := L.foldl (fun S x => ins x S) []
theorem ins_nil (x : Nat × α) : ins x [] = [x] := rfl
theorem ins_lt {x y : Nat × α} {S : List (Nat × α)} (h : x.1 < y.1) : ins x (S ++ [y]) = ins x S ++ [y] := by
  unfold ins
  rw [List.reverse_append]
  show (if x.1 < y.1 then y :: rins x S.reverse else x :: y :: S.reverse).reverse = _
  rw [if_pos h, List.reverse_cons]
theorem ins_ge {x y : Nat × α} {S : List (Nat × α)} (h : ¬ x.1 < y.1) : ins x (S ++ [y]) = S ++ [y] ++ [x] := by
  unfold ins
  rw [List.reverse_append]
  show (if x.1 < y.1 then y :: rins x S.reverse else x :: y :: S.reverse).reverse = _
  rw [if_neg h, List.reverse_cons, List.reverse_cons, List.reverse_reverse]
theorem isort_snoc (L : List (Nat × α)) (x : Nat × α) : isort (L ++ [x]) = ins x (isort L) := by
  unfold isort
  rw [List.foldl_append]
  rfl
theorem rins_perm (x : Nat × α) : ∀ T : List (Nat × α), (rins x T).Perm (x :: T)
  | [] => .refl _
  | y :: T => by
    unfold rins
    by_cases h : x.1 < y.1
    · rw [if_pos h]
      exact ((rins_perm x T).cons y).trans (.swap x y T)
    · rw [if_neg h]
theorem ins_perm (x : Nat × α) (S : List (Nat × α)) : (ins x S).Perm (x :: S) :=
  (List.reverse_perm _).trans ((rins_perm x _).trans ((List.reverse_perm S).cons x))
theorem fold_perm : ∀ (L S : List (Nat × α)), (L.foldl (fun S x => ins x S) S).Perm (S ++ L)
  | [], S => by rw [List.append_nil]; exact .refl _
  | x :: L, S => by
    refine (fold_perm L (ins x S)).trans ?_
    exact ((ins_perm x S).append_right L).trans List.perm_middle.symm
theorem isort_perm (L : List (Nat × α)) : (isort L).Perm L := fold_perm L []
theorem isort_len (L : List (Nat × α)) : (isort L).length = L.length := (isort_perm L).length_eq
theorem rins_fall (x : Nat × α) : ∀ {T : List (Nat × α)}, T.Pairwise (fun a b => b.1 ≤ a.1) → (rins x T).Pairwise (fun a b => b.1 ≤ a.1)
  | [], _ => List.pairwise_singleton _ _
  | y :: T, h => by
    obtain ⟨h1, h2⟩ := List.pairwise_cons.1 h
    unfold rins
    by_cases hx : x.1 < y.1
    · rw [if_pos hx]
      refine List.pairwise_cons.2 ⟨fun z hz => ?_, rins_fall x h2⟩
      rcases List.mem_cons.1 ((rins_perm x T).mem_iff.1 hz) with rfl | hz
      · omega
      · exact h1 z hz
    · rw [if_neg hx]
      refine List.pairwise_cons.2 ⟨fun z hz => ?_, h⟩
      rcases List.mem_cons.1 hz with rfl | hz
      · omega
      · have := h1 z hz
        omega
theorem ins_rise (x : Nat × α) {S : List (Nat × α)} (h : S.Pairwise (fun a b => a.1 ≤ b.1)) : (ins x S).Pairwise (fun a b => a.1 ≤ b.1) := by
  unfold ins
  rw [List.pairwise_reverse]
  exact rins_fall x (List.pairwise_reverse.2 h)
theorem fold_rise : ∀ (L : List (Nat × α)) {S : List (Nat × α)}, S.Pairwise (fun a b => a.1 ≤ b.1) → (L.foldl (fun S x => ins x S) S).Pairwise (fun a b => a.1 ≤ b.1)
  | [], _, h => h
  | x :: L, _, h => fold_rise L (ins_rise x h)
theorem isort_rise (L : List (Nat × α)) : (isort L).Pairwise (fun a b => a.1 ≤ b.1) := fold_rise L List.Pairwise.nil
theorem rins_map {f : Nat × α → Nat × β} (hf : ∀ x, (f x).1 = x.1) (x : Nat × α) : ∀ T : List (Nat × α), (rins x T).map f = rins (f x) (T.map f)
  | [] => rfl
  | y :: T => by
    show List.map f (if x.1 < y.1 then y :: rins x T else x :: y :: T) = if (f x).1 < (f y).1 then f y :: rins (f x) (T.map f) else f x :: f y :: T.map f
    rw [hf x, hf y, ← rins_map hf x T]
    by_cases h : x.1 < y.1
    · rw [if_pos h, if_pos h]; rfl
    · rw [if_neg h, if_neg h]; rfl
theorem ins_map {f : Nat × α → Nat × β} (hf : ∀ x, (f x).1 = x.1) (x : Nat × α) (S : List (Nat × α)) : (ins x S).map f = ins (f x) (S.map f) := by
  unfold ins
  rw [List.map_reverse, rins_map hf, List.map_reverse]
theorem fold_map {f : Nat × α → Nat × β} (hf : ∀ x, (f x).1 = x.1) : ∀ L S : List (Nat × α), (L.foldl (fun S x => ins x S) S).map f = (L.map f).foldl (fun S x => ins x S) (S.map f)
  | [], _ => rfl
  | x :: L, S => by
    show (L.foldl (fun S x => ins x S) (ins x S)).map f = (L.map f).foldl (fun S x => ins x S) (ins (f x) (S.map f))
    rw [fold_map hf L (ins x S), ins_map hf]
theorem isort_map {f : Nat × α → Nat × β} (hf : ∀ x, (f x).1 = x.1) (L : List (Nat × α)) : (isort L).map f = isort (L.map f) := fold_map hf L []
end
/-- The two lightest become one, behind the others. -/
def hstep (F : List Nd) (l : Nat → Nat) : List Nd × (Nat → Nat) :=
  match isort F with
  | x :: y :: R => (R ++ [(x.1 + y.1, x.2 ++ y.2)], deep (x.2 ++ y.2) l)
  | _ => (F, l)
theorem hstep_is {F R : List Nd} {x y : Nd} (l : Nat → Nat) (h : isort F = x :: y :: R) : hstep F l = (R ++ [(x.1 + y.1, x.2 ++ y.2)], deep (x.2 ++ y.2) l) := by
  unfold hstep
  rw [h]
def hrun : Nat → List Nd × (Nat → Nat) → List Nd × (Nat → Nat)
  | 0, s => s
  | k + 1, s => hrun k (hstep s.1 s.2)
def hstart (w : Nat → Nat) (n : Nat) : List Nd := (List.range n).map fun i => (w i, [i])
theorem hstart_len (w : Nat → Nat) (n : Nat) : (hstart w n).length = n := by unfold hstart; simp
/-- How deep each weight lies. -/
def hdep (w : Nat → Nat) (n : Nat) : Nat → Nat := (hrun (n - 1) (hstart w n, fun _ => 0)).2
theorem two_of_len {F : List Nd} (h : 2 ≤ F.length) : ∃ x y R, isort F = x :: y :: R ∧ R.length + 2 = F.length := by
  have hl := isort_len F
  match hi : isort F with
  | [] => rw [hi] at hl; simp at hl; omega
  | [_] => rw [hi] at hl; simp at hl; omega
  | x :: y :: R => exact ⟨x, y, R, rfl, by rw [hi] at hl; simpa using hl⟩
theorem Huf.next {w l : Nat → Nat} {n : Nat} {F R : List Nd} {x y : Nd} (h : Huf w n F l) (e : isort F = x :: y :: R) : Huf w n (R ++ [(x.1 + y.1, x.2 ++ y.2)]) (deep (x.2 ++ y.2) l) := by
  have hp := isort_perm F
  have hs := isort_rise F
  rw [e] at hp hs
  obtain ⟨h1, h2⟩ := List.pairwise_cons.1 hs
  exact ((h.perm hp.symm).step (h1 y List.mem_cons_self) (List.pairwise_cons.1 h2).1).perm (List.perm_append_singleton _ _).symm
theorem hrun_fin {w : Nat → Nat} {n : Nat} : ∀ {k : Nat} {F : List Nd} {l : Nat → Nat}, Huf w n F l → F.length = k + 1 → ∃ t, Huf w n [t] (hrun k (F, l)).2
  | 0, F, l, h, hl => by
    match F, hl with
    | [t], _ => exact ⟨t, h⟩
  | k + 1, F, l, h, hl => by
    obtain ⟨x, y, R, e, hR⟩ := two_of_len (F := F) (by omega)
    have hn := h.next e
    show ∃ t, Huf w n [t] (hrun k (hstep F l)).2
    rw [hstep_is l e]
    exact hrun_fin hn (by simp; omega)
theorem hdep_opt {w : Nat → Nat} {n : Nat} (h2 : 2 ≤ n) (hn : n ≤ 12) : Opt w (hdep w n) n := by
  obtain ⟨t, ht⟩ := hrun_fin (k := n - 1) (Huf.start w n) (by simp; omega)
  exact ht.fin h2 hn
/-- What stands when F and l stand. -/
def Way (w : Nat → Nat) (n : Nat) (F : List Nd) (l : Nat → Nat) : Prop := Huf w n F l ∧ F.length ≤ n ∧ (hrun (F.length - 1) (F, l)).2 = hdep w n
theorem Way.start (w : Nat → Nat) (n : Nat) : Way w n (hstart w n) (fun _ => 0) := ⟨Huf.start w n, by rw [hstart_len]; exact Nat.le_refl _, by rw [hstart_len]; rfl⟩
theorem Way.next {w l : Nat → Nat} {n : Nat} {F R : List Nd} {x y : Nd} (h : Way w n F l) (e : isort F = x :: y :: R) : Way w n (R ++ [(x.1 + y.1, x.2 ++ y.2)]) (deep (x.2 ++ y.2) l) := by
  obtain ⟨h1, h2, h3⟩ := h
  have hl := isort_len F
  rw [e] at hl
  have hl2 : R.length + 2 = F.length := by simpa using hl
  refine ⟨h1.next e, by simp; omega, ?_⟩
  rw [← h3, show F.length - 1 = (R ++ [(x.1 + y.1, x.2 ++ y.2)]).length - 1 + 1 by simp; omega]
  show _ = (hrun _ (hstep F l)).2
  rw [hstep_is l e]
theorem Way.fin {w l : Nat → Nat} {n : Nat} {F : List Nd} (h : Way w n F l) (h1 : F.length ≤ 1) : l = hdep w n := by
  rw [← h.2.2, show F.length - 1 = 0 by omega]
  rfl
/-- What the two lightest have. -/
theorem ls_le (f : Nat → Nat) {L : List Nat} {c : Nat} (h : ∀ i ∈ L, f i ≤ c) : ls f L ≤ L.length * c := by
  induction L with
  | nil => exact Nat.zero_le _
  | cons i L ih =>
    have a := h i List.mem_cons_self
    have b := ih fun k hk => h k (List.mem_cons_of_mem _ hk)
    show f i + ls f L ≤ (L.length + 1) * c
    rw [Nat.succ_mul]
    omega
theorem lvs_of {F : List Nd} {t : Nd} (h : t ∈ F) : ∃ M, (lvs F).Perm (t.2 ++ M) := by
  obtain ⟨A, B, rfl⟩ := List.append_of_mem h
  refine ⟨lvs A ++ lvs B, ?_⟩
  unfold lvs
  rw [List.flatMap_append, List.flatMap_cons]
  exact List.perm_append_comm_assoc _ _ _
theorem Huf.leaf {w l : Nat → Nat} {n : Nat} {F : List Nd} (h : Huf w n F l) {t : Nd} (ht : t ∈ F) : t.2.Nodup ∧ (∀ i ∈ t.2, i < n) ∧ t.2.length ≤ n ∧ 1 ≤ t.2.length := by
  obtain ⟨M, hM⟩ := lvs_of ht
  have hp := hM.symm.trans h.parts
  have hnd := hp.nodup_iff.2 List.nodup_range
  have hl := hp.length_eq
  rw [List.length_append, List.length_range] at hl
  exact ⟨(List.nodup_append.1 hnd).1, fun i hi => List.mem_range.1 (hp.mem_iff.1 (List.mem_append_left _ hi)), by omega, h.some_ t ht⟩
theorem Huf.wt {w l : Nat → Nat} {n : Nat} {F : List Nd} (h : Huf w n F l) (hw : ∀ k, k < n → w k ≤ 10000) {t : Nd} (ht : t ∈ F) : t.1 ≤ n * 10000 := by
  obtain ⟨_, h1, h2, _⟩ := h.leaf ht
  rw [h.weight t ht]
  exact Nat.le_trans (ls_le w fun i hi => hw i (h1 i hi)) (Nat.mul_le_mul_right _ h2)
theorem Huf.dep {w l : Nat → Nat} {n : Nat} {F : List Nd} (h : Huf w n F l) {i : Nat} (hi : i < n) : l i < n := by
  have := h.parts.mem_iff.2 (List.mem_range.2 hi)
  obtain ⟨t, ht, hit⟩ := List.mem_flatMap.1 this
  have a := h.low t ht i hit
  have b := (h.leaf ht).2.2.1
  omega
end Hm
/-- The lengths that tree.Lens hands back. -/
def lensF (g : Nat → Int) (n k : Nat) : Nat := if n = 1 then 1 else Hm.hdep (Cm.ln g) n k
end Go.Proofs.Ytmgkoliindicgaa
