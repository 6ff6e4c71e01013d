/-
Plain mathematics: in how many ways a text is a row of a code's words; reading a text in words of which none begins another one. No program is named here.
-/
import Derived.Test.YtmgkoliindicgaaCodeDefs
namespace Go.Proofs.Ytmgkoliindicgaa
namespace Cm

/-- Does the text s, up to n, end in w? -/
def enw (s : Wd) (n : Nat) (w : Wd) : Bool := w.isSuffixOf (s.take n)
theorem enw_iff {s w : Wd} {n : Nat} : enw s n w = true ↔ w <:+ s.take n := by unfold enw; exact List.isSuffixOf_iff_suffix
theorem enw_take {s w : Wd} {n : Nat} (hn : n ≤ s.length) : enw s n w = true ↔ w.length ≤ n ∧ s.take n = s.take (n - w.length) ++ w := by
  rw [enw_iff]
  constructor
  · rintro ⟨p, h⟩
    have hl := congrArg List.length h
    rw [List.length_append, List.length_take, Nat.min_eq_left hn] at hl
    refine ⟨by omega, ?_⟩
    have hp : p = (s.take n).take (n - w.length) := by
      rw [← h, List.take_append_of_le_length (by omega), List.take_of_length_le (by omega)]
    rw [List.take_take, Nat.min_eq_left (by omega)] at hp
    rw [← hp, h]
  · rintro ⟨_, h⟩
    exact ⟨_, h.symm⟩
/-- One more word at the end: what the first i words give. -/
def pr (W : List Wd) (s : Wd) (c : Nat → Nat) (n i : Nat) : Nat := ((W.take i).map fun w => if enw s n w then c (n - w.length) else 0).sum
def tb (W : List Wd) (s : Wd) : Nat → Nat → Nat
  | 0, k => if k = 0 then 1 else 0
  | n + 1, k => if k = n + 1 then pr W s (tb W s n) (n + 1) W.length else tb W s n k
/-- In how many ways the first k bytes are a row of words. -/
def cn (W : List Wd) (s : Wd) (k : Nat) : Nat := tb W s k k
theorem tb_is (W : List Wd) (s : Wd) : ∀ {n k : Nat}, k ≤ n → tb W s n k = cn W s k
  | 0, k, h => by obtain rfl : k = 0 := by omega
                  rfl
  | n + 1, k, h => by
    by_cases e : k = n + 1
    · subst e; rfl
    · rw [← tb_is W s (n := n) (k := k) (by omega)]
      show (if k = n + 1 then pr W s (tb W s n) (n + 1) W.length else tb W s n k) = _
      rw [if_neg e]
theorem cn_zero (W : List Wd) (s : Wd) : cn W s 0 = 1 := rfl
theorem map_sum_congr {α : Type} {f g : α → Nat} : ∀ {l : List α}, (∀ x ∈ l, f x = g x) → (l.map f).sum = (l.map g).sum
  | [], _ => rfl
  | a :: l, h => by
    rw [List.map_cons, List.map_cons, List.sum_cons, List.sum_cons, h a List.mem_cons_self, map_sum_congr fun x hx => h x (List.mem_cons_of_mem _ hx)]
theorem map_sum_le {α : Type} {f g : α → Nat} : ∀ {l : List α}, (∀ x ∈ l, f x ≤ g x) → (l.map f).sum ≤ (l.map g).sum
  | [], _ => Nat.le_refl _
  | a :: l, h => by
    rw [List.map_cons, List.map_cons, List.sum_cons, List.sum_cons]
    have h1 := h a List.mem_cons_self
    have h2 := map_sum_le (l := l) fun x hx => h x (List.mem_cons_of_mem _ hx)
    omega
theorem map_sum_mul {α : Type} {f : α → Nat} (m : Nat) : ∀ {l : List α}, (l.map fun x => m * f x).sum = m * (l.map f).sum
  | [] => rfl
  | a :: l => by
    rw [List.map_cons, List.map_cons, List.sum_cons, List.sum_cons, map_sum_mul m (l := l), Nat.mul_add]
theorem map_sum_add {α : Type} {f g : α → Nat} : ∀ {l : List α}, (l.map fun x => f x + g x).sum = (l.map f).sum + (l.map g).sum
  | [] => rfl
  | a :: l => by
    rw [List.map_cons, List.map_cons, List.map_cons, List.sum_cons, List.sum_cons, List.sum_cons, map_sum_add (l := l)]
    omega
theorem map_sum_pos {α : Type} {f : α → Nat} : ∀ {l : List α}, 0 < (l.map f).sum → ∃ x ∈ l, 0 < f x
  | [], h => by simp at h
  | a :: l, h => by
    rw [List.map_cons, List.sum_cons] at h
    by_cases ha : 0 < f a
    · exact ⟨a, List.mem_cons_self, ha⟩
    · obtain ⟨x, hx, h1⟩ := map_sum_pos (l := l) (f := f) (by omega)
      exact ⟨x, List.mem_cons_of_mem _ hx, h1⟩
theorem map_sum_has {α : Type} {f : α → Nat} : ∀ {l : List α} {x : α}, x ∈ l → f x ≤ (l.map f).sum
  | a :: l, x, h => by
    rw [List.map_cons, List.sum_cons]
    rcases List.mem_cons.1 h with rfl | h
    · omega
    · have := map_sum_has (f := f) h
      omega
/-- At most one of them counts. -/
theorem sum_one {α : Type} {f : α → Nat} : ∀ {l : List α}, l.Nodup → (∀ x ∈ l, f x ≤ 1) → (∀ x ∈ l, ∀ y ∈ l, 0 < f x → 0 < f y → x = y) → (l.map f).sum ≤ 1
  | [], _, _, _ => by simp
  | a :: l, hn, h1, h2 => by
    have hn' := List.nodup_cons.1 hn
    rw [List.map_cons, List.sum_cons]
    by_cases ha : 0 < f a
    · have h0 : ¬ 0 < (l.map f).sum := fun hp => by
        obtain ⟨x, hx, hfx⟩ := map_sum_pos hp
        have := h2 a List.mem_cons_self x (List.mem_cons_of_mem _ hx) ha hfx
        subst this
        exact hn'.1 hx
      have := h1 a List.mem_cons_self
      omega
    · have := sum_one hn'.2 (fun x hx => h1 x (List.mem_cons_of_mem _ hx)) (fun x hx y hy => h2 x (List.mem_cons_of_mem _ hx) y (List.mem_cons_of_mem _ hy))
      omega
/-- Unlike lengths from 1 to n: halves, quarters and so on are less than the whole. -/
theorem sum_halves {α : Type} {l : List α} (hn : l.Nodup) {len : α → Nat} : ∀ (n : Nat) (p : α → Bool), (∀ x ∈ l, p x = true → 1 ≤ len x ∧ len x ≤ n) → (∀ x ∈ l, ∀ y ∈ l, p x = true → p y = true → len x = len y → x = y) → (l.map fun x => if p x then 2 ^ (n - len x) else 0).sum < 2 ^ n
  | 0, p, h1, _ => by
    have h0 : ¬ 0 < (l.map fun x => if p x then 2 ^ (0 - len x) else 0).sum := fun hp => by
      obtain ⟨x, hx, hfx⟩ := map_sum_pos hp
      by_cases hpx : p x = true
      · have := h1 x hx hpx; omega
      · rw [if_neg hpx] at hfx; omega
    omega
  | n + 1, p, h1, h2 => by
    have ih := sum_halves hn n (fun x => p x && decide (len x ≤ n)) (fun x hx hp => by
      rw [Bool.and_eq_true, decide_eq_true_eq] at hp
      exact ⟨(h1 x hx hp.1).1, hp.2⟩) (fun x hx y hy hp hq e => by
      rw [Bool.and_eq_true] at hp hq
      exact h2 x hx y hy hp.1 hq.1 e)
    have ho : (l.map fun x => if p x && decide (len x = n + 1) then 1 else 0).sum ≤ 1 := by
      refine sum_one hn (fun x _ => by split <;> omega) fun x hx y hy hp hq => ?_
      have hp' : (p x && decide (len x = n + 1)) = true := by
        cases hb : (p x && decide (len x = n + 1)) with
        | true => rfl
        | false => rw [hb] at hp; simp at hp
      have hq' : (p y && decide (len y = n + 1)) = true := by
        cases hb : (p y && decide (len y = n + 1)) with
        | true => rfl
        | false => rw [hb] at hq; simp at hq
      rw [Bool.and_eq_true, decide_eq_true_eq] at hp' hq'
      exact h2 x hx y hy hp'.1 hq'.1 (by omega)
    have he : (l.map fun x => if p x then 2 ^ (n + 1 - len x) else 0).sum = (l.map fun x => 2 * (if p x && decide (len x ≤ n) then 2 ^ (n - len x) else 0) + (if p x && decide (len x = n + 1) then 1 else 0)).sum := by
      refine map_sum_congr fun x hx => ?_
      cases hp : p x with
      | false => simp
      | true =>
        have := h1 x hx hp
        by_cases hle : len x ≤ n
        · rw [show n + 1 - len x = (n - len x) + 1 by omega, Nat.pow_succ]
          simp only [hle, show ¬ len x = n + 1 by omega, decide_true, decide_false, Bool.and_true, Bool.and_false, if_true, Bool.false_eq_true, if_false]
          omega
        · rw [show len x = n + 1 by omega]
          simp [show ¬ n + 1 ≤ n by omega]
    rw [he, map_sum_add, map_sum_mul, Nat.pow_succ]
    omega
theorem pr_all {W : List Wd} {s : Wd} {c : Nat → Nat} {n : Nat} : pr W s c n W.length = (W.map fun w => if enw s n w then c (n - w.length) else 0).sum := by unfold pr; rw [List.take_length]
theorem pr_succ {W : List Wd} {s : Wd} {c : Nat → Nat} {n i : Nat} (h : i < W.length) : pr W s c n (i + 1) = pr W s c n i + if enw s n (W.getD i []) then c (n - (W.getD i []).length) else 0 := by
  unfold pr
  rw [List.take_add_one, List.getElem?_eq_getElem h, List.getD_eq_getElem?_getD, List.getElem?_eq_getElem h, List.map_append, List.sum_append]
  simp
theorem pr_zero (W : List Wd) (s : Wd) (c : Nat → Nat) (n : Nat) : pr W s c n 0 = 0 := by unfold pr; simp
theorem pr_le {W : List Wd} {s : Wd} {c : Nat → Nat} {n i : Nat} : pr W s c n i ≤ pr W s c n W.length := by
  rw [pr_all]
  unfold pr
  have e : W = W.take i ++ W.drop i := (List.take_append_drop i W).symm
  rw [show (W.map fun w => if enw s n w then c (n - w.length) else 0).sum = ((W.take i ++ W.drop i).map fun w => if enw s n w then c (n - w.length) else 0).sum by rw [← e], List.map_append, List.sum_append]
  omega
theorem cn_succ {W : List Wd} {s : Wd} (hW : ∀ w ∈ W, w ≠ []) (n : Nat) : cn W s (n + 1) = pr W s (cn W s) (n + 1) W.length := by
  have h1 : cn W s (n + 1) = pr W s (tb W s n) (n + 1) W.length := by
    unfold cn tb
    rw [if_pos rfl]
  rw [h1, pr_all, pr_all]
  refine map_sum_congr fun w hw => ?_
  have := List.length_pos_iff.2 (hW w hw)
  rw [tb_is W s (by omega)]
theorem cn_le {W : List Wd} (g : Good W) (s : Wd) : ∀ (m k : Nat), k ≤ m → cn W s k ≤ 2 ^ k
  | _, 0, _ => by rw [cn_zero]; exact Nat.le_refl _
  | 0, k + 1, h => by omega
  | m + 1, k + 1, h => by
    rw [cn_succ g.some_, pr_all]
    refine Nat.le_of_lt (Nat.lt_of_le_of_lt (map_sum_le (g := fun w => if enw s (k + 1) w then 2 ^ (k + 1 - w.length) else 0) fun w hw => ?_) (sum_halves g.nodup (k + 1) (enw s (k + 1)) (fun w hw he => ?_) fun w hw v hv he hf e => ?_))
    · have := List.length_pos_iff.2 (g.some_ w hw)
      split
      · exact cn_le g s m _ (by omega)
      · exact Nat.le_refl _
    · have h1 := (enw_iff.1 he).length_le
      rw [List.length_take] at h1
      exact ⟨List.length_pos_iff.2 (g.some_ w hw), by omega⟩
    · exact (List.suffix_of_suffix_length_le (enw_iff.1 he) (enw_iff.1 hf) (by omega)).eq_of_length e
theorem cn_pos {W : List Wd} (hW : ∀ w ∈ W, w ≠ []) (s : Wd) : ∀ (m k : Nat), k ≤ m → k ≤ s.length → 0 < cn W s k → ∃ x, Of W x ∧ x.flatten = s.take k
  | _, 0, _, _, _ => ⟨[], Of.nil W, by simp⟩
  | 0, k + 1, h, _, _ => by omega
  | m + 1, k + 1, h, hk, hp => by
    rw [cn_succ hW, pr_all] at hp
    obtain ⟨w, hw, hp⟩ := map_sum_pos hp
    by_cases he : enw s (k + 1) w = true
    · rw [if_pos he] at hp
      have hl := List.length_pos_iff.2 (hW w hw)
      obtain ⟨_, h2⟩ := (enw_take hk).1 he
      obtain ⟨x, hx, e⟩ := cn_pos hW s m (k + 1 - w.length) (by omega) (by omega) hp
      refine ⟨x ++ [w], fun v hv => ?_, ?_⟩
      · rcases List.mem_append.1 hv with hv | hv
        · exact hx v hv
        · rw [List.mem_singleton.1 hv]; exact hw
      · rw [List.flatten_append, e, h2]
        simp
    · rw [if_neg he] at hp; omega
theorem cn_of {W : List Wd} (hW : ∀ w ∈ W, w ≠ []) (s : Wd) : ∀ (m : Nat) (x : List Wd) (k : Nat), x.length ≤ m → k ≤ s.length → Of W x → x.flatten = s.take k → 0 < cn W s k
  | m, x, 0, _, _, _, _ => by rw [cn_zero]; omega
  | 0, x, k + 1, h, hk, _, e => by
    obtain rfl : x = [] := List.length_eq_zero_iff.1 (by omega)
    have := congrArg List.length e
    rw [List.length_take] at this
    simp at this
    omega
  | m + 1, x, k + 1, h, hk, hx, e => by
    rcases List.eq_nil_or_concat x with rfl | ⟨y, w, rfl⟩
    · have := congrArg List.length e
      rw [List.length_take] at this
      simp at this
      omega
    · have hw : w ∈ W := hx w (by simp)
      have hl := List.length_pos_iff.2 (hW w hw)
      rw [List.concat_eq_append, List.flatten_append] at e
      simp only [List.flatten_cons, List.flatten_nil, List.append_nil] at e
      have he : enw s (k + 1) w = true := enw_iff.2 ⟨_, e⟩
      obtain ⟨h1, h2⟩ := (enw_take hk).1 he
      rw [h2] at e
      have e2 := List.append_cancel_right e
      have ih := cn_of hW s m y (k + 1 - w.length) (by simp at h; omega) (by omega) (fun v hv => hx v (by simp [hv])) e2
      rw [cn_succ hW, pr_all]
      refine Nat.lt_of_lt_of_le ih ?_
      have := map_sum_has (f := fun w => if enw s (k + 1) w then cn W s (k + 1 - w.length) else 0) hw
      simp only [he, if_true] at this
      exact this
/-- A code that is read in one way only: at most one way. -/
theorem cn_ud {W : List Wd} (g : Good W) (hu : UD W) (s : Wd) : ∀ (m k : Nat), k ≤ m → k ≤ s.length → cn W s k ≤ 1
  | _, 0, _, _ => by rw [cn_zero]; exact Nat.le_refl _
  | 0, k + 1, h, _ => by omega
  | m + 1, k + 1, h, hk => by
    rw [cn_succ g.some_, pr_all]
    refine sum_one g.nodup (fun w hw => ?_) fun w hw v hv hp hq => ?_
    · have hl := List.length_pos_iff.2 (g.some_ w hw)
      split
      · exact cn_ud g hu s m _ (by omega) (by omega)
      · omega
    · have key : ∀ w ∈ W, 0 < (if enw s (k + 1) w then cn W s (k + 1 - w.length) else 0) → ∃ x, Of W x ∧ x.flatten ++ w = s.take (k + 1) := by
        intro w hw hp
        have hl := List.length_pos_iff.2 (g.some_ w hw)
        by_cases he : enw s (k + 1) w = true
        · rw [if_pos he] at hp
          obtain ⟨h1, h2⟩ := (enw_take hk).1 he
          obtain ⟨x, hx, e⟩ := cn_pos g.some_ s _ _ (Nat.le_refl _) (by omega) hp
          exact ⟨x, hx, by rw [e, ← h2]⟩
        · rw [if_neg he] at hp; omega
      obtain ⟨x, hx, ex⟩ := key w hw hp
      obtain ⟨y, hy, ey⟩ := key v hv hq
      have of_snoc : ∀ {x : List Wd} {w : Wd}, Of W x → w ∈ W → Of W (x ++ [w]) := fun hx hw v hv => by
        rcases List.mem_append.1 hv with hv | hv
        · exact hx v hv
        · rw [List.mem_singleton.1 hv]; exact hw
      have e := hu (x ++ [w]) (y ++ [v]) (of_snoc hx hw) (of_snoc hy hv) (by
        rw [List.flatten_append, List.flatten_append]
        simp only [List.flatten_cons, List.flatten_nil, List.append_nil]
        rw [ex, ey])
      have := (List.append_inj' e rfl).2
      injection this
theorem enw_app {s t w : Wd} {k : Nat} (h : enw t k w = true) : enw (s ++ t) (s.length + k) w = true := by
  rw [enw_iff] at h ⊢
  rw [List.take_append, List.take_of_length_le (by omega), Nat.add_sub_cancel_left]
  exact h.trans (List.suffix_append _ _)
theorem enw_front {s t w : Wd} {k : Nat} (h : k ≤ s.length) : enw (s ++ t) k w = enw s k w := by
  unfold enw
  rw [List.take_append_of_le_length h]
theorem cn_front {W : List Wd} (hW : ∀ w ∈ W, w ≠ []) (s t : Wd) : ∀ (m k : Nat), k ≤ m → k ≤ s.length → cn W (s ++ t) k = cn W s k
  | _, 0, _, _ => rfl
  | 0, k + 1, h, _ => by omega
  | m + 1, k + 1, h, hk => by
    rw [cn_succ hW, cn_succ hW, pr_all, pr_all]
    refine map_sum_congr fun w hw => ?_
    have hl := List.length_pos_iff.2 (hW w hw)
    rw [enw_front hk, cn_front hW s t m _ (by omega) (by omega)]
/-- Two texts in a row: no fewer ways than both have, multiplied. -/
theorem cn_prod {W : List Wd} (hW : ∀ w ∈ W, w ≠ []) (s t : Wd) : ∀ (m k : Nat), k ≤ m → k ≤ t.length → cn W s s.length * cn W t k ≤ cn W (s ++ t) (s.length + k)
  | _, 0, _, _ => by rw [cn_zero, Nat.mul_one, Nat.add_zero, cn_front hW s t _ _ (Nat.le_refl _) (Nat.le_refl _)]; exact Nat.le_refl _
  | 0, k + 1, h, _ => by omega
  | m + 1, k + 1, h, hk => by
    rw [cn_succ hW, ← Nat.add_assoc, cn_succ hW, pr_all, pr_all, ← map_sum_mul]
    refine map_sum_le fun w hw => ?_
    have hl := List.length_pos_iff.2 (hW w hw)
    by_cases he : enw t (k + 1) w = true
    · have hlen := ((enw_take hk).1 he).1
      rw [if_pos he, if_pos (by rw [Nat.add_assoc]; exact enw_app he)]
      rw [show s.length + k + 1 - w.length = s.length + (k + 1 - w.length) by omega]
      exact cn_prod hW s t m _ (by omega) (by omega)
    · rw [if_neg he, Nat.mul_zero]; exact Nat.zero_le _
/-- Read from the front, word by word, up to a place where no word goes on: then the text is no row of words at all. -/
theorem dec_none {W : List Wd} (hp : PF W) (hW : ∀ w ∈ W, w ≠ []) : ∀ (y : List Wd) (r : Wd), Of W y → r ≠ [] → (∀ w ∈ W, ¬ w <+: r) → ∀ x, Of W x → x.flatten ≠ y.flatten ++ r
  | [], r, _, hr, hno, [], _, e => by simp at e; exact hr e
  | [], r, _, hr, hno, w :: x, hx, e => by
    rw [List.flatten_cons, List.flatten_nil, List.nil_append] at e
    exact hno w hx.head ⟨_, e⟩
  | v :: y, r, hy, hr, hno, [], _, e => by
    rw [List.flatten_cons, List.flatten_nil, List.append_assoc] at e
    exact hW v hy.head (List.append_eq_nil_iff.1 e.symm).1
  | v :: y, r, hy, hr, hno, w :: x, hx, e => by
    rw [List.flatten_cons, List.flatten_cons, List.append_assoc] at e
    have hwv : w = v := by
      rcases List.prefix_or_prefix_of_prefix (l₁ := w) (l₂ := v) ⟨_, e⟩ ⟨_, rfl⟩ with h | h
      · exact hp w hx.head v hy.head h
      · exact (hp v hy.head w hx.head h).symm
    subst hwv
    exact dec_none hp hW y r hy.tail hr hno x hx.tail (List.append_cancel_left e)
end Cm
end Go.Proofs.Ytmgkoliindicgaa
