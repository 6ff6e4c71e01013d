/-
Plain mathematics on codes: rows of words with the same text (Sardinas, Patterson), the sum of Kraft and McMillan, words from behind and changed ones. No program is named here.
-/
import Derived.Test.YtmgkoliindicgaaUnMath
namespace Go.Proofs.Ytmgkoliindicgaa
namespace Cm

abbrev Wd := List UInt8
/-- All of x are words of W. -/
def Of (W : List Wd) (x : List Wd) : Prop := ∀ w, w ∈ x → w ∈ W
theorem Of.nil (W : List Wd) : Of W [] := fun w h => by cases h
theorem Of.cons {W x : List Wd} {w : Wd} (h1 : w ∈ W) (h2 : Of W x) : Of W (w :: x) := fun v h => by
  rcases List.mem_cons.1 h with rfl | h
  · exact h1
  · exact h2 v h
theorem Of.head {W x : List Wd} {w : Wd} (h : Of W (w :: x)) : w ∈ W := h w List.mem_cons_self
theorem Of.tail {W x : List Wd} {w : Wd} (h : Of W (w :: x)) : Of W x := fun v hv => h v (List.mem_cons_of_mem _ hv)
/-- Each text is read in one way only. -/
def UD (W : List Wd) : Prop := ∀ x y, Of W x → Of W y → x.flatten = y.flatten → x = y
/-- What is over of the one row can be made even. -/
inductive Tw (W : List Wd) : Wd → Prop
  | nil : Tw W []
  | fwd {o o' w : Wd} : w ∈ W → w = o ++ o' → Tw W o' → Tw W o
  | bwd {o o' w : Wd} : w ∈ W → o = w ++ o' → Tw W o' → Tw W o
theorem append_split {a b c d : Wd} (h : a ++ b = c ++ d) : (∃ e, a = c ++ e ∧ e ++ b = d) ∨ (∃ e, c = a ++ e ∧ b = e ++ d) := by
  rcases List.append_eq_append_iff.1 h with ⟨e, h1, h2⟩ | ⟨e, h1, h2⟩
  · exact .inr ⟨e, h1, h2⟩
  · exact .inl ⟨e, h1, h2.symm⟩
theorem tw_of {W : List Wd} : ∀ (n : Nat) (o : Wd) (x y : List Wd), x.length + y.length ≤ n → Of W x → Of W y → o ++ x.flatten = y.flatten → Tw W o
  | n, [], _, _, _, _, _, _ => .nil
  | n, a :: o, x, [], _, _, _, h => by simp at h
  | 0, a :: o, x, w :: y, hn, _, _, _ => by simp at hn
  | n + 1, a :: o, x, w :: y, hn, hx, hy, h => by
    rw [List.flatten_cons] at h
    rw [List.length_cons] at hn
    rcases append_split h with ⟨e, h1, h2⟩ | ⟨e, h1, h2⟩
    · exact .bwd hy.head h1 (tw_of n e x y (by omega) hx hy.tail h2)
    · exact .fwd hy.head h1 (tw_of n e y x (by omega) hy.tail hx h2.symm)
theorem Tw.rows {W : List Wd} {o : Wd} (h : Tw W o) : ∃ x y, Of W x ∧ Of W y ∧ o ++ x.flatten = y.flatten := by
  induction h with
  | nil => exact ⟨[], [], Of.nil W, Of.nil W, rfl⟩
  | @fwd o o' w h1 h2 _ ih =>
    obtain ⟨x, y, hx, hy, e⟩ := ih
    exact ⟨y, w :: x, hy, Of.cons h1 hx, by rw [List.flatten_cons, h2, List.append_assoc, e]⟩
  | @bwd o o' w h1 h2 _ ih =>
    obtain ⟨x, y, hx, hy, e⟩ := ih
    exact ⟨x, w :: y, hx, Of.cons h1 hy, by rw [List.flatten_cons, h2, List.append_assoc, e]⟩
/-- There is a beginning from which all is made even. -/
def Amb (W : List Wd) : Prop := ∃ w v o, w ∈ W ∧ v ∈ W ∧ o ≠ [] ∧ v = w ++ o ∧ Tw W o
theorem amb_of {W : List Wd} (hW : ∀ w ∈ W, w ≠ []) : ∀ (x y : List Wd), Of W x → Of W y → x.flatten = y.flatten → x ≠ y → Amb W
  | [], [], _, _, _, h => absurd rfl h
  | [], w :: y, _, hy, h, _ => by
    rw [List.flatten_nil, List.flatten_cons] at h
    exact absurd (List.append_eq_nil_iff.1 h.symm).1 (hW w hy.head)
  | w :: x, [], hx, _, h, _ => by
    rw [List.flatten_nil, List.flatten_cons] at h
    exact absurd (List.append_eq_nil_iff.1 h).1 (hW w hx.head)
  | w :: x, v :: y, hx, hy, h, hne => by
    by_cases hwv : w = v
    · subst hwv
      rw [List.flatten_cons, List.flatten_cons] at h
      exact amb_of hW x y hx.tail hy.tail (List.append_cancel_left h) fun e => hne (by rw [e])
    · rw [List.flatten_cons, List.flatten_cons] at h
      rcases append_split h with ⟨e, h1, h2⟩ | ⟨e, h1, h2⟩
      · refine ⟨v, w, e, hy.head, hx.head, fun e0 => hwv (by rw [h1, e0, List.append_nil]), h1, tw_of _ e x y (Nat.le_refl _) hx.tail hy.tail h2⟩
      · refine ⟨w, v, e, hx.head, hy.head, fun e0 => hwv (by rw [h1, e0, List.append_nil]), h1, tw_of _ e y x (Nat.le_refl _) hy.tail hx.tail h2.symm⟩
/-- SARDINAS, PATTERSON. -/
theorem ud_iff {W : List Wd} (hW : ∀ w ∈ W, w ≠ []) : UD W ↔ ¬ Amb W := by
  constructor
  · rintro h ⟨w, v, o, h1, h2, h3, h4, h5⟩
    obtain ⟨x, y, hx, hy, e⟩ := h5.rows
    have := h (v :: x) (w :: y) (Of.cons h2 hx) (Of.cons h1 hy) (by rw [List.flatten_cons, List.flatten_cons, h4, List.append_assoc, e])
    injection this with h6 _
    rw [h4] at h6
    exact h3 (List.append_right_eq_self.1 h6)
  · intro h x y hx hy e
    by_cases hne : x = y
    · exact hne
    · exact absurd (amb_of hW x y hx hy e hne) h
/-- No word begins another one. -/
def PF (W : List Wd) : Prop := ∀ w ∈ W, ∀ v ∈ W, w <+: v → w = v
theorem PF.ud {W : List Wd} (h : PF W) (hW : ∀ w ∈ W, w ≠ []) : UD W := by
  rw [ud_iff hW]
  rintro ⟨w, v, o, h1, h2, h3, h4, _⟩
  have e := h w h1 v h2 ⟨o, h4.symm⟩
  rw [e] at h4
  exact h3 (List.append_right_eq_self.1 h4.symm)
theorem UD.no_nil {W : List Wd} (h : UD W) : ([] : Wd) ∉ W := fun hm => by
  have := h [[]] [] (Of.cons hm (Of.nil W)) (Of.nil W) rfl
  cases this
/-! ### The sum -/
/-- A byte is a bit. -/
def Bit (b : UInt8) : Prop := b = 48 ∨ b = 49
def Bits (w : Wd) : Prop := ∀ b ∈ w, Bit b
def ws (M : Nat) (T : List Wd) : Nat := (T.map fun t => 2 ^ (M - t.length)).sum
theorem ws_cons (M : Nat) (t : Wd) (T : List Wd) : ws M (t :: T) = 2 ^ (M - t.length) + ws M T := by unfold ws; rw [List.map_cons, List.sum_cons]
/-- What follows the byte b, of those that begin so. -/
def after (b : UInt8) : List Wd → List Wd
  | [] => []
  | [] :: T => after b T
  | (c :: t) :: T => if c = b then t :: after b T else after b T
theorem mem_after {b : UInt8} {t : Wd} : ∀ {T : List Wd}, t ∈ after b T ↔ (b :: t) ∈ T
  | [] => by simp [after]
  | [] :: T => by simp [after, mem_after (T := T)]
  | (c :: u) :: T => by
    unfold after
    by_cases h : c = b
    · subst h
      rw [if_pos rfl, List.mem_cons, List.mem_cons, mem_after (T := T)]
      simp
    · rw [if_neg h, mem_after (T := T), List.mem_cons]
      constructor
      · exact .inr
      · rintro (h1 | h1)
        · injection h1 with h1 _; exact absurd h1.symm h
        · exact h1
theorem after_nodup {b : UInt8} : ∀ {T : List Wd}, T.Nodup → (after b T).Nodup
  | [], _ => List.nodup_nil
  | [] :: T, h => by unfold after; exact after_nodup (T := T) (List.nodup_cons.1 h).2
  | (c :: u) :: T, h => by
    have h' := List.nodup_cons.1 h
    unfold after
    by_cases hc : c = b
    · subst hc
      rw [if_pos rfl, List.nodup_cons, mem_after]
      exact ⟨h'.1, after_nodup h'.2⟩
    · rw [if_neg hc]; exact after_nodup h'.2
theorem ws_part {M : Nat} : ∀ {T : List Wd}, (∀ t ∈ T, Bits t) → T.Nodup → ∃ e, e ≤ 1 ∧ (e = 1 → ([] : Wd) ∈ T) ∧ ws (M + 1) T = e * 2 ^ (M + 1) + ws M (after 48 T) + ws M (after 49 T)
  | [], _, _ => ⟨0, by omega, fun h => by omega, by simp [ws, after]⟩
  | [] :: T, hb, hn => by
    have hn' := List.nodup_cons.1 hn
    obtain ⟨e, h1, h2, h3⟩ := ws_part (M := M) (T := T) (fun t ht => hb t (List.mem_cons_of_mem _ ht)) hn'.2
    have h0 : e = 0 := by
      rcases Nat.lt_or_ge 0 e with h | h
      · exact absurd (h2 (by omega)) hn'.1
      · omega
    subst h0
    refine ⟨1, by omega, fun _ => List.mem_cons_self, ?_⟩
    rw [ws_cons, h3]
    simp only [List.length_nil, Nat.sub_zero, after]
    omega
  | (c :: t) :: T, hb, hn => by
    have hn' := List.nodup_cons.1 hn
    obtain ⟨e, h1, h2, h3⟩ := ws_part (M := M) (T := T) (fun t ht => hb t (List.mem_cons_of_mem _ ht)) hn'.2
    refine ⟨e, h1, fun h => List.mem_cons_of_mem _ (h2 h), ?_⟩
    rw [ws_cons, h3, List.length_cons, Nat.add_sub_add_right]
    rcases hb _ List.mem_cons_self c List.mem_cons_self with rfl | rfl
    · simp only [after, if_true, if_neg (show ¬ (48 : UInt8) = 49 by decide), ws_cons]
      omega
    · simp only [after, if_true, if_neg (show ¬ (49 : UInt8) = 48 by decide), ws_cons]
      omega
/-- So many texts of no more than M bits have, all together, no more than this. -/
theorem ws_le : ∀ (M : Nat) {T : List Wd}, (∀ t ∈ T, Bits t) → (∀ t ∈ T, t.length ≤ M) → T.Nodup → ws M T ≤ (M + 1) * 2 ^ M
  | 0, T, hb, hl, hn => by
    match T, hl, hn with
    | [], _, _ => simp [ws]
    | [t], hl, _ => simp [ws]
    | t :: u :: T, hl, hn =>
      have h1 := hl t List.mem_cons_self
      have h2 := hl u (List.mem_cons_of_mem _ List.mem_cons_self)
      have e1 := List.eq_nil_of_length_eq_zero (Nat.le_zero.1 h1)
      have e2 := List.eq_nil_of_length_eq_zero (Nat.le_zero.1 h2)
      subst e1 e2
      exact absurd List.mem_cons_self (List.nodup_cons.1 hn).1
  | M + 1, T, hb, hl, hn => by
    obtain ⟨e, h1, _, h3⟩ := ws_part (M := M) hb hn
    have h4 := ws_le M (T := after 48 T) (fun t ht => fun b hbt => hb _ (mem_after.1 ht) b (List.mem_cons_of_mem _ hbt)) (fun t ht => by have := hl _ (mem_after.1 ht); rw [List.length_cons] at this; omega) (after_nodup hn)
    have h5 := ws_le M (T := after 49 T) (fun t ht => fun b hbt => hb _ (mem_after.1 ht) b (List.mem_cons_of_mem _ hbt)) (fun t ht => by have := hl _ (mem_after.1 ht); rw [List.length_cons] at this; omega) (after_nodup hn)
    have h6 : e * 2 ^ (M + 1) ≤ 2 ^ (M + 1) := by
      have := Nat.mul_le_mul_right (2 ^ (M + 1)) h1
      omega
    have h7 : (M + 1 + 1) * 2 ^ (M + 1) = 2 ^ (M + 1) + 2 * ((M + 1) * 2 ^ M) := by
      rw [Nat.add_mul (M + 1) 1, Nat.one_mul, Nat.pow_succ]
      have : (M + 1) * (2 ^ M * 2) = 2 * ((M + 1) * 2 ^ M) := by rw [← Nat.mul_assoc, Nat.mul_comm _ 2]
      omega
    omega
/-- All rows of n words. -/
def seqs (W : List Wd) : Nat → List (List Wd)
  | 0 => [[]]
  | n + 1 => W.flatMap fun w => (seqs W n).map (w :: ·)
theorem mem_seqs {W : List Wd} : ∀ {n : Nat} {x : List Wd}, x ∈ seqs W n → Of W x ∧ x.length = n
  | 0, x, h => by
    rw [List.mem_singleton.1 h]
    exact ⟨Of.nil W, rfl⟩
  | n + 1, x, h => by
    obtain ⟨w, hw, hx⟩ := List.mem_flatMap.1 h
    obtain ⟨y, hy, rfl⟩ := List.mem_map.1 hx
    obtain ⟨h1, h2⟩ := mem_seqs hy
    exact ⟨Of.cons hw h1, by rw [List.length_cons, h2]⟩
theorem nodup_flatMap {α β : Type} {f : α → List β} : ∀ {l : List α}, l.Nodup → (∀ a ∈ l, (f a).Nodup) → (∀ a ∈ l, ∀ b ∈ l, ∀ x, x ∈ f a → x ∈ f b → a = b) → (l.flatMap f).Nodup
  | [], _, _, _ => List.nodup_nil
  | a :: l, h1, h2, h3 => by
    rw [List.flatMap_cons, List.nodup_append]
    have h1' := List.nodup_cons.1 h1
    refine ⟨h2 a List.mem_cons_self, nodup_flatMap h1'.2 (fun b hb => h2 b (List.mem_cons_of_mem _ hb)) (fun b hb c hc => h3 b (List.mem_cons_of_mem _ hb) c (List.mem_cons_of_mem _ hc)), ?_⟩
    rintro x hx y hy rfl
    obtain ⟨b, hb, hxb⟩ := List.mem_flatMap.1 hy
    have := h3 a List.mem_cons_self b (List.mem_cons_of_mem _ hb) x hx hxb
    subst this
    exact h1'.1 hb
theorem nodup_map' {α β : Type} {f : α → β} : ∀ {l : List α}, l.Nodup → (∀ a ∈ l, ∀ b ∈ l, f a = f b → a = b) → (l.map f).Nodup
  | [], _, _ => List.nodup_nil
  | a :: l, h1, h2 => by
    have h1' := List.nodup_cons.1 h1
    rw [List.map_cons, List.nodup_cons]
    refine ⟨fun h => ?_, nodup_map' h1'.2 fun b hb c hc => h2 b (List.mem_cons_of_mem _ hb) c (List.mem_cons_of_mem _ hc)⟩
    obtain ⟨b, hb, e⟩ := List.mem_map.1 h
    have := h2 b (List.mem_cons_of_mem _ hb) a List.mem_cons_self e
    subst this
    exact h1'.1 hb
theorem seqs_nodup {W : List Wd} (hW : W.Nodup) : ∀ n, (seqs W n).Nodup
  | 0 => by simp [seqs]
  | n + 1 => by
    refine nodup_flatMap hW (fun w _ => nodup_map' (seqs_nodup hW n) fun a _ b _ e => by injection e) fun w _ v _ x hx hy => ?_
    obtain ⟨y, _, rfl⟩ := List.mem_map.1 hx
    obtain ⟨z, _, e⟩ := List.mem_map.1 hy
    injection e with e _
    exact e.symm
/-- Of words of no more than twelve bits. -/
theorem flat_len {W : List Wd} (hl : ∀ w ∈ W, w.length ≤ 12) : ∀ {x : List Wd}, Of W x → x.flatten.length ≤ 12 * x.length
  | [], _ => by simp
  | w :: x, h => by
    rw [List.flatten_cons, List.length_append, List.length_cons]
    have h1 := hl w h.head
    have h2 := flat_len hl h.tail
    omega
theorem ws_append (M : Nat) (A B : List Wd) : ws M (A ++ B) = ws M A + ws M B := by unfold ws; rw [List.map_append, List.sum_append]
/-- One word ahead of each. -/
theorem ws_ahead {M : Nat} {w : Wd} (hw : w.length ≤ 12) : ∀ {Y : List (List Wd)}, (∀ y ∈ Y, y.flatten.length ≤ M) → ws (12 + M) ((Y.map (w :: ·)).map List.flatten) = 2 ^ (12 - w.length) * ws M (Y.map List.flatten)
  | [], _ => by simp [ws]
  | y :: Y, h => by
    have ih := ws_ahead (M := M) hw (Y := Y) fun z hz => h z (List.mem_cons_of_mem _ hz)
    have hy := h y List.mem_cons_self
    rw [List.map_cons, List.map_cons, ws_cons, ih, List.map_cons, ws_cons, Nat.mul_add, List.flatten_cons, List.length_append, ← Nat.pow_add]
    congr 2
    omega
theorem ws_seqs {W : List Wd} (hl : ∀ w ∈ W, w.length ≤ 12) : ∀ n, ws (12 * n) ((seqs W n).map List.flatten) = ws 12 W ^ n
  | 0 => by simp [seqs, ws]
  | n + 1 => by
    have ih := ws_seqs hl n
    have key : ∀ V : List Wd, (∀ w ∈ V, w ∈ W) → ws (12 * (n + 1)) ((V.flatMap fun w => (seqs W n).map (w :: ·)).map List.flatten) = ws 12 V * ws 12 W ^ n := by
      intro V
      induction V with
      | nil => intro _; simp [ws]
      | cons w V ihV =>
        intro hV
        rw [List.flatMap_cons, List.map_append, ws_append, ihV fun v hv => hV v (List.mem_cons_of_mem _ hv), show 12 * (n + 1) = 12 + 12 * n by omega,
          ws_ahead (hl w (hV w List.mem_cons_self)) (fun y hy => by obtain ⟨h1, h2⟩ := mem_seqs hy; have := flat_len hl h1; rw [h2] at this; exact this), ih, ws_cons, Nat.add_mul]
    show ws (12 * (n + 1)) ((W.flatMap fun w => (seqs W n).map (w :: ·)).map List.flatten) = _
    rw [key W fun w h => h, Nat.pow_succ, Nat.mul_comm]
theorem great : (12 * 65536 + 1) * 4096 ^ 65536 < 4097 ^ 65536 := by decide +kernel
/-- KRAFT, McMILLAN. -/
theorem UD.kraft {W : List Wd} (h : UD W) (hn : W.Nodup) (hb : ∀ w ∈ W, Bits w) (hl : ∀ w ∈ W, w.length ≤ 12) : ws 12 W ≤ 4096 := by
  rcases Nat.lt_or_ge 4096 (ws 12 W) with hk | hk
  · exfalso
    have key : ∀ n, ¬ (12 * n + 1) * 4096 ^ n < 4097 ^ n := by
      intro n hg
      have h1 := ws_seqs hl n
      have h2 := ws_le (12 * n) (T := (seqs W n).map List.flatten)
        (fun t ht => by
          obtain ⟨x, hx, rfl⟩ := List.mem_map.1 ht
          intro b hbt
          obtain ⟨w, hw, hbw⟩ := List.mem_flatten.1 hbt
          exact hb w ((mem_seqs hx).1 w hw) b hbw)
        (fun t ht => by
          obtain ⟨x, hx, rfl⟩ := List.mem_map.1 ht
          have := flat_len hl (mem_seqs hx).1
          rw [(mem_seqs hx).2] at this
          exact this)
        (nodup_map' (seqs_nodup hn _) fun x hx y hy e => h x y (mem_seqs hx).1 (mem_seqs hy).1 e)
      rw [h1] at h2
      have h3 : 4097 ^ n ≤ ws 12 W ^ n := Nat.pow_le_pow_left hk _
      rw [Nat.pow_mul] at h2
      exact absurd (Nat.lt_of_lt_of_le hg (Nat.le_trans h3 h2)) (Nat.lt_irrefl _)
    exact key 65536 great
  · exact hk
/-! ### From behind, and changed -/
theorem flat_rev : ∀ (x : List Wd), (x.map List.reverse).reverse.flatten = x.flatten.reverse
  | [] => rfl
  | w :: x => by
    rw [List.map_cons, List.reverse_cons, List.flatten_append, flat_rev x, List.flatten_cons (L := x), List.reverse_append]
    simp
theorem Of.map {W x : List Wd} (f : Wd → Wd) (h : Of W x) : Of (W.map f) (x.map f) := fun w hw => by
  obtain ⟨v, hv, rfl⟩ := List.mem_map.1 hw
  exact List.mem_map.2 ⟨v, h v hv, rfl⟩
theorem UD.turned {W : List Wd} (h : UD (W.map List.reverse)) : UD W := by
  intro x y hx hy e
  have h1 := h (x.map List.reverse).reverse (y.map List.reverse).reverse (fun w hw => (hx.map List.reverse) w (List.mem_reverse.1 hw)) (fun w hw => (hy.map List.reverse) w (List.mem_reverse.1 hw)) (by rw [flat_rev, flat_rev, e])
  have h2 := List.reverse_inj.1 h1
  exact List.map_inj_right (fun a b h => List.reverse_inj.1 h) |>.1 h2
theorem map_rev_rev : ∀ (W : List Wd), (W.map List.reverse).map List.reverse = W
  | [] => rfl
  | w :: W => by rw [List.map_cons, List.map_cons, map_rev_rev W, List.reverse_reverse]
theorem ud_rev {W : List Wd} : UD (W.map List.reverse) ↔ UD W :=
  ⟨UD.turned, fun h => UD.turned (by rw [map_rev_rev]; exact h)⟩
/-- f changes bytes, one for one. -/
theorem ud_map {W : List Wd} {f : UInt8 → UInt8} (hf : ∀ a b, f a = f b → a = b) : UD (W.map (List.map f)) ↔ UD W := by
  have hm : ∀ a b : Wd, a.map f = b.map f → a = b := fun a b h => (List.map_inj_right hf).1 h
  have hfl : ∀ x : List Wd, (x.map (List.map f)).flatten = x.flatten.map f := fun x => by rw [List.map_flatten]
  constructor
  · intro h x y hx hy e
    have h1 := h (x.map (List.map f)) (y.map (List.map f)) (hx.map _) (hy.map _) (by rw [hfl, hfl, e])
    exact (List.map_inj_right hm).1 h1
  · intro h x y hx hy e
    have pre : ∀ x : List Wd, Of (W.map (List.map f)) x → ∃ x', Of W x' ∧ x = x'.map (List.map f) := by
      intro x
      induction x with
      | nil => intro _; exact ⟨[], Of.nil W, rfl⟩
      | cons w x ih =>
        intro hx
        obtain ⟨x', h1, h2⟩ := ih hx.tail
        obtain ⟨w', h3, h4⟩ := List.mem_map.1 hx.head
        exact ⟨w' :: x', Of.cons h3 h1, by rw [List.map_cons, h2, h4]⟩
    obtain ⟨x', h1, rfl⟩ := pre x hx
    obtain ⟨y', h2, rfl⟩ := pre y hy
    rw [hfl, hfl] at e
    rw [h x' y' h1 h2 (hm _ _ e)]
theorem pf_map {W : List Wd} {f : UInt8 → UInt8} (hf : ∀ a b, f a = f b → a = b) : PF (W.map (List.map f)) ↔ PF W := by
  have hm : ∀ a b : Wd, a.map f = b.map f → a = b := fun a b h => (List.map_inj_right hf).1 h
  constructor
  · intro h w hw v hv hp
    exact hm _ _ (h _ (List.mem_map.2 ⟨w, hw, rfl⟩) _ (List.mem_map.2 ⟨v, hv, rfl⟩) (List.IsPrefix.map f hp))
  · intro h w hw v hv hp
    obtain ⟨w', hw', rfl⟩ := List.mem_map.1 hw
    obtain ⟨v', hv', rfl⟩ := List.mem_map.1 hv
    obtain ⟨t, ht⟩ := hp
    have : w' <+: v' := by
      have h1 : (v'.map f).take (w'.map f).length = w'.map f := by rw [← ht]; simp
      rw [← List.map_take, List.length_map] at h1
      exact List.prefix_iff_eq_take.2 (hm _ _ h1).symm
    rw [h w' hw' v' hv' this]
end Cm
end Go.Proofs.Ytmgkoliindicgaa
