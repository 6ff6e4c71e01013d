
/-
What two words have not in common (df): the least price of a way of insertions and deletions alone; that number's laws; what a script takes and puts is no less. No program is named here.
-/
import Derived.Test.YtejcijlmpiiffaaLevMath
import Derived.Test.YtejcijlmpiiffaaEdMath
namespace Go.Proofs.Ytejcijlmpiiffaa.Df
open Sa Lev

/-- A way from a to b with n insertions and deletions. -/
inductive Di : List UInt8 → List UInt8 → Nat → Prop
  | nil : Di [] [] 0
  | del {a b n} (x : UInt8) (h : Di a b n) : Di (x :: a) b (n + 1)
  | ins {a b n} (y : UInt8) (h : Di a b n) : Di a (y :: b) (n + 1)
  | keep {a b n} (x : UInt8) (h : Di a b n) : Di (x :: a) (x :: b) n
theorem Di.symm {a b : List UInt8} {n : Nat} (h : Di a b n) : Di b a n := by
  induction h with
  | nil => exact .nil
  | del x _ ih => exact .ins x ih
  | ins y _ ih => exact .del y ih
  | keep x _ ih => exact .keep x ih
theorem Di.to_nil : ∀ a : List UInt8, Di a [] a.length
  | [] => .nil
  | x :: a => .del x (Di.to_nil a)
/-- What is kept. -/
theorem Di.common {a b : List UInt8} {n : Nat} (h : Di a b n) : ∃ c, List.Sublist c a ∧ List.Sublist c b ∧ a.length + b.length = n + 2 * c.length := by
  induction h with
  | nil => exact ⟨[], List.Sublist.refl _, List.Sublist.refl _, rfl⟩
  | del x _ ih =>
    obtain ⟨c, h1, h2, h3⟩ := ih
    exact ⟨c, h1.cons x, h2, by simp only [List.length_cons]; omega⟩
  | ins y _ ih =>
    obtain ⟨c, h1, h2, h3⟩ := ih
    exact ⟨c, h1, h2.cons y, by simp only [List.length_cons]; omega⟩
  | keep x _ ih =>
    obtain ⟨c, h1, h2, h3⟩ := ih
    exact ⟨x :: c, h1.cons_cons x, h2.cons_cons x, by simp only [List.length_cons]; omega⟩
theorem Di.of_common : ∀ {c a b : List UInt8}, List.Sublist c a → List.Sublist c b → ∃ n, Di a b n ∧ a.length + b.length = n + 2 * c.length := by
  intro c a b h1
  induction h1 generalizing b with
  | slnil =>
    intro _
    exact ⟨b.length, (Di.to_nil b).symm, by simp⟩
  | cons x _ ih =>
    intro h2
    obtain ⟨n, h3, h4⟩ := ih h2
    exact ⟨n + 1, .del x h3, by simp only [List.length_cons]; omega⟩
  | cons_cons x h ih =>
    intro h2
    induction b with
    | nil => cases h2
    | cons y b ihb =>
      cases h2 with
      | cons _ h2 =>
        obtain ⟨n, h3, h4⟩ := ihb h2
        exact ⟨n + 1, .ins y h3, by simp only [List.length_cons] at h4 ⊢; omega⟩
      | cons_cons _ h2 =>
        obtain ⟨n, h3, h4⟩ := ih h2
        exact ⟨n, .keep x h3, by simp only [List.length_cons]; omega⟩
def df (a b : List UInt8) : Nat := a.length + b.length - 2 * lc a b
theorem lc_two (a b : List UInt8) : 2 * lc a b ≤ a.length + b.length := by
  have := lc_left a b
  have := lc_right a b
  omega
theorem df_ex (a b : List UInt8) : Di a b (df a b) := by
  obtain ⟨c, h1, h2, h3⟩ := lc_ex a b
  obtain ⟨n, h4, h5⟩ := Di.of_common h1 h2
  have : n = df a b := by unfold df; omega
  rw [← this]; exact h4
theorem df_le {a b : List UInt8} {n : Nat} (h : Di a b n) : df a b ≤ n := by
  obtain ⟨c, h1, h2, h3⟩ := h.common
  have := lc_ub a b c h1 h2
  unfold df
  omega
theorem df_comm (a b : List UInt8) : df a b = df b a := by unfold df; rw [lc_comm]; omega
theorem Di.trans {b c : List UInt8} {m : Nat} (k : Di b c m) : ∀ {a : List UInt8} {n : Nat}, Di a b n → ∃ l, l ≤ n + m ∧ Di a c l := by
  induction k with
  | nil => exact fun h => ⟨_, by omega, h⟩
  | del x _ ih =>
    intro a n h
    generalize hb : x :: _ = b' at h
    induction h with
    | nil => cases hb
    | del y _ ih2 =>
      obtain ⟨l, h1, h2⟩ := ih2 hb
      exact ⟨l + 1, by omega, .del y h2⟩
    | ins y h _ =>
      injection hb with e1 e2
      subst e2
      obtain ⟨l, h1, h2⟩ := ih h
      exact ⟨l, by omega, h2⟩
    | keep y h _ =>
      injection hb with e1 e2
      subst e2
      obtain ⟨l, h1, h2⟩ := ih h
      exact ⟨l + 1, by omega, .del y h2⟩
  | ins y _ ih =>
    intro a n h
    obtain ⟨l, h1, h2⟩ := ih h
    exact ⟨l + 1, by omega, .ins y h2⟩
  | keep x _ ih =>
    intro a n h
    generalize hb : x :: _ = b' at h
    induction h with
    | nil => cases hb
    | del y _ ih2 =>
      obtain ⟨l, h1, h2⟩ := ih2 hb
      exact ⟨l + 1, by omega, .del y h2⟩
    | ins y h _ =>
      injection hb with e1 e2
      subst e1; subst e2
      obtain ⟨l, h1, h2⟩ := ih h
      exact ⟨l + 1, by omega, .ins _ h2⟩
    | keep y h _ =>
      injection hb with e1 e2
      subst e1; subst e2
      obtain ⟨l, h1, h2⟩ := ih h
      exact ⟨l, by omega, .keep _ h2⟩
theorem df_tri (a b c : List UInt8) : df a c ≤ df a b + df b c := by
  obtain ⟨l, h1, h2⟩ := (df_ex b c).trans (df_ex a b)
  exact Nat.le_trans (df_le h2) h1
theorem df_zero {a b : List UInt8} : df a b = 0 ↔ a = b := by
  constructor
  · intro h
    have h1 := lc_left a b
    have h2 := lc_right a b
    unfold df at h
    have e1 : lc a b = a.length := by omega
    have e2 : a.length = b.length := by omega
    exact (lc_full.1 e1).eq_of_length e2
  · rintro rfl
    have : lc a a = a.length := lc_full.2 (List.Sublist.refl a)
    unfold df
    omega
theorem Di.ed {a b : List UInt8} {n : Nat} (h : Di a b n) : Ed a b n := by
  induction h with
  | nil => exact .nil
  | del x _ ih => exact .del x ih
  | ins y _ ih => exact .ins y ih
  | keep x _ ih => exact .keep x ih
theorem di_of_ed {a b : List UInt8} {n : Nat} (h : Ed a b n) : ∃ m, m ≤ 2 * n ∧ Di a b m := by
  induction h with
  | nil => exact ⟨0, by omega, .nil⟩
  | del x _ ih => obtain ⟨m, h1, h2⟩ := ih; exact ⟨m + 1, by omega, .del x h2⟩
  | ins y _ ih => obtain ⟨m, h1, h2⟩ := ih; exact ⟨m + 1, by omega, .ins y h2⟩
  | rep x y _ ih => obtain ⟨m, h1, h2⟩ := ih; exact ⟨m + 1 + 1, by omega, .del x (.ins y h2)⟩
  | keep x _ ih => obtain ⟨m, h1, h2⟩ := ih; exact ⟨m, h1, .keep x h2⟩
theorem lv_df (a b : List UInt8) : lv a b ≤ df a b := lv_le (df_ex a b).ed
theorem df_lv (a b : List UInt8) : df a b ≤ 2 * lv a b := by
  obtain ⟨m, h1, h2⟩ := di_of_ed (lv_ex a b)
  exact Nat.le_trans (df_le h2) h1

/-- What a script takes and puts. -/
def tot : List Es.Ev → Int
  | [] => 0
  | x :: L => x.d + (x.s.size : Int) + tot L
theorem tot_app (L M : List Es.Ev) : tot (L ++ M) = tot L + tot M := by
  induction L with
  | nil => simp [tot]
  | cons x L ih => rw [List.cons_append]; simp only [tot]; omega
/-- What it keeps. -/
def kp : List Es.Sg → List UInt8 → List UInt8
  | [], q => q
  | g :: G, q => g.p ++ kp G q
theorem kp_src (q : List UInt8) : ∀ G : List Es.Sg, List.Sublist (kp G q) (Es.src G q)
  | [] => List.Sublist.refl _
  | g :: G => by
    simp only [kp, Es.src]
    exact (List.Sublist.refl g.p).append ((kp_src q G).trans (List.sublist_append_right _ _))
theorem kp_dst (q : List UInt8) : ∀ G : List Es.Sg, List.Sublist (kp G q) (Es.dst G q)
  | [] => List.Sublist.refl _
  | g :: G => by
    simp only [kp, Es.dst]
    exact (List.Sublist.refl g.p).append ((kp_dst q G).trans (List.sublist_append_right _ _))
theorem tot_evs (q : List UInt8) : ∀ (k : Nat) (G : List Es.Sg), tot (Es.evs k G) + 2 * ((kp G q).length : Int) = ((Es.src G q).length : Int) + ((Es.dst G q).length : Int)
  | _, [] => by simp only [Es.evs, tot, kp, Es.src, Es.dst]; omega
  | k, g :: G => by
    have ih := tot_evs q (k + g.p.length + g.d.length) G
    simp only [Es.evs, tot, kp, Es.src, Es.dst, List.length_append, mk_size]
    omega
theorem scr_tot {s : List UInt8} {L : List Es.Ev} {G : List Es.Sg} {q : List UInt8} (h : Es.Scr s L G q) : (df s (Es.dst G q) : Int) ≤ tot L := by
  have h1 := tot_evs q 0 G
  rw [h.evs_, h.src_] at h1
  have h2 := kp_src q G
  rw [h.src_] at h2
  have h3 := lc_ub s (Es.dst G q) _ h2 (kp_dst q G)
  have h4 := lc_two s (Es.dst G q)
  unfold df
  omega
theorem tot_pos {s : List UInt8} {L : List Es.Ev} {G : List Es.Sg} {q : List UInt8} (h : Es.Scr s L G q) : 0 ≤ tot L := by
  have := scr_tot h
  omega
/-- A word and its mirror. -/
theorem df_rev (a : List UInt8) : df a a.reverse = 2 * a.length - 2 * lc a a.reverse := by
  unfold df
  rw [List.length_reverse]
  omega
end Go.Proofs.Ytejcijlmpiiffaa.Df
