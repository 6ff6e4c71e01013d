
/-
A word that is a root so often in a row: its least turn is so many of one Lyndon word; its transform is the root's, each byte so often. Plain mathematics.
-/
import Derived.Test.YtapjodbaaejldaaLFact
import Derived.Test.YtapjodbaaejldaaLeast
import Derived.Test.YtapjodbaaejldaaWordPub
import Derived.Test.YtapjodbaaejldaaTPut
namespace Go.Proofs.Ytapjodbaaejldaa
open Go.RowKit
namespace Tm
open Lm Sm

theorem cnt_add (P : Nat → Bool) (a : Nat) : ∀ b, cnt P (a + b) = cnt P a + cnt (fun j => P (a + j)) b
  | 0 => rfl
  | b + 1 => by
    show cnt P (a + b) + (P (a + b)).toNat = cnt P a + (cnt (fun j => P (a + j)) b + (P (a + b)).toNat)
    rw [cnt_add P a b]
    omega
theorem cnt_const (b : Bool) : ∀ n, cnt (fun _ => b) n = n * b.toNat
  | 0 => by rw [Nat.zero_mul]; rfl
  | n + 1 => by
    show cnt _ n + b.toNat = _
    rw [cnt_const b n, Nat.succ_mul]
theorem cnt_div (Q : Nat → Bool) {k : Nat} (hk : 0 < k) : ∀ m, cnt (fun j => Q (j / k)) (m * k) = cnt Q m * k
  | 0 => by rw [Nat.zero_mul]; show 0 = 0 * k; rw [Nat.zero_mul]
  | m + 1 => by
    rw [Nat.succ_mul, cnt_add, cnt_div Q hk m]
    have e : cnt (fun j => Q ((m * k + j) / k)) k = cnt (fun _ => Q m) k := cnt_congr fun j hj => by
      rw [Nat.mul_comm, Nat.mul_add_div hk, Nat.div_eq_of_lt hj, Nat.add_zero]
    rw [e, cnt_const]
    show _ = (cnt Q m + (Q m).toNat) * k
    rw [Nat.add_mul, Nat.mul_comm k]
theorem cnt_per (R : Nat → Bool) (m : Nat) (hR : ∀ i, R i = R (i % m)) : ∀ k, cnt R (m * k) = cnt R m * k
  | 0 => rfl
  | k + 1 => by
    rw [Nat.mul_succ, cnt_add, cnt_per R m hR k]
    have e : cnt (fun j => R (m * k + j)) m = cnt R m := cnt_congr fun j hj => by
      rw [hR (m * k + j), Nat.mul_add_mod, Nat.mod_eq_of_lt hj]
    rw [e, Nat.mul_succ]
/-- x is k times y. -/
structure Pow (x y : List UInt8) (k : Nat) : Prop where
  len : x.length = y.length * k
  at_ : ∀ i, i < x.length → x.getD i 0 = y.getD (i % y.length) 0
theorem Pow.w {x y : List UInt8} {k : Nat} (h : Pow x y k) (h0 : 0 < x.length) (i d : Nat) : W x i d = W y i d := by
  show x.getD _ 0 = y.getD _ 0
  rw [h.at_ _ (Nat.mod_lt _ h0), h.len, Nat.mod_mul_right_mod]
theorem Pow.cy_ {x y : List UInt8} {k : Nat} (h : Pow x y k) (h0 : 0 < x.length) (i n : Nat) : cy x i n = cy y i n := List.map_congr_left fun d _ => h.w h0 i d
/-- BURROWS, WHEELER: the transform of so many of one word has each byte of the word's so often. -/
theorem IsPut.power {x y t u : List UInt8} {a b k : Nat} (hp : Pow x y k) (h : IsPut x t a) (g : IsPut y u b) {i : Nat} (hi : i < x.length) : t.getD i 0 = u.getD (i / k) 0 := by
  have h0 : 0 < x.length := by omega
  have hk : 0 < k := by
    rcases Nat.eq_zero_or_pos k with e | e
    · rw [hp.len, e, Nat.mul_zero] at h0; omega
    · exact e
  obtain ⟨σ, h1, h2, _⟩ := h.all
  obtain ⟨τ, g1, g2, _⟩ := g.all
  have hdiv : ∀ j, j < x.length → j / k < y.length := fun j hj => by
    rw [hp.len] at hj
    exact Nat.div_lt_of_lt_mul (by rw [Nat.mul_comm]; exact hj)
  have hsame := same_rows (n := x.length) (T := fun j => cy x (σ j) x.length) (U := fun j => cy x (τ (j / k)) x.length) (h1.rise x.length) (fun i j hij hj => by
    show ¬ cy x (τ (j / k)) x.length < cy x (τ (i / k)) x.length
    rcases Nat.lt_or_ge (i / k) (j / k) with e | e
    · rw [hp.cy_ h0, hp.cy_ h0]; exact g1.rise x.length _ _ e (hdiv j hj)
    · have := Nat.div_le_div_right (c := k) (Nat.le_of_lt hij)
      rw [show i / k = j / k by omega]; exact irr _) (fun P => by
    show cnt (fun j => P (cy x (σ j) x.length)) x.length = cnt (fun j => P (cy x (τ (j / k)) x.length)) x.length
    rw [h1.bij.cnt (fun i => P (cy x i x.length))]
    have e1 := cnt_per (fun i => P (cy x i x.length)) y.length (fun i => by
      show P _ = P _
      rw [hp.cy_ h0, hp.cy_ h0 (i % y.length)]
      congr 1
      exact List.map_congr_left fun d _ => (W_mod y i d).symm) k
    have e2 := cnt_div (fun a => P (cy x (τ a) x.length)) hk y.length
    have e3 := g1.bij.cnt (fun i => P (cy x i x.length))
    rw [← hp.len] at e1 e2
    rw [e1, e2, e3]) hi
  have := congrArg (fun l => l.getD (x.length - 1) 0) hsame
  simp only [cy_get x _ (show x.length - 1 < x.length by omega)] at this
  rw [h2 i hi, this, hp.w h0, g2 _ (hdiv i hi)]
  obtain ⟨k', rfl⟩ : ∃ k', k = k' + 1 := ⟨k - 1, by omega⟩
  have hy : 0 < y.length := Nat.lt_of_le_of_lt (Nat.zero_le _) (hdiv i hi)
  unfold W
  have e : x.length - 1 = (y.length - 1) + y.length * k' := by rw [hp.len, Nat.mul_succ]; omega
  rw [e, ← Nat.add_assoc, Nat.add_mul_mod_self_left]
theorem pow_flat {l : List UInt8} : ∀ (k x : Nat), x < l.length * k → bn ((List.replicate k l).flatten) x = bn l (x % l.length)
  | 0, x, h => by omega
  | k + 1, x, h => by
    rw [List.replicate_succ, List.flatten_cons]
    by_cases hx : x < l.length
    · rw [bn_app_l hx, Nat.mod_eq_of_lt hx]
    · obtain ⟨z, rfl⟩ : ∃ z, x = l.length + z := ⟨x - l.length, by omega⟩
      rw [bn_app_r, pow_flat k z (by rw [Nat.mul_succ] at h; omega), Nat.add_mod_left]
theorem pow_flat_len (l : List UInt8) : ∀ k, ((List.replicate k l).flatten).length = l.length * k
  | 0 => rfl
  | k + 1 => by rw [List.replicate_succ, List.flatten_cons, List.length_append, pow_flat_len l k, Nat.mul_succ]; omega
end Tm
theorem rootNum {s : ByteArray} {d : Nat} (h : Wm.Root (byt s) s.size d) : Wm.Root (fb s) s.size d := by
  have key : ∀ e, Wm.Per (byt s) s.size e ↔ Wm.Per (fb s) s.size e := by
    intro e
    constructor
    · intro p i hi
      show (byt s i).toNat = (byt s (i + e)).toNat
      rw [p i hi]
    · intro p i hi
      exact UInt8.toNat_inj.1 (p i hi)
  exact ⟨⟨h.1.1, h.1.2.1, (key _).1 h.1.2.2⟩, fun e he => h.2 e ⟨he.1, he.2.1, (key _).2 he.2.2⟩⟩
/-- LYNDON: the least turn of a word falls into as many equal words as the word has of its root. -/
theorem pow_fact {w : ByteArray} {i n : Nat} {g : Nat → ByteArray} (h0 : 0 < w.size) (hi : i < w.size) (hl : LeastAt w i) (hf : FactG (turnS w i) n g) : n = w.size / rootLen w ∧ ∀ j, j < n → g j = g 0 := by
  obtain ⟨m, hm⟩ : ∃ m, m = rootLen w := ⟨_, rfl⟩
  have hr : Wm.Root (fb w) w.size m := by rw [hm]; exact rootNum (rootLen_root h0)
  rw [← hm]
  have hm0 := hr.pos
  obtain ⟨k, hk⟩ := hr.1.2.1
  have hdiv : w.size / m = k := by rw [hk]; exact Nat.mul_div_cancel_left k hm0
  have hmod := hr.1.2.2.mod
  have hz : ∀ y, fb w (y % w.size) = fb w (y % m) := fun y => by
    rw [hmod _ (Nat.mod_lt _ h0)]
    congr 1
    rw [hk, Nat.mod_mul_right_mod]
  have hLz := turnS_size (s := w) (k := i) (by omega)
  have hmN := hr.le h0
  have hL : ∀ x, x < w.size → fb (turnS w i) x = fb w ((i + x) % m) := fun x hx => by rw [turnS_at (by omega) hx, hz]
  obtain ⟨q, hq⟩ : ∃ q, q = (turnS w i).extract 0 m := ⟨_, rfl⟩
  have hqz : q.size = m := by rw [hq, size_ext]; omega
  have hqf : ∀ x, x < m → fb q x = fb w ((i + x) % m) := fun x hx => by
    rw [← hL x (by omega)]
    show Lm.bn (wd q) x = Lm.bn (wd (turnS w i)) x
    rw [hq, wd_take, Lm.bn_take hx]
  have hlq : Lm.Lyn (wd q) := by
    unfold Lm.Lyn
    rw [wd_len, hqz]
    refine (Lm.least_lyn (f := fb w) (h := Lm.bn (wd q)) (i := i) hm0 (fun j hj hlt => ?_) (fun x hx => hqf x hx) (Wm.root_root h0 hr)).2 rfl
    obtain ⟨d, hd, e1, e2⟩ := hlt
    refine hl.least j (by omega) ⟨d, by omega, fun x hx => ?_, ?_⟩
    · rw [hz, hz]; exact e1 x hx
    · rw [hz, hz]; exact e2
  have hfact : Lm.Fact (wd (turnS w i)) (List.replicate k (wd q)) := by
    refine ⟨fun v hv => by rw [(List.mem_replicate.1 hv).2]; exact hlq, List.pairwise_replicate.2 (.inr (Lm.irr _)), ?_⟩
    refine Lm.bn_ext (by rw [Tm.pow_flat_len, wd_len, hqz, wd_len, hLz, hk]) fun x hx => ?_
    rw [Tm.pow_flat_len, wd_len, hqz] at hx
    rw [Tm.pow_flat k x (by rw [wd_len, hqz]; exact hx), wd_len, hqz]
    have e1 := hqf (x % m) (Nat.mod_lt _ hm0)
    have e2 := hL x (by omega)
    show fb q (x % m) = fb (turnS w i) x
    rw [e1, e2, Nat.add_mod_mod]
  have hu := Lm.Fact.unique hf hfact
  have hlen := congrArg List.length hu
  rw [List.length_map, rowL_len, List.length_replicate] at hlen
  have hg : ∀ j, j < n → g j = q := fun j hj => wd_inj (by
    have := rowL_mem (g := g) hj
    rw [hu] at this
    exact (List.mem_replicate.1 this).2)
  exact ⟨by rw [hdiv, hlen], fun j hj => by rw [hg j hj, hg 0 (by omega)]⟩
/-- The transform of a word, and of its root. -/
theorem put_root {w t u : ByteArray} {a b : Nat} (h0 : 0 < w.size) (h : Tm.IsPut (lst w) (lst t) a) (g : Tm.IsPut (lst (w.extract 0 (rootLen w))) (lst u) b) : t.size = w.size ∧ t.size = u.size * (w.size / rootLen w) ∧ ∀ j, j < t.size → (lst t).getD j 0 = (lst u).getD (j / (w.size / rootLen w)) 0 := by
  have hr := rootLen_root h0
  have hl := hr.le h0
  have hm0 := hr.pos
  obtain ⟨k, hk⟩ := hr.1.2.1
  obtain ⟨m, hm⟩ : ∃ m, m = rootLen w := ⟨_, rfl⟩
  rw [← hm] at hr hl hm0 hk g ⊢
  have hdiv : w.size / m = k := by rw [hk]; exact Nat.mul_div_cancel_left k hm0
  rw [hdiv]
  have hrz : (lst (w.extract 0 m)).length = m := by rw [lst_len, size_ext]; omega
  have hp : Tm.Pow (lst w) (lst (w.extract 0 m)) k := by
    refine ⟨by rw [hrz, lst_len, hk], fun i hi => ?_⟩
    rw [lst_len] at hi
    have hlt := Nat.mod_lt i hm0
    rw [hrz, lst_get, lst_get, byt_ext (by omega), Nat.zero_add]
    exact hr.1.2.2.mod i hi
  have ht : t.size = w.size := by have := h.len; rw [lst_len, lst_len] at this; exact this
  have hu : u.size = m := by have := g.len; rw [lst_len, hrz] at this; exact this
  refine ⟨ht, by rw [ht, hu, hk], fun j hj => h.power hp g (by rw [lst_len]; omega)⟩
/-- Some bytes of the transform are there already: one byte more, so often. -/
theorem pow_step {t u : ByteArray} {k i : Nat} (ht : ∀ j, j < t.size → (lst t).getD j 0 = (lst u).getD (j / k) 0) (hz : t.size = u.size * k) (hi : i < u.size) : t.extract 0 (i * k) ++ mkS (List.replicate k (byt u i)) = t.extract 0 ((i + 1) * k) := by
  apply lst_inj_
  have hle : (i + 1) * k ≤ u.size * k := Nat.mul_le_mul_right k hi
  have hs : (i + 1) * k = i * k + k := Nat.succ_mul i k
  have hle2 : i * k + k ≤ t.size := by rw [hz]; omega
  rw [lst_cat, lst_mk, lst_mid, lst_mid, List.drop_zero, Nat.sub_zero, Nat.sub_zero, hs, List.take_add]
  congr 1
  refine (List.eq_replicate_iff.2 ⟨by rw [List.length_take, List.length_drop, lst_len]; omega, fun c hc => ?_⟩).symm
  obtain ⟨j, hj, rfl⟩ := List.mem_iff_getElem.1 hc
  rw [List.length_take, List.length_drop, lst_len] at hj
  have h1 := ht (i * k + j) (by omega)
  rw [List.getElem_take, List.getElem_drop]
  rw [List.getD_eq_getElem?_getD, List.getElem?_eq_getElem (by rw [lst_len]; omega), Option.getD_some] at h1
  rw [h1, Nat.mul_comm, Nat.mul_add_div (by omega), Nat.div_eq_of_lt (by omega), Nat.add_zero]
  exact lst_get u i
end Go.Proofs.Ytapjodbaaejldaa
