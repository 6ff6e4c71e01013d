/-
The walk of quillkeep.LyndonTurns: it returns true.
-/
import Derived.Test.YtddejiblgodgkaaRefLyn
import Derived.Test.YtddejiblgodgkaaKeep
import Derived.Test.YtddejiblgodgkaaWordPub
namespace Go.Proofs.Ytddejiblgodgkaa
open Go.RowKit

theorem mod_in (n a b x : Nat) : (a + (b + x) % n) % n = ((a + b) % n + x) % n := by
  rw [Nat.add_mod a, Nat.mod_mod, ← Nat.add_mod, ← Nat.add_assoc, Nat.add_mod (a + b), Nat.add_mod ((a + b) % n) x, Nat.mod_mod]
theorem turn_turn {s : ByteArray} {a b : Nat} (h0 : 0 < s.size) (ha : a ≤ s.size) (hb : b ≤ s.size) : turnS (turnS s a) b = turnS s ((a + b) % s.size) := by
  have h1 := turnS_size ha
  have h2 : (turnS (turnS s a) b).size = s.size := by rw [turnS_size (by omega), h1]
  have h3 := Nat.mod_lt (a + b) h0
  have h4 := turnS_size (s := s) (k := (a + b) % s.size) (by omega)
  refine wd_inj (Lm.bn_ext (by rw [wd_len, wd_len]; omega) fun x hx => ?_)
  rw [wd_len] at hx
  have e1 := turnS_at (s := turnS s a) (k := b) (x := x) (by omega) (by omega)
  rw [h1, turnS_at ha (Nat.mod_lt _ h0)] at e1
  have e2 := turnS_at (s := s) (k := (a + b) % s.size) (x := x) (by omega) (by omega)
  show fb (turnS (turnS s a) b) x = fb (turnS s ((a + b) % s.size)) x
  rw [e1, e2, mod_in]
theorem least_same {s : ByteArray} {i a j : Nat} (hi : i < s.size) (ha : a < s.size) (hj : j < (turnS s a).size) (h : LeastAt s i) (k : LeastAt (turnS s a) j) : turnS (turnS s a) j = turnS s i := by
  have h0 : 0 < s.size := by omega
  have hsz := turnS_size (s := s) (k := a) (by omega)
  have e1 := turn_turn h0 (Nat.le_of_lt ha) (by omega : j ≤ s.size)
  have hm := Nat.mod_lt (a + j) h0
  have l1 : ¬ wd (turnS s ((a + j) % s.size)) < wd (turnS s i) := fun hl => h.least _ hm ((turn_lt (by omega) (by omega)).1 hl)
  have hm2 := Nat.mod_lt (i + (s.size - a)) h0
  have e2 := turn_turn h0 (Nat.le_of_lt ha) (by omega : (i + (s.size - a)) % s.size ≤ s.size)
  have e3 : (a + (i + (s.size - a)) % s.size) % s.size = i := by
    rw [Nat.add_mod, Nat.mod_mod, ← Nat.add_mod, show a + (i + (s.size - a)) = i + s.size by omega, Nat.add_mod_right, Nat.mod_eq_of_lt hi]
  rw [e3] at e2
  have l2 : ¬ wd (turnS (turnS s a) ((i + (s.size - a)) % s.size)) < wd (turnS (turnS s a) j) := fun hl => k.least _ (by omega) ((turn_lt (by omega) (by omega)).1 hl)
  rw [e2] at l2
  rw [← e1] at l1
  exact wd_inj (List.le_antisymm l2 l1)
theorem root_num {s : ByteArray} {d : Nat} (h : Wm.Root (byt s) s.size d) : Wm.Root (fb s) s.size d := by
  have key : ∀ e, Wm.Per (byt s) s.size e ↔ Wm.Per (fb s) s.size e := by
    intro e
    constructor
    · intro p i hi
      show (byt s i).toNat = (byt s (i + e)).toNat
      rw [p i hi]
    · intro p i hi
      exact UInt8.toNat_inj.1 (p i hi)
  exact ⟨⟨h.1.1, h.1.2.1, (key _).1 h.1.2.2⟩, fun e he => h.2 e ⟨he.1, he.2.1, (key _).2 he.2.2⟩⟩
theorem least_root {s : ByteArray} {i : Nat} (hi : i < s.size) (h : LeastAt s i) : LynS (turnS s i) ↔ s.size / rootLen s = 1 := by
  have h0 : 0 < s.size := by omega
  have hr := root_num (rootLen_root h0)
  have hl := rootLen_le h0
  unfold LynS Lm.Lyn
  rw [wd_len, turnS_size (by omega), Lm.least_lyn (h := Lm.bn (wd (turnS s i))) h0 h.least (fun x hx => turnS_at (by omega) hx) hr]
  constructor
  · intro e; rw [e]; exact Nat.div_self h0
  · intro e
    have h1 := Nat.div_mul_cancel hr.1.2.1
    rw [e] at h1
    omega
def baa : ByteArray := ⟨#[98, 97, 97]⟩
theorem least_baa : LeastAt baa 1 := by
  constructor
  · intro j hj
    refine (turn_lt (s := baa) (by decide) (by omega)).1 ?_
    obtain rfl : j = 0 := by omega
    decide +kernel
  · intro j hj hl
    have h2 : j < 3 := hj
    have := (turn_lt (s := baa) (i := j) (j := 1) (by show j ≤ 3; omega) (by decide)).2 hl
    revert this
    match j, h2 with
    | 0, _ => decide +kernel
    | 1, _ => decide +kernel
    | 2, _ => decide +kernel
theorem turn_baa : turnS baa 1 = ⟨#[97, 97, 98]⟩ := by decide +kernel
theorem least_baa_is (w : World) : Calls Try.prog 12 #[.string ⟨#[98, 97, 97]⟩] w fun e w' => e = .returned (.tuple #[.string ⟨#[97, 97, 98]⟩, .int .i64 1, .int .i64 0]) ∧ Drew w w' := by
  refine (Least_ok baa w (by decide) (by decide)).mono ?_
  rintro e w1 ⟨⟨i, rfl, hi, hl⟩, hd⟩
  obtain rfl : i = 1 := LeastAt.unique hi (by decide) hl least_baa
  rw [turn_baa]
  exact ⟨rfl, hd⟩
theorem three_zeros (w : World) (t : TypeId) : ∀ k, k < 3 → (w.alloc (.cells #[.int .i64 0, .int .i64 0, .int .i64 0] t)).cell? ⟨w.heap.size, k, none⟩ = some (.int .i64 0) := by
  intro k hk
  match k, hk with
  | 0, _ => simp
  | 1, _ => simp
  | 2, _ => simp

theorem turns_large (s : ByteArray) (at_ : Int) (w : World) (hs : 200 < s.size) :
    Calls Try.prog 8 #[.string s, .int .i64 at_] w fun e w' => e = .returned (.bool true) ∧ Below w.heap.size w w' := by
  go_enter Try.func8, Try.ntmps8
  go_wp2_with fail
  with_reducible refine (least_baa_is _).mono ?_
  rintro e w1 ⟨rfl, hd1⟩
  go_wp2_with fail
  with_reducible refine (Least_large s _ hs).mono ?_
  rintro e w2 ⟨rfl, rfl⟩
  go_wp2
  go_ret
  exact ⟨by rfl, hd1.below _⟩
theorem turns_empty (s : ByteArray) (at_ : Int) (w : World) (h0 : s.size = 0) :
    Calls Try.prog 8 #[.string s, .int .i64 at_] w fun e w' => e = .returned (.bool true) ∧ Below w.heap.size w w' := by
  have hne : s.toList.isEmpty = true := no_bytes h0
  go_enter Try.func8, Try.ntmps8
  go_wp2_with fail
  with_reducible refine (least_baa_is _).mono ?_
  rintro e w1 ⟨rfl, hd1⟩
  go_wp2_with fail
  with_reducible refine (Least_empty s _ h0).mono ?_
  rintro e w2 ⟨rfl, hd2⟩
  go_wp2
  go_ret
  exact ⟨by rfl, (hd1.trans hd2).below _⟩
set_option maxHeartbeats 1000000 in
theorem turns_some (s : ByteArray) (at_ : Int) (w : World) (hs : s.size ≤ 200) (h0 : 0 < s.size) :
    Calls Try.prog 8 #[.string s, .int .i64 at_] w fun e w' => e = .returned (.bool true) ∧ Below w.heap.size w w' := by
  have hne := some_bytes h0
  go_enter Try.func8, Try.ntmps8
  go_wp2_with fail
  with_reducible refine (least_baa_is _).mono ?_
  rintro e w1 ⟨rfl, hd1⟩
  go_wp2_with fail
  with_reducible refine (Least_ok s _ hs h0).mono ?_
  rintro e w2 ⟨⟨i, rfl, hi, hl⟩, hd2⟩
  have HL := hid hl
  have hd3 := hd1.trans hd2
  clear hl hd1 hd2
  go_wp2_with fail
  with_reducible refine (within_any at_ s.size _ h0 (by omega)).mono ?_
  rintro e w4 ⟨rfl, rfl⟩
  have hk : (at_ % (s.size : Int)).toNat < s.size := by
    have h1 := Int.emod_nonneg at_ (b := (s.size : Int)) (by omega)
    have h2 := Int.emod_lt_of_pos at_ (b := (s.size : Int)) (by omega)
    omega
  generalize (at_ % (s.size : Int)).toNat = k at *
  have hk' : (k : Int) ≤ (s.size : Int) := by omega
  go_wp2
  go_quiet (fail)
  have hd4 := hd3.more nq
  generalize w2.drewN nq = w4 at *
  clear hd3
  have hz := turnS_size (s := s) (k := k) (by omega)
  rw [show s.extract k s.size ++ s.extract 0 k = turnS s k from rfl]
  obtain ⟨u, hu⟩ : ∃ u, u = turnS s k := ⟨_, rfl⟩
  rw [← hu] at hz ⊢
  have HU := hid hu
  clear hu
  go_wp2_with fail
  with_reducible refine (Least_ok u _ (by omega) (by omega)).mono ?_
  rintro e w5 ⟨⟨j, rfl, hj, hlj⟩, hd5⟩
  have hsame : turnS u j = turnS s i := by
    have hu := HU.out
    subst hu
    exact least_same hi hk hj HL.out hlj
  rw [hsame]
  have hd6 := hd4.trans hd5
  clear hd4 hd5 hlj hsame
  go_wp2_with fail
  with_reducible refine (Root_ok s _ hs h0).mono ?_
  rintro e w6 ⟨rfl, hb6⟩
  have hb7 := bl_then (hd6.below _) hb6
  clear hd6 hb6
  have HT := hid (least_root hi HL.out)
  have hzt := turnS_size (s := s) (k := i) (by omega)
  have hle : ¬ wd u < wd (turnS s i) := by
    have hu := HU.out
    subst hu
    exact fun hl => HL.out.least k hk ((turn_lt (by omega) (by omega)).1 hl)
  obtain ⟨t, ht⟩ : ∃ t, t = turnS s i := ⟨_, rfl⟩
  have hsm : ((s.extract i s.size ++ s.extract 0 i).toList == t.toList) = true := same_yes ht.symm
  rw [← ht] at HT hzt hle ⊢
  clear ht HU HL
  obtain ⟨q, hq⟩ : ∃ q, q = s.size / rootLen s := ⟨_, rfl⟩
  rw [← hq] at HT ⊢
  clear hq
  go_wp2_with fail
  with_reducible refine (Is_ok t _ (by omega)).mono ?_
  rintro e w7 ⟨⟨b, hb, rfl⟩, hd7⟩
  have hb8 := bl_then hb7 (hd7.below _)
  have hbq : (b = true ↔ q = 1) := hb.trans HT.out
  clear hb7 hd7 hb HT
  obtain ⟨g3, g4⟩ := leq_yes hle
  have hi' : (i : Int) ≤ (s.size : Int) := by omega
  have hi2 : decide ((i : Int) < (s.size : Int)) = true := decide_eq_true (by omega)
  have hi3 : decide ((0 : Int) ≤ (i : Int)) = true := decide_eq_true (by omega)
  have hb9 := hid (bl_drewN (bl_then hb8 (bl_new w7 (.cells #[.int .i64 0, .int .i64 0, .int .i64 0] 23))) 1)
  have HZ : Hid (∀ k, k < 3 → (w7.alloc (.cells #[.int .i64 0, .int .i64 0, .int .i64 0] 23)).drew.cell? ⟨w7.heap.size, k, none⟩ = some (.int .i64 0)) := three_zeros w7 _
  clear hb8 hle
  have hbig : ¬ 9223372036854775807 < s.size := by omega
  have hx1 : min i s.size = i := by omega
  have hx2 : s.size - i + i = s.size := by omega
  have hx4 : i ≤ s.size := by omega
  have hx5 : min (s.size - i) s.size = s.size - i := by omega
  by_cases hq1 : q = 1
  · subst hq1
    obtain rfl : b = true := hbq.2 rfl
    clear hbq
    go_wp2_with fail
    go_region_held3 (fun _ => True) (trivial) (first | (go_at_call 23; (with_reducible refine (good_ok w7.heap.size 3 3 _ (by omega) HZ.out).mono ?_); rintro e w8 ⟨rfl, rfl⟩))
    go_wp2
    go_ret
    exact ⟨rfl, hb9.out⟩
  · obtain rfl : b = false := by cases b; rfl; exact absurd (hbq.1 rfl) hq1
    have hqe : ((q : Int) == 1) = false := beq_eq_false_iff_ne.2 (by omega)
    clear hbq
    go_wp2_with fail
    go_region_held3 (fun _ => True) (trivial) (first | (go_at_call 23; (with_reducible refine (good_ok w7.heap.size 3 3 _ (by omega) HZ.out).mono ?_); rintro e w8 ⟨rfl, rfl⟩))
    go_wp2
    go_ret
    exact ⟨rfl, hb9.out⟩
theorem turns_walk (s : ByteArray) (at_ : Int) (_ : s.size ≤ maxLen) (_ : (Lit.int .i64 at_).wf = true) (w : World) :
    Calls Try.prog 8 #[.string s, .int .i64 at_] w fun e w' => e = .returned (.bool true) ∧ Below w.heap.size w w' := by
  by_cases h : s.size ≤ 200
  · by_cases h0 : 0 < s.size
    · exact turns_some s at_ w h h0
    · exact turns_empty s at_ w (by omega)
  · exact turns_large s at_ w (by omega)
end Go.Proofs.Ytddejiblgodgkaa
