/-
The contract of quillref.RootOf: the root of a word that is not empty, and how often it comes.
-/
import Derived.Test.YtihidlcepdpjoaaShelf
import Derived.Test.YtihidlcepdpjoaaRefWord
import Derived.Test.YtihidlcepdpjoaaWordPub
import Derived.Deep.RegionHeld3
namespace Go.Proofs.Ytihidlcepdpjoaa
open Go.RowKit

/-- c copies of s. -/
def rep (s : ByteArray) (c : Nat) : ByteArray := ⟨(Lib.repeatL s.data.toList c).toArray⟩
theorem rep_data (s : ByteArray) (c : Nat) : (rep s c).data.toList = Lib.repeatL s.data.toList c := rfl
theorem rep_size (s : ByteArray) (c : Nat) : (rep s c).size = c * s.size := by rw [← size_list, rep_data, Lib.repeatL_length, size_list]
theorem rep_byt {s : ByteArray} : ∀ {c i : Nat}, i < c * s.size → byt (rep s c) i = byt s (i % s.size) := by
  intro c
  induction c with
  | zero => intro i h; omega
  | succ c ih =>
    intro i h
    rw [Nat.succ_mul] at h
    have e : byt (rep s (c + 1)) i = if i < s.size then byt s i else byt (rep s c) (i - s.size) := by
      unfold byt
      rw [rep_data, rep_data, Lib.repeatL, List.getD_eq_getElem?_getD, List.getElem?_append, size_list]
      split
      · rw [List.getD_eq_getElem?_getD]
      · rw [List.getD_eq_getElem?_getD]
    rw [e]
    by_cases hi : i < s.size
    · rw [if_pos hi, Nat.mod_eq_of_lt hi]
    · rw [if_neg hi, ih (by omega), Nat.mod_eq_sub_mod (a := i) (by omega)]

theorem repeat_any (s : ByteArray) (x : Int) (c : Nat) (w : World) (hx : x = (c : Int)) (hc : c ≤ 1000) (hs : s.size ≤ 1000) :
    Calls Try.prog 25 #[.string s, .int .i64 x] w fun e w' => e = .returned (.string (rep s c)) ∧ Below w.heap.size w w' := by
  subst hx
  exact Try.strings_Repeat s c w (by omega) (Nat.le_trans (Nat.mul_le_mul hs hc) (by decide))

theorem ret_si {a : ByteArray} {x x' : Int} (h : x = x') : Ending.returned (.tuple #[.string a, .int .i64 x]) = .returned (.tuple #[.string a, .int .i64 x']) := by rw [h]
theorem tmod_nat (a b : Nat) : (a : Int).tmod (b : Int) = ((a % b : Nat) : Int) := rfl
/-- The comparison that RootOf makes. -/
theorem rep_cmp {s : ByteArray} {d : Nat} (h0 : 0 < d) (hd : d ∣ s.size) (h : d ≤ s.size) :
    ((rep (s.extract 0 d) (s.size / d)).size = s.size ∧ ∀ i, i < (rep (s.extract 0 d) (s.size / d)).size → byt (rep (s.extract 0 d) (s.size / d)) i = byt s i) ↔ Wm.Per (byt s) s.size d := by
  have hz : (s.extract 0 d).size = d := by rw [size_ext]; omega
  have hm : s.size / d * d = s.size := Nat.div_mul_cancel hd
  rw [rep_size, hz, hm]
  have key : ∀ i, i < s.size → byt (rep (s.extract 0 d) (s.size / d)) i = byt s (i % d) := by
    intro i hi
    have := Nat.mod_lt i h0
    rw [rep_byt (by rw [hz, hm]; exact hi), hz, byt_ext (by omega), Nat.zero_add]
  constructor
  · rintro ⟨_, hh⟩
    exact Wm.Per.of_mod fun i hi => by rw [← hh i hi, key i hi]
  · intro hp
    exact ⟨rfl, fun i hi => by rw [key i hi, ← hp.mod i hi]⟩

set_option maxHeartbeats 1000000 in
theorem rootOf_any (s : ByteArray) (w : World) (hs : s.size ≤ 200) (h0 : 0 < s.size) :
    Calls Try.prog 16 #[.string s] w fun e w' => e = .returned (.tuple #[.string (s.extract 0 (rootLen s)), .int .i64 ((s.size / rootLen s : Nat) : Int)]) ∧ Below w.heap.size w w' := by
  have hr := rootLen_root h0
  have hl := rootLen_le h0
  obtain ⟨r, hr0⟩ : ∃ r, r = rootLen s := ⟨_, rfl⟩
  rw [← hr0] at hr hl ⊢
  have HR := hid hr
  clear hr hr0
  go_enter Try.func16, Try.ntmps16
  go_wp2
  go_loopw [4] (fun x wr => ∃ d : Nat, 1 ≤ d ∧ d ≤ r ∧ x = .int .i64 d ∧ Below w.heap.size w wr) (fun x _ => r + 1 - (intOf x).toNat)
  case atStart => exact ⟨1, by omega, by omega, rfl, Below.refl _ _⟩
  case round =>
    obtain ⟨d, hd1, hd2, rfl, hbel⟩ := hrel
    have hd' : (d : Int) ≤ (s.size : Int) := by omega
    have hdp : (0 : Int) < (d : Int) := by omega
    have hdz : ¬ d = 0 := by omega
    have hdz' : ¬ (d : Int) = 0 := by omega
    by_cases hdv : d ∣ s.size
    · have hm : ((s.size : Int).tmod (d : Int) == 0) = true := by
        rw [beq_iff_eq, tmod_nat, Nat.mod_eq_zero_of_dvd hdv]; rfl
      obtain ⟨q, hq⟩ : ∃ q, q = s.size / d := ⟨_, rfl⟩
      have hq2 : q ≤ 200 := by rw [hq]; exact Nat.le_trans (Nat.div_le_self _ _) hs
      have hq1 : (s.size : Int).tdiv (d : Int) = (q : Int) := by rw [hq]; rfl
      have hq3 : IntKind.i64.wrap (q : Int) = (q : Int) := IntWalk.i64_in _ (by omega)
      have hez : (s.extract 0 d).size ≤ 1000 := by rw [size_ext]; omega
      have HQ := hid hq
      clear hq
      by_cases hp : Wm.Per (byt s) s.size d
      · have hcmp := beq_true ((rep_cmp (by omega) hdv (by omega)).2 hp)
        rw [← HQ.out] at hcmp
        obtain rfl : d = r := Nat.le_antisymm hd2 (HR.out.2 d ⟨by omega, hdv, hp⟩)
        clear hp hdv
        go_wp2
        go_region_held3 (fun _ => True) (trivial) (first | (go_at_call 25; (with_reducible refine (repeat_any _ _ q _ rfl (by omega) hez).mono ?_); rintro e w1 ⟨rfl, hb⟩))
        go_wp2
        go_quiet (fail)
        go_wp2
        go_ret2
        exact ⟨ret_si (by rw [HQ.out]), bl_drewN (hbel.drew.trans (hb.mono hbel.size)) _⟩
      · have hcmp := beq_false (fun h => hp ((rep_cmp (by omega) hdv (by omega)).1 h))
        rw [← HQ.out] at hcmp
        have hlt : d < r := by
          rcases Nat.lt_or_ge d r with h | h
          · exact h
          · obtain rfl : d = r := by omega
            exact absurd HR.out.1.2.2 hp
        clear hp hdv
        go_wp2
        go_region_held3 (fun _ => True) (trivial) (first | (go_at_call 25; (with_reducible refine (repeat_any _ _ q _ rfl (by omega) hez).mono ?_); rintro e w1 ⟨rfl, hb⟩))
        go_wp2
        go_roundw
        case rel => exact ⟨d + 1, by omega, by omega, by go_num, hbel.drew.trans (hb.mono hbel.size)⟩
        case measure => simp [intOf]; omega
    · have hm : ((s.size : Int).tmod (d : Int) == 0) = false := by
        rw [beq_eq_false_iff_ne, tmod_nat]
        intro e
        exact hdv (Nat.dvd_of_mod_eq_zero (by omega))
      have hm2 : ((s.size : Int) % (d : Int) == 0) = false := hm
      have hlt : d < r := by
        rcases Nat.lt_or_ge d r with h | h
        · exact h
        · obtain rfl : d = r := by omega
          exact absurd HR.out.1.2.1 hdv
      clear hdv
      go_wp2
      go_quiet (fail)
      go_wp2
      go_roundw
      case rel => exact ⟨d + 1, by omega, by omega, by go_num, bl_drewN hbel _⟩
      case measure => simp [intOf]; omega
theorem rootOf_empty (s : ByteArray) (w : World) (h0 : s.size = 0) :
    Calls Try.prog 16 #[.string s] w fun e w' => e = .returned (.tuple #[.string ByteArray.empty, .int .i64 0]) ∧ w = w' := by
  go_enter Try.func16, Try.ntmps16
  go_wp2
  go_loop [4] (fun x => x = .int .i64 1) (fun _ => 0)
  case atStart => rfl
  case round =>
    subst hrel
    go_wp2
    go_ret2
    exact ⟨rfl, rfl⟩
theorem rootOf_all (s : ByteArray) (w : World) (hs : s.size ≤ 200) :
    Calls Try.prog 16 #[.string s] w fun e w' => e = .returned (.tuple #[.string (rootS s), .int .i64 (rootN s)]) ∧ Below w.heap.size w w' := by
  unfold rootS rootN
  by_cases h : s.size = 0
  · rw [if_pos h, if_pos h]
    refine (rootOf_empty s w h).mono ?_
    rintro e w' ⟨rfl, rfl⟩
    exact ⟨rfl, Below.refl _ _⟩
  · rw [if_neg h, if_neg h]
    exact rootOf_any s w hs (by omega)
end Go.Proofs.Ytihidlcepdpjoaa
