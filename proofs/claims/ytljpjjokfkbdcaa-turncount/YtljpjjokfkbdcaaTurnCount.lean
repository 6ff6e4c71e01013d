/-
quillkeep.TurnCount: whatever s and p: it answers true.
-/
import Derived.Test.YtljpjjokfkbdcaaTurns
import Derived.Test.YtljpjjokfkbdcaaShelfP
namespace Go.Proofs.Ytljpjjokfkbdcaa
open Go.RowKit

theorem ana_two : Tm.csn (lst nnbS) (lst ⟨#[97, 110, 97]⟩) = 2 := by decide +kernel
theorem Count_ana (w : World) : Calls Try.prog 10 #[.string ⟨#[110, 110, 98, 97, 97, 97]⟩, .string ⟨#[97, 110, 97]⟩] w fun e w' => e = .returned (.tuple #[.int .i64 2, .int .i64 0]) ∧ Below w.heap.size w w' := by
  refine (Count_ok nnbS ⟨#[97, 110, 97]⟩ w (by decide) (by decide)).mono ?_
  rintro e w1 ⟨rfl, hb⟩
  rw [ana_two]
  exact ⟨rfl, hb⟩
/-- v is s written several times. -/
structure Wide (s v : ByteArray) : Prop where
  many : ∃ r, v.size = r * s.size
  at_ : ∀ i, i < v.size → byt v i = byt s (i % s.size)
theorem Wide.one (s : ByteArray) : Wide s s := ⟨⟨1, by omega⟩, fun i hi => by rw [Nat.mod_eq_of_lt hi]⟩
theorem Wide.more {s v : ByteArray} (h : Wide s v) : Wide s (v ++ s) := by
  obtain ⟨r, hr⟩ := h.many
  refine ⟨⟨r + 1, by rw [size_app, hr, Nat.succ_mul]⟩, fun i hi => ?_⟩
  rw [size_app] at hi
  rw [byt_app]
  unfold Wm.cat
  by_cases hv : i < v.size
  · rw [if_pos hv]; exact h.at_ i hv
  · rw [if_neg hv]
    congr 1
    have e : i = (i - v.size) + r * s.size := by omega
    have h2 : i % s.size = i - v.size := by
      generalize i - v.size = j at e hi
      rw [e, Nat.add_mul_mod_self_right, Nat.mod_eq_of_lt (by omega)]
    rw [h2]
theorem wide_pre {s v p : ByteArray} (h : Wide s v) {i : Nat} (hi : i < s.size) (hv : s.size + p.size ≤ v.size) :
    Lib.hasPrefix (v.extract i v.size).data.toList p.data.toList = decide (Tm.cy (lst s) i (lst p).length = lst p) := by
  have e1 : (v.extract i v.size).data.toList = (lst v).drop i := lst_drop v i
  rw [e1, show p.data.toList = lst p from rfl]
  have e2 : ((lst v).drop i).take (lst p).length = Tm.cy (lst s) i (lst p).length := by
    refine List.ext_getElem (by rw [List.length_take, List.length_drop, Tm.cy_len, lst_len, lst_len]; omega) fun d h1 h2 => ?_
    rw [Tm.cy_len, lst_len] at h2
    have e3 := Tm.cy_get (lst s) i (m := (lst p).length) (d := d) (by rw [lst_len]; exact h2)
    rw [List.getD_eq_getElem?_getD, List.getElem?_eq_getElem (by rw [Tm.cy_len, lst_len]; exact h2), Option.getD_some] at e3
    rw [e3, List.getElem_take, List.getElem_drop]
    have e4 := h.at_ (i + d) (by omega)
    have e5 : Tm.W (lst s) i d = byt v (i + d) := by unfold Tm.W; rw [lst_len s, lst_get, e4]
    rw [e5, ← lst_get, List.getD_eq_getElem?_getD, List.getElem?_eq_getElem (by rw [lst_len]; omega), Option.getD_some]
  rw [← e2]
  unfold Lib.hasPrefix
  rw [Bool.eq_iff_iff, decide_eq_true_iff, List.isPrefixOf_iff_prefix, List.prefix_iff_eq_take, eq_comm]
theorem cnt_at (s p : ByteArray) (i : Nat) : Tm.cnt (fun i => decide (Tm.cy (lst s) i (lst p).length = lst p)) (i + 1) = Tm.cnt (fun i => decide (Tm.cy (lst s) i (lst p).length = lst p)) i + (decide (Tm.cy (lst s) i (lst p).length = lst p)).toNat := rfl
/-- How many bytes a string value has. -/
def szOf : Value → Nat
  | .string v => v.size
  | _ => 0
set_option maxHeartbeats 400000 in
theorem turnCount_ok (s p : ByteArray) (w : World) (hs : s.size ≤ 200) (hp : p.size ≤ 200) (h0 : 0 < s.size) :
    Calls Try.prog 6 #[.string s, .string p] w fun e w' => e = .returned (.bool true) ∧ Below w.heap.size w w' := by
  have hpd : decide ((200 : Int) < (p.size : Int)) = false := decide_eq_false (by omega)
  go_enter Try.func6, Try.ntmps6
  go_wp2_with fail
  with_reducible refine (Count_ana _).mono ?_
  rintro e w1 ⟨rfl, hb1⟩
  go_wp2_with fail
  with_reducible refine (Put_ok s _ hs).mono ?_
  rintro e w2 ⟨t, a, rfl, hput, hb2⟩
  have hb2 := bl_then hb1 hb2
  clear hb1
  have htz : t.size = s.size := by rw [← lst_len, ← lst_len]; exact hput.len
  have HCN := hid (hput.count (lst p))
  go_wp2_with fail
  with_reducible refine (Count_ok t p _ (by omega) hp).mono ?_
  rw [HCN.out]
  rintro e w3 ⟨rfl, hb3⟩
  have HB := hid (bl_then hb2 hb3)
  obtain ⟨c, hc⟩ : ∃ c, c = Tm.occ (lst s) (lst p) := ⟨_, rfl⟩
  rw [← hc]
  have HC := hid hc
  clear hb2 hb3 hput HCN htz hc
  go_wp2
  go_loopw [12] (fun x wr => ∃ v : ByteArray, x = .string v ∧ Hid (Wide s v) ∧ s.size ≤ v.size ∧ v.size ≤ 600 ∧ wr = w3) (fun x _ => 1000 - szOf x)
  case atStart => exact ⟨s, rfl, hid (Wide.one s), Nat.le_refl _, by omega, rfl⟩
  case round =>
    obtain ⟨v, rfl, HW, hv1, hv2, rfl⟩ := hrel
    obtain ⟨m, hm⟩ : ∃ m, m = s.size + p.size := ⟨_, rfl⟩
    have em : (s.size : Int) + (p.size : Int) = (m : Int) := by omega
    have hmb : m ≤ 400 := by omega
    have he := some_bytes h0
    by_cases hgo : v.size < m
    · have hlt : (v.size : Int) < (m : Int) := by omega
      have hadd := fun W : World => run_string_add_sum (P := Try.prog) W v s (by omega)
      have HW2 := hid HW.out.more
      have hz := size_app v s
      generalize v ++ s = v2 at *
      clear HW hgo hm
      go_wp2
      go_roundw
      case measure => simp [szOf]; omega
      case rel => exact ⟨v2, rfl, HW2, by omega, by omega, by trivial⟩
    · have HV : Hid (s.size + p.size ≤ v.size) := by show s.size + p.size ≤ v.size; omega
      have hlt : decide ((v.size : Int) < (m : Int)) = false := decide_eq_false (by omega)
      clear hm
      go_wp2
      go_loopw [62, 13] (fun x y wq => ∃ i h : Nat, i ≤ s.size ∧ x = .int .i64 i ∧ y = .int .i64 h ∧ Hid (h = Tm.cnt (fun i => decide (Tm.cy (lst s) i (lst p).length = lst p)) i) ∧ h ≤ i ∧ Drew wr wq) (fun x _ _ => s.size - (intOf x).toNat)
      case atStart => exact ⟨0, 0, by omega, rfl, rfl, hid rfl, by omega, Drew.refl _⟩
      case round =>
        obtain ⟨i, h, hi, rfl, rfl, HH, hhi, hd⟩ := hrel
        by_cases hlt2 : i < s.size
        · have hlt2' : (i : Int) < (s.size : Int) := by omega
          have hiv : (i : Int) ≤ (v.size : Int) := by omega
          have hpre := wide_pre (p := p) HW.out hlt2 HV.out
          have hC := fun W => Try.strings_HasPrefix (v.extract i v.size) p W
          rw [hpre] at hC
          have HSU := hid (cnt_at s p i)
          clear hpre
          by_cases hyes : Tm.cy (lst s) i (lst p).length = lst p
          · rw [decide_eq_true hyes] at hC
            have HY := hid hyes
            clear hyes
            go_wp2_with fail
            with_reducible refine (hC _).mono ?_
            rintro e w5 ⟨rfl, rfl⟩
            clear hC
            go_wp2
            go_roundw
            case measure => simp [intOf]; omega
            case rel => exact ⟨i + 1, h + 1, by omega, by go_num, by go_num, hid (by rw [HSU.out, HH.out, decide_eq_true HY.out]; rfl), by omega, hd⟩
          · rw [decide_eq_false hyes] at hC
            have HY := hid hyes
            clear hyes
            go_wp2_with fail
            with_reducible refine (hC _).mono ?_
            rintro e w5 ⟨rfl, rfl⟩
            clear hC
            go_wp2
            go_roundw
            case measure => simp [intOf]; omega
            case rel => exact ⟨i + 1, h, by omega, by go_num, rfl, hid (by rw [HSU.out, HH.out, decide_eq_false HY.out]; rfl), by omega, hd⟩
        · obtain rfl : h = c := by
            rw [HH.out, HC.out]
            unfold Tm.occ
            rw [lst_len s]
            congr 1
            omega
          have hlt2' : decide ((i : Int) < (s.size : Int)) = false := decide_eq_false (by omega)
          have heq : ((h : Int) == (h : Int)) = true := by simp
          go_wp2
          go_ret
          exact ⟨ret_bool (by simp), HB.out.trans (hd.below _)⟩
theorem turnCount_none (s p : ByteArray) (w : World) (hs : s.size = 0) (hp : p.size ≤ 200) :
    Calls Try.prog 6 #[.string s, .string p] w fun e w' => e = .returned (.bool true) ∧ Below w.heap.size w w' := by
  have hpd : decide ((200 : Int) < (p.size : Int)) = false := decide_eq_false (by omega)
  obtain rfl : s = ByteArray.empty := empty_of hs
  go_enter Try.func6, Try.ntmps6
  go_wp2_with fail
  with_reducible refine (Count_ana _).mono ?_
  rintro e w1 ⟨rfl, hb1⟩
  go_wp2_with fail
  with_reducible refine (Put_ok ByteArray.empty _ (by decide)).mono ?_
  rintro e w2 ⟨t, a, rfl, hput, hb2⟩
  have hb2 := bl_then hb1 hb2
  clear hb1
  have htz : t.size = 0 := by rw [← lst_len, hput.len]; rfl
  have hcn : Tm.csn (lst t) (lst p) = 0 := by rw [hput.count (lst p)]; rfl
  clear hput
  go_wp2_with fail
  with_reducible refine (Count_ok t p _ (by omega) hp).mono ?_
  rw [hcn]
  rintro e w3 ⟨rfl, hb3⟩
  have HB := hid (bl_then hb2 hb3)
  clear hb2 hb3 hcn htz
  go_wp2
  go_loopw [12] (fun x wr => x = .string ByteArray.empty ∧ wr = w3) (fun _ _ => 0)
  case atStart => exact ⟨rfl, rfl⟩
  case round =>
    obtain ⟨rfl, rfl⟩ := hrel
    go_wp2
    go_loopw [62, 13] (fun x y wq => x = .int .i64 0 ∧ y = .int .i64 0 ∧ wq = wr) (fun _ _ _ => 0)
    case atStart => exact ⟨rfl, rfl, rfl⟩
    case round =>
      obtain ⟨rfl, rfl, rfl⟩ := hrel
      go_wp2
      go_ret
      exact ⟨rfl, HB.out⟩
theorem turnCount_plarge (s p : ByteArray) (w : World) (hs : s.size ≤ 200) (hp : 200 < p.size) :
    Calls Try.prog 6 #[.string s, .string p] w fun e w' => e = .returned (.bool true) ∧ Below w.heap.size w w' := by
  have hpd : decide ((200 : Int) < (p.size : Int)) = true := decide_eq_true (by omega)
  go_enter Try.func6, Try.ntmps6
  go_wp2_with fail
  with_reducible refine (Count_ana _).mono ?_
  rintro e w1 ⟨rfl, hb1⟩
  go_wp2_with fail
  with_reducible refine (Put_ok s _ hs).mono ?_
  rintro e w2 ⟨t, a, rfl, hput, hb2⟩
  have hb2 := bl_then hb1 hb2
  clear hb1
  have htz : t.size = s.size := by rw [← lst_len, ← lst_len]; exact hput.len
  clear hput
  go_wp2_with fail
  with_reducible refine (Count_p_large t p _ (by omega) hp).mono ?_
  rintro e w3 ⟨rfl, rfl⟩
  go_wp2
  go_ret
  exact ⟨rfl, hb2⟩
theorem turnCount_slarge (s p : ByteArray) (w : World) (hs : 200 < s.size) :
    Calls Try.prog 6 #[.string s, .string p] w fun e w' => e = .returned (.bool true) ∧ Below w.heap.size w w' := by
  by_cases hp : p.size ≤ 200
  · go_enter Try.func6, Try.ntmps6
    go_wp2_with fail
    with_reducible refine (Count_ana _).mono ?_
    rintro e w1 ⟨rfl, hb1⟩
    go_wp2_with fail
    with_reducible refine (Put_large s _ hs).mono ?_
    rintro e w2 ⟨rfl, rfl⟩
    go_wp2_with fail
    with_reducible refine (Count_ok ByteArray.empty p _ (by decide) hp).mono ?_
    rintro e w3 ⟨rfl, hb3⟩
    have hb := bl_then hb1 hb3
    clear hb1 hb3
    go_wp2
    go_ret
    exact ⟨rfl, hb⟩
  · have hp2 : 200 < p.size := by omega
    go_enter Try.func6, Try.ntmps6
    go_wp2_with fail
    with_reducible refine (Count_ana _).mono ?_
    rintro e w1 ⟨rfl, hb1⟩
    go_wp2_with fail
    with_reducible refine (Put_large s _ hs).mono ?_
    rintro e w2 ⟨rfl, rfl⟩
    go_wp2_with fail
    with_reducible refine (Count_p_large ByteArray.empty p _ (by decide) hp2).mono ?_
    rintro e w3 ⟨rfl, rfl⟩
    go_wp2
    go_ret
    exact ⟨rfl, hb1⟩
theorem turnCount_any (s p : ByteArray) (_h1 : s.size ≤ maxLen) (_h2 : p.size ≤ maxLen) (w : World) :
    Calls Try.prog 6 #[.string s, .string p] w fun e w' => e = .returned (.bool true) ∧ Below w.heap.size w w' := by
  by_cases hs : s.size ≤ 200
  · by_cases hp : p.size ≤ 200
    · rcases Nat.eq_zero_or_pos s.size with h0 | h0
      · exact turnCount_none s p w h0 hp
      · exact turnCount_ok s p w hs hp h0
    · exact turnCount_plarge s p w hs (by omega)
  · exact turnCount_slarge s p w (by omega)
end Go.Proofs.Ytljpjjokfkbdcaa
