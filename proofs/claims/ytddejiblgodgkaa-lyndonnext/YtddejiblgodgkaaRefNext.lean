/-
The contract of quillref.NextOf.
-/
import Derived.Test.YtddejiblgodgkaaLNext
namespace Go.Proofs.Ytddejiblgodgkaa
open Go.RowKit

theorem one_byte (w : World) (x : Int) (t : TypeId) : ∀ i, i < 1 → (w.alloc (.cells #[.int .u8 x] t)).cell? ⟨w.heap.size, 0 + i, none⟩ = some (.int .u8 (([x] : List Int).getD i 0)) := by
  intro i hi
  obtain rfl : i = 0 := by omega
  simp
/-- A front of the repetition and one byte behind it. -/
theorem bump_of {s : ByteArray} {c n k x : Nat} (h0 : 0 < s.size) (hc : n ≤ c * s.size) (hk : k < n) (hx : fb s (k % s.size) = x) (hlt : x < 255) : (wideS s c n).extract 0 k ++ strOfNums [(x : Int) + 1] = bumpS s (k + 1) := by
  have hz := wide_size s c n hc
  have hsz : ((wideS s c n).extract 0 k).size = k := by rw [size_ext]; omega
  have hs1 : (strOfNums [(x : Int) + 1]).size = 1 := by rw [strOfNums_size]; rfl
  refine wd_inj (Lm.bn_ext ?_ fun i hi => ?_)
  · rw [wd_app, List.length_append, wd_len, wd_len, wd_len, hsz, hs1, bumpS_size]
  · rw [wd_app, List.length_append, wd_len, wd_len, hsz, hs1] at hi
    rw [wd_app]
    show _ = fb (bumpS s (k + 1)) i
    rw [bumpS_at hi (by rw [show k + 1 - 1 = k by omega, hx]; exact hlt)]
    by_cases hik : i < k
    · rw [Lm.bn_app_l (by rw [wd_len, hsz]; exact hik), if_neg (by omega), wd_take, Lm.bn_take hik]
      exact wide_at h0 hc (by omega)
    · obtain rfl : i = k := by omega
      rw [if_pos (by omega), hx]
      have e := Lm.bn_app_r (a := wd ((wideS s c n).extract 0 i)) (b := wd (strOfNums [(x : Int) + 1])) 0
      rw [wd_len, hsz, Nat.add_zero] at e
      rw [e]
      unfold wd Lm.bn
      rw [strOfNums_data]
      simp
      omega
set_option maxHeartbeats 1000000 in
theorem nextOf_any (s : ByteArray) (n last : Nat) (w : World) (h0 : 0 < s.size) (hs : s.size ≤ n) (hn : n ≤ 200) (hl : last < 256) (hle : ∀ i, fb s (i % s.size) ≤ last) :
    Calls Try.prog 19 #[.string s, .int .i64 (n : Int), .int .u8 (last : Int)] w fun e w' => (∃ r, NextSpec s n last r ∧ e = .returned (.tuple #[.string r, .bool (decide (0 < r.size))])) ∧ Below w.heap.size w w' := by
  obtain ⟨q, hq⟩ : ∃ q, q = n / s.size := ⟨_, rfl⟩
  have hqn : q ≤ n := by rw [hq]; exact Nat.div_le_self _ _
  have hq1 : (n : Int) / (s.size : Int) = (q : Int) := by rw [hq]; simp
  have hq2 : Int.tdiv (n : Int) (s.size : Int) = (q : Int) := by rw [Int.tdiv_eq_ediv_of_nonneg (by omega)]; exact hq1
  have hwq : IntKind.i64.wrap (q : Int) = (q : Int) := IntWalk.i64_in _ (by omega)
  obtain ⟨c, hc⟩ : ∃ c, c = q + 1 := ⟨_, rfl⟩
  have hqc : (q : Int) + 1 = (c : Int) := by omega
  have hwc : IntKind.i64.wrap (c : Int) = (c : Int) := IntWalk.i64_in _ (by omega)
  have hcn : n ≤ c * s.size := by
    have := Nat.div_add_mod n s.size
    have h2 := Nat.mod_lt n h0
    rw [hc, hq, Nat.add_mul, Nat.one_mul, Nat.mul_comm (n / s.size)]
    omega
  have hcs : s.size * c ≤ 140737488355328 := by
    have : s.size * c ≤ 200 * 201 := Nat.mul_le_mul (by omega) (by omega)
    omega
  have HCN := hid hcn
  have hs0 : ((s.size : Int) == 0) = false := beq_eq_false_iff_ne.2 (by omega)
  have hs1 : (s.size : Int) ≠ 0 := by omega
  obtain ⟨n1, hn1⟩ : ∃ n1, n1 = n - 1 := ⟨_, rfl⟩
  have en1 : (n : Int) - 1 = (n1 : Int) := by omega
  have hwn : IntKind.i64.wrap (n1 : Int) = (n1 : Int) := IntWalk.i64_in _ (by omega)
  have HN1 := hid hn1
  clear hq hc hcn hn1
  go_enter Try.func19, Try.ntmps19
  go_wp2_with fail
  with_reducible refine (Try.strings_Repeat s c _ (by omega) hcs).mono ?_
  rintro e w1 ⟨rfl, hb1⟩
  have hrs : (⟨(Lib.repeatL s.data.toList c).toArray⟩ : ByteArray).size = c * s.size := by
    rw [← wd_len, wd_mk, Lib.repeatL_length]
    rw [show s.data.toList.length = s.size from wd_len s]
  have hrn : (n : Int) ≤ ((⟨(Lib.repeatL s.data.toList c).toArray⟩ : ByteArray).size : Int) := by rw [hrs]; exact Int.ofNat_le.2 HCN.out
  have hwz := wide_size s c n HCN.out
  have HW := hid (fun i (hi : i < n) => wide_at (s := s) (c := c) h0 HCN.out hi)
  have HBU := hid (fun k x (hk : k < n) (hx : fb s (k % s.size) = x) (hlt : x < 255) => bump_of (s := s) (c := c) h0 HCN.out hk hx hlt)
  have ewide : (⟨(Lib.repeatL s.data.toList c).toArray⟩ : ByteArray).extract 0 n = wideS s c n := rfl
  clear hrs hcs HCN
  generalize wideS s c n = wide at *
  generalize (⟨(Lib.repeatL s.data.toList c).toArray⟩ : ByteArray) = rep at *
  go_wp2_with fail
  clear ewide hrn
  go_loopw [9] (fun x wr => ∃ m : Nat, m ≤ n ∧ x = .int .i64 ((m : Int) - 1) ∧ Hid (∀ i, m ≤ i → i < n → fb s (i % s.size) = last) ∧ wr = w1) (fun x _ => (intOf x + 1).toNat)
  case atStart => exact ⟨n, by omega, by rw [en1], hid (fun i h1 h2 => by omega), rfl⟩
  case round =>
    obtain ⟨m, hm, rfl, HT, rfl⟩ := hrel
    by_cases hm0 : 0 < m
    · obtain ⟨ip, hip⟩ : ∃ ip, ip = m - 1 := ⟨_, rfl⟩
      have eim : (m : Int) - 1 = (ip : Int) := by omega
      rw [eim]
      have hpw : ip < wide.size := by omega
      have hpn : (ip : Int) < (wide.size : Int) := by omega
      have hpl : (ip : Int) ≤ (wide.size : Int) := by omega
      have hp0 : (0 : Int) ≤ (ip : Int) := by omega
      have hxle := hle ip
      have hxlt := fb_lt s (ip % s.size)
      have HIP := hid hip
      obtain ⟨x, hx⟩ : ∃ x, x = fb s (ip % s.size) := ⟨_, rfl⟩
      have hxb : wide[ip].toNat = x := by rw [← byt_eq hpw, byt_fb, HW.out ip (by omega), hx]
      have hxb' : (wide[ip].toNat : Int) = (x : Int) := by rw [hxb]
      have HX := hid hx
      rw [← hx] at hxle hxlt
      clear hx hip
      by_cases hxl : x = last
      · have hd1 : decide ((x : Int) < (last : Int)) = false := decide_eq_false (by omega)
        have hd2 : decide (x < last) = false := decide_eq_false (by omega)
        go_wp2
        go_roundw
        case measure => simp [intOf]
        case rel =>
          refine ⟨ip, by have := HIP.out; omega, by go_num, ?_, by trivial⟩
          intro i h1 h2
          by_cases hi : i = ip
          · rw [hi, ← HX.out]; exact hxl
          · exact HT.out i (by have := HIP.out; omega) h2
      · have hd1 : decide ((x : Int) < (last : Int)) = true := decide_eq_true (by omega)
        have hd2 : decide (x < last) = true := decide_eq_true (by omega)
        have hw8 : IntKind.u8.wrap ((x : Int) + 1) = (x : Int) + 1 := IntWalk.u8_in _ (by omega)
        have HN := hid (bump_next (s := s) (n := n) (m := m) (last := last) hm0 hm hl (hle _) (by rw [show m - 1 = ip by rw [HIP.out], ← HX.out]; exact hxl) HT.out)
        have HE := hid (HBU.out ip x (by omega) HX.out.symm (by omega))
        have hbig : ¬ 9223372036854775807 < ip + 1 := by omega
        have hss : (strOfNums [(x : Int) + 1]).size = 1 := by rw [strOfNums_size]; rfl
        have hes : (wide.extract 0 ip).size = ip := by rw [size_ext]; omega
        have hmin : min ip wide.size = ip := by omega
        have hcv2 := run_convert_bytes_arg (P := Try.prog) (wr.alloc (.cells #[.int .u8 ((x : Int) + 1)] 5)).drew 38 5 Try.underlying38 Try.underlying5 wr.heap.size 0 1 1 [(x : Int) + 1] rfl (one_byte wr _ _) 9 Try.underlying9
        have hb4 := hid (bl_then hb1 (bl_new wr (.cells #[.int .u8 ((x : Int) + 1)] 5)).drew)
        clear HT hxl hb1
        go_wp2
        go_region
        go_wp2
        go_ret2
        refine ⟨⟨_, HN.out, ?_⟩, hb4.out⟩
        rw [bumpS_size, decide_eq_true hm0, show m = ip + 1 by have := HIP.out; omega, ← HE.out]
        rfl
    · obtain rfl : m = 0 := by omega
      have HN := hid (none_next (s := s) (n := n) (last := last) fun i hi => HT.out i (by omega) hi)
      clear HT
      go_wp2
      go_ret2
      exact ⟨⟨_, HN.out, rfl⟩, hb1⟩
end Go.Proofs.Ytddejiblgodgkaa
