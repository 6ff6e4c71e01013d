/-
The walk of quilllaw.LyndonNext: it returns true.
-/
import Derived.Test.YtddejiblgodgkaaRefLyn
import Derived.Test.YtddejiblgodgkaaRefNext
namespace Go.Proofs.Ytddejiblgodgkaa
open Go.RowKit

theorem next_arg (s : ByteArray) (n : Int) (last : Nat) (w : World) (h : n < 1 ∨ 200 < n) :
    Calls Try.prog 4 #[.string s, .int .i64 n, .int .u8 (last : Int)] w fun e w' => e = .returned (.bool true) ∧ Below w.heap.size w w' := by
  go_enter Try.func4, Try.ntmps4
  go_wp2_with fail
  with_reducible refine (Next_arg s n last _ h).mono ?_
  rintro e w1 ⟨rfl, rfl⟩
  by_cases h1 : n < 1
  · have hd1 : decide (n < 1) = true := decide_eq_true h1
    go_wp2
    go_ret
    exact ⟨by rfl, Below.refl _ _⟩
  · have hd1 : decide (n < 1) = false := decide_eq_false h1
    have hd2 : decide (200 < n) = true := decide_eq_true (by omega)
    go_wp2
    go_ret
    exact ⟨by rfl, Below.refl _ _⟩
theorem next_large (s : ByteArray) (n last : Nat) (w : World) (h1 : 1 ≤ n) (h2 : n ≤ 200) (hs : n < s.size) :
    Calls Try.prog 4 #[.string s, .int .i64 (n : Int), .int .u8 (last : Int)] w fun e w' => e = .returned (.bool true) ∧ Below w.heap.size w w' := by
  have hd1 : decide ((n : Int) < 1) = false := decide_eq_false (by omega)
  have hd2 : decide ((200 : Int) < (n : Int)) = false := decide_eq_false (by omega)
  have hd3 : decide ((n : Int) < (s.size : Int)) = true := decide_eq_true (by omega)
  go_enter Try.func4, Try.ntmps4
  go_wp2_with fail
  with_reducible refine (Next_large s n last _ h1 h2 hs).mono ?_
  rintro e w1 ⟨rfl, rfl⟩
  go_wp2
  go_ret
  exact ⟨by rfl, Below.refl _ _⟩
theorem next_form (s : ByteArray) (n last : Nat) (w : World) (h1 : 1 ≤ n) (h2 : n ≤ 200) (hs : s.size ≤ n) (hl : ¬ LynS s) :
    Calls Try.prog 4 #[.string s, .int .i64 (n : Int), .int .u8 (last : Int)] w fun e w' => e = .returned (.bool true) ∧ Below w.heap.size w w' := by
  have hd1 : decide ((n : Int) < 1) = false := decide_eq_false (by omega)
  have hd2 : decide ((200 : Int) < (n : Int)) = false := decide_eq_false (by omega)
  have hd3 : decide ((n : Int) < (s.size : Int)) = false := decide_eq_false (by omega)
  go_enter Try.func4, Try.ntmps4
  go_wp2_with fail
  with_reducible refine (Next_form s n last _ h1 h2 hs hl).mono ?_
  rintro e w1 ⟨rfl, hd⟩
  go_wp2_with fail
  with_reducible refine (refLyndon s _ (by omega)).mono ?_
  rintro e w2 ⟨⟨b, hb, rfl⟩, hd2'⟩
  obtain rfl : b = false := by cases b; rfl; exact absurd (hb.1 rfl) hl
  clear hb
  have hb2 := hid ((hd.trans hd2').below w.heap.size)
  clear hd hd2'
  go_wp2
  go_ret
  exact ⟨by rfl, hb2.out⟩
set_option maxHeartbeats 400000 in
theorem next_high (s : ByteArray) (n last : Nat) (w : World) (h1 : 1 ≤ n) (h2 : n ≤ 200) (hs : s.size ≤ n) (hl : LynS s) (hh : ¬ ∀ i, fb s (i % s.size) ≤ last) :
    Calls Try.prog 4 #[.string s, .int .i64 (n : Int), .int .u8 (last : Int)] w fun e w' => e = .returned (.bool true) ∧ Below w.heap.size w w' := by
  have h0 : 0 < s.size := by rw [← wd_len]; exact hl.1
  have hd1 : decide ((n : Int) < 1) = false := decide_eq_false (by omega)
  have hd2 : decide ((200 : Int) < (n : Int)) = false := decide_eq_false (by omega)
  have hd3 : decide ((n : Int) < (s.size : Int)) = false := decide_eq_false (by omega)
  have HH := hid hh
  clear hh
  go_enter Try.func4, Try.ntmps4
  go_wp2_with fail
  with_reducible refine (Next_high s n last _ h1 h2 hs hl HH.out).mono ?_
  rintro e w1 ⟨rfl, hb1⟩
  go_wp2_with fail
  with_reducible refine (refLyndon s _ (by omega)).mono ?_
  rintro e w2 ⟨⟨b, hb, rfl⟩, hd2'⟩
  obtain rfl : b = true := hb.2 hl
  clear hb
  have hb2 := bl_then hb1 (hd2'.below _)
  clear hb1 hd2'
  have hcv := run_bytes_of_string (P := Try.prog) w2 9 38 5 s Try.underlying9 Try.underlying38 Try.underlying5
  go_wp2_with fail
  with_reducible refine (max_str s w2 h0 (by omega) _).mono ?_
  rintro e w3 ⟨⟨m, rfl, hm⟩, hb3⟩
  clear hcv
  have hml : last < m := by
    have := mt (hm last).1 HH.out
    omega
  have hd4 : decide ((last : Int) < (m : Int)) = true := decide_eq_true (by omega)
  have hb4 := hid (bl_then hb2 hb3)
  clear hm hb2 hb3 HH
  go_wp2
  go_ret
  exact ⟨by rfl, hb4.out⟩
set_option maxHeartbeats 400000 in
theorem next_good (s : ByteArray) (n last : Nat) (w : World) (h1 : 1 ≤ n) (h2 : n ≤ 200) (hs : s.size ≤ n) (hl : LynS s) (hla : last < 256) (hh : ∀ i, fb s (i % s.size) ≤ last) :
    Calls Try.prog 4 #[.string s, .int .i64 (n : Int), .int .u8 (last : Int)] w fun e w' => e = .returned (.bool true) ∧ Below w.heap.size w w' := by
  have h0 : 0 < s.size := by rw [← wd_len]; exact hl.1
  have hd1 : decide ((n : Int) < 1) = false := decide_eq_false (by omega)
  have hd2 : decide ((200 : Int) < (n : Int)) = false := decide_eq_false (by omega)
  have hd3 : decide ((n : Int) < (s.size : Int)) = false := decide_eq_false (by omega)
  have HH := hid hh
  clear hh
  go_enter Try.func4, Try.ntmps4
  go_wp2_with fail
  with_reducible refine (Next_ok s n last _ h1 h2 hs hl hla HH.out).mono ?_
  rintro e w1 ⟨⟨r, hr, rfl⟩, hb1⟩
  have HR := hid hr
  clear hr
  obtain ⟨ec, hec⟩ : ∃ ec : Int, ec = if r.size = 0 then 4 else 0 := ⟨_, rfl⟩
  rw [← hec]
  have HEC := hid hec
  clear hec
  go_wp2_with fail
  with_reducible refine (refLyndon s _ (by omega)).mono ?_
  rintro e w2 ⟨⟨b, hb, rfl⟩, hd2'⟩
  obtain rfl : b = true := hb.2 hl
  clear hb
  have hb2 := bl_then hb1 (hd2'.below _)
  clear hb1 hd2'
  have hcv := run_bytes_of_string (P := Try.prog) w2 9 38 5 s Try.underlying9 Try.underlying38 Try.underlying5
  go_wp2_with fail
  with_reducible refine (max_str s w2 h0 (by omega) _).mono ?_
  rintro e w3 ⟨⟨m, rfl, hm⟩, hb3⟩
  clear hcv
  have hml : m ≤ last := (hm last).2 HH.out
  have hd4 : decide ((last : Int) < (m : Int)) = false := decide_eq_false (by omega)
  have hb4 := bl_then hb2 hb3
  clear hm hb2 hb3
  go_wp2_with fail
  with_reducible refine (nextOf_any s n last _ h0 hs h2 hla HH.out).mono ?_
  rintro e w4 ⟨⟨q, hq, rfl⟩, hb5⟩
  obtain rfl : q = r := hq.unique HR.out
  have hb6 := hid (bl_then hb4 hb5)
  clear hq hb4 hb5 HR HH
  by_cases hr0 : q.size = 0
  · have hd5 : decide (0 < q.size) = false := decide_eq_false (by omega)
    obtain rfl : ec = 4 := by have := HEC.out; rwa [if_pos hr0] at this
    have hre : q.toList.isEmpty = true := no_bytes hr0
    rw [hd5]
    clear HEC hd5
    go_wp2
    go_ret
    exact ⟨by rfl, hb6.out⟩
  · have hd5 : decide (0 < q.size) = true := decide_eq_true (by omega)
    obtain rfl : ec = 0 := by have := HEC.out; rwa [if_neg hr0] at this
    have hre : q.toList.isEmpty = false := some_bytes (by omega)
    rw [hd5]
    clear HEC hd5
    go_wp2
    go_ret
    exact ⟨by rfl, hb6.out⟩
theorem u8_wf {z : Int} (h : (Lit.int .u8 z).wf = true) : ∃ k : Nat, k < 256 ∧ z = (k : Int) := by
  have : 0 ≤ z ∧ z ≤ 255 := by
    simp [Lit.wf] at h
    have h1 : IntKind.u8.min = 0 := rfl
    have h2 : IntKind.u8.max = 255 := rfl
    omega
  exact ⟨z.toNat, by omega, by omega⟩
theorem next_walk (s : ByteArray) (n last : Int) (_ : s.size ≤ maxLen) (_ : (Lit.int .i64 n).wf = true) (hl : (Lit.int .u8 last).wf = true) (w : World) :
    Calls Try.prog 4 #[.string s, .int .i64 n, .int .u8 last] w fun e w' => e = .returned (.bool true) ∧ Below w.heap.size w w' := by
  obtain ⟨k, hk, rfl⟩ := u8_wf hl
  by_cases h : n < 1 ∨ 200 < n
  · exact next_arg s n k w h
  · obtain ⟨m, rfl⟩ : ∃ m : Nat, n = (m : Int) := ⟨n.toNat, by omega⟩
    have h1 : 1 ≤ m := by omega
    have h2 : m ≤ 200 := by omega
    by_cases hs : m < s.size
    · exact next_large s m k w h1 h2 hs
    · by_cases hly : LynS s
      · by_cases hh : ∀ i, fb s (i % s.size) ≤ k
        · exact next_good s m k w h1 h2 (by omega) hly hk hh
        · exact next_high s m k w h1 h2 (by omega) hly hh
      · exact next_form s m k w h1 h2 (by omega) hly
end Go.Proofs.Ytddejiblgodgkaa
