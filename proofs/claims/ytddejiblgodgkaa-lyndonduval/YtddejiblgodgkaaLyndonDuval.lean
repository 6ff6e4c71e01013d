/-
The walk of quillkeep.LyndonDuval: it returns true.
-/
import Derived.Test.YtddejiblgodgkaaOver
namespace Go.Proofs.Ytddejiblgodgkaa
open Go.RowKit

theorem NextSpec.lyn {s r : ByteArray} {n last : Nat} (h : NextSpec s n last r) (hs : LynS s) (h0 : 0 < r.size) : LynS r ∧ wd s < wd r := by
  have hl : Lm.LynF (fb s) s.size := by have h := hs; unfold LynS Lm.Lyn at h; rwa [wd_len] at h
  have key := Lm.next_great (f := fb s) (h := fb r) hl h0 (fun i hi => h.front i (by omega)) (h.tip h0).1
  refine ⟨?_, ?_⟩
  · unfold LynS Lm.Lyn; rw [wd_len]; exact key.1
  · rw [Lm.lt_iff, wd_len, wd_len]; exact key.2
theorem NextSpec.least {s r v : ByteArray} {n last : Nat} (h : NextSpec s n last r) (hs : LynS s) (h0 : 0 < r.size) (hv : LynS v) (hn : v.size ≤ n) (hb : ∀ i, i < v.size → fb v i ≤ last) (hl : wd s < wd v) : ¬ wd v < wd r := by
  have hp : 0 < s.size := by rw [← wd_len]; exact hs.1
  have hvl : Lm.LynF (fb v) v.size := by have h := hv; unfold LynS Lm.Lyn at h; rwa [wd_len] at h
  rw [Lm.lt_iff, wd_len, wd_len] at hl ⊢
  exact Lm.next_least (f := fb s) (h := fb r) (g := fb v) hp h0 (fun i hi => h.front i (by omega)) (h.tip h0).1 h.top hvl hn hb hl
theorem NextSpec.none {s r v : ByteArray} {n last : Nat} (h : NextSpec s n last r) (hs : LynS s) (h0 : r.size = 0) (hv : LynS v) (hn : v.size ≤ n) (hb : ∀ i, i < v.size → fb v i ≤ last) : ¬ wd s < wd v := by
  have hp : 0 < s.size := by rw [← wd_len]; exact hs.1
  have hvl : Lm.LynF (fb v) v.size := by have h := hv; unfold LynS Lm.Lyn at h; rwa [wd_len] at h
  rw [Lm.lt_iff, wd_len, wd_len]
  exact Lm.next_none (f := fb s) (g := fb v) hp (fun i hi => h.top i (by omega) hi) hvl hn hb
theorem box_cell (w : World) (x : Value) (t : TypeId) : (w.alloc (.cells #[x] t)).cell? ⟨w.heap.size, 0, none⟩ = some x := by simp

theorem duval_arg (s v : ByteArray) (n : Int) (last : Nat) (w : World) (h : n < 1 ∨ 200 < n) :
    Calls Try.prog 9 #[.string s, .int .i64 n, .int .u8 (last : Int), .string v] w fun e w' => e = .returned (.bool true) ∧ Below w.heap.size w w' := by
  go_enter Try.func9, Try.ntmps9
  go_wp2_with fail
  with_reducible refine (Next_abS _).mono ?_
  rintro e w1 ⟨rfl, hb1⟩
  have hb0 := bl_new w (.cells #[.int .u8 (last : Int)] 5)
  have hc0 := box_cell w (.int .u8 (last : Int)) 5
  have hl0 : w.heap.size < (w.alloc (.cells #[.int .u8 (last : Int)] 5)).heap.size := by simp
  generalize w.alloc (.cells #[.int .u8 (last : Int)] 5) = w0 at *
  have hc1 := (hb1.cell (p := ⟨w.heap.size, 0, none⟩) hl0).trans hc0
  have hl1 : w.heap.size < w1.heap.size := Nat.lt_of_lt_of_le hl0 hb1.size
  have hb2 := bl_then hb0 hb1
  obtain ⟨N, hN⟩ : ∃ N, N = w.heap.size := ⟨_, rfl⟩
  rw [← hN] at hc1 hl1 ⊢
  have HNe := hid hN
  clear hN hb0 hb1 hc0 hl0
  go_wp2_with fail
  with_reducible refine (Next_arg s n last _ h).mono ?_
  rintro e w2 ⟨rfl, hb3⟩
  have hb4 := hid (bl_then hb2 ((show Below w1.heap.size w1 w2 from hb3 ▸ Below.refl _ _)))
  clear hb2 hb3 hc1
  go_wp2
  go_ret
  exact ⟨by rfl, by rw [← HNe.out] at hb4 ⊢; exact hb4.out⟩
theorem duval_large (s v : ByteArray) (n : Nat) (last : Nat) (w : World) (h1 : 1 ≤ n) (h2 : n ≤ 200) (hs : n < s.size) :
    Calls Try.prog 9 #[.string s, .int .i64 (n : Int), .int .u8 (last : Int), .string v] w fun e w' => e = .returned (.bool true) ∧ Below w.heap.size w w' := by
  go_enter Try.func9, Try.ntmps9
  go_wp2_with fail
  with_reducible refine (Next_abS _).mono ?_
  rintro e w1 ⟨rfl, hb1⟩
  have hb0 := bl_new w (.cells #[.int .u8 (last : Int)] 5)
  have hc0 := box_cell w (.int .u8 (last : Int)) 5
  have hl0 : w.heap.size < (w.alloc (.cells #[.int .u8 (last : Int)] 5)).heap.size := by simp
  generalize w.alloc (.cells #[.int .u8 (last : Int)] 5) = w0 at *
  have hc1 := (hb1.cell (p := ⟨w.heap.size, 0, none⟩) hl0).trans hc0
  have hl1 : w.heap.size < w1.heap.size := Nat.lt_of_lt_of_le hl0 hb1.size
  have hb2 := bl_then hb0 hb1
  obtain ⟨N, hN⟩ : ∃ N, N = w.heap.size := ⟨_, rfl⟩
  rw [← hN] at hc1 hl1 ⊢
  have HNe := hid hN
  clear hN hb0 hb1 hc0 hl0
  go_wp2_with fail
  with_reducible refine (Next_large s n last _ h1 h2 hs).mono ?_
  rintro e w2 ⟨rfl, hb3⟩
  have hb4 := hid (bl_then hb2 ((show Below w1.heap.size w1 w2 from hb3 ▸ Below.refl _ _)))
  clear hb2 hb3 hc1
  go_wp2
  go_ret
  exact ⟨by rfl, by rw [← HNe.out] at hb4 ⊢; exact hb4.out⟩
theorem duval_form (s v : ByteArray) (n : Nat) (last : Nat) (w : World) (h1 : 1 ≤ n) (h2 : n ≤ 200) (hs : s.size ≤ n) (hl : ¬ LynS s) :
    Calls Try.prog 9 #[.string s, .int .i64 (n : Int), .int .u8 (last : Int), .string v] w fun e w' => e = .returned (.bool true) ∧ Below w.heap.size w w' := by
  go_enter Try.func9, Try.ntmps9
  go_wp2_with fail
  with_reducible refine (Next_abS _).mono ?_
  rintro e w1 ⟨rfl, hb1⟩
  have hb0 := bl_new w (.cells #[.int .u8 (last : Int)] 5)
  have hc0 := box_cell w (.int .u8 (last : Int)) 5
  have hl0 : w.heap.size < (w.alloc (.cells #[.int .u8 (last : Int)] 5)).heap.size := by simp
  generalize w.alloc (.cells #[.int .u8 (last : Int)] 5) = w0 at *
  have hc1 := (hb1.cell (p := ⟨w.heap.size, 0, none⟩) hl0).trans hc0
  have hl1 : w.heap.size < w1.heap.size := Nat.lt_of_lt_of_le hl0 hb1.size
  have hb2 := bl_then hb0 hb1
  obtain ⟨N, hN⟩ : ∃ N, N = w.heap.size := ⟨_, rfl⟩
  rw [← hN] at hc1 hl1 ⊢
  have HNe := hid hN
  clear hN hb0 hb1 hc0 hl0
  go_wp2_with fail
  with_reducible refine (Next_form s n last _ h1 h2 hs hl).mono ?_
  rintro e w2 ⟨rfl, hb3⟩
  have hb4 := hid (bl_then hb2 (hb3.below _))
  clear hb2 hb3 hc1
  go_wp2
  go_ret
  exact ⟨by rfl, by rw [← HNe.out] at hb4 ⊢; exact hb4.out⟩
theorem duval_high (s v : ByteArray) (n : Nat) (last : Nat) (w : World) (h1 : 1 ≤ n) (h2 : n ≤ 200) (hs : s.size ≤ n) (hl : LynS s) (hh : ¬ ∀ i, fb s (i % s.size) ≤ last) :
    Calls Try.prog 9 #[.string s, .int .i64 (n : Int), .int .u8 (last : Int), .string v] w fun e w' => e = .returned (.bool true) ∧ Below w.heap.size w w' := by
  go_enter Try.func9, Try.ntmps9
  go_wp2_with fail
  with_reducible refine (Next_abS _).mono ?_
  rintro e w1 ⟨rfl, hb1⟩
  have hb0 := bl_new w (.cells #[.int .u8 (last : Int)] 5)
  have hc0 := box_cell w (.int .u8 (last : Int)) 5
  have hl0 : w.heap.size < (w.alloc (.cells #[.int .u8 (last : Int)] 5)).heap.size := by simp
  generalize w.alloc (.cells #[.int .u8 (last : Int)] 5) = w0 at *
  have hc1 := (hb1.cell (p := ⟨w.heap.size, 0, none⟩) hl0).trans hc0
  have hl1 : w.heap.size < w1.heap.size := Nat.lt_of_lt_of_le hl0 hb1.size
  have hb2 := bl_then hb0 hb1
  obtain ⟨N, hN⟩ : ∃ N, N = w.heap.size := ⟨_, rfl⟩
  rw [← hN] at hc1 hl1 ⊢
  have HNe := hid hN
  clear hN hb0 hb1 hc0 hl0
  go_wp2_with fail
  with_reducible refine (Next_high s n last _ h1 h2 hs hl hh).mono ?_
  rintro e w2 ⟨rfl, hb3⟩
  have hb4 := hid (bl_then hb2 (hb3))
  clear hb2 hb3 hc1
  go_wp2
  go_ret
  exact ⟨by rfl, by rw [← HNe.out] at hb4 ⊢; exact hb4.out⟩
set_option maxHeartbeats 1000000 in
theorem duval_a (s v : ByteArray) (n last : Nat) (w : World) (h1 : 1 ≤ n) (h2 : n ≤ 200) (hs : s.size ≤ n) (hl : LynS s) (hla : last < 256) (hh : ∀ i, fb s (i % s.size) ≤ last) (hv : 200 < v.size) :
    Calls Try.prog 9 #[.string s, .int .i64 (n : Int), .int .u8 (last : Int), .string v] w fun e w' => e = .returned (.bool true) ∧ Below w.heap.size w w' := by
  have HH := hid hh
  clear hh
  go_enter Try.func9, Try.ntmps9
  go_wp2_with fail
  with_reducible refine (Next_abS _).mono ?_
  rintro e w1 ⟨rfl, hb1⟩
  have hb0 := bl_new w (.cells #[.int .u8 (last : Int)] 5)
  have hc0 := box_cell w (.int .u8 (last : Int)) 5
  have hl0 : w.heap.size < (w.alloc (.cells #[.int .u8 (last : Int)] 5)).heap.size := by simp
  generalize w.alloc (.cells #[.int .u8 (last : Int)] 5) = w0 at *
  have hc1 := (hb1.cell (p := ⟨w.heap.size, 0, none⟩) hl0).trans hc0
  have hl1 : w.heap.size < w1.heap.size := Nat.lt_of_lt_of_le hl0 hb1.size
  have hb2 := bl_then hb0 hb1
  obtain ⟨N, hN⟩ : ∃ N, N = w.heap.size := ⟨_, rfl⟩
  rw [← hN] at hc1 hl1 ⊢
  have HNe := hid hN
  clear hN hb0 hb1 hc0 hl0
  go_wp2_with fail
  with_reducible refine (Next_ok s n last _ h1 h2 hs hl hla HH.out).mono ?_
  rintro e w2 ⟨⟨r, hr, rfl⟩, hb3⟩
  have hc2 := (hb3.cell (p := ⟨N, 0, none⟩) hl1).trans hc1
  have hl2 : N < w2.heap.size := Nat.lt_of_lt_of_le hl1 hb3.size
  have HR := hid hr
  have hb4 := bl_then hb2 hb3
  have hrn := hr.len
  clear hr hb2 hb3 hc1 hl1 HH
  obtain ⟨ec, hec⟩ : ∃ ec : Int, ec = if r.size = 0 then 4 else 0 := ⟨_, rfl⟩
  rw [← hec]
  by_cases hr0 : r.size = 0
  · obtain rfl : ec = 4 := by rw [if_pos hr0] at hec; exact hec
    have hre : r.toList.isEmpty = true := no_bytes hr0
    clear hec
    go_wp2_with fail
    with_reducible refine (Is_large v _ hv).mono ?_
    rintro e w3 ⟨rfl, hd3⟩
    subst hd3
    have hb5 := hb4
    clear hb4 hc2 hl2
    have hb8 := hid hb5
    clear hb5
    go_wp2
    go_ret
    exact ⟨by rfl, by rw [← HNe.out] at hb8 ⊢; exact hb8.out⟩
  · obtain rfl : ec = 0 := by rw [if_neg hr0] at hec; exact hec
    have hre : r.toList.isEmpty = false := some_bytes (by omega)
    obtain ⟨hrl, hsr⟩ := HR.out.lyn hl (by omega)
    have hl7 := less_no (a := r) (b := s) (fun hc => Lm.irr _ (Lm.lt_tr hsr hc))
    have he7 := same_no (a := r) (b := s) (fun e => by rw [e] at hsr; exact Lm.irr _ hsr)
    have hd7 : decide ((r.size : Int) ≤ (n : Int)) = true := decide_eq_true (by omega)
    clear hec hsr
    go_wp2_with fail
    with_reducible refine (Is_large v _ hv).mono ?_
    rintro e w3 ⟨rfl, hd3⟩
    subst hd3
    have hb5 := hb4
    clear hb4 hc2 hl2
    go_wp2_with fail
    with_reducible refine (Is_yes r _ (by omega) hrl).mono ?_
    rintro e w6 ⟨rfl, hd6'⟩
    have hb8 := hid (bl_then hb5 (hd6'.below _))
    clear hb5 hd6'
    go_wp2
    go_ret
    exact ⟨by rfl, by rw [← HNe.out] at hb8 ⊢; exact hb8.out⟩
set_option maxHeartbeats 1000000 in
theorem duval_b (s v : ByteArray) (n last : Nat) (w : World) (h1 : 1 ≤ n) (h2 : n ≤ 200) (hs : s.size ≤ n) (hl : LynS s) (hla : last < 256) (hh : ∀ i, fb s (i % s.size) ≤ last) (hv : v.size ≤ 200) (hn : ¬ LynS v) :
    Calls Try.prog 9 #[.string s, .int .i64 (n : Int), .int .u8 (last : Int), .string v] w fun e w' => e = .returned (.bool true) ∧ Below w.heap.size w w' := by
  have HH := hid hh
  clear hh
  go_enter Try.func9, Try.ntmps9
  go_wp2_with fail
  with_reducible refine (Next_abS _).mono ?_
  rintro e w1 ⟨rfl, hb1⟩
  have hb0 := bl_new w (.cells #[.int .u8 (last : Int)] 5)
  have hc0 := box_cell w (.int .u8 (last : Int)) 5
  have hl0 : w.heap.size < (w.alloc (.cells #[.int .u8 (last : Int)] 5)).heap.size := by simp
  generalize w.alloc (.cells #[.int .u8 (last : Int)] 5) = w0 at *
  have hc1 := (hb1.cell (p := ⟨w.heap.size, 0, none⟩) hl0).trans hc0
  have hl1 : w.heap.size < w1.heap.size := Nat.lt_of_lt_of_le hl0 hb1.size
  have hb2 := bl_then hb0 hb1
  obtain ⟨N, hN⟩ : ∃ N, N = w.heap.size := ⟨_, rfl⟩
  rw [← hN] at hc1 hl1 ⊢
  have HNe := hid hN
  clear hN hb0 hb1 hc0 hl0
  go_wp2_with fail
  with_reducible refine (Next_ok s n last _ h1 h2 hs hl hla HH.out).mono ?_
  rintro e w2 ⟨⟨r, hr, rfl⟩, hb3⟩
  have hc2 := (hb3.cell (p := ⟨N, 0, none⟩) hl1).trans hc1
  have hl2 : N < w2.heap.size := Nat.lt_of_lt_of_le hl1 hb3.size
  have HR := hid hr
  have hb4 := bl_then hb2 hb3
  have hrn := hr.len
  clear hr hb2 hb3 hc1 hl1 HH
  obtain ⟨ec, hec⟩ : ∃ ec : Int, ec = if r.size = 0 then 4 else 0 := ⟨_, rfl⟩
  rw [← hec]
  by_cases hr0 : r.size = 0
  · obtain rfl : ec = 4 := by rw [if_pos hr0] at hec; exact hec
    have hre : r.toList.isEmpty = true := no_bytes hr0
    clear hec
    go_wp2_with fail
    with_reducible refine (Is_no v _ hv hn).mono ?_
    rintro e w3 ⟨rfl, hd3⟩
    have hb5 := bl_then hb4 (hd3.below _)
    clear hb4 hc2 hl2 hd3
    have hb8 := hid hb5
    clear hb5
    go_wp2
    go_ret
    exact ⟨by rfl, by rw [← HNe.out] at hb8 ⊢; exact hb8.out⟩
  · obtain rfl : ec = 0 := by rw [if_neg hr0] at hec; exact hec
    have hre : r.toList.isEmpty = false := some_bytes (by omega)
    obtain ⟨hrl, hsr⟩ := HR.out.lyn hl (by omega)
    have hl7 := less_no (a := r) (b := s) (fun hc => Lm.irr _ (Lm.lt_tr hsr hc))
    have he7 := same_no (a := r) (b := s) (fun e => by rw [e] at hsr; exact Lm.irr _ hsr)
    have hd7 : decide ((r.size : Int) ≤ (n : Int)) = true := decide_eq_true (by omega)
    clear hec hsr
    go_wp2_with fail
    with_reducible refine (Is_no v _ hv hn).mono ?_
    rintro e w3 ⟨rfl, hd3⟩
    have hb5 := bl_then hb4 (hd3.below _)
    clear hb4 hc2 hl2 hd3
    go_wp2_with fail
    with_reducible refine (Is_yes r _ (by omega) hrl).mono ?_
    rintro e w6 ⟨rfl, hd6'⟩
    have hb8 := hid (bl_then hb5 (hd6'.below _))
    clear hb5 hd6'
    go_wp2
    go_ret
    exact ⟨by rfl, by rw [← HNe.out] at hb8 ⊢; exact hb8.out⟩
set_option maxHeartbeats 1000000 in
theorem duval_c (s v : ByteArray) (n last : Nat) (w : World) (h1 : 1 ≤ n) (h2 : n ≤ 200) (hs : s.size ≤ n) (hl : LynS s) (hla : last < 256) (hh : ∀ i, fb s (i % s.size) ≤ last) (hv : v.size ≤ 200) (hn : LynS v) (hw : n < v.size) :
    Calls Try.prog 9 #[.string s, .int .i64 (n : Int), .int .u8 (last : Int), .string v] w fun e w' => e = .returned (.bool true) ∧ Below w.heap.size w w' := by
  have HH := hid hh
  clear hh
  have hd6 : decide ((v.size : Int) ≤ (n : Int)) = false := decide_eq_false (by omega)
  go_enter Try.func9, Try.ntmps9
  go_wp2_with fail
  with_reducible refine (Next_abS _).mono ?_
  rintro e w1 ⟨rfl, hb1⟩
  have hb0 := bl_new w (.cells #[.int .u8 (last : Int)] 5)
  have hc0 := box_cell w (.int .u8 (last : Int)) 5
  have hl0 : w.heap.size < (w.alloc (.cells #[.int .u8 (last : Int)] 5)).heap.size := by simp
  generalize w.alloc (.cells #[.int .u8 (last : Int)] 5) = w0 at *
  have hc1 := (hb1.cell (p := ⟨w.heap.size, 0, none⟩) hl0).trans hc0
  have hl1 : w.heap.size < w1.heap.size := Nat.lt_of_lt_of_le hl0 hb1.size
  have hb2 := bl_then hb0 hb1
  obtain ⟨N, hN⟩ : ∃ N, N = w.heap.size := ⟨_, rfl⟩
  rw [← hN] at hc1 hl1 ⊢
  have HNe := hid hN
  clear hN hb0 hb1 hc0 hl0
  go_wp2_with fail
  with_reducible refine (Next_ok s n last _ h1 h2 hs hl hla HH.out).mono ?_
  rintro e w2 ⟨⟨r, hr, rfl⟩, hb3⟩
  have hc2 := (hb3.cell (p := ⟨N, 0, none⟩) hl1).trans hc1
  have hl2 : N < w2.heap.size := Nat.lt_of_lt_of_le hl1 hb3.size
  have HR := hid hr
  have hb4 := bl_then hb2 hb3
  have hrn := hr.len
  clear hr hb2 hb3 hc1 hl1 HH
  obtain ⟨ec, hec⟩ : ∃ ec : Int, ec = if r.size = 0 then 4 else 0 := ⟨_, rfl⟩
  rw [← hec]
  by_cases hr0 : r.size = 0
  · obtain rfl : ec = 4 := by rw [if_pos hr0] at hec; exact hec
    have hre : r.toList.isEmpty = true := no_bytes hr0
    clear hec
    go_wp2_with fail
    with_reducible refine (Is_yes v _ hv hn).mono ?_
    rintro e w3 ⟨rfl, hd3⟩
    have hb5 := bl_then hb4 (hd3.below _)
    clear hb4 hc2 hl2 hd3
    have hb8 := hid hb5
    clear hb5
    go_wp2
    go_ret
    exact ⟨by rfl, by rw [← HNe.out] at hb8 ⊢; exact hb8.out⟩
  · obtain rfl : ec = 0 := by rw [if_neg hr0] at hec; exact hec
    have hre : r.toList.isEmpty = false := some_bytes (by omega)
    obtain ⟨hrl, hsr⟩ := HR.out.lyn hl (by omega)
    have hl7 := less_no (a := r) (b := s) (fun hc => Lm.irr _ (Lm.lt_tr hsr hc))
    have he7 := same_no (a := r) (b := s) (fun e => by rw [e] at hsr; exact Lm.irr _ hsr)
    have hd7 : decide ((r.size : Int) ≤ (n : Int)) = true := decide_eq_true (by omega)
    clear hec hsr
    go_wp2_with fail
    with_reducible refine (Is_yes v _ hv hn).mono ?_
    rintro e w3 ⟨rfl, hd3⟩
    have hb5 := bl_then hb4 (hd3.below _)
    clear hb4 hc2 hl2 hd3
    go_wp2_with fail
    with_reducible refine (Is_yes r _ (by omega) hrl).mono ?_
    rintro e w6 ⟨rfl, hd6'⟩
    have hb8 := hid (bl_then hb5 (hd6'.below _))
    clear hb5 hd6'
    go_wp2
    go_ret
    exact ⟨by rfl, by rw [← HNe.out] at hb8 ⊢; exact hb8.out⟩
set_option maxHeartbeats 1000000 in
theorem duval_d (s v : ByteArray) (n last : Nat) (w : World) (h1 : 1 ≤ n) (h2 : n ≤ 200) (hs : s.size ≤ n) (hl : LynS s) (hla : last < 256) (hh : ∀ i, fb s (i % s.size) ≤ last) (hv : v.size ≤ 200) (hn : LynS v) (hw : v.size ≤ n) (ho : wd v < wd s) :
    Calls Try.prog 9 #[.string s, .int .i64 (n : Int), .int .u8 (last : Int), .string v] w fun e w' => e = .returned (.bool true) ∧ Below w.heap.size w w' := by
  have HH := hid hh
  clear hh
  have hd6 : decide ((v.size : Int) ≤ (n : Int)) = true := decide_eq_true (by omega)
  have hl6 := less_yes ho
  go_enter Try.func9, Try.ntmps9
  go_wp2_with fail
  with_reducible refine (Next_abS _).mono ?_
  rintro e w1 ⟨rfl, hb1⟩
  have hb0 := bl_new w (.cells #[.int .u8 (last : Int)] 5)
  have hc0 := box_cell w (.int .u8 (last : Int)) 5
  have hl0 : w.heap.size < (w.alloc (.cells #[.int .u8 (last : Int)] 5)).heap.size := by simp
  generalize w.alloc (.cells #[.int .u8 (last : Int)] 5) = w0 at *
  have hc1 := (hb1.cell (p := ⟨w.heap.size, 0, none⟩) hl0).trans hc0
  have hl1 : w.heap.size < w1.heap.size := Nat.lt_of_lt_of_le hl0 hb1.size
  have hb2 := bl_then hb0 hb1
  obtain ⟨N, hN⟩ : ∃ N, N = w.heap.size := ⟨_, rfl⟩
  rw [← hN] at hc1 hl1 ⊢
  have HNe := hid hN
  clear hN hb0 hb1 hc0 hl0
  go_wp2_with fail
  with_reducible refine (Next_ok s n last _ h1 h2 hs hl hla HH.out).mono ?_
  rintro e w2 ⟨⟨r, hr, rfl⟩, hb3⟩
  have hc2 := (hb3.cell (p := ⟨N, 0, none⟩) hl1).trans hc1
  have hl2 : N < w2.heap.size := Nat.lt_of_lt_of_le hl1 hb3.size
  have HR := hid hr
  have hb4 := bl_then hb2 hb3
  have hrn := hr.len
  clear hr hb2 hb3 hc1 hl1 HH
  obtain ⟨ec, hec⟩ : ∃ ec : Int, ec = if r.size = 0 then 4 else 0 := ⟨_, rfl⟩
  rw [← hec]
  by_cases hr0 : r.size = 0
  · obtain rfl : ec = 4 := by rw [if_pos hr0] at hec; exact hec
    have hre : r.toList.isEmpty = true := no_bytes hr0
    clear hec
    go_wp2_with fail
    with_reducible refine (Is_yes v _ hv hn).mono ?_
    rintro e w3 ⟨rfl, hd3⟩
    have hb5 := bl_then hb4 (hd3.below _)
    clear hb4 hc2 hl2 hd3
    have hb8 := hid hb5
    clear hb5
    go_wp2
    go_ret
    exact ⟨by rfl, by rw [← HNe.out] at hb8 ⊢; exact hb8.out⟩
  · obtain rfl : ec = 0 := by rw [if_neg hr0] at hec; exact hec
    have hre : r.toList.isEmpty = false := some_bytes (by omega)
    obtain ⟨hrl, hsr⟩ := HR.out.lyn hl (by omega)
    have hl7 := less_no (a := r) (b := s) (fun hc => Lm.irr _ (Lm.lt_tr hsr hc))
    have he7 := same_no (a := r) (b := s) (fun e => by rw [e] at hsr; exact Lm.irr _ hsr)
    have hd7 : decide ((r.size : Int) ≤ (n : Int)) = true := decide_eq_true (by omega)
    clear hec hsr
    go_wp2_with fail
    with_reducible refine (Is_yes v _ hv hn).mono ?_
    rintro e w3 ⟨rfl, hd3⟩
    have hb5 := bl_then hb4 (hd3.below _)
    clear hb4 hc2 hl2 hd3
    go_wp2_with fail
    with_reducible refine (Is_yes r _ (by omega) hrl).mono ?_
    rintro e w6 ⟨rfl, hd6'⟩
    have hb8 := hid (bl_then hb5 (hd6'.below _))
    clear hb5 hd6'
    go_wp2
    go_ret
    exact ⟨by rfl, by rw [← HNe.out] at hb8 ⊢; exact hb8.out⟩
set_option maxHeartbeats 1000000 in
theorem duval_e (s v : ByteArray) (n last : Nat) (w : World) (h1 : 1 ≤ n) (h2 : n ≤ 200) (hs : s.size ≤ n) (hl : LynS s) (hla : last < 256) (hh : ∀ i, fb s (i % s.size) ≤ last) (hv : v.size ≤ 200) (hn : LynS v) (hw : v.size ≤ n) (ho : v = s) :
    Calls Try.prog 9 #[.string s, .int .i64 (n : Int), .int .u8 (last : Int), .string v] w fun e w' => e = .returned (.bool true) ∧ Below w.heap.size w w' := by
  have HH := hid hh
  clear hh
  have hd6 : decide ((v.size : Int) ≤ (n : Int)) = true := decide_eq_true (by omega)
  have he6 := same_yes ho
  have hl6 := less_no (a := v) (b := s) (by rw [ho]; exact Lm.irr _)
  have HO := hid ho
  clear ho
  go_enter Try.func9, Try.ntmps9
  go_wp2_with fail
  with_reducible refine (Next_abS _).mono ?_
  rintro e w1 ⟨rfl, hb1⟩
  have hb0 := bl_new w (.cells #[.int .u8 (last : Int)] 5)
  have hc0 := box_cell w (.int .u8 (last : Int)) 5
  have hl0 : w.heap.size < (w.alloc (.cells #[.int .u8 (last : Int)] 5)).heap.size := by simp
  generalize w.alloc (.cells #[.int .u8 (last : Int)] 5) = w0 at *
  have hc1 := (hb1.cell (p := ⟨w.heap.size, 0, none⟩) hl0).trans hc0
  have hl1 : w.heap.size < w1.heap.size := Nat.lt_of_lt_of_le hl0 hb1.size
  have hb2 := bl_then hb0 hb1
  obtain ⟨N, hN⟩ : ∃ N, N = w.heap.size := ⟨_, rfl⟩
  rw [← hN] at hc1 hl1 ⊢
  have HNe := hid hN
  clear hN hb0 hb1 hc0 hl0
  go_wp2_with fail
  with_reducible refine (Next_ok s n last _ h1 h2 hs hl hla HH.out).mono ?_
  rintro e w2 ⟨⟨r, hr, rfl⟩, hb3⟩
  have hc2 := (hb3.cell (p := ⟨N, 0, none⟩) hl1).trans hc1
  have hl2 : N < w2.heap.size := Nat.lt_of_lt_of_le hl1 hb3.size
  have HR := hid hr
  have hb4 := bl_then hb2 hb3
  have hrn := hr.len
  clear hr hb2 hb3 hc1 hl1 HH
  obtain ⟨ec, hec⟩ : ∃ ec : Int, ec = if r.size = 0 then 4 else 0 := ⟨_, rfl⟩
  rw [← hec]
  by_cases hr0 : r.size = 0
  · obtain rfl : ec = 4 := by rw [if_pos hr0] at hec; exact hec
    have hre : r.toList.isEmpty = true := no_bytes hr0
    clear hec
    go_wp2_with fail
    with_reducible refine (Is_yes v _ hv hn).mono ?_
    rintro e w3 ⟨rfl, hd3⟩
    have hb5 := bl_then hb4 (hd3.below _)
    clear hb4 hc2 hl2 hd3
    have hb8 := hid hb5
    clear hb5
    go_wp2
    go_ret
    exact ⟨by rfl, by rw [← HNe.out] at hb8 ⊢; exact hb8.out⟩
  · obtain rfl : ec = 0 := by rw [if_neg hr0] at hec; exact hec
    have hre : r.toList.isEmpty = false := some_bytes (by omega)
    obtain ⟨hrl, hsr⟩ := HR.out.lyn hl (by omega)
    have hl7 := less_no (a := r) (b := s) (fun hc => Lm.irr _ (Lm.lt_tr hsr hc))
    have he7 := same_no (a := r) (b := s) (fun e => by rw [e] at hsr; exact Lm.irr _ hsr)
    have hd7 : decide ((r.size : Int) ≤ (n : Int)) = true := decide_eq_true (by omega)
    clear hec hsr
    go_wp2_with fail
    with_reducible refine (Is_yes v _ hv hn).mono ?_
    rintro e w3 ⟨rfl, hd3⟩
    have hb5 := bl_then hb4 (hd3.below _)
    clear hb4 hc2 hl2 hd3
    go_wp2_with fail
    with_reducible refine (Is_yes r _ (by omega) hrl).mono ?_
    rintro e w6 ⟨rfl, hd6'⟩
    have hb8 := hid (bl_then hb5 (hd6'.below _))
    clear hb5 hd6'
    go_wp2
    go_ret
    exact ⟨by rfl, by rw [← HNe.out] at hb8 ⊢; exact hb8.out⟩
set_option maxHeartbeats 1000000 in
theorem duval_f (s v : ByteArray) (n last : Nat) (w : World) (h1 : 1 ≤ n) (h2 : n ≤ 200) (hs : s.size ≤ n) (hl : LynS s) (hla : last < 256) (hh : ∀ i, fb s (i % s.size) ≤ last) (hv : v.size ≤ 200) (hn : LynS v) (hw : v.size ≤ n) (ho : wd s < wd v) :
    Calls Try.prog 9 #[.string s, .int .i64 (n : Int), .int .u8 (last : Int), .string v] w fun e w' => e = .returned (.bool true) ∧ Below w.heap.size w w' := by
  have HH := hid hh
  clear hh
  have hd6 : decide ((v.size : Int) ≤ (n : Int)) = true := decide_eq_true (by omega)
  have hl6 := less_no (a := v) (b := s) (fun hc => Lm.irr _ (Lm.lt_tr ho hc))
  have he6 := same_no (a := v) (b := s) (fun e => by rw [e] at ho; exact Lm.irr _ ho)
  have HO := hid ho
  clear ho
  go_enter Try.func9, Try.ntmps9
  go_wp2_with fail
  with_reducible refine (Next_abS _).mono ?_
  rintro e w1 ⟨rfl, hb1⟩
  have hb0 := bl_new w (.cells #[.int .u8 (last : Int)] 5)
  have hc0 := box_cell w (.int .u8 (last : Int)) 5
  have hl0 : w.heap.size < (w.alloc (.cells #[.int .u8 (last : Int)] 5)).heap.size := by simp
  generalize w.alloc (.cells #[.int .u8 (last : Int)] 5) = w0 at *
  have hc1 := (hb1.cell (p := ⟨w.heap.size, 0, none⟩) hl0).trans hc0
  have hl1 : w.heap.size < w1.heap.size := Nat.lt_of_lt_of_le hl0 hb1.size
  have hb2 := bl_then hb0 hb1
  obtain ⟨N, hN⟩ : ∃ N, N = w.heap.size := ⟨_, rfl⟩
  rw [← hN] at hc1 hl1 ⊢
  have HNe := hid hN
  clear hN hb0 hb1 hc0 hl0
  go_wp2_with fail
  with_reducible refine (Next_ok s n last _ h1 h2 hs hl hla HH.out).mono ?_
  rintro e w2 ⟨⟨r, hr, rfl⟩, hb3⟩
  have hc2 := (hb3.cell (p := ⟨N, 0, none⟩) hl1).trans hc1
  have hl2 : N < w2.heap.size := Nat.lt_of_lt_of_le hl1 hb3.size
  have HR := hid hr
  have hb4 := bl_then hb2 hb3
  have hrn := hr.len
  clear hr hb2 hb3 hc1 hl1 HH
  obtain ⟨ec, hec⟩ : ∃ ec : Int, ec = if r.size = 0 then 4 else 0 := ⟨_, rfl⟩
  rw [← hec]
  by_cases hr0 : r.size = 0
  · obtain rfl : ec = 4 := by rw [if_pos hr0] at hec; exact hec
    have hre : r.toList.isEmpty = true := no_bytes hr0
    clear hec
    go_wp2_with fail
    with_reducible refine (Is_yes v _ hv hn).mono ?_
    rintro e w3 ⟨rfl, hd3⟩
    have hc3 : w3.cell? ⟨N, 0, none⟩ = some (.int .u8 (last : Int)) := ((hd3.below w2.heap.size).cell (p := ⟨N, 0, none⟩) hl2).trans hc2
    have hl3 : N < w3.heap.size := Nat.lt_of_lt_of_le hl2 (hd3.below w2.heap.size).size
    have hb5 := bl_then hb4 (hd3.below _)
    clear hb4 hc2 hl2 hd3
    have hcv := run_bytes_of_string (P := Try.prog) w3 9 38 5 v Try.underlying9 Try.underlying38 Try.underlying5
    go_wp2_with fail
    with_reducible refine (over_str N last v w3 hv _ hc3 hl3).mono ?_
    rintro e w4 ⟨⟨x, rfl, hx⟩, hb6⟩
    clear hcv hc3 hl3
    have hb7 := bl_then hb5 hb6
    clear hb5 hb6
    obtain rfl : x = true := by
      cases x
      · exact absurd HO.out (HR.out.none hl hr0 hn hw (hx.1 rfl))
      · rfl
    have hb8 := hid hb7
    clear hx hb7
    go_wp2
    go_ret
    exact ⟨by rfl, by rw [← HNe.out] at hb8 ⊢; exact hb8.out⟩
  · obtain rfl : ec = 0 := by rw [if_neg hr0] at hec; exact hec
    have hre : r.toList.isEmpty = false := some_bytes (by omega)
    obtain ⟨hrl, hsr⟩ := HR.out.lyn hl (by omega)
    have hl7 := less_no (a := r) (b := s) (fun hc => Lm.irr _ (Lm.lt_tr hsr hc))
    have he7 := same_no (a := r) (b := s) (fun e => by rw [e] at hsr; exact Lm.irr _ hsr)
    have hd7 : decide ((r.size : Int) ≤ (n : Int)) = true := decide_eq_true (by omega)
    clear hec hsr
    go_wp2_with fail
    with_reducible refine (Is_yes v _ hv hn).mono ?_
    rintro e w3 ⟨rfl, hd3⟩
    have hc3 : w3.cell? ⟨N, 0, none⟩ = some (.int .u8 (last : Int)) := ((hd3.below w2.heap.size).cell (p := ⟨N, 0, none⟩) hl2).trans hc2
    have hl3 : N < w3.heap.size := Nat.lt_of_lt_of_le hl2 (hd3.below w2.heap.size).size
    have hb5 := bl_then hb4 (hd3.below _)
    clear hb4 hc2 hl2 hd3
    have hcv := run_bytes_of_string (P := Try.prog) w3 9 38 5 v Try.underlying9 Try.underlying38 Try.underlying5
    go_wp2_with fail
    with_reducible refine (over_str N last v w3 hv _ hc3 hl3).mono ?_
    rintro e w4 ⟨⟨x, rfl, hx⟩, hb6⟩
    clear hcv hc3 hl3
    have hb7 := bl_then hb5 hb6
    clear hb5 hb6
    by_cases hxt : x = true
    · subst hxt
      clear hx
      go_wp2_with fail
      with_reducible refine (Is_yes r _ (by omega) hrl).mono ?_
      rintro e w6 ⟨rfl, hd6'⟩
      have hb8 := hid (bl_then hb7 (hd6'.below _))
      clear hb7 hd6'
      go_wp2
      go_ret
      exact ⟨by rfl, by rw [← HNe.out] at hb8 ⊢; exact hb8.out⟩
    · obtain rfl : x = false := by cases x; rfl; exact absurd rfl hxt
      have hl9 := less_no (HR.out.least hl (by omega) hn hw (hx.1 rfl) HO.out)
      clear hx hxt
      go_wp2_with fail
      with_reducible refine (Is_yes r _ (by omega) hrl).mono ?_
      rintro e w6 ⟨rfl, hd6'⟩
      have hb8 := hid (bl_then hb7 (hd6'.below _))
      clear hb7 hd6'
      go_wp2
      go_ret
      exact ⟨by rfl, by rw [← HNe.out] at hb8 ⊢; exact hb8.out⟩
theorem u8_wf {z : Int} (h : (Lit.int .u8 z).wf = true) : ∃ k : Nat, k < 256 ∧ z = (k : Int) := by
  have : 0 ≤ z ∧ z ≤ 255 := by
    simp [Lit.wf] at h
    have h1 : IntKind.u8.min = 0 := rfl
    have h2 : IntKind.u8.max = 255 := rfl
    omega
  exact ⟨z.toNat, by omega, by omega⟩
theorem duval_walk (s : ByteArray) (n last : Int) (v : ByteArray) (_ : s.size ≤ maxLen) (_ : (Lit.int .i64 n).wf = true) (hl : (Lit.int .u8 last).wf = true) (_ : v.size ≤ maxLen) (w : World) :
    Calls Try.prog 9 #[.string s, .int .i64 n, .int .u8 last, .string v] w fun e w' => e = .returned (.bool true) ∧ Below w.heap.size w w' := by
  obtain ⟨k, hk, rfl⟩ := u8_wf hl
  by_cases h : n < 1 ∨ 200 < n
  · exact duval_arg s v n k w h
  · obtain ⟨m, rfl⟩ : ∃ m : Nat, n = (m : Int) := ⟨n.toNat, by omega⟩
    have h1 : 1 ≤ m := by omega
    have h2 : m ≤ 200 := by omega
    by_cases hs : m < s.size
    · exact duval_large s v m k w h1 h2 hs
    · have hs' : s.size ≤ m := by omega
      by_cases hly : LynS s
      · by_cases hh : ∀ i, fb s (i % s.size) ≤ k
        · by_cases hv : v.size ≤ 200
          · by_cases hn : LynS v
            · by_cases hw : v.size ≤ m
              · by_cases ho : wd v < wd s
                · exact duval_d s v m k w h1 h2 hs' hly hk hh hv hn hw ho
                · by_cases he : v = s
                  · exact duval_e s v m k w h1 h2 hs' hly hk hh hv hn hw he
                  · by_cases hp : wd s < wd v
                    · exact duval_f s v m k w h1 h2 hs' hly hk hh hv hn hw hp
                    · exact absurd (wd_inj (List.le_antisymm hp ho)) he
              · exact duval_c s v m k w h1 h2 hs' hly hk hh hv hn (by omega)
            · exact duval_b s v m k w h1 h2 hs' hly hk hh hv hn
          · exact duval_a s v m k w h1 h2 hs' hly hk hh (by omega)
        · exact duval_high s v m k w h1 h2 hs' hly hh
      · exact duval_form s v m k w h1 h2 hs' hly
end Go.Proofs.Ytddejiblgodgkaa
