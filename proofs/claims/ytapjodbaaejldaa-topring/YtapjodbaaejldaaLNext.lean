
/-
The contracts of lyndon.next and lyndon.Next: the Lyndon word that follows.
-/
import Derived.Test.YtapjodbaaejldaaLeast
import Derived.Test.YtapjodbaaejldaaStrLib
import Derived.Test.YtapjodbaaejldaaMax
namespace Go.Proofs.Ytapjodbaaejldaa
open Go.RowKit

theorem repeat_at (l : List UInt8) (hl : 0 < l.length) : ∀ (c i : Nat), i < c * l.length → Lm.bn (Lib.repeatL l c) i = Lm.bn l (i % l.length)
  | 0, i, h => by simp at h
  | c + 1, i, h => by
    show Lm.bn (l ++ Lib.repeatL l c) i = _
    by_cases hi : i < l.length
    · rw [Lm.bn_app_l hi, Nat.mod_eq_of_lt hi]
    · rw [Nat.add_mul, Nat.one_mul] at h
      have e : i = l.length + (i - l.length) := by omega
      rw [e, Lm.bn_app_r, repeat_at l hl c (i - l.length) (by omega), Nat.add_mod_left]
/-- The first n bytes of the repetition of s. -/
def wideS (s : ByteArray) (c n : Nat) : ByteArray := (⟨(Lib.repeatL s.data.toList c).toArray⟩ : ByteArray).extract 0 n
theorem wide_size (s : ByteArray) (c n : Nat) (h : n ≤ c * s.size) : (wideS s c n).size = n := by
  unfold wideS
  rw [size_ext]
  have : (⟨(Lib.repeatL s.data.toList c).toArray⟩ : ByteArray).size = c * s.size := by
    rw [← wd_len, wd_mk, Lib.repeatL_length]
    rw [show s.data.toList.length = s.size from wd_len s]
  omega
theorem wide_at {s : ByteArray} {c n i : Nat} (h0 : 0 < s.size) (h : n ≤ c * s.size) (hi : i < n) : fb (wideS s c n) i = fb s (i % s.size) := by
  unfold fb wideS
  rw [wd_take, Lm.bn_take hi, wd_mk, repeat_at _ (by rw [show s.data.toList.length = s.size from wd_len s]; exact h0) c i (by rw [show s.data.toList.length = s.size from wd_len s]; omega)]
  rw [show s.data.toList.length = s.size from wd_len s]
  rfl
theorem byt_fb (s : ByteArray) (i : Nat) : (byt s i).toNat = fb s i := rfl
theorem fb_lt (s : ByteArray) (i : Nat) : fb s i < 256 := by rw [← byt_fb]; exact UInt8.toNat_lt _
/-- r is what follows s by the bytes: the longest front of the repetition of s that does not end in 'last', with one more at its end; '' where there is none. -/
structure NextSpec (s : ByteArray) (n last : Nat) (r : ByteArray) : Prop where
  len : r.size ≤ n
  front : ∀ i, i + 1 < r.size → fb r i = fb s (i % s.size)
  tip : 0 < r.size → fb r (r.size - 1) = fb s ((r.size - 1) % s.size) + 1 ∧ fb s ((r.size - 1) % s.size) ≠ last
  top : ∀ i, r.size ≤ i → i < n → fb s (i % s.size) = last
theorem NextSpec.unique {s r q : ByteArray} {n last : Nat} (h : NextSpec s n last r) (k : NextSpec s n last q) : r = q := by
  have h1 := h.len
  have k1 := k.len
  have hz : r.size = q.size := by
    rcases Nat.lt_trichotomy r.size q.size with hx | hx | hx
    · exact absurd (h.top (q.size - 1) (by omega) (by omega)) (k.tip (by omega)).2
    · exact hx
    · exact absurd (k.top (r.size - 1) (by omega) (by omega)) (h.tip (by omega)).2
  refine wd_inj (Lm.bn_ext (by rw [wd_len, wd_len]; exact hz) fun i hi => ?_)
  rw [wd_len] at hi
  show fb r i = fb q i
  by_cases hx : i + 1 < r.size
  · rw [h.front i hx, k.front i (by omega)]
  · have e1 := (h.tip (by omega)).1
    have e2 := (k.tip (by omega)).1
    rw [← hz] at e2
    rw [show i = r.size - 1 by omega, e1, e2]
/-- The string that the slice of bytes reads as behind the store. -/
def bumpS (s : ByteArray) (m : Nat) : ByteArray := strOfNums ((List.range m).map fun k => if k = m - 1 then (fb s (k % s.size) : Int) + 1 else (fb s (k % s.size) : Int))
theorem bumpS_size (s : ByteArray) (m : Nat) : (bumpS s m).size = m := by unfold bumpS; rw [strOfNums_size]; simp
theorem bumpS_at {s : ByteArray} {m k : Nat} (hk : k < m) (hf : fb s ((m - 1) % s.size) < 255) : fb (bumpS s m) k = if k = m - 1 then fb s (k % s.size) + 1 else fb s (k % s.size) := by
  have hb := fb_lt s (k % s.size)
  unfold bumpS
  rw [fb, Lm.bn, wd, strOfNums_data, List.map_map, List.getD_eq_getElem?_getD, List.getElem?_map, List.getElem?_range hk]
  simp only [Option.map_some, Option.getD_some, Function.comp]
  by_cases hx : k = m - 1
  · rw [if_pos hx, if_pos hx]
    subst hx
    rw [show ((fb s ((m - 1) % s.size) : Int) + 1).toNat = fb s ((m - 1) % s.size) + 1 by omega]
    exact UInt8.toNat_ofNat_of_lt' (by show _ < 256; omega)
  · rw [if_neg hx, if_neg hx, Int.toNat_natCast]
    exact UInt8.toNat_ofNat_of_lt' (by show _ < 256; omega)
theorem bump_next {s : ByteArray} {n m last : Nat} (hm : 0 < m) (hmn : m ≤ n) (hl : last < 256) (hle : fb s ((m - 1) % s.size) ≤ last) (hne : fb s ((m - 1) % s.size) ≠ last) (htop : ∀ i, m ≤ i → i < n → fb s (i % s.size) = last) : NextSpec s n last (bumpS s m) := by
  have hz := bumpS_size s m
  refine ⟨by omega, fun i hi => ?_, fun h0 => ?_, fun i h1 h2 => htop i (by omega) h2⟩
  · rw [bumpS_at (by omega) (by omega), if_neg (by omega)]
  · rw [hz, bumpS_at (by omega) (by omega), if_pos rfl]
    exact ⟨rfl, hne⟩
theorem none_next {s : ByteArray} {n last : Nat} (htop : ∀ i, i < n → fb s (i % s.size) = last) : NextSpec s n last ByteArray.empty := by
  have hz : ByteArray.empty.size = 0 := rfl
  exact ⟨by omega, fun i hi => by omega, fun h0 => by omega, fun i _ h2 => htop i h2⟩

set_option maxHeartbeats 1000000 in
theorem next_any (s : ByteArray) (n last : Nat) (w : World) (h0 : 0 < s.size) (hs : s.size ≤ n) (hn : n ≤ 200) (hl : last < 256) (hle : ∀ i, fb s (i % s.size) ≤ last) :
    Calls Try.prog 163 #[.string s, .int .i64 (n : Int), .int .u8 (last : Int)] w fun e w' => (∃ r, e = .returned (.string r) ∧ NextSpec s n last r) ∧ Below w.heap.size w w' := by
  obtain ⟨p, hp⟩ : ∃ p, p = s.size := ⟨_, rfl⟩
  obtain ⟨q, hq⟩ : ∃ q, q = n / s.size := ⟨_, rfl⟩
  have hqn : q ≤ n := by rw [hq]; exact Nat.div_le_self _ _
  have hq1 : (n : Int) / (s.size : Int) = (q : Int) := by rw [hq]; simp
  have hq2 : Int.tdiv (n : Int) (s.size : Int) = (q : Int) := by rw [Int.tdiv_eq_ediv_of_nonneg (by omega)]; exact hq1
  have hwq : IntKind.i64.wrap (q : Int) = (q : Int) := IntWalk.i64_in _ (by omega)
  obtain ⟨c, hc⟩ : ∃ c, c = q + 1 := ⟨_, rfl⟩
  have hqc : (q : Int) + 1 = (c : Int) := by omega
  have hwc : IntKind.i64.wrap (c : Int) = (c : Int) := IntWalk.i64_in _ (by omega)
  have hcn : n ≤ c * s.size := by
    have := Nat.div_add_mod n s.size
    have h2 := Nat.mod_lt n h0
    rw [hc, hq, Nat.add_mul, Nat.one_mul, Nat.mul_comm (n / s.size)]
    omega
  have hcs : s.size * c ≤ 140737488355328 := by
    have : s.size * c ≤ 200 * 201 := Nat.mul_le_mul (by omega) (by omega)
    omega
  have HCN := hid hcn
  have hs0 : ((s.size : Int) == 0) = false := beq_eq_false_iff_ne.2 (by omega)
  have hs1 : (s.size : Int) ≠ 0 := by omega
  clear hq hc hp
  go_enter Try.func163, Try.ntmps163
  go_wp2_with fail
  with_reducible refine (Try.strings_Repeat s c _ (by omega) hcs).mono ?_
  rintro e w1 ⟨rfl, hb1⟩
  have hrs : (⟨(Lib.repeatL s.data.toList c).toArray⟩ : ByteArray).size = c * s.size := by
    rw [← wd_len, wd_mk, Lib.repeatL_length]
    rw [show s.data.toList.length = s.size from wd_len s]
  have hrn : (n : Int) ≤ ((⟨(Lib.repeatL s.data.toList c).toArray⟩ : ByteArray).size : Int) := by rw [hrs]; exact Int.ofNat_le.2 HCN.out
  have hwz := wide_size s c n HCN.out
  have HW := hid (fun i (hi : i < n) => wide_at (s := s) (c := c) h0 HCN.out hi)
  have ewide : (⟨(Lib.repeatL s.data.toList c).toArray⟩ : ByteArray).extract 0 n = wideS s c n := rfl
  have hcv := run_bytes_of_string (P := Try.prog) w1 9 74 5 (wideS s c n) Try.underlying9 Try.underlying74 Try.underlying5
  clear hrs hcs HCN
  generalize wideS s c n = wide at *
  generalize (⟨(Lib.repeatL s.data.toList c).toArray⟩ : ByteArray) = rep at *
  go_wp2_with fail
  have HB0 := new_bytes w1 wide (grownCap w1 n 0 5) 5
  rw [hwz] at HB0
  have HB := hid (show BRow (w1.alloc (.cells (bytesRow wide (grownCap w1 n 0 5)) 5 ((bytesRow wide (grownCap w1 n 0 5)).size, (bytesRow wide (grownCap w1 n 0 5)).size + 1))).drew w1.heap.size n (byt wide) from HB0)
  have hb2 := (bl_new w1 (.cells (bytesRow wide (grownCap w1 n 0 5)) 5 ((bytesRow wide (grownCap w1 n 0 5)).size, (bytesRow wide (grownCap w1 n 0 5)).size + 1))).drew
  have hcap := grownCap_ge w1 n 0 5
  clear HB0 hcv ewide hrn
  generalize (w1.alloc (.cells (bytesRow wide (grownCap w1 n 0 5)) 5 ((bytesRow wide (grownCap w1 n 0 5)).size, (bytesRow wide (grownCap w1 n 0 5)).size + 1))).drew = w2 at *
  generalize grownCap w1 n 0 5 = cap at *
  have hb3 := bl_then hb1 hb2
  have hbs := hb1.size
  have hbs2 := hb2.size
  obtain ⟨b, hbe⟩ : ∃ b, b = w1.heap.size := ⟨_, rfl⟩
  rw [← hbe] at HB ⊢
  have hbb : w.heap.size ≤ b := by omega
  clear hbe hb1 hb2 hbs hbs2
  have HF : Hid (∀ i, i < n → w2.cell? ⟨b, i, none⟩ = some (.int .u8 (fb s (i % s.size) : Int)) ∧ w2.frozen? ⟨b, i, none⟩ = false) := by
    intro i hi
    have := HB.out i hi
    rw [byt_fb, HW.out i hi] at this
    exact this
  clear HB HW
  go_loopw [1] (fun x wr => ∃ m : Nat, m ≤ n ∧ x = .int .i64 (m : Int) ∧ Hid (∀ i, m ≤ i → i < n → fb s (i % s.size) = last) ∧ wr = w2) (fun x _ => (intOf x).toNat)
  case atStart => exact ⟨n, by omega, rfl, hid (fun i h1 h2 => by omega), rfl⟩
  case round =>
    obtain ⟨m, hm, rfl, HT, rfl⟩ := hrel
    by_cases hm0 : 0 < m
    · obtain ⟨ip, hip⟩ : ∃ ip, ip = m - 1 := ⟨_, rfl⟩
      have eim : (m : Int) - 1 = (ip : Int) := by omega
      have hwp : IntKind.i64.wrap (ip : Int) = (ip : Int) := IntWalk.i64_in _ (by omega)
      have hpn : (ip : Int) < (n : Int) := by omega
      have hp0 : (0 : Int) ≤ (ip : Int) := by omega
      have hdm : decide ((0 : Int) < (m : Int)) = true := decide_eq_true (by omega)
      have hmz : ((m : Int) == 0) = false := beq_eq_false_iff_ne.2 (by omega)
      obtain ⟨hci, hfi⟩ := HF.out ip (by omega)
      have hxle := hle ip
      have hxlt := fb_lt s (ip % s.size)
      have HIP := hid hip
      obtain ⟨x, hx⟩ : ∃ x, x = fb s (ip % s.size) := ⟨_, rfl⟩
      have HX := hid hx
      rw [← hx] at hci hxle hxlt
      clear hx hip
      by_cases hxl : x = last
      · subst hxl
        go_wp2
        go_roundw
        case measure => simp [intOf]; have := HIP.out; omega
        case rel =>
          refine ⟨ip, by have := HIP.out; omega, rfl, ?_, by trivial⟩
          intro i h1 h2
          by_cases hi : i = ip
          · rw [hi]; exact HX.out.symm
          · exact HT.out i (by have := HIP.out; omega) h2
      · have hxe : ((x : Int) == (last : Int)) = false := beq_eq_false_iff_ne.2 (by omega)
        have hw8 : IntKind.u8.wrap ((x : Int) + 1) = (x : Int) + 1 := IntWalk.u8_in _ (by omega)
        have hmc : (m : Int) ≤ (cap : Int) := by omega
        have HN := hid (bump_next (s := s) (n := n) (m := m) (last := last) hm0 hm hl (hle _) (by rw [show m - 1 = ip by rw [HIP.out], ← HX.out]; exact hxl) HT.out)
        have hcell : ∀ i, i < m → (wr.setCell ⟨b, ip, none⟩ (.int .u8 ((x : Int) + 1))).cell? ⟨b, 0 + i, none⟩ = some (.int .u8 (((List.range m).map fun k => if k = m - 1 then (fb s (k % s.size) : Int) + 1 else (fb s (k % s.size) : Int)).getD i 0)) := by
          intro i hi
          rw [Nat.zero_add, List.getD_eq_getElem?_getD, List.getElem?_map, List.getElem?_range hi]
          simp only [Option.map_some, Option.getD_some]
          by_cases hii : i = ip
          · subst hii
            rw [World.cell?_setCell_same wr _ _ hci, if_pos HIP.out, HX.out]
          · rw [World.cell?_setCell_other wr _ _ _ (by intro h'; injection h' with _ h''; exact hii h''.symm), if_neg (by have := HIP.out; omega)]
            exact (HF.out i (by omega)).1
        have hcv2 := run_convert_bytes_arg (P := Try.prog) (wr.setCell ⟨b, ip, none⟩ (.int .u8 ((x : Int) + 1))) 74 5 Try.underlying74 Try.underlying5 b 0 m cap _ (by simp) hcell 9 Try.underlying9
        rw [show strOfNums ((List.range m).map fun k => if k = m - 1 then (fb s (k % s.size) : Int) + 1 else (fb s (k % s.size) : Int)) = bumpS s m from rfl] at hcv2
        have hb4 := hid (show Below w.heap.size w (wr.setCell ⟨b, ip, none⟩ (.int .u8 ((x : Int) + 1))) from hb3.setCell hbb _)
        clear HT hxl hcell hb3
        go_wp2
        go_ret
        exact ⟨⟨_, rfl, HN.out⟩, hb4.out⟩
    · obtain rfl : m = 0 := by omega
      have HN := hid (none_next (s := s) (n := n) (last := last) fun i hi => HT.out i (by omega) hi)
      clear HT
      go_wp2
      go_ret
      exact ⟨⟨_, rfl, HN.out⟩, hb3⟩

theorem Next_arg (s : ByteArray) (n : Int) (last : Nat) (w : World) (h : n < 1 ∨ 200 < n) :
    Calls Try.prog 131 #[.string s, .int .i64 n, .int .u8 (last : Int)] w fun e w' => e = .returned (.tuple #[.string ByteArray.empty, .int .i64 1]) ∧ w = w' := by
  go_enter Try.func131, Try.ntmps131
  by_cases h1 : n < 1
  · have hd1 : decide (n < 1) = true := decide_eq_true h1
    go_wp2
    go_ret2
    exact ⟨rfl, rfl⟩
  · have h2 : 200 < n := by omega
    have hd1 : decide (n < 1) = false := decide_eq_false h1
    have hd2 : decide (200 < n) = true := decide_eq_true h2
    go_wp2
    go_ret2
    exact ⟨rfl, rfl⟩
theorem Next_large (s : ByteArray) (n last : Nat) (w : World) (h1 : 1 ≤ n) (h2 : n ≤ 200) (hs : n < s.size) :
    Calls Try.prog 131 #[.string s, .int .i64 (n : Int), .int .u8 (last : Int)] w fun e w' => e = .returned (.tuple #[.string ByteArray.empty, .int .i64 2]) ∧ w = w' := by
  have hd1 : decide ((n : Int) < 1) = false := decide_eq_false (by omega)
  have hd2 : decide ((200 : Int) < (n : Int)) = false := decide_eq_false (by omega)
  have hd3 : decide ((n : Int) < (s.size : Int)) = true := decide_eq_true (by omega)
  go_enter Try.func131, Try.ntmps131
  go_wp2
  go_ret2
  exact ⟨rfl, rfl⟩
theorem Next_form (s : ByteArray) (n last : Nat) (w : World) (h1 : 1 ≤ n) (h2 : n ≤ 200) (hs : s.size ≤ n) (hl : ¬ LynS s) :
    Calls Try.prog 131 #[.string s, .int .i64 (n : Int), .int .u8 (last : Int)] w fun e w' => e = .returned (.tuple #[.string ByteArray.empty, .int .i64 3]) ∧ Drew w w' := by
  have hd1 : decide ((n : Int) < 1) = false := decide_eq_false (by omega)
  have hd2 : decide ((200 : Int) < (n : Int)) = false := decide_eq_false (by omega)
  have hd3 : decide ((n : Int) < (s.size : Int)) = false := decide_eq_false (by omega)
  go_enter Try.func131, Try.ntmps131
  go_wp2_with fail
  with_reducible refine (isLyndon_no s _ (by omega) hl).mono ?_
  rintro e w1 ⟨rfl, hd⟩
  go_wp2
  go_ret2
  exact ⟨rfl, hd⟩
/-- slices.Max at the bytes of a string, in the world behind the conversion. -/
theorem max_str (s : ByteArray) (w : World) (h0 : 0 < s.size) (hs : s.size ≤ 200) (c : Nat) :
    Calls Try.prog 162 #[.slice (some ⟨w.heap.size, 0, none⟩) s.size c] (w.alloc (.cells (bytesRow s c) 5 ((bytesRow s c).size, (bytesRow s c).size + 1))).drew
      fun e w' => (∃ m : Nat, e = .returned (.int .u8 (m : Int)) ∧ (∀ last : Nat, m ≤ last ↔ ∀ i, fb s (i % s.size) ≤ last)) ∧ Below w.heap.size w w' := by
  refine (max_any w.heap.size s.size c (byt s) _ (new_bytes w s c _).drew h0 (by unfold maxLen; omega)).mono ?_
  rintro e w1 ⟨⟨m, rfl, ⟨k, hk, hm⟩, ha⟩, rfl⟩
  refine ⟨⟨m, rfl, fun last => ⟨fun h i => ?_, fun h => ?_⟩⟩, (bl_new w _).drew⟩
  · have := ha (i % s.size) (Nat.mod_lt _ h0)
    rw [byt_fb] at this
    omega
  · have := h k
    rw [Nat.mod_eq_of_lt hk] at this
    rw [byt_fb] at hm
    omega
set_option maxHeartbeats 400000 in
theorem Next_high (s : ByteArray) (n last : Nat) (w : World) (h1 : 1 ≤ n) (h2 : n ≤ 200) (hs : s.size ≤ n) (hl : LynS s) (hh : ¬ ∀ i, fb s (i % s.size) ≤ last) :
    Calls Try.prog 131 #[.string s, .int .i64 (n : Int), .int .u8 (last : Int)] w fun e w' => e = .returned (.tuple #[.string ByteArray.empty, .int .i64 1]) ∧ Below w.heap.size w w' := by
  have h0 : 0 < s.size := by rw [← wd_len]; exact hl.1
  have hd1 : decide ((n : Int) < 1) = false := decide_eq_false (by omega)
  have hd2 : decide ((200 : Int) < (n : Int)) = false := decide_eq_false (by omega)
  have hd3 : decide ((n : Int) < (s.size : Int)) = false := decide_eq_false (by omega)
  have HH := hid hh
  clear hh
  go_enter Try.func131, Try.ntmps131
  go_wp2_with fail
  with_reducible refine (isLyndon_yes s _ (by omega) hl).mono ?_
  rintro e w1 ⟨rfl, hd⟩
  have hcv := run_bytes_of_string (P := Try.prog) w1 9 74 5 s Try.underlying9 Try.underlying74 Try.underlying5
  go_wp2_with fail
  with_reducible refine (max_str s w1 h0 (by omega) _).mono ?_
  rintro e w2 ⟨⟨m, rfl, hm⟩, hb⟩
  clear hcv
  have hml : last < m := by
    have := mt (hm last).1 HH.out
    omega
  have hd4 : decide ((last : Int) < (m : Int)) = true := decide_eq_true (by omega)
  have hb2 := hid (bl_then (hd.below _) hb)
  clear hm hb hd HH
  go_wp2
  go_ret2
  exact ⟨rfl, hb2.out⟩
set_option maxHeartbeats 400000 in
theorem Next_ok (s : ByteArray) (n last : Nat) (w : World) (h1 : 1 ≤ n) (h2 : n ≤ 200) (hs : s.size ≤ n) (hl : LynS s) (hla : last < 256) (hh : ∀ i, fb s (i % s.size) ≤ last) :
    Calls Try.prog 131 #[.string s, .int .i64 (n : Int), .int .u8 (last : Int)] w fun e w' => (∃ r, NextSpec s n last r ∧ e = .returned (.tuple #[.string r, .int .i64 (if r.size = 0 then 4 else 0)])) ∧ Below w.heap.size w w' := by
  have h0 : 0 < s.size := by rw [← wd_len]; exact hl.1
  have hd1 : decide ((n : Int) < 1) = false := decide_eq_false (by omega)
  have hd2 : decide ((200 : Int) < (n : Int)) = false := decide_eq_false (by omega)
  have hd3 : decide ((n : Int) < (s.size : Int)) = false := decide_eq_false (by omega)
  have HH := hid hh
  clear hh
  go_enter Try.func131, Try.ntmps131
  go_wp2_with fail
  with_reducible refine (isLyndon_yes s _ (by omega) hl).mono ?_
  rintro e w1 ⟨rfl, hd⟩
  have hcv := run_bytes_of_string (P := Try.prog) w1 9 74 5 s Try.underlying9 Try.underlying74 Try.underlying5
  go_wp2_with fail
  with_reducible refine (max_str s w1 h0 (by omega) _).mono ?_
  rintro e w2 ⟨⟨m, rfl, hm⟩, hb⟩
  clear hcv
  have hml : m ≤ last := (hm last).2 HH.out
  have hd4 : decide ((last : Int) < (m : Int)) = false := decide_eq_false (by omega)
  have hb2 := bl_then (hd.below _) hb
  clear hm hb hd
  go_wp2_with fail
  with_reducible refine (next_any s n last _ h0 hs h2 hla HH.out).mono ?_
  rintro e w3 ⟨⟨r, rfl, hr⟩, hb3⟩
  have HR := hid hr
  have hb4 := hid (bl_then hb2 hb3)
  clear hr hb2 hb3
  by_cases hr0 : r.size = 0
  · have hre : r.toList.isEmpty = true := no_bytes hr0
    go_wp2
    go_ret2
    refine ⟨⟨r, HR.out, ?_⟩, hb4.out⟩
    rw [if_pos hr0, empty_of hr0]
    rfl
  · have hre : r.toList.isEmpty = false := some_bytes (by omega)
    go_wp2
    go_ret2
    refine ⟨⟨r, HR.out, ?_⟩, hb4.out⟩
    rw [if_neg hr0]
    rfl
end Go.Proofs.Ytapjodbaaejldaa
