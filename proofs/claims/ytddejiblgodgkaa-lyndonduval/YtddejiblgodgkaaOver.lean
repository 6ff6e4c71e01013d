/-
The contract of slices.ContainsFunc at the bytes of a string with LyndonDuval's test: is there a byte greater than 'last'? And of lyndon.Next at the one example.
-/
import Derived.Test.YtddejiblgodgkaaLNext
namespace Go.Proofs.Ytddejiblgodgkaa
open Go.RowKit

theorem over_one (N x last : Nat) (w : World) (hN : w.cell? ⟨N, 0, none⟩ = some (.int .u8 (last : Int))) :
    Calls Try.prog 27 #[.int .u8 (x : Int), .pointer (some ⟨N, 0, none⟩)] w fun e w' => e = .returned (.bool (decide (last < x))) ∧ w = w' := by
  have hb : decide ((last : Int) < (x : Int)) = decide (last < x) := decide_eq_decide.2 (by omega)
  have HB := hid hb
  clear hb
  go_enter Try.func27, Try.ntmps27
  go_wp2
  go_ret
  exact ⟨ret_bool (by simp), rfl⟩
theorem over_index (N last b n c : Nat) (h : Nat → UInt8) (w : World) (hN : w.cell? ⟨N, 0, none⟩ = some (.int .u8 (last : Int))) (H : BRow w b n h) (hn : n ≤ 200) :
    Calls Try.prog 43 #[.slice (some ⟨b, 0, none⟩) n c, .func (.func 27) #[] #[.pointer (some ⟨N, 0, none⟩)]] w fun e w' =>
      w = w' ∧ ((e = .returned (.int .i64 (-1)) ∧ ∀ k, k < n → (h k).toNat ≤ last) ∨ ∃ i : Nat, i < n ∧ e = .returned (.int .i64 (i : Int)) ∧ last < (h i).toNat) := by
  have HR := hid H
  have HN := hid hN
  clear H hN
  go_enter Try.func43, Try.ntmps43
  go_wp2
  go_loopw [8] (fun i wr => ∃ k : Nat, k ≤ n ∧ i = .int .i64 k ∧ Hid (∀ j, j < k → (h j).toNat ≤ last) ∧ wr = w) (fun i _ => n - (intOf i).toNat)
  case atStart => exact ⟨0, by omega, rfl, hid (fun j hj => by omega), rfl⟩
  case round =>
    obtain ⟨k, hk, rfl, HZ, rfl⟩ := hrel
    by_cases hkm : k < n
    · have hck := (HR.out k hkm).1
      have hkn : (k : Int) < (n : Int) := by omega
      obtain ⟨x, hx⟩ : ∃ x, x = (h k).toNat := ⟨_, rfl⟩
      have HX := hid hx
      rw [← hx] at hck
      clear hx
      go_wp2_with fail
      with_reducible refine (over_one N x last _ HN.out).mono ?_
      rintro e w1 ⟨rfl, rfl⟩
      by_cases hl : last < x
      · rw [decide_eq_true hl]
        have HL := hid hl
        clear hl
        go_wp2
        go_ret
        exact ⟨rfl, .inr ⟨k, hkm, rfl, by rw [← HX.out]; exact HL.out⟩⟩
      · rw [decide_eq_false hl]
        have HL := hid hl
        clear hl
        go_wp2
        go_roundw
        case measure => simp [intOf]; omega
        case rel =>
          refine ⟨k + 1, by omega, by go_num, hid (fun j hj => ?_), by trivial⟩
          by_cases hjk : j < k
          · exact HZ.out j hjk
          · obtain rfl : j = k := by omega
            rw [← HX.out]
            have := HL.out
            omega
    · have hdl : decide ((k : Int) < (n : Int)) = false := decide_eq_false (by omega)
      obtain rfl : k = n := by omega
      go_wp2
      go_ret
      exact ⟨rfl, .inl ⟨rfl, HZ.out⟩⟩
theorem over_any (N last b n c : Nat) (h : Nat → UInt8) (w : World) (hN : w.cell? ⟨N, 0, none⟩ = some (.int .u8 (last : Int))) (H : BRow w b n h) (hn : n ≤ 200) :
    Calls Try.prog 26 #[.slice (some ⟨b, 0, none⟩) n c, .func (.func 27) #[] #[.pointer (some ⟨N, 0, none⟩)]] w fun e w' =>
      w = w' ∧ ∃ v : Bool, e = .returned (.bool v) ∧ (v = false ↔ ∀ k, k < n → (h k).toNat ≤ last) := by
  have HR := hid H
  have HN := hid hN
  clear H hN
  go_enter Try.func26, Try.ntmps26
  go_wp2_with fail
  with_reducible refine (over_index N last b n c h _ HN.out HR.out hn).mono ?_
  rintro e w1 ⟨rfl, hx⟩
  rcases hx with ⟨rfl, hx⟩ | ⟨i, hi, rfl, hx⟩
  · have HX := hid hx
    clear hx
    go_wp2
    go_ret
    exact ⟨rfl, false, rfl, by simpa using HX.out⟩
  · have HX := hid hx
    have hd : decide ((0 : Int) ≤ (i : Int)) = true := decide_eq_true (by omega)
    clear hx
    go_wp2
    go_ret
    refine ⟨rfl, true, rfl, ?_⟩
    simp only [Bool.true_eq_false, false_iff]
    intro hc
    have := hc i hi
    have := HX.out
    omega
/-- The same at a string turned into bytes, in the world behind the conversion. -/
theorem over_str (N last : Nat) (s : ByteArray) (w : World) (hs : s.size ≤ 200) (c : Nat) (hN : w.cell? ⟨N, 0, none⟩ = some (.int .u8 (last : Int))) (hl : N < w.heap.size) :
    Calls Try.prog 26 #[.slice (some ⟨w.heap.size, 0, none⟩) s.size c, .func (.func 27) #[] #[.pointer (some ⟨N, 0, none⟩)]] (w.alloc (.cells (bytesRow s c) 5 ((bytesRow s c).size, (bytesRow s c).size + 1))).drew
      fun e w' => (∃ v : Bool, e = .returned (.bool v) ∧ (v = false ↔ ∀ i, i < s.size → fb s i ≤ last)) ∧ Below w.heap.size w w' := by
  have hb : Below w.heap.size w (w.alloc (.cells (bytesRow s c) 5 ((bytesRow s c).size, (bytesRow s c).size + 1))).drew := (bl_new w _).drew
  refine (over_any N last w.heap.size s.size c (byt s) _ ((hb.cell (p := ⟨N, 0, none⟩) hl).trans hN) (new_bytes w s c _).drew hs).mono ?_
  rintro e w1 ⟨rfl, v, rfl, hv⟩
  exact ⟨⟨v, rfl, hv⟩, hb⟩

def abS : ByteArray := ⟨#[97, 98]⟩
def abbS : ByteArray := ⟨#[97, 98, 98]⟩
theorem lyn_abS : LynS abS := (Lm.lyn_join (a := [97]) (b := [98]) (Lm.lyn_one _) (Lm.lyn_one _)).2 (by decide)
theorem fb_abS : ∀ i, fb abS (i % abS.size) ≤ 98 := by
  intro i
  have h : i % abS.size < 2 := Nat.mod_lt i (show 0 < abS.size by decide)
  generalize i % abS.size = j at h
  match j, h with
  | 0, _ => decide
  | 1, _ => decide
theorem next_abS : NextSpec abS 3 98 abbS := by
  refine ⟨by decide, fun i hi => ?_, fun _ => by decide, fun i h1 h2 => ?_⟩
  · have h : i + 1 < 3 := hi
    match i, h with
    | 0, _ => decide
    | 1, _ => decide
  · have : 3 ≤ i := h1
    omega
theorem Next_abS (w : World) : Calls Try.prog 17 #[.string ⟨#[97, 98]⟩, .int .i64 3, .int .u8 98] w fun e w' => e = .returned (.tuple #[.string ⟨#[97, 98, 98]⟩, .int .i64 0]) ∧ Below w.heap.size w w' := by
  refine (Next_ok abS 3 98 w (by decide) (by decide) (by decide) lyn_abS (by decide) fb_abS).mono ?_
  rintro e w1 ⟨⟨r, hr, rfl⟩, hb⟩
  obtain rfl : r = abbS := hr.unique next_abS
  exact ⟨rfl, hb⟩
end Go.Proofs.Ytddejiblgodgkaa
