/-
The walk of quillkeep.SeekPuts: it returns true for all strings and bytes.
-/
import Derived.Test.YtdkdnhbdfcfkkaaPut
import Derived.Test.YtdkdnhbdfcfkkaaShelfC
import Derived.Laws.BytesArg
import Derived.Laws.IdiomStrings
namespace Go.Proofs.Ytdkdnhbdfcfkkaa
open Go.RowKit

theorem one_data (c : UInt8) : (⟨#[c]⟩ : ByteArray).data.toList = [c] := rfl
theorem ba_ext {a b : ByteArray} (h : a.data.toList = b.data.toList) : a = b := by
  cases a
  cases b
  simp at h
  simp [h]
/-- A byte that is nowhere, put and taken back. -/
theorem put_taken {s p : ByteArray} {c : UInt8} (h0 : 0 < p.size) (hc : ∀ x, x ∈ s.data.toList → x ≠ c) : putS (putS s p ⟨#[c]⟩) ⟨#[c]⟩ p = s ∧ (taken (putS s p ⟨#[c]⟩) ⟨#[c]⟩).length = (taken s p).length := by
  have hb := Wm.put_back (P := p.data.toList) hc (taken_ch (s := s) h0)
  rw [size_list, List.drop_zero] at hb
  have hu : (putS s p ⟨#[c]⟩).data.toList = Wm.putT s.data.toList [c] p.size 0 (taken s p) := putS_data s p ⟨#[c]⟩
  rw [← hu] at hb
  obtain ⟨u, hu2⟩ : ∃ u, u = putS s p ⟨#[c]⟩ := ⟨_, rfl⟩
  rw [← hu2] at hb ⊢
  have hst : ∀ x, Stands u ⟨#[c]⟩ x ↔ u.data.toList[x]? = some c := by
    intro x
    constructor
    · intro h
      have h1 : x + 1 ≤ u.size := h.1
      have h2 := h.2 0 (by show 0 < 1; omega)
      have h3 : byt ⟨#[c]⟩ 0 = c := rfl
      rw [h3, Nat.add_zero] at h2
      rw [List.getElem?_eq_getElem (by rw [size_list]; omega), byt_get, ← h2]
    · intro h
      obtain ⟨h1, h2⟩ := List.getElem?_eq_some_iff.1 h
      rw [byt_get] at h2
      rw [size_list] at h1
      refine ⟨h1, fun t ht => ?_⟩
      have ht' : t < 1 := ht
      obtain rfl : t = 0 := by omega
      rw [Nat.add_zero, h2]
      rfl
  have hone : 0 < (⟨#[c]⟩ : ByteArray).size := by show 0 < 1; omega
  have ho := Wm.put_one (U := u.data.toList) (P := p.data.toList) (b := c) (l := places u ⟨#[c]⟩) (e := 0) (Wm.oc_sorted _ _ _ _) (fun x hx => (hst x).1 ((places_mem hone).1 hx)) (fun x _ hx => (places_mem hone).2 ((hst x).2 hx)) (fun _ _ => Nat.zero_le _)
  rw [List.drop_zero, hb.1, hb.2] at ho
  exact ⟨ba_ext ho.1, ho.2⟩

def puT : ByteArray := ⟨#[97, 98, 97, 98, 97]⟩
def puP : ByteArray := ⟨#[97, 98, 97]⟩
def puX : ByteArray := ⟨#[120]⟩
theorem pu_puts : putS puT puP puX = ⟨#[120, 98, 97]⟩ ∧ (taken puT puP).length = 1 := by decide +kernel

theorem not_in {l : List UInt8} {c : UInt8} (h : ¬ 0 ≤ Lib.indexByte l c) : ∀ x, x ∈ l → x ≠ c := by
  induction l with
  | nil => intro x hx; cases hx
  | cons a l ih =>
    rw [Lib.indexByte] at h
    intro x hx
    split at h
    · exact absurd (Int.le_refl 0) h
    · rename_i hne
      have hne' : a ≠ c := by simpa using hne
      have hl : ¬ 0 ≤ Lib.indexByte l c := by
        intro h2
        rw [if_neg (by simp; omega)] at h
        omega
      rw [List.mem_cons] at hx
      rcases hx with rfl | hx
      · exact hne'
      · exact ih hl x hx

theorem byte_str (b : Int) : strOfNums [b] = ⟨#[b.toNat.toUInt8]⟩ := rfl
theorem new_cell (w : World) (v : Value) (t : TypeId) : (w.alloc (.cells #[v] t)).cell? ⟨w.heap.size, 0, none⟩ = some v := by simp
theorem seekPuts_err (s p : ByteArray) (b : Int) (w : World) (h : findErr s p ≠ 0) :
    Calls Try.prog 5 #[.string s, .string p, .int .u8 b] w fun e w' => e = .returned (.bool true) ∧ Below w.heap.size w w' := by
  have hx : (findErr s p != 0) = true := by simp [h]
  have HE := hid h
  clear h
  go_enter Try.func5, Try.ntmps5
  go_wp2_with fail
  refine (Put_ok puT puP puX _ (by decide) (by decide) (by decide) (by decide)).mono ?_
  unfold PutOk
  rw [pu_puts.1, pu_puts.2]
  rintro e w1 ⟨rfl, hb1⟩
  go_wp2_with fail
  with_reducible refine (Put_err s p p _ HE.out).mono ?_
  rintro e w2 ⟨rfl, hb2⟩
  go_wp2
  go_ret
  exact ⟨rfl, bl_then hb1 hb2⟩

set_option maxHeartbeats 1000000 in
theorem seekPuts_ok (s p : ByteArray) (b : Int) (w : World) (hs : s.size ≤ 200) (hp : p.size ≤ 200) (h0 : 0 < p.size) :
    Calls Try.prog 5 #[.string s, .string p, .int .u8 b] w fun e w' => e = .returned (.bool true) ∧ Below w.heap.size w w' := by
  go_enter Try.func5, Try.ntmps5
  go_wp2_with fail
  refine (Put_ok puT puP puX _ (by decide) (by decide) (by decide) (by decide)).mono ?_
  unfold PutOk
  rw [pu_puts.1, pu_puts.2]
  rintro e w1 ⟨rfl, hb1⟩
  go_wp2_with fail
  with_reducible refine (Put_ok s p p _ hs hp h0 hp).mono ?_
  unfold PutOk
  rw [putS_self h0]
  rintro e w2 ⟨rfl, hb2⟩
  have hcv := run_convert_bytes_arg (P := Try.prog) (w2.alloc (.cells #[.int .u8 b] 5)) 37 5 Try.underlying37 Try.underlying5 w2.heap.size 0 1 1 [b] rfl (fun i hi => by
    obtain rfl : i = 0 := by omega
    exact new_cell _ _ _) 9 Try.underlying9
  rw [byte_str] at hcv
  generalize b.toNat.toUInt8 = ch at *
  have hsz := putS_size (s := s) (b := ⟨#[ch]⟩) h0
  have htk := taken_len (s := s) h0
  have hpt := fun hc => put_taken (s := s) (p := p) (c := ch) h0 hc
  obtain ⟨u, hu⟩ : ∃ u, u = putS s p ⟨#[ch]⟩ := ⟨_, rfl⟩
  obtain ⟨k, hk⟩ : ∃ k, k = (taken s p).length := ⟨_, rfl⟩
  rw [← hu] at hsz hpt
  rw [← hk] at hsz htk hpt
  have hone : (⟨#[ch]⟩ : ByteArray).size = 1 := rfl
  rw [hone, Nat.mul_one] at hsz
  obtain ⟨q, hq⟩ : ∃ q, q = k * (p.size - 1) := ⟨_, rfl⟩
  have hkq : k * p.size = q + k := by
    rw [hq, ← Nat.mul_succ]
    congr 1; omega
  have eprod : (k : Int) * ((p.size : Int) - 1) = (q : Int) := by
    rw [hq, show (p.size : Int) - 1 = ((p.size - 1 : Nat) : Int) by omega]
    rfl
  have eu : (s.size : Int) - (q : Int) = (u.size : Int) := by omega
  have hus : u.size ≤ 200 := by omega
  have hq2 : q ≤ 200 := by omega
  have hk2 : k ≤ 200 := by
    have := Nat.le_mul_of_pos_right k h0
    omega
  have HU := hid hu
  have HK := hid hk
  have HPT := hid hpt
  clear hsz htk hpt hu hk hq hkq
  rw [← HK.out]
  go_wp2_with fail
  with_reducible refine (Put_ok s p ⟨#[ch]⟩ _ hs hp h0 (by rw [hone]; omega)).mono ?_
  unfold PutOk
  rw [← HU.out, ← HK.out]
  rintro e w3 ⟨rfl, hb3⟩
  have hb4 := hid (bl_then (bl_then (bl_then hb1 hb2) (bl_new w2 (.cells #[.int .u8 b] 5))) hb3)
  clear hb1 hb2 hb3 hcv
  go_wp2_with fail
  with_reducible refine (Try.strings_Contains_one s ch _).mono ?_
  rintro e w3' ⟨rfl, rfl⟩
  by_cases hin : 0 ≤ Lib.indexByte s.data.toList ch
  · have hd : decide (0 ≤ Lib.indexByte s.data.toList ch) = true := decide_eq_true hin
    rw [hd]
    clear hin hd
    go_wp2
    go_ret
    exact ⟨rfl, hb4.out⟩
  · have hd : decide (0 ≤ Lib.indexByte s.data.toList ch) = false := decide_eq_false hin
    obtain ⟨hA, hB⟩ := HPT.out (not_in hin)
    have HA := hid hA
    have HB := hid hB
    rw [hd]
    clear hin hd hA hB HPT
    go_wp2_with fail
    with_reducible refine (Put_ok u ⟨#[ch]⟩ p _ hus (by rw [hone]; omega) (by rw [hone]; omega) hp).mono ?_
    unfold PutOk
    rw [HA.out, HB.out]
    rintro e w5 ⟨rfl, hb5⟩
    go_wp2
    go_ret
    exact ⟨rfl, bl_then hb4.out hb5⟩

theorem seekPuts_walk (s p : ByteArray) (b : Int) (_ : s.size ≤ maxLen) (_ : p.size ≤ maxLen) (_ : (Lit.int .u8 b).wf = true) (w : World) :
    Calls Try.prog 5 #[.string s, .string p, .int .u8 b] w fun e w' => e = .returned (.bool true) ∧ Below w.heap.size w w' := by
  by_cases h : findErr s p = 0
  · obtain ⟨h1, h2, h3⟩ := findErr_ok h
    exact seekPuts_ok s p b w h1 h2 h3
  · exact seekPuts_err s p b w h
end Go.Proofs.Ytdkdnhbdfcfkkaa
