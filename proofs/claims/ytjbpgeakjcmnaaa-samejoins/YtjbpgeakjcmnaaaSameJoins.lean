
/-
quillkeep.SameJoins: whatever four words and a byte: it answers true.
-/
import Derived.Test.YtjbpgeakjcmnaaaSames
namespace Go.Proofs.Ytjbpgeakjcmnaaa
open Go.RowKit

/-- 'string([]byte{x})'. -/
theorem conv_one (W : World) (N : Nat) (hN : W.heap.size = N) (x : Int) (ch : UInt8) (hc : x.toNat.toUInt8 = ch) : (convert 37 9 (.slice (some ⟨N, 0, none⟩) 1 1)).run Try.prog (W.alloc (.cells #[.int .u8 x] 5)) = .ok (.string ⟨#[ch]⟩) (W.alloc (.cells #[.int .u8 x] 5)) := by
  subst hN hc
  exact run_convert_bytes_arg (P := Try.prog) (W.alloc (.cells #[.int .u8 x] 5)) 37 5 Try.underlying37 Try.underlying5 W.heap.size 0 1 1 [x] rfl (fun i hi => by
    obtain rfl : i = 0 := by omega
    simp) 9 Try.underlying9
set_option maxHeartbeats 2000000 in
theorem sameJoins_walk (a0 b0 c0 d0 : ByteArray) (x : Int) (_ : a0.size ≤ maxLen) (_ : b0.size ≤ maxLen) (_ : c0.size ≤ maxLen) (_ : d0.size ≤ maxLen) (_ : (Lit.int .u8 x).wf = true) (w : World) :
    Calls Try.prog 6 #[.string a0, .string b0, .string c0, .string d0, .int .u8 x] w fun e w' => e = .returned (.bool true) ∧ Below w.heap.size w w' := by
  obtain ⟨ch, hch⟩ : ∃ ch, x.toNat.toUInt8 = ch := ⟨_, rfl⟩
  have HCH := hid hch
  clear hch
  go_enter Try.func6, Try.ntmps6
  go_wp2_with fail
  with_reducible refine (sames_ok _).mono ?_
  rintro e w1 ⟨rfl, hb1⟩
  have HB := hid hb1
  clear hb1
  go_wp2_with fail
  refine (cut_any a0 90 _ (by decide)).mono ?_
  rintro e w2 ⟨rfl, rfl⟩
  have ha := (cutS_size a0 90).1
  generalize cutS a0 90 = a at ha
  go_wp2_with fail
  refine (cut_any b0 90 _ (by decide)).mono ?_
  rintro e w2 ⟨rfl, rfl⟩
  have hb := (cutS_size b0 90).1
  generalize cutS b0 90 = b at hb
  go_wp2_with fail
  refine (cut_any c0 90 _ (by decide)).mono ?_
  rintro e w2 ⟨rfl, rfl⟩
  have hc := (cutS_size c0 90).1
  generalize cutS c0 90 = c at hc
  go_wp2_with fail
  refine (cut_any d0 90 _ (by decide)).mono ?_
  rintro e w2 ⟨rfl, rfl⟩
  have hd := (cutS_size d0 90).1
  generalize cutS d0 90 = d at hd
  have hone : (⟨#[ch]⟩ : ByteArray).size = 1 := rfl
  have hac : (a ++ c).size ≤ 200 := by rw [size_app]; omega
  have hbd : (b ++ d).size ≤ 200 := by rw [size_app]; omega
  have hax : (a ++ ⟨#[ch]⟩ : ByteArray).size ≤ 200 := by rw [size_app, hone]; omega
  have hbx : (b ++ ⟨#[ch]⟩ : ByteArray).size ≤ 200 := by rw [size_app, hone]; omega
  have n1 : ¬ 9223372036854775807 < a.size + c.size := by omega
  have n2 : ¬ 9223372036854775807 < b.size + d.size := by omega
  have n3 : ¬ 9223372036854775807 < a.size + 1 := by omega
  have n4 : ¬ 9223372036854775807 < b.size + 1 := by omega
  obtain ⟨n, hn⟩ : ∃ n, n = Sa.lc (lst a) (lst b) := ⟨_, rfl⟩
  obtain ⟨m, hm⟩ : ∃ m, m = Sa.lc (lst c) (lst d) := ⟨_, rfl⟩
  obtain ⟨k, hk⟩ : ∃ k, k = Sa.lc (lst (a ++ c)) (lst (b ++ d)) := ⟨_, rfl⟩
  obtain ⟨l, hl⟩ : ∃ l, l = Sa.lc (lst (a ++ ⟨#[ch]⟩)) (lst b) := ⟨_, rfl⟩
  obtain ⟨o, ho⟩ : ∃ o, o = Sa.lc (lst (a ++ ⟨#[ch]⟩)) (lst (b ++ ⟨#[ch]⟩)) := ⟨_, rfl⟩
  have h1 : n + m ≤ k := by rw [hn, hm, hk, lst_cat, lst_cat]; exact Sa.lc_join _ _ _ _
  have h2 : n ≤ l ∧ l ≤ n + 1 := by rw [hn, hl, lst_cat]; exact Sa.lc_more _ _ ch
  have h3 : o = n + 1 := by rw [hn, ho, lst_cat, lst_cat]; exact Sa.lc_both _ _ ch
  have hnb : n ≤ 90 ∧ m ≤ 90 := by
    have e1 := Sa.lc_left (lst a) (lst b)
    have e2 := Sa.lc_left (lst c) (lst d)
    rw [lst_len] at e1 e2
    omega
  have HN := hid hn
  have HM := hid hm
  have HK := hid hk
  have HL := hid hl
  have HO := hid ho
  clear hn hm hk hl ho
  go_wp2_with fail
  with_reducible refine (Long_ok a b _ (by omega) (by omega)).mono ?_
  rintro e w2 ⟨he, hb2⟩
  rw [← HN.out] at he
  subst he
  have HB := hid (bl_then HB.out hb2)
  clear hb2
  go_wp2_with fail
  with_reducible refine (Long_ok c d _ (by omega) (by omega)).mono ?_
  rintro e w3 ⟨he, hb2⟩
  rw [← HM.out] at he
  subst he
  have HB := hid (bl_then HB.out hb2)
  clear hb2
  go_wp2_with fail
  with_reducible refine (Long_ok (a ++ c) (b ++ d) _ hac hbd).mono ?_
  rintro e w4 ⟨he, hb2⟩
  rw [← HK.out] at he
  subst he
  have HB := hid (bl_then HB.out hb2)
  clear hb2
  have hcv := conv_one w4 _ rfl x ch HCH.out
  go_wp2_with fail
  with_reducible refine (Long_ok (a ++ ⟨#[ch]⟩) b _ hax (by omega)).mono ?_
  rintro e w5 ⟨he, hb2⟩
  rw [← HL.out] at he
  subst he
  have HB := hid (bl_then HB.out (bl_then (bl_new _ _) hb2))
  clear hb2 hcv
  have hcv := conv_one w5 _ rfl x ch HCH.out
  have hcv2 := conv_one (w5.alloc (.cells #[.int .u8 x] 5)) (w5.heap.size + 1) (by simp) x ch HCH.out
  go_wp2_with fail
  with_reducible refine (Long_ok (a ++ ⟨#[ch]⟩) (b ++ ⟨#[ch]⟩) _ hax hbx).mono ?_
  rintro e w6 ⟨he, hb2⟩
  rw [← HO.out] at he
  subst he
  have HB := hid (bl_then HB.out (bl_then (bl_new _ _) (bl_then (bl_new _ _) hb2)))
  clear hb2 hcv hcv2
  go_wp2_with fail
  with_reducible refine (good_ok _ 5 5 _ (by omega) (zeros5 _ _)).mono ?_
  rintro e w8 ⟨rfl, rfl⟩
  have g1 : (n : Int) + (m : Int) ≤ (k : Int) := by omega
  have g2 : (n : Int) ≤ (l : Int) := by omega
  have g3 : (l : Int) ≤ (n : Int) + 1 := by omega
  have g4 : ((o : Int) == (n : Int) + 1) = true := by rw [h3]; simp
  have g5 : IntKind.i64.wrap ((n : Int) + (m : Int)) = (n : Int) + (m : Int) := IntWalk.i64_in _ (by omega)
  have HB := hid (bl_then HB.out (bl_new w6 (.cells #[.int .i64 0, .int .i64 0, .int .i64 0, .int .i64 0, .int .i64 0] 22)))
  clear h3
  go_wp2
  go_ret
  exact ⟨rfl, HB.out⟩
end Go.Proofs.Ytjbpgeakjcmnaaa
