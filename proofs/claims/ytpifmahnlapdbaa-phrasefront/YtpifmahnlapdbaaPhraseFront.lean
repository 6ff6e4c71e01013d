
/-
quillkeep.PhraseFront: whatever a, b: it answers true.
-/
import Derived.Test.YtpifmahnlapdbaaPhs
import Derived.Test.YtpifmahnlapdbaaKeep
namespace Go.Proofs.Ytpifmahnlapdbaa
open Go.RowKit

theorem phraseFront_any (a b : ByteArray) (_ha : a.size ≤ maxLen) (_hb : b.size ≤ maxLen) (w : World) :
    Calls Try.prog 6 #[.string a, .string b] w fun e w' => e = .returned (.bool true) ∧ Below w.heap.size w w' := by
  have hcut : ∀ (s : ByteArray) (w : World), Calls Try.prog 19 #[.string s, .int .i64 100] w fun e w' => e = .returned (.string (cutS s 100)) ∧ w = w' := fun s w => cut_any s 100 w (by decide)
  go_enter Try.func6, Try.ntmps6
  go_wp2_with fail
  with_reducible refine (phrases_ok _).mono ?_
  rintro e w1 ⟨rfl, hb1⟩
  go_wp2_with fail
  with_reducible refine (hcut a _).mono ?_
  rintro e w2 ⟨rfl, rfl⟩
  go_wp2_with fail
  with_reducible refine (hcut b _).mono ?_
  rintro e w3 ⟨rfl, rfl⟩
  have hca := (cutS_size a 100).1
  have hcb := (cutS_size b 100).1
  generalize cutS a 100 = x at *
  generalize cutS b 100 = y at *
  have HB1 := hid hb1
  clear hb1
  go_wp2_with fail
  with_reducible refine (Put_ok x _ (by omega)).mono ?_
  rintro e w4 ⟨v, rfl, hown, hb4⟩
  have HB4 := hid (bl_then HB1.out hb4)
  obtain ⟨A, c, rfl, hc, hrow⟩ := hown.row
  have HR := hid hrow
  clear hb4 hown hrow HB1
  obtain ⟨L, hL⟩ : ∃ L, L = (Ph.prun (lst x)).1 := ⟨_, rfl⟩
  have hn : L.length ≤ x.size := by rw [hL, ← lst_len]; exact Ph.prun_len _
  rw [← hL] at HR hc ⊢
  have hbig : ¬ 9223372036854775807 < x.size + y.size := by omega
  have hxy : (x ++ y).size ≤ 200 := by rw [size_app]; omega
  have HL := hid hL
  generalize mkS (Ph.prest (lst x)) = r1
  clear hL
  go_wp2_with fail
  with_reducible refine (Put_ok (x ++ y) _ hxy).mono ?_
  rintro e w5 ⟨v, rfl, hown, hb5⟩
  have HB5 := hid (bl_then HB4.out hb5)
  obtain ⟨B, c2, rfl, hc2, hrow2⟩ := hown.row
  have HR1 : Hid (PRow w5 A L.length (fun k => L.getD k (0, 0))) := HR.out.keep hb5
  have HR2 := hid hrow2
  clear hb5 hown hrow2 HR HB4
  obtain ⟨M, hM⟩ : ∃ M, M = (Ph.prun (lst (x ++ y))).1 := ⟨_, rfl⟩
  have hm : M.length ≤ x.size + y.size := by rw [hM, ← size_app, ← lst_len]; exact Ph.prun_len _
  rw [← hM] at HR2 hc2 ⊢
  have HP : Hid (L <+: M) := by unfold Hid; rw [HL.out, hM, lst_app]; exact Ph.prun_pre _ _
  have hle := HP.out.length_le
  generalize mkS (Ph.prest (lst (x ++ y))) = r2
  clear hM HL hxy hbig
  go_wp2_with fail
  with_reducible refine (good_ok _ 2 2 _ (by decide) (two_zeros _ _)).mono ?_
  rintro e w6 ⟨rfl, hw6⟩
  have HB6 : Hid (Below w.heap.size w w6) := by rw [← hw6]; exact bl_then HB5.out (bl_new w5 _)
  have HA6 : Hid (PRow w6 A L.length (fun k => L.getD k (0, 0))) := by rw [← hw6]; exact HR1.out.keep (bl_new w5 _)
  have HE6 : Hid (PRow w6 B L.length (fun k => M.getD k (0, 0))) := by rw [← hw6]; exact (HR2.out.less hle).keep (bl_new w5 _)
  have he : eqP L.length L.length (fun k => L.getD k (0, 0)) (fun k => M.getD k (0, 0)) = true := eqP_true.2 ⟨rfl, fun k hk => (Ph.getD_pre HP.out hk _).symm⟩
  have HE := hid he
  have hleI : (L.length : Int) ≤ (M.length : Int) := by omega
  have hlc : (L.length : Int) ≤ (c2 : Int) := by omega
  have hlm : L.length ≤ maxLen := by unfold maxLen; omega
  clear hw6 he HB5 HR1 HR2
  go_wp2_with fail
  with_reducible refine (pequal_any HA6.out HE6.out hlm hlm).mono ?_
  rw [HE.out]
  rintro e w7 ⟨rfl, hd⟩
  have HD := hid hd
  clear hd HA6 HE6 hlm
  go_wp2
  go_ret
  exact ⟨rfl, bl_then HB6.out (HD.out.below _)⟩
end Go.Proofs.Ytpifmahnlapdbaa
