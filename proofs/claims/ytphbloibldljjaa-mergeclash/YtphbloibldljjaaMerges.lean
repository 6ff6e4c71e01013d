
/-
quillkeep.merges: the document's own example.
-/
import Derived.Test.YtphbloibldljjaaMgC
import Derived.Test.YtphbloibldljjaaEEqual
import Derived.Test.YtphbloibldljjaaKeep
namespace Go.Proofs.Ytphbloibldljjaa
open Go.RowKit

def mgA : Es.Ev := ⟨0, 0, ⟨#[120]⟩⟩
def mgB : Es.Ev := ⟨3, 1, ⟨#[]⟩⟩
theorem mgAB_cls : ¬ Es.Cls [mgA] [mgB] := by
  rintro ⟨x, hx, y, hy, h⟩
  rw [List.mem_singleton] at hx hy
  subst hx; subst hy
  exact absurd (Es.cl_iff.2 h) (by decide +kernel)
theorem mgAB_both : Es.IsBo [mgA] [mgB] [mgA, mgB] :=
  ⟨List.pairwise_cons.2 ⟨fun y hy => by rw [List.mem_singleton] at hy; subst hy; decide, List.pairwise_singleton _ _⟩, fun x => by simp⟩
theorem mgAB_beh : Es.behL [mgA] [mgB] = [⟨4, 1, ⟨#[]⟩⟩] := by
  have : Es.has [mgA] mgB = false := by decide +kernel
  unfold Es.behL
  rw [List.filter_cons, if_pos (by rw [this]; rfl)]
  have e : Es.upTo [mgA] mgB.a = 1 := by decide +kernel
  simp only [List.filter_nil, List.map_cons, List.map_nil, e]
  rfl
theorem merges_ok (w : World) : Calls Try.prog 14 #[] w fun e w' => e = .returned (.bool true) ∧ Below w.heap.size w w' := by
  obtain ⟨w0, hw0⟩ : ∃ w0, w0 = (w.alloc (.cells #[.int .i64 0, .int .i64 0, .string ⟨#[120]⟩] 30)).alloc (.cells #[.int .i64 3, .int .i64 1, .string ⟨#[]⟩] 30) := ⟨_, rfl⟩
  have hb0 : Below w.heap.size w w0 := by rw [hw0]; exact bl_then (bl_new w _) (bl_new _ _)
  have hA : EvIn w0 (some ⟨w.heap.size, 0, none⟩) 1 (fun _ => mgA) := ⟨by rw [hw0]; exact (EvRow.one w mgA 30 _ rfl).keep (bl_new _ _), fun _ _ => wf_lit mgA (by decide +kernel), by decide⟩
  have hB : EvIn w0 (some ⟨w.heap.size + 1, 0, none⟩) 1 (fun _ => mgB) := ⟨by rw [hw0]; exact EvRow.one _ mgB 30 _ (by simp), fun _ _ => wf_lit mgB (by decide +kernel), by decide⟩
  have HB0 := hid hb0
  have HA := hid hA
  have HB := hid hB
  have ea : Es.eErr ((5 : Nat) : Int) [mgA] = 0 := by decide +kernel
  have eb : Es.eErr ((5 : Nat) : Int) [mgB] = 0 := by decide +kernel
  have eab : Es.eErr ((5 : Nat) : Int) [mgA, mgB] = 0 := by decide +kernel
  have h5 : I64 5 := by unfold I64; omega
  clear hb0 hA hB
  go_enter Try.func14, Try.ntmps14
  go_wp2_with fail
  rw [← hw0]
  clear hw0
  with_reducible refine (Both_any 5 _ HA.out HB.out h5).mono ?_
  rintro e w1 ⟨C, c, l, x, rfl, hlc, hl, hr, hb1⟩
  obtain ⟨rfl, rfl⟩ := hl.is_ (N := 5) ea eb mgAB_cls mgAB_both eab
  have HB1 := hid (bl_then HB0.out hb1)
  have HR1 := hid hr
  have HA := hid (HA.out.keep hb1)
  have HB := hid (HB.out.keep hb1)
  have HBO := hid hl
  clear hb1 hr hl
  go_wp2_with fail
  with_reducible refine (Behind_any 5 _ HA.out HB.out h5).mono ?_
  rintro e w2 ⟨C2, c2, l2, x2, rfl, hlc2, hl2, hr2, hb2⟩
  obtain ⟨rfl, hl3⟩ := hl2.of HBO.out
  rw [beh_zero] at hl3
  obtain rfl : l2 = [⟨4, 1, ⟨#[]⟩⟩] := hl3.trans mgAB_beh
  clear hl2 hl3
  have HB2 := hid (bl_then HB1.out hb2)
  have HR1 := hid (HR1.out.keep hb2)
  have HR2 := hid hr2
  clear hb2 hr2 HA HB HBO HB1 HB0
  go_wp2_with fail
  with_reducible refine (good_ok _ 2 2 _ (by decide) (two_zeros _ _)).mono ?_
  rintro e w3 ⟨rfl, rfl⟩
  have HB3 := hid (HB2.out.alloc HB2.out.size (.cells #[.int .i64 0, .int .i64 0] 23))
  have HR1 : Hid (EvRow (w2.alloc (.cells #[.int .i64 0, .int .i64 0] 23)) C [mgA, mgB].length (fun k => [mgA, mgB].getD k Es.none_)) := HR1.out.keep (bl_new _ _)
  have HR2 : Hid (EvRow (w2.alloc (.cells #[.int .i64 0, .int .i64 0] 23)) C2 1 (fun k => [(⟨4, 1, ⟨#[]⟩⟩ : Es.Ev)].getD k Es.none_)) := HR2.out.keep (bl_new _ _)
  generalize w2.alloc (.cells #[.int .i64 0, .int .i64 0] 23) = w3 at *
  have HX : Hid (EvRow (w3.alloc (.cells #[.int .i64 0, .int .i64 0, .string ⟨#[120]⟩, .int .i64 3, .int .i64 1, .string ⟨#[]⟩] 30)) (some ⟨w3.heap.size, 0, none⟩) 2 (fun k => if k = 0 then mgA else mgB)) := EvRow.two w3 mgA mgB _ _ rfl
  have HR1 : Hid (EvRow (w3.alloc (.cells #[.int .i64 0, .int .i64 0, .string ⟨#[120]⟩, .int .i64 3, .int .i64 1, .string ⟨#[]⟩] 30)) C 2 (fun k => [mgA, mgB].getD k Es.none_)) := HR1.out.keep (bl_new _ _)
  have HR2 : Hid (EvRow (w3.alloc (.cells #[.int .i64 0, .int .i64 0, .string ⟨#[120]⟩, .int .i64 3, .int .i64 1, .string ⟨#[]⟩] 30)) C2 1 (fun k => [(⟨4, 1, ⟨#[]⟩⟩ : Es.Ev)].getD k Es.none_)) := HR2.out.keep (bl_new _ _)
  have HEQ : Hid (eqE 2 2 (fun k => [mgA, mgB].getD k Es.none_) (fun k => if k = 0 then mgA else mgB) = true) := eqE_true.2 ⟨rfl, fun k hk => by
    match k, hk with
    | 0, _ => rfl
    | 1, _ => rfl⟩
  have HB4 := hid (HB3.out.alloc HB3.out.size (.cells #[.int .i64 0, .int .i64 0, .string ⟨#[120]⟩, .int .i64 3, .int .i64 1, .string ⟨#[]⟩] 30))
  clear HB3
  go_wp2_with fail
  with_reducible refine (eequal_any HR1.out HX.out (by decide) (by decide)).mono ?_
  rintro e w5 ⟨he, hd⟩
  rw [HEQ.out] at he
  subst he
  have HB5 := hid (HB4.out.trans (hd.below _))
  have HR2 := hid (HR2.out.keep (hd.below _))
  clear hd HEQ HR1 HX HB4
  have HX : Hid (EvRow (w5.alloc (.cells #[.int .i64 4, .int .i64 1, .string ⟨#[]⟩] 30)) (some ⟨w5.heap.size, 0, none⟩) 1 (fun _ => ⟨4, 1, ⟨#[]⟩⟩)) := EvRow.one w5 ⟨4, 1, ⟨#[]⟩⟩ _ _ rfl
  have HR2 : Hid (EvRow (w5.alloc (.cells #[.int .i64 4, .int .i64 1, .string ⟨#[]⟩] 30)) C2 1 (fun k => [(⟨4, 1, ⟨#[]⟩⟩ : Es.Ev)].getD k Es.none_)) := HR2.out.keep (bl_new _ _)
  have HEQ : Hid (eqE 1 1 (fun k => [(⟨4, 1, ⟨#[]⟩⟩ : Es.Ev)].getD k Es.none_) (fun _ => ⟨4, 1, ⟨#[]⟩⟩) = true) := eqE_true.2 ⟨rfl, fun k hk => by
    obtain rfl : k = 0 := by omega
    rfl⟩
  have HB6 := hid (HB5.out.alloc HB5.out.size (.cells #[.int .i64 4, .int .i64 1, .string ⟨#[]⟩] 30))
  go_wp2_with fail
  with_reducible refine (eequal_any HR2.out HX.out (by decide) (by decide)).mono ?_
  rintro e w7 ⟨he, hd⟩
  rw [HEQ.out] at he
  subst he
  have HB7 := hid (HB6.out.trans (hd.below _))
  clear hd
  go_wp2
  go_ret
  exact ⟨rfl, HB7.out⟩
end Go.Proofs.Ytphbloibldljjaa
