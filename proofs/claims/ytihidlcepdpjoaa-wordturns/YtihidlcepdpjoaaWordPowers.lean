/-
The walk of quillkeep.WordPowers: it returns true for all strings.
-/
import Derived.Test.YtihidlcepdpjoaaKeep
import Derived.Test.YtihidlcepdpjoaaRootMath
namespace Go.Proofs.Ytihidlcepdpjoaa
open Go.RowKit

theorem size_app (a b : ByteArray) : (a ++ b).size = a.size + b.size := ByteArray.size_append
theorem byt_app (a b : ByteArray) (i : Nat) : byt (a ++ b) i = Wm.cat (byt a) a.size (byt b) i := by
  unfold byt Wm.cat
  rw [ByteArray.data_append, Array.toList_append, List.getD_eq_getElem?_getD, List.getElem?_append, size_list]
  split
  · show _ = a.data.toList.getD i 0
    rw [List.getD_eq_getElem?_getD]
  · show _ = b.data.toList.getD (i - a.size) 0
    rw [List.getD_eq_getElem?_getD]
theorem rootS_size {s : ByteArray} (h0 : 0 < s.size) : (rootS s).size = rootLen s := by
  have := rootLen_le h0
  unfold rootS
  rw [if_neg (by omega), size_ext]
  omega
theorem rootS_byt {s : ByteArray} (h0 : 0 < s.size) {i : Nat} (hi : i < rootLen s) : byt (rootS s) i = byt s i := by
  unfold rootS
  rw [if_neg (by omega), byt_ext (by omega), Nat.zero_add]
theorem empty_of {s : ByteArray} (h : s.size = 0) : s = ByteArray.empty := by
  rw [str_eq']
  exact ⟨h, fun i hi => by omega⟩

/-- LYNDON, SCHUETZENBERGER. -/
theorem powers_iff (a b : ByteArray) : a ++ b = b ++ a ↔ (rootS a = rootS b ∨ a.size = 0 ∨ b.size = 0) := by
  rw [str_eq' (a := a ++ b), size_app, size_app]
  by_cases ha : a.size = 0
  · refine ⟨fun _ => .inr (.inl ha), fun _ => ?_⟩
    rw [empty_of ha]
    exact ⟨by omega, fun i _ => by rw [ByteArray.empty_append, ByteArray.append_empty]⟩
  by_cases hb : b.size = 0
  · refine ⟨fun _ => .inr (.inr hb), fun _ => ?_⟩
    rw [empty_of hb]
    exact ⟨by omega, fun i _ => by rw [ByteArray.empty_append, ByteArray.append_empty]⟩
  have A := rootLen_root (s := a) (by omega)
  have B := rootLen_root (s := b) (by omega)
  constructor
  · rintro ⟨_, h⟩
    obtain ⟨h1, h2⟩ := Wm.comm_root (by omega) (by omega) (fun i hi => by rw [← byt_app, ← byt_app]; exact h i hi) A B
    refine .inl (str_eq'.2 ⟨by rw [rootS_size (by omega), rootS_size (by omega), h1], fun i hi => ?_⟩)
    rw [rootS_size (by omega)] at hi
    rw [rootS_byt (by omega) hi, rootS_byt (by omega) (by omega), h2 i hi]
  · rintro (h | h | h)
    · have hz : rootLen a = rootLen b := by
        rw [← rootS_size (s := a) (by omega), ← rootS_size (s := b) (by omega), h]
      refine ⟨by omega, fun i hi => ?_⟩
      rw [byt_app, byt_app]
      refine Wm.root_comm A.1 (hz ▸ B.1) (fun j hj => ?_) i hi
      rw [← rootS_byt (s := a) (by omega) hj, ← rootS_byt (s := b) (by omega) (by omega), h]
    · exact absurd h ha
    · exact absurd h hb

theorem list_eq {a b : ByteArray} : a.toList = b.toList ↔ a = b := by rw [str_eq, str_eq']
theorem list_nil {a : ByteArray} : a.toList = [] ↔ a.size = 0 := by
  rw [ByteArray.toList_eq, ← size_list]
  exact List.length_eq_zero_iff.symm
theorem pow_one {x y : ByteArray} (h : (rootS x).toList = (rootS y).toList) : ((x ++ y).toList == (y ++ x).toList) = true :=
  beq_iff_eq.2 (list_eq.2 ((powers_iff x y).2 (.inl (list_eq.1 h))))
theorem pow_two {x y : ByteArray} (h : x.toList = []) : ((x ++ y).toList == (y ++ x).toList) = true :=
  beq_iff_eq.2 (list_eq.2 ((powers_iff x y).2 (.inr (.inl (list_nil.1 h)))))
theorem pow_three {x y : ByteArray} (h : ¬ (rootS x).toList = (rootS y).toList) (h2 : ¬ x.toList = []) : (((x ++ y).toList == (y ++ x).toList) == ((rootS x).toList == (rootS y).toList || x.toList.isEmpty || y.toList.isEmpty)) = true := by
  have h3 : ((rootS x).toList == (rootS y).toList) = false := beq_eq_false_iff_ne.2 h
  have h4 : x.toList.isEmpty = false := by cases hq : x.toList.isEmpty with
    | false => rfl
    | true => exact absurd (List.isEmpty_iff.1 hq) h2
  rw [h3, h4, Bool.false_or, Bool.false_or]
  have key : (x ++ y).toList = (y ++ x).toList ↔ y.toList = [] := by
    rw [list_eq, powers_iff, list_nil]
    rw [list_eq] at h
    rw [list_nil] at h2
    constructor
    · rintro (h' | h' | h')
      · exact absurd h' h
      · exact absurd h' h2
      · exact h'
    · exact fun h' => .inr (.inr h')
  by_cases hy : y.toList = []
  · rw [beq_iff_eq, beq_iff_eq.2 (key.2 hy), List.isEmpty_iff.2 hy]
  · rw [beq_iff_eq, beq_eq_false_iff_ne.2 (fun e => hy (key.1 e))]
    cases hq : y.toList.isEmpty with
    | false => rfl
    | true => exact absurd (List.isEmpty_iff.1 hq) hy

def abab : ByteArray := ⟨#[97, 98, 97, 98]⟩
theorem abab_root : rootS abab = ⟨#[97, 98]⟩ ∧ rootN abab = 2 := by decide +kernel

set_option maxHeartbeats 1000000 in
theorem wordPowers_walk (a b : ByteArray) (_ : a.size ≤ maxLen) (_ : b.size ≤ maxLen) (w : World) :
    Calls Try.prog 6 #[.string a, .string b] w fun e w' => e = .returned (.bool true) ∧ Below w.heap.size w w' := by
  have hm : 100 ≤ maxLen := by decide
  go_enter Try.func6, Try.ntmps6
  go_wp2_with fail
  refine (Root_any abab _ (by decide)).mono ?_
  rw [abab_root.1, abab_root.2]
  rintro e w1 ⟨rfl, hb1⟩
  go_wp2_with fail
  refine (cut_any a 100 _ hm).mono ?_
  rintro e w1' ⟨rfl, rfl⟩
  go_wp2_with fail
  refine (cut_any b 100 _ hm).mono ?_
  rintro e w1' ⟨rfl, rfl⟩
  have ha := (cutS_size a 100).1
  have hb := (cutS_size b 100).1
  generalize cutS a 100 = x at *
  generalize cutS b 100 = y at *
  go_wp2_with fail
  with_reducible refine (Root_any x _ (by omega)).mono ?_
  rintro e w2 ⟨rfl, hb2⟩
  go_wp2_with fail
  with_reducible refine (Root_any y _ (by omega)).mono ?_
  rintro e w3 ⟨rfl, hb3⟩
  go_wp2_with fail
  with_reducible refine (good_ok _ 2 2 _ (by omega) (two_zeros _ _)).mono ?_
  rintro e w4 ⟨rfl, rfl⟩
  have hfin := hid (bl_then (bl_then (bl_then hb1 hb2) hb3) (bl_new w3 (.cells #[.int .i64 0, .int .i64 0] 25)))
  clear hb1 hb2 hb3
  go_wp2
  all_goals go_ret
  · exact ⟨ret_bool (pow_one (by assumption)), hfin.out⟩
  · exact ⟨ret_bool (pow_two (by assumption)), hfin.out⟩
  · exact ⟨ret_bool (pow_three (by assumption) (by assumption)), hfin.out⟩
end Go.Proofs.Ytihidlcepdpjoaa
