/-
The contract of trie.Fronts.
-/
import Derived.Test.YthfbilaklllelaaTrieMath
namespace Go.Proofs.Ythfbilaklllelaa
open Go.RowKit

/-- What Fronts answers: the indices of the patterns that begin with f, in the order of the patterns. -/
def RetFronts (w : World) (g : Nat → ByteArray) (n : Nat) (f : (List UInt8)) (e : Ending) (w' : World) : Prop :=
  ∃ Q A c, FrontQ g n f Q ∧ e = .returned (.tuple #[.slice A Q.length c, .int .i64 0]) ∧ IRow w' A Q.length (fun k => idxW g n (Q.getD k [])) ∧ Below w.heap.size w w'

theorem Fronts_err (w : World) (A : Option Addr) (n c : Nat) (g : Nat → ByteArray) (f : ByteArray) (hrow : SRow w A n g) (hc : n ≤ c) (hx : patsErr g n ≠ 0) :
    Calls Try.prog 9 #[.slice A n c, .string f] w fun e w' => e = .returned (.tuple #[.slice none 0 0, .int .i64 (patsErr g n)]) ∧ w = w' := by
  have HR := hid hrow
  clear hrow
  go_enter Try.func9, Try.ntmps9
  go_wp2_with fail
  with_reducible refine (tcheck_in _ _ _ _ g HR.out hc).mono ?_
  rintro e w1 ⟨rfl, rfl⟩
  have hx' : (patsErr g n != 0) = true := bne_iff_ne.2 hx
  go_wp2
  go_ret2
  exact ⟨rfl, rfl⟩

theorem Fronts_ok (w : World) (A : Option Addr) (n c : Nat) (g : Nat → ByteArray) (f : ByteArray) (hrow : SRow w A n g) (hc : n ≤ c) (hx : patsErr g n = 0) :
    Calls Try.prog 9 #[.slice A n c, .string f] w (RetFronts w g n (wd f)) := by
  have hg := good_of hx
  have HG := hid hg
  have HR := hid hrow
  have hn := hg.few
  clear hrow hg
  go_enter Try.func9, Try.ntmps9
  go_wp2_with fail
  with_reducible refine (tcheck_in _ _ _ _ g HR.out hc).mono ?_
  rw [hx]
  rintro e w1 ⟨rfl, rfl⟩
  go_wp2_with fail
  with_reducible refine (build_in _ _ _ _ g HR.out hn HG.out.short).mono ?_
  rintro e w1 ⟨r, rfl, ⟨ad, ch, bl, hr, hT⟩, hb⟩
  have HT := hid hT
  have HB := hid hb
  have HA := hid hr
  clear hT hb hr
  unfold ptrTo
  go_wp2
  go_loopw [7, 8] (fun t i wr => ∃ k : Nat, k ≤ f.size ∧ i = .int .i64 k ∧ wr = w1 ∧ ((t = ptrTo (ad ((wd f).take k)) ∧ Hid (preD g n ((wd f).take k))) ∨ (t = .pointer none ∧ Hid (¬ preD g n ((wd f).take k))))) (fun _ i _ => f.size - (intOf i).toNat)
  case atStart =>
    exact ⟨0, by omega, rfl, rfl, .inl ⟨by rw [List.take_zero, HA.out]; rfl, hid (.inl rfl)⟩⟩
  case round =>
    obtain ⟨k, hk, rfl, rfl, ⟨rfl, HD⟩ | ⟨rfl, HD⟩⟩ := hrel
    · have hk20 : k ≤ 20 := by
        have := HG.out.len HD.out
        rw [List.length_take, wd_len] at this
        omega
      by_cases h : k < f.size
      · have HC := hid (wd_at h)
        by_cases hd : preD g n ((wd f).take (k + 1))
        · have hd' : preD g n ((wd f).take k ++ [f[k]]) := by rw [← take_next HC.out]; exact hd
          have HD2 := hid hd'
          clear hd hd'
          unfold ptrTo
          go_wp2_with fail
          rw [show (Value.pointer (some ⟨ad ((wd f).take k), 0, none⟩)) = ptrTo (ad ((wd f).take k)) by rfl]
          with_reducible refine (step_there HT.out HD.out f[k] HD2.out).mono ?_
          rintro e w2 ⟨rfl, rfl⟩
          go_wp2
          go_round
          case measure => simp [intOf]; omega
          case rel =>
            refine ⟨k + 1, by omega, by go_num, trivial, .inl ⟨by rw [take_next HC.out]; rfl, ?_⟩⟩
            rw [take_next HC.out]
            exact HD2
        · have hd' : ¬ preD g n ((wd f).take k ++ [f[k]]) := by rw [← take_next HC.out]; exact hd
          have HD2 := hid hd'
          clear hd hd'
          unfold ptrTo
          go_wp2_with fail
          rw [show (Value.pointer (some ⟨ad ((wd f).take k), 0, none⟩)) = ptrTo (ad ((wd f).take k)) by rfl]
          with_reducible refine (step_not HT.out HD.out f[k] HD2.out).mono ?_
          rintro e w2 ⟨rfl, rfl⟩
          go_wp2
          go_round
          case measure => simp [intOf]; omega
          case rel =>
            refine ⟨k + 1, by omega, by go_num, trivial, .inr ⟨rfl, ?_⟩⟩
            rw [take_next HC.out]
            exact HD2
      · obtain rfl : k = f.size := by omega
        have he : (wd f).take f.size = wd f := by rw [← wd_len]; exact List.take_length
        rw [he]
        rw [he] at HD
        have hlt : decide (f.size < f.size) = false := by simp
        have hlf : (wd f).length ≤ 20 := HG.out.len HD.out
        have HQ := hid (HG.out.fronts HT.out HD.out (21 - (wd f).length) (by omega))
        have hql := HQ.out.len
        clear he
        unfold ptrTo
        go_wp2_with fail
        rw [show (Value.pointer (some ⟨ad (wd f), 0, none⟩)) = ptrTo (ad (wd f)) by rfl]
        with_reducible refine (all_in HT.out (fun q hq => HG.out.len hq) (21 - (wd f).length) (wd f) HD.out (by omega) _ _ [] (Below.refl _ _) (OwnI.zero _ _) (by simp; omega)).mono ?_
        rintro e w2 ⟨v, rfl, ho, hb⟩
        obtain ⟨A2, c2, rfl, hrow⟩ := ho.irow
        have HRW := hid hrow
        have HB2 := hid hb
        clear ho hrow hb
        go_wp2
        go_ret2
        have hlen : ([] ++ (allQ (idxW g n) ch (21 - (wd f).length) (wd f)).map (idxW g n)).length = (allQ (idxW g n) ch (21 - (wd f).length) (wd f)).length := by simp
        refine ⟨_, A2, c2, HQ.out, by rw [← hlen]; rfl, ?_, bl_then HB.out HB2.out⟩
        have := HRW.out
        rw [hlen] at this
        refine this.congr fun i hi => ?_
        simp [hi]
    · have HQ := hid (FrontQ.none_ (g := g) (n := n) (f := wd f) (fun hd => HD.out (HT.out.pre hd (List.take_prefix _ _))))
      by_cases h : k < f.size
      · go_wp2
        go_ret2
        exact ⟨[], none, 0, HQ.out, rfl, IRow.none_ _ _ _, HB.out⟩
      · have hlt : decide (k < f.size) = false := decide_eq_false h
        go_wp2
        go_ret2
        exact ⟨[], none, 0, HQ.out, rfl, IRow.none_ _ _ _, HB.out⟩
end Go.Proofs.Ythfbilaklllelaa
