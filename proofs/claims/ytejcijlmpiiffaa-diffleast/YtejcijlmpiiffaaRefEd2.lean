
/-
The contracts of quillref.Done and PlaceOf at a good script.
-/
import Derived.Test.YtejcijlmpiiffaaRefEd
import Derived.Test.YtejcijlmpiiffaaApp
import Derived.Laws.Concat
namespace Go.Proofs.Ytejcijlmpiiffaa
open Go.RowKit

theorem el_getD {h : Nat → Es.Ev} {n k : Nat} (hk : k < n) : (el h n).getD k Es.none_ = h k := el_at hk
/-- A good script's edits as natural numbers. -/
theorem scr_nat {s : ByteArray} {h : Nat → Es.Ev} {n : Nat} {G : List Es.Sg} {q : List UInt8} (hs : Es.Scr (lst s) (el h n) G q) {k : Nat} (hk : k < n) : ∃ a d : Nat, (h k).a = (a : Int) ∧ (h k).d = (d : Int) ∧ a + d ≤ s.size ∧ (h k).s.size ≤ 40 := by
  have := Es.ch_at k hs.ch (by rw [el_len]; exact hk)
  rw [el_at hk, lst_len] at this
  obtain ⟨h1, _, h3, h4, h5⟩ := this
  obtain ⟨a, ha⟩ := Int.eq_ofNat_of_zero_le h1
  obtain ⟨d, hd⟩ := Int.eq_ofNat_of_zero_le h3
  exact ⟨a, d, ha, hd, by omega, h5⟩
theorem scr_small {s : ByteArray} {h : Nat → Es.Ev} {n : Nat} {G : List Es.Sg} {q : List UInt8} (hs : Es.Scr (lst s) (el h n) G q) : n ≤ 20 ∧ s.size ≤ 200 ∧ ∀ k, k < n → -1000000 ≤ ((h k).s.size : Int) - (h k).d ∧ ((h k).s.size : Int) - (h k).d ≤ 1000000 := by
  have h1 := hs.len
  rw [el_len] at h1
  have h2 := hs.few
  have h3 := hs.from_
  rw [lst_len] at h3
  refine ⟨by omega, h3, fun k hk => ?_⟩
  obtain ⟨a, d, e1, e2, e3, e4⟩ := scr_nat hs hk
  omega
set_option maxHeartbeats 2000000 in
theorem Done_ok {A : Option Addr} {n c : Nat} {h : Nat → Es.Ev} (s : ByteArray) {G : List Es.Sg} {q : List UInt8} (w : World) (hr : EvRow w A n h) (hs : Es.Scr (lst s) (el h n) G q) :
    Calls Try.prog 13 #[.string s, .slice A n c] w fun e w' => e = .returned (.string (mkS (Es.dst G q))) ∧ Below w.heap.size w w' := by
  obtain ⟨hn20, hs200, _⟩ := scr_small hs
  have hlen := hs.len
  rw [el_len] at hlen
  have H := hid hr
  have HS := hid hs
  have HLEN := hid hlen
  have HT0 : Hid (mkS (Es.doneL (lst s) ((el h n).drop n)) = s) := by
    show _ = _
    rw [el_end]; exact mk_lst s
  clear hr hs hlen
  go_enter Try.func13, Try.ntmps13
  go_wp2
  go_loopw [0, 5] (fun v x wr => ∃ j : Nat, ∃ z : Int, z + 1 = (j : Int) ∧ j ≤ n ∧ x = .int .i64 z ∧ v = .string (mkS (Es.doneL (lst s) ((el h n).drop j))) ∧ Hid (Below w.heap.size w wr)) (fun _ x _ => (intOf x + 1).toNat)
  case atStart => exact ⟨n, _, by omega, by omega, rfl, by rw [HT0.out], Below.refl _ _⟩
  case round =>
    clear HT0
    obtain ⟨j1, z, hz, hj1, rfl, rfl, HB⟩ := hrel
    by_cases hz0 : 0 ≤ z
    · obtain ⟨j, rfl⟩ : ∃ j : Nat, z = (j : Int) := ⟨z.toNat, by omega⟩
      obtain rfl : j1 = j + 1 := by omega
      have hjn : j < n := by omega
      have hjn' : (j : Int) < (n : Int) := by omega
      clear hz hz0
      obtain ⟨b, o, rfl, hlt, c0, c1, c2⟩ := (H.out.keep HB.out) j hjn
      obtain ⟨hda, hdb⟩ := HS.out.done_at (j := j + 1) (by have := HLEN.out; omega)
      have hdb := hdb (by omega)
      rw [Nat.add_sub_cancel, el_at hjn] at hdb
      obtain ⟨a, d, e1, e2, e3, e4⟩ := scr_nat HS.out hjn
      obtain ⟨x, hx⟩ : ∃ x, x = h j := ⟨_, rfl⟩
      rw [← hx] at c0 c1 c2 hdb e1 e2 e4
      obtain ⟨T, hT⟩ : ∃ T, T = mkS (Es.doneL (lst s) ((el h n).drop (j + 1))) := ⟨_, rfl⟩
      have hTz : T.size = (Es.doneL (lst s) ((el h n).drop (j + 1))).length := by rw [hT, mk_size]
      rw [← hTz, e1, e2] at hdb
      rw [← hTz] at hda
      have hstep : Hid (T.extract 0 a ++ x.s ++ T.extract (a + d) T.size = mkS (Es.doneL (lst s) ((el h n).drop j))) := by
        show _ = _
        rw [el_drop hjn, ← hx]
        simp only [Es.doneL]
        rw [e1, e2, show ((a : Int) + (d : Int)).toNat = a + d by omega, Int.toNat_natCast]
        have hl : lst T = Es.doneL (lst s) ((el h n).drop (j + 1)) := by rw [hT, lst_mk]
        rw [← hl]
        apply lst_inj_
        rw [lst_mk, lst_cat, lst_cat, lst_drop, lst_mid, List.drop_zero, Nat.sub_zero]
      rw [← hT]
      obtain ⟨ad, had⟩ : ∃ ad, ad = a + d := ⟨_, rfl⟩
      have hadE : (a : Int) + (d : Int) = (ad : Int) := by omega
      have hadw : IntKind.i64.wrap (ad : Int) = (ad : Int) := IntWalk.i64_in _ (by omega)
      have ha0 : (0 : Int) ≤ (a : Int) := by omega
      have had0 : (0 : Int) ≤ (ad : Int) := by omega
      have haT : (a : Int) ≤ (T.size : Int) := by omega
      have hadT : (ad : Int) ≤ (T.size : Int) := by omega
      rw [← had] at hstep
      have hadd1 := fun W : World => run_string_add_sum (P := Try.prog) W (T.extract 0 a) x.s (by rw [size_ext]; omega)
      have hadd2 := fun W : World => run_string_add_sum (P := Try.prog) W (T.extract 0 a ++ x.s) (T.extract ad T.size) (by rw [size_app, size_ext, size_ext]; omega)
      obtain ⟨hca0, hca1, hca2⟩ := ev_new wr x 33
      rw [e1] at c0
      rw [e2] at c1
      have HB2 := hid (HB.out.alloc HB.out.size (.cells #[.int .i64 x.a, .int .i64 x.d, .string x.s] 33))
      simp only [e1, e2] at hca0 hca1 hca2 HB2
      clear HB hx hT hTz e1 e2 had
      go_wp2
      go_quiet (fail)
      clear hadd1 hadd2
      go_wp2
      go_roundw
      case rel => exact ⟨j, _, by omega, by omega, rfl, by rw [hstep.out], bl_drewN HB2.out _⟩
      case measure => simp [intOf]
    · obtain rfl : z = -1 := by omega
      obtain rfl : 0 = j1 := by omega
      have HE : Hid (mkS (Es.doneL (lst s) ((el h n).drop 0)) = mkS (Es.dst G q)) := by
        show _ = _
        rw [List.drop_zero, HS.out.done]
      rw [HE.out]
      go_wp2
      go_ret
      exact ⟨rfl, HB.out⟩
/-- What PlaceOf answers. -/
def PlcPost (w : World) (v : Int × Bool) (e : Ending) (w' : World) : Prop := e = .returned (.tuple #[.int .i64 v.1, .bool v.2]) ∧ Below w.heap.size w w'
end Go.Proofs.Ytejcijlmpiiffaa
