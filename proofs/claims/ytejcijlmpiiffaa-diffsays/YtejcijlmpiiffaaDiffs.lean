
/-
quillkeep.diffs: the document's own example; what a script takes and puts, edit by edit; and small facts that the laws on package diff share.
-/
import Derived.Test.YtejcijlmpiiffaaDifPub
import Derived.Test.YtejcijlmpiiffaaEEqual
import Derived.Test.YtejcijlmpiiffaaKeep
import Derived.Test.YtejcijlmpiiffaaRefEd2
namespace Go.Proofs.Ytejcijlmpiiffaa
open Go.RowKit

theorem gd_tot : ∀ {f : Bool} {G : List Es.Sg} (k : Nat), Es.Gd f G → (G.length : Int) ≤ Df.tot (Es.evs k G)
  | _, [], _, _ => by simp [Es.evs, Df.tot]
  | _, g :: G, k, h => by
    have ih := gd_tot (k + g.p.length + g.d.length) h.2.2.2
    have h2 := h.2.2.1
    simp only [Es.evs, Df.tot, mk_size, List.length_cons]
    omega
theorem scr_few {s : List UInt8} {L : List Es.Ev} {G : List Es.Sg} {q : List UInt8} (h : Es.Scr s L G q) : (L.length : Int) ≤ Df.tot L := by
  have := gd_tot 0 h.good
  rw [h.evs_] at this
  rw [h.len]
  exact this
theorem tot_el (h : Nat → Es.Ev) (k : Nat) : Df.tot (el h (k + 1)) = Df.tot (el h k) + ((h k).d + ((h k).s.size : Int)) := by
  rw [el_succ, Df.tot_app]
  simp only [Df.tot]
  omega
theorem tot_small {h : Nat → Es.Ev} {n : Nat} (hb : ∀ j, j < n → 0 ≤ (h j).d ∧ (h j).d ≤ 1000 ∧ (h j).s.size ≤ 1000) : ∀ k, k ≤ n → 0 ≤ Df.tot (el h k) ∧ Df.tot (el h k) ≤ 2000 * (k : Int)
  | 0, _ => by simp [el, Df.tot]
  | k + 1, hk => by
    have ih := tot_small hb k (by omega)
    have := hb k (by omega)
    rw [tot_el]
    omega
theorem scr_tots {s : ByteArray} {h : Nat → Es.Ev} {n : Nat} {G : List Es.Sg} {q : List UInt8} (hs : Es.Scr (lst s) (el h n) G q) : ∀ j, j < n → 0 ≤ (h j).d ∧ (h j).d ≤ 1000 ∧ (h j).s.size ≤ 1000 := by
  intro j hj
  have := (scr_small hs).2.1
  obtain ⟨a, d, _, e2, e3, e4⟩ := scr_nat hs hj
  omega
def s_ab : ByteArray := ⟨#[97, 98]⟩
def s_b : ByteArray := ⟨#[98]⟩
theorem only_ab {L : List Es.Ev} {G : List Es.Sg} {q : List UInt8} (h : Es.Scr (lst s_ab) L G q) (hd : Es.dst G q = lst s_b) (ht : Df.tot L = 1) : L = [⟨0, 1, ⟨#[]⟩⟩] := by
  have hl := scr_few h
  rw [ht] at hl
  have hdone := h.done
  rw [hd] at hdone
  match L, hl with
  | [], _ => exact absurd hdone (by decide)
  | [x], _ =>
    have hc := Es.ch_at 0 h.ch (by simp)
    have e0 : [x].getD 0 Es.none_ = x := rfl
    rw [e0] at hc
    obtain ⟨h1, _, h3, h4, _⟩ := hc
    obtain ⟨a, ha⟩ := Int.eq_ofNat_of_zero_le h1
    obtain ⟨d, hd2⟩ := Int.eq_ofNat_of_zero_le h3
    have e2 : (lst s_ab).length = 2 := rfl
    rw [e2] at h4
    simp only [Df.tot] at ht
    simp only [Es.doneL] at hdone
    rw [ha, hd2, Int.toNat_natCast, show ((a : Int) + (d : Int)).toNat = a + d by omega] at hdone
    have hz := congrArg List.length hdone
    rw [List.length_append, List.length_append, List.length_take, List.length_drop, e2, lst_len, show (lst s_b).length = 1 from rfl] at hz
    have hs0 : x.s.size = 0 := by omega
    have hd1 : d = 1 := by omega
    subst hd1
    have hx0 : lst x.s = [] := List.eq_nil_of_length_eq_zero (by rw [lst_len]; exact hs0)
    have ha0 : a = 0 := by
      have : a = 0 ∨ a = 1 := by omega
      rcases this with h | h
      · exact h
      · rw [h, hx0] at hdone
        exact absurd hdone (by decide)
    subst ha0
    congr 1
    exact Es.Ev.eq ha hd2 (lst_inj_ (by rw [hx0]; rfl))
  | _ :: _ :: _, hl => simp only [List.length_cons] at hl; omega
theorem ex_cost : Df.df (lst ⟨#[97, 98, 99, 97, 98, 98, 97]⟩) (lst ⟨#[99, 98, 97, 98, 97, 99]⟩) = 5 := by decide +kernel
theorem ex_ab : Df.df (lst s_ab) (lst s_b) = 1 := by decide +kernel
theorem diffs_ok (w : World) : Calls Try.prog 14 #[] w fun e w' => e = .returned (.bool true) ∧ Below w.heap.size w w' := by
  have hC := fun W => Cost_any ⟨#[97, 98, 99, 97, 98, 98, 97]⟩ ⟨#[99, 98, 97, 98, 97, 99]⟩ W
  rw [fv_ok (by decide) (by decide), fe_ok (by decide) (by decide), ex_cost] at hC
  have HC := hid hC
  clear hC
  go_enter Try.func14, Try.ntmps14
  go_wp2_with fail
  with_reducible refine (HC.out _).mono ?_
  rintro e w1 ⟨rfl, hb1⟩
  go_wp2_with fail
  with_reducible refine (Make_any ⟨#[97, 98]⟩ ⟨#[98]⟩ _).mono ?_
  rintro e w2 ⟨A, c, L, x, rfl, hLc, hm, hr, hb2⟩
  have hL : L = [⟨0, 1, ⟨#[]⟩⟩] ∧ x = 0 := by
    rcases hm with ⟨h, _⟩ | ⟨_, h, _⟩ | ⟨_, _, h, G, q, hs, hdst, ht⟩
    · exact absurd ⟨by decide, by decide⟩ h
    · rw [show Df.df (lst ⟨#[97, 98]⟩) (lst ⟨#[98]⟩) = 1 from ex_ab] at h
      exact absurd h (by decide)
    · rw [show Df.df (lst ⟨#[97, 98]⟩) (lst ⟨#[98]⟩) = 1 from ex_ab] at ht
      exact ⟨only_ab hs hdst ht, h⟩
  obtain ⟨rfl, rfl⟩ := hL
  have HB := hid (bl_then hb1 hb2)
  have HR := hid hr
  clear hb1 hb2 hr hm HC
  go_wp2_with fail
  with_reducible refine (good_ok _ 2 2 _ (by decide) (two_zeros _ _)).mono ?_
  rintro e w3 ⟨rfl, rfl⟩
  have HB := hid (HB.out.alloc HB.out.size (.cells #[.int .i64 0, .int .i64 0] 23))
  have HR2 : Hid (EvRow (w2.alloc (.cells #[.int .i64 0, .int .i64 0] 23)) A 1 (fun k => [(⟨0, 1, ⟨#[]⟩⟩ : Es.Ev)].getD k Es.none_)) := HR.out.keep (bl_new _ _)
  generalize w2.alloc (.cells #[.int .i64 0, .int .i64 0] 23) = w3 at *
  have HX : Hid (EvRow (w3.alloc (.cells #[.int .i64 0, .int .i64 1, .string ⟨#[]⟩] 33)) (some ⟨w3.heap.size, 0, none⟩) 1 (fun _ => ⟨0, 1, ⟨#[]⟩⟩)) := EvRow.one w3 ⟨0, 1, ⟨#[]⟩⟩ _ _ rfl
  have HR3 : Hid (EvRow (w3.alloc (.cells #[.int .i64 0, .int .i64 1, .string ⟨#[]⟩] 33)) A 1 (fun k => [(⟨0, 1, ⟨#[]⟩⟩ : Es.Ev)].getD k Es.none_)) := HR2.out.keep (bl_new _ _)
  have HEQ : Hid (eqE 1 1 (fun k => [(⟨0, 1, ⟨#[]⟩⟩ : Es.Ev)].getD k Es.none_) (fun _ => ⟨0, 1, ⟨#[]⟩⟩) = true) := eqE_true.2 ⟨rfl, fun k hk => by
    obtain rfl : k = 0 := by omega
    rfl⟩
  have HB4 := hid (HB.out.alloc HB.out.size (.cells #[.int .i64 0, .int .i64 1, .string ⟨#[]⟩] 33))
  go_wp2_with fail
  with_reducible refine (eequal_any HR3.out HX.out (by decide) (by decide)).mono ?_
  rintro e w5 ⟨he, hd⟩
  rw [HEQ.out] at he
  subst he
  have HB5 := hid (HB4.out.trans (hd.below _))
  clear hd
  go_wp2
  go_ret
  exact ⟨rfl, HB5.out⟩
end Go.Proofs.Ytejcijlmpiiffaa
