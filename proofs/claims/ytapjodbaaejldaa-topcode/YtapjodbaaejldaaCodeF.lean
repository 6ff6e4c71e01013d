
/-
The contracts of code.Front, code.sole and code.Sole.
-/
import Derived.Test.YtapjodbaaejldaaCodeU
import Derived.Test.YtapjodbaaejldaaSeg46
namespace Go.Proofs.Ytapjodbaaejldaa
open Go.RowKit

theorem AskPost.ok {P : List (List UInt8) → Prop} {W : List (List UInt8)} {w w' : World} {b : Bool} (h : Cm.cErr W = 0) (hb : b = true ↔ P W) (hbel : Below w.heap.size w w') : AskPost P W w (.returned (.tuple #[.bool b, .int .i64 0])) w' :=
  ⟨⟨b, by rw [h], fun _ => hb, fun h2 => absurd h h2⟩, hbel⟩
theorem AskPost.no {P : List (List UInt8) → Prop} {W : List (List UInt8)} {w w' : World} {E : Int} (h : Cm.cErr W ≠ 0) (e : E = Cm.cErr W) (hbel : Below w.heap.size w w') : AskPost P W w (.returned (.tuple #[.bool false, .int .i64 E])) w' :=
  ⟨⟨false, by rw [e], fun h2 => absurd h2 h, fun _ => rfl⟩, hbel⟩
set_option maxHeartbeats 1000000 in
theorem Front_all {A : Option Addr} {n c : Nat} {g : Nat → ByteArray} (w : World) (h : SRow w A n g) (hc : n ≤ c) :
    Calls Try.prog 77 #[.slice A n c] w (AskPost Cm.PF (cws g n) w) := by
  have H := hid h
  have hK := check_any w h hc
  have HP : Hid (Cm.PF (cws g n) ↔ ∀ j, j < n → Cm.bey (wd (g j)) (cws g n) = []) := by
    have := Cm.pf_bey (W := cws g n)
    rw [cws_len] at this
    refine this.trans ?_
    constructor
    · intro h j hj; have := h j hj; rwa [cws_get hj] at this
    · intro h j hj; rw [cws_get hj]; exact h j hj
  clear h
  go_enter Try.func77, Try.ntmps77
  by_cases hE : Cm.cErr (cws g n) = 0
  · have hg := Cm.cErr_zero.1 hE
    have hn : n ≤ 12 := by have := hg.few; rw [cws_len] at this; exact this
    have HE0 := hid hE
    rw [hE] at hK
    clear hg hE
    go_wp2_with fail
    with_reducible refine hK.mono ?_
    rintro e w1 ⟨rfl, rfl⟩
    clear hK
    go_wp2
    go_loopw [14] (fun y wr => ∃ i : Nat, i ≤ n ∧ y = .int .i64 (i : Int) ∧ Hid (∀ j, j < i → Cm.bey (wd (g j)) (cws g n) = []) ∧ Below w.heap.size w wr) (fun y _ => n - (intOf y).toNat)
    case atStart => exact ⟨0, by omega, rfl, fun j hj => by omega, Below.refl _ _⟩
    case round =>
      obtain ⟨i, hi, rfl, HI, hbel⟩ := hrel
      by_cases hlt : i < n
      · have hlt' : (i : Int) < (n : Int) := by omega
        have HRow := hid (H.out.keep hbel)
        obtain ⟨b, o, rfl, _, hcell⟩ := HRow.out i hlt
        go_wp2_with fail
        with_reducible refine (cbeyond_any _ HRow.out hn).mono ?_
        rintro e w2 ⟨v, rfl, hown, hb2⟩
        have hbel2 := bl_then hbel hb2
        obtain ⟨A2, c2, rfl, _, _⟩ := hown.srow
        clear hown hb2 hbel HRow hcell
        by_cases h0 : (Cm.bey (wd (g i)) (cws g n)).length = 0
        · rw [h0]
          have HN : Hid (∀ j, j < i + 1 → Cm.bey (wd (g j)) (cws g n) = []) := by
            intro j hj
            by_cases e : j = i
            · subst e; exact List.eq_nil_of_length_eq_zero h0
            · exact HI.out j (by omega)
          clear h0 HI
          go_wp2
          go_roundw
          case measure => simp [intOf]; omega
          case rel => exact ⟨i + 1, by omega, by go_num, HN, hbel2⟩
        · have HN : Hid (¬ Cm.PF (cws g n)) := by
            intro hp
            exact h0 (by rw [HP.out.1 hp i hlt]; rfl)
          obtain ⟨q, hq⟩ : ∃ q, q = (Cm.bey (wd (g i)) (cws g n)).length := ⟨_, rfl⟩
          rw [← hq] at h0 ⊢
          have hq0 : (0 : Int) < (q : Int) := by omega
          clear hq HI h0
          go_wp2
          go_ret2
          exact AskPost.ok HE0.out ⟨fun h => (by cases h), fun h => absurd h HN.out⟩ hbel2
      · have hdl : decide ((i : Int) < (n : Int)) = false := decide_eq_false (by omega)
        have HN : Hid (Cm.PF (cws g n)) := HP.out.2 fun j hj => HI.out j (by omega)
        go_wp2
        go_ret2
        exact AskPost.ok HE0.out ⟨fun _ => HN.out, fun _ => rfl⟩ hbel
  · have hE' : (Cm.cErr (cws g n) != 0) = true := bne_iff_ne.2 hE
    have HE := hid hE
    clear hE
    obtain ⟨E, hEE⟩ : ∃ E, E = Cm.cErr (cws g n) := ⟨_, rfl⟩
    have HEE := hid hEE
    rw [← hEE] at hK hE'
    clear hEE
    go_wp2_with fail
    with_reducible refine hK.mono ?_
    rintro e w1 ⟨rfl, rfl⟩
    clear hK
    go_wp2
    go_ret2
    exact AskPost.no HE.out HEE.out (Below.refl _ _)

theorem seeds_len {W L : List (List UInt8)} {j : Nat} (h : Cm.Seeds W L j) (hg : Cm.Good W) : L.length ≤ 156 := by
  have h1 := Sm.nodup_le (B := Cm.ends W) h.1 fun o ho => Cm.mem_ends.2 (by
    obtain ⟨_, a, _, v, h3, h4⟩ := (h.2 o).1 ho
    exact ⟨v, h3, _, h4.symm⟩)
  have h2 := Cm.ends_len hg.short
  have h3 := hg.few
  omega
theorem off_new {w1 w2 : World} {base : Nat} {v v2 : Value} {L M : List (List UInt8)} {A2 : Option Addr} {m c2 : Nat} (h1 : OwnL w1 base v L) (h2 : OwnL w2 w1.heap.size v2 M) (e : v2 = .slice A2 m c2) : Off v A2 m := by
  intro h0 a ha hk
  have h3 := (World.ownsRow.lt h1 _ hk).2
  have h4 := (World.ownsRow.lt h2 a.block (by rw [e, ha]; rfl)).1
  omega
end Go.Proofs.Ytapjodbaaejldaa
