/-
Several texts of this proof, one behind the other.
-/
import Derived.Test.YtapjodbaaejldaaCodeU
import Derived.Test.YtapjodbaaejldaaSeg38
import Derived.Test.YtapjodbaaejldaaCodeS
import Derived.Test.YtapjodbaaejldaaSeg7
import Derived.Test.YtapjodbaaejldaaSeg6
import Derived.Test.YtapjodbaaejldaaSeg49
import Derived.Test.YtapjodbaaejldaaConcatI

/-
The contracts of code.Front, code.sole and code.Sole.
-/
namespace Go.Proofs.Ytapjodbaaejldaa
open Go.RowKit

theorem AskPost.ok {P : List (List UInt8) → Prop} {W : List (List UInt8)} {w w' : World} {b : Bool} (h : Cm.cErr W = 0) (hb : b = true ↔ P W) (hbel : Below w.heap.size w w') : AskPost P W w (.returned (.tuple #[.bool b, .int .i64 0])) w' :=
  ⟨⟨b, by rw [h], fun _ => hb, fun h2 => absurd h h2⟩, hbel⟩
theorem AskPost.no {P : List (List UInt8) → Prop} {W : List (List UInt8)} {w w' : World} {E : Int} (h : Cm.cErr W ≠ 0) (e : E = Cm.cErr W) (hbel : Below w.heap.size w w') : AskPost P W w (.returned (.tuple #[.bool false, .int .i64 E])) w' :=
  ⟨⟨false, by rw [e], fun h2 => absurd h2 h, fun _ => rfl⟩, hbel⟩
set_option maxHeartbeats 1000000 in
theorem Front_all {A : Option Addr} {n c : Nat} {g : Nat → ByteArray} (w : World) (h : SRow w A n g) (hc : n ≤ c) :
    Calls Try.prog 77 #[.slice A n c] w (AskPost Cm.PF (cws g n) w) := by
  have H := hid h
  have hK := check_any w h hc
  have HP : Hid (Cm.PF (cws g n) ↔ ∀ j, j < n → Cm.bey (wd (g j)) (cws g n) = []) := by
    have := Cm.pf_bey (W := cws g n)
    rw [cws_len] at this
    refine this.trans ?_
    constructor
    · intro h j hj; have := h j hj; rwa [cws_get hj] at this
    · intro h j hj; rw [cws_get hj]; exact h j hj
  clear h
  go_enter Try.func77, Try.ntmps77
  by_cases hE : Cm.cErr (cws g n) = 0
  · have hg := Cm.cErr_zero.1 hE
    have hn : n ≤ 12 := by have := hg.few; rw [cws_len] at this; exact this
    have HE0 := hid hE
    rw [hE] at hK
    clear hg hE
    go_wp2_with fail
    with_reducible refine hK.mono ?_
    rintro e w1 ⟨rfl, rfl⟩
    clear hK
    go_wp2
    go_loopw [14] (fun y wr => ∃ i : Nat, i ≤ n ∧ y = .int .i64 (i : Int) ∧ Hid (∀ j, j < i → Cm.bey (wd (g j)) (cws g n) = []) ∧ Below w.heap.size w wr) (fun y _ => n - (intOf y).toNat)
    case atStart => exact ⟨0, by omega, rfl, fun j hj => by omega, Below.refl _ _⟩
    case round =>
      obtain ⟨i, hi, rfl, HI, hbel⟩ := hrel
      by_cases hlt : i < n
      · have hlt' : (i : Int) < (n : Int) := by omega
        have HRow := hid (H.out.keep hbel)
        obtain ⟨b, o, rfl, _, hcell⟩ := HRow.out i hlt
        go_wp2_with fail
        with_reducible refine (cbeyond_any _ HRow.out hn).mono ?_
        rintro e w2 ⟨v, rfl, hown, hb2⟩
        have hbel2 := bl_then hbel hb2
        obtain ⟨A2, c2, rfl, _, _⟩ := hown.srow
        clear hown hb2 hbel HRow hcell
        by_cases h0 : (Cm.bey (wd (g i)) (cws g n)).length = 0
        · rw [h0]
          have HN : Hid (∀ j, j < i + 1 → Cm.bey (wd (g j)) (cws g n) = []) := by
            intro j hj
            by_cases e : j = i
            · subst e; exact List.eq_nil_of_length_eq_zero h0
            · exact HI.out j (by omega)
          clear h0 HI
          go_wp2
          go_roundw
          case measure => simp [intOf]; omega
          case rel => exact ⟨i + 1, by omega, by go_num, HN, hbel2⟩
        · have HN : Hid (¬ Cm.PF (cws g n)) := by
            intro hp
            exact h0 (by rw [HP.out.1 hp i hlt]; rfl)
          obtain ⟨q, hq⟩ : ∃ q, q = (Cm.bey (wd (g i)) (cws g n)).length := ⟨_, rfl⟩
          rw [← hq] at h0 ⊢
          have hq0 : (0 : Int) < (q : Int) := by omega
          clear hq HI h0
          go_wp2
          go_ret2
          exact AskPost.ok HE0.out ⟨fun h => (by cases h), fun h => absurd h HN.out⟩ hbel2
      · have hdl : decide ((i : Int) < (n : Int)) = false := decide_eq_false (by omega)
        have HN : Hid (Cm.PF (cws g n)) := HP.out.2 fun j hj => HI.out j (by omega)
        go_wp2
        go_ret2
        exact AskPost.ok HE0.out ⟨fun _ => HN.out, fun _ => rfl⟩ hbel
  · have hE' : (Cm.cErr (cws g n) != 0) = true := bne_iff_ne.2 hE
    have HE := hid hE
    clear hE
    obtain ⟨E, hEE⟩ : ∃ E, E = Cm.cErr (cws g n) := ⟨_, rfl⟩
    have HEE := hid hEE
    rw [← hEE] at hK hE'
    clear hEE
    go_wp2_with fail
    with_reducible refine hK.mono ?_
    rintro e w1 ⟨rfl, rfl⟩
    clear hK
    go_wp2
    go_ret2
    exact AskPost.no HE.out HEE.out (Below.refl _ _)

theorem seeds_len {W L : List (List UInt8)} {j : Nat} (h : Cm.Seeds W L j) (hg : Cm.Good W) : L.length ≤ 156 := by
  have h1 := Sm.nodup_le (B := Cm.ends W) h.1 fun o ho => Cm.mem_ends.2 (by
    obtain ⟨_, a, _, v, h3, h4⟩ := (h.2 o).1 ho
    exact ⟨v, h3, _, h4.symm⟩)
  have h2 := Cm.ends_len hg.short
  have h3 := hg.few
  omega
theorem off_new {w1 w2 : World} {base : Nat} {v v2 : Value} {L M : List (List UInt8)} {A2 : Option Addr} {m c2 : Nat} (h1 : OwnL w1 base v L) (h2 : OwnL w2 w1.heap.size v2 M) (e : v2 = .slice A2 m c2) : Off v A2 m := by
  intro h0 a ha hk
  have h3 := (World.ownsRow.lt h1 _ hk).2
  have h4 := (World.ownsRow.lt h2 a.block (by rw [e, ha]; rfl)).1
  omega
end Go.Proofs.Ytapjodbaaejldaa


/-
The contracts of package code's public functions.
-/
namespace Go.Proofs.Ytapjodbaaejldaa
open Go.RowKit
theorem CCheck_any {A : Option Addr} {n c : Nat} {g : Nat → ByteArray} (w : World) (h : SRow w A n g) (hc : n ≤ c) (_ : n ≤ maxLen) :
    Calls Try.prog 76 #[.slice A n c] w fun e w' => e = .returned (.int .i64 (Cm.cErr (cws g n))) ∧ Below w.heap.size w w' := by
  refine (check_any w h hc).mono ?_
  rintro e w1 ⟨rfl, rfl⟩
  exact ⟨rfl, Below.refl _ _⟩
theorem Front_any {A : Option Addr} {n c : Nat} {g : Nat → ByteArray} (w : World) (h : SRow w A n g) (hc : n ≤ c) (_ : n ≤ maxLen) :
    Calls Try.prog 77 #[.slice A n c] w (AskPost Cm.PF (cws g n) w) := Front_all w h hc
theorem Sum_any {A : Option Addr} {n c : Nat} {g : Nat → Int} (w : World) (h : IRow w A n g) (_ : n ≤ c) (_ : n ≤ maxLen) :
    Calls Try.prog 110 #[.slice A n c] w fun e w' => e = .returned (.tuple #[.int .i64 (lSum g n), .int .i64 (Cm.lErr g n)]) ∧ Below w.heap.size w w' := by
  refine (sum_any w h).mono ?_
  rintro e w1 ⟨rfl, rfl⟩
  exact ⟨rfl, Below.refl _ _⟩
theorem Make_any {A : Option Addr} {n c : Nat} {g : Nat → Int} (w : World) (h : IRow w A n g) (_ : n ≤ c) (_ : n ≤ maxLen) :
    Calls Try.prog 75 #[.slice A n c] w (MakePost g n w) := make_any w h
end Go.Proofs.Ytapjodbaaejldaa


/-
The contracts of quillkeep.codes and quillkeep.lensOf.
-/
namespace Go.Proofs.Ytapjodbaaejldaa
open Go.RowKit

theorem zeros3 (w : World) (t : TypeId) : ∀ k, k < 3 → (w.alloc (.cells #[.int .i64 0, .int .i64 0, .int .i64 0] t)).cell? ⟨w.heap.size, k, none⟩ = some (.int .i64 0) := by
  intro k hk
  match k, hk with
  | 0, _ => simp
  | 1, _ => simp
  | 2, _ => simp
end Go.Proofs.Ytapjodbaaejldaa


/-
The walk of quillkeep.CodeMade: it returns true for every list of numbers.
-/
namespace Go.Proofs.Ytapjodbaaejldaa
open Go.RowKit

def lens3 : List Int := [2, 1, 2]
def words3 : List ByteArray := [⟨#[49, 48]⟩, ⟨#[48]⟩, ⟨#[49, 49]⟩]
def lensG (k : Nat) : Int := lens3.getD k 0
theorem made3 : rowL (fun j => mkS (Cm.cw (Cm.ln lensG) 3 j)) 3 = rowL (fun k => words3.getD k ByteArray.empty) 3 := by decide +kernel
theorem mErr3 : mErr lensG 3 = 0 := by decide +kernel
/-- The words that are made are a good code, and none begins another one. -/
theorem made_good {g : Nat → Int} {n : Nat} (h12 : n ≤ 12) (hg : ∀ j, j < n → 1 ≤ g j ∧ g j ≤ 12) (ht : Cm.tot (Cm.ln g) n ≤ 4096) :
    Cm.Good (cws (fun j => mkS (Cm.cw (Cm.ln g) n j)) n) ∧ Cm.PF (cws (fun j => mkS (Cm.cw (Cm.ln g) n j)) n) := by
  have hl : ∀ j, j < n → Cm.ln g j ≤ 12 := fun j hj => by have := hg j hj; unfold Cm.ln; omega
  have hl1 : ∀ j, j < n → 1 ≤ Cm.ln g j := fun j hj => by have := hg j hj; unfold Cm.ln; omega
  have hw : ∀ j, wd (mkS (Cm.cw (Cm.ln g) n j)) = Cm.cw (Cm.ln g) n j := fun j => lst_mk _
  have hlen : ∀ j, (Cm.cw (Cm.ln g) n j).length = Cm.ln g j := fun j => by unfold Cm.cw; rw [Cm.bits_len]
  have hmem : ∀ x, x ∈ cws (fun j => mkS (Cm.cw (Cm.ln g) n j)) n → ∃ j, j < n ∧ x = Cm.cw (Cm.ln g) n j := by
    intro x hx
    obtain ⟨j, hj, e⟩ := mem_cws.1 hx
    exact ⟨j, hj, by rw [← e, hw]⟩
  refine ⟨⟨by rw [cws_len]; exact h12, ?_, ?_, ?_, ?_⟩, ?_⟩
  · unfold cws
    refine Cm.nodup_map' List.nodup_range fun a ha b hb e => ?_
    rw [hw, hw] at e
    by_cases hab : a = b
    · exact hab
    · exact absurd (by rw [e]; exact List.prefix_refl _) (Cm.cw_apart (List.mem_range.1 ha) (List.mem_range.1 hb) hl ht hab)
  · intro x hx e
    obtain ⟨j, hj, rfl⟩ := hmem x hx
    have := hlen j
    rw [e, List.length_nil] at this
    have := hl1 j hj
    omega
  · intro x hx
    obtain ⟨j, hj, rfl⟩ := hmem x hx
    rw [hlen]; exact hl j hj
  · intro x hx
    obtain ⟨j, hj, rfl⟩ := hmem x hx
    exact Cm.bits_are _ _
  · intro x hx y hy hp
    obtain ⟨a, ha, rfl⟩ := hmem x hx
    obtain ⟨b, hb, rfl⟩ := hmem y hy
    by_cases hab : a = b
    · rw [hab]
    · exact absurd hp (Cm.cw_apart ha hb hl ht hab)
end Go.Proofs.Ytapjodbaaejldaa


/-
Numbers that name words of a code that is read in one way only: their text tells them; the words that package tree makes.
-/
namespace Go.Proofs.Ytapjodbaaejldaa
open Go.RowKit

theorem idx_same {g : Nat → ByteArray} {n : Nat} (hu : Cm.UD (cws g n)) (hn : (cws g n).Nodup) {ga gb : Nat → Int} {a b : Nat} (ha : ∀ k, k < a → 0 ≤ ga k ∧ ga k < (n : Int)) (hb : ∀ k, k < b → 0 ≤ gb k ∧ gb k < (n : Int)) (he : tx g ga a = tx g gb b) : a = b ∧ ∀ k, k < a → ga k = gb k := by
  have h1 := hu _ _ (txW_of ha) (txW_of hb) he
  have hab : a = b := by
    have := congrArg List.length h1
    unfold txW at this
    simpa using this
  subst hab
  refine ⟨rfl, fun k hk => ?_⟩
  have h2 : wd (g (ga k).toNat) = wd (g (gb k).toNat) := by
    have := congrArg (fun l => l.getD k []) h1
    unfold txW at this
    simp only [List.getD_eq_getElem?_getD, List.getElem?_map, List.getElem?_range hk, Option.map_some, Option.getD_some] at this
    exact this
  obtain ⟨p1, p2⟩ := ha k hk
  obtain ⟨q1, q2⟩ := hb k hk
  have p3 : (ga k).toNat < n := by omega
  have q3 : (gb k).toNat < n := by omega
  have h3 : (cws g n)[(ga k).toNat]'(by rw [cws_len]; exact p3) = (cws g n)[(gb k).toNat]'(by rw [cws_len]; exact q3) := by
    unfold cws
    simp only [List.getElem_map, List.getElem_range]
    exact h2
  have h5 := List.pairwise_iff_getElem.1 (List.nodup_iff_pairwise_ne.1 hn)
  rcases Nat.lt_trichotomy (ga k).toNat (gb k).toNat with h | h | h
  · exact absurd h3 (h5 _ _ _ _ h)
  · omega
  · exact absurd h3.symm (h5 _ _ _ _ h)
/-- The words of tree.Make. -/
def tmW (g : Nat → Int) (n j : Nat) : ByteArray := mkS (Cm.cw (lensF g n) n j)
theorem tmW_good {g : Nat → Int} {n : Nat} (h : Hm.wErr g n = 0) : Cm.Good (cws (tmW g n) n) ∧ Cm.PF (cws (tmW g n) n) := by
  have h1 := lErr_zero.1 (lens_err h)
  have h2 := made_good h1.1 h1.2 (by rw [lens_ln]; exact (lensF_opt h).fit)
  rw [lens_ln] at h2
  exact h2
theorem tmW_size (g : Nat → Int) (n j : Nat) : (tmW g n j).size = lensF g n j := by
  unfold tmW
  rw [mk_size]
  unfold Cm.cw
  rw [Cm.bits_len]
/-- The numbers from 0 to n - 1 that numbers are turned into. -/
def wi (gm : Nat → Int) (n k : Nat) : Int := gm k % (n : Int)
theorem wi_in (gm : Nat → Int) {n : Nat} (h : 0 < n) (k : Nat) : 0 ≤ wi gm n k ∧ wi gm n k < (n : Int) := ⟨Int.emod_nonneg _ (by omega), Int.emod_lt_of_pos _ (by omega)⟩
theorem rowN'_succ (g : Nat → Int) (m : Nat) : rowN' g (m + 1) = rowN' g m ++ [g m] := by unfold rowN'; rw [List.range_succ, List.map_append]; rfl
theorem OwnI.irow2 {w : World} {base : Nat} {v : Value} {g : Nat → Int} {m : Nat} (h : OwnI w base v (rowN' g m)) : ∃ A c, v = .slice A m c ∧ m ≤ c ∧ IRow w A m g := by
  obtain ⟨A, c, e, hc⟩ := h.cap
  obtain ⟨A', c', e', hr⟩ := h.irow
  rw [e] at e'
  injection e' with e1 e2 e3
  subst e1; subst e3
  rw [rowN'_len] at e hc hr
  exact ⟨A, c, e, hc, hr.congr fun k hk => rowN'_get hk⟩
end Go.Proofs.Ytapjodbaaejldaa

