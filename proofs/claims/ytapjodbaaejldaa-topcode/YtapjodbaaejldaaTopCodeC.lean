
/-
What TopCode wants of turn, front, tree, pack: what is written is read again.
-/
import Derived.Test.YtapjodbaaejldaaSeg38
import Derived.Test.YtapjodbaaejldaaKeep
import Derived.Test.YtapjodbaaejldaaTopWorks
import Derived.Test.YtapjodbaaejldaaFrHelp
import Derived.Test.YtapjodbaaejldaaTreeC
import Derived.Test.YtapjodbaaejldaaPackIdx
import Derived.Test.YtapjodbaaejldaaPackGet
namespace Go.Proofs.Ytapjodbaaejldaa
open Go.RowKit
/-- t and a are read as s again. -/
def TBack (s t : ByteArray) (a : Nat) : Prop := ∀ W : World, Calls Try.prog 41 #[.string t, .int .i64 (a : Int)] W fun e w' => e = .returned (.tuple #[.string s, .int .i64 0]) ∧ Below W.heap.size W w'
theorem isput_size {s t : ByteArray} {a : Nat} (h : Tm.IsPut (lst s) (lst t) a) : t.size = s.size := by
  rw [← lst_len, ← lst_len, h.len]
theorem tback_of {s t : ByteArray} {a : Nat} (hs : s.size ≤ 200) (h : Tm.IsPut (lst s) (lst t) a) : TBack s t a := by
  intro W
  have hz := isput_size h
  refine (Get_fit t a W (by omega) ?_).mono ?_
  · obtain ⟨σ, _, _, h3⟩ := h.all
    rw [lst_len] at h3
    rcases Nat.eq_zero_or_pos s.size with h0 | h0
    · have := h.zero (by rw [lst_len]; exact h0)
      omega
    · have := (h3 h0).1
      omega
  · rintro e w1 ⟨⟨hp, rfl⟩ | ⟨hp, rfl⟩, hb⟩
    · have : gtS t a = s := lst_inj (by rw [gtS_lst, h.back])
      rw [this]; exact ⟨rfl, hb⟩
    · exact absurd (by rw [h.back]; exact h) hp
theorem tc_put (s : ByteArray) (w : World) (hs : s.size ≤ 200) : Calls Try.prog 32 #[.string s] w fun e w' => ∃ (t : ByteArray) (a : Nat), e = .returned (.tuple #[.string t, .int .i64 (a : Int), .int .i64 0]) ∧ t.size = s.size ∧ TBack s t a ∧ Below w.heap.size w w' := by
  refine (Put_ok s w hs).mono ?_
  rintro e w' ⟨t, a, rfl, hp, hb⟩
  exact ⟨t, a, rfl, isput_size hp, tback_of hs hp, hb⟩
theorem tc_large (s : ByteArray) (w : World) (hs : 200 < s.size) : Calls Try.prog 32 #[.string s] w fun e w' => e = .returned (.tuple #[.string ByteArray.empty, .int .i64 0, .int .i64 2]) ∧ w = w' := Put_large s w hs
def FBack (t : ByteArray) (l : Nat → Int) : Prop := ∀ (B : Option Addr) (d : Nat) (W : World), IRow W B t.size l → Calls Try.prog 40 #[.slice B t.size d] W fun e w' => e = .returned (.tuple #[.string t, .int .i64 0]) ∧ Below W.heap.size W w'
theorem tc_front (t : ByteArray) (w : World) (ht : t.size ≤ 200) : Calls Try.prog 33 #[.string t] w fun e w' => ∃ (A : Option Addr) (c : Nat) (l : Nat → Int), e = .returned (.tuple #[.slice A t.size c, .int .i64 0]) ∧ IRow w' A t.size l ∧ FBack t l ∧ Below w.heap.size w w' := by
  refine (FPut_ok t w ht).mono ?_
  rintro e w' ⟨A, c, rfl, hr, hb⟩
  exact ⟨A, c, pg t, rfl, hr, fun B d W hW => FGet_put t W ht hW, hb⟩
/-- Words by which numbers below n are written and read again. -/
def PBack (B : Option Addr) (n d : Nat) (r : Nat → ByteArray) : Prop := ∀ (W : World) (C : Option Addr) (k e : Nat) (gm : Nat → Int), SRow W B n r → IRow W C k gm → (∀ j, j < k → 0 ≤ gm j ∧ gm j < (n : Int)) → k ≤ 200 →
  Calls Try.prog 37 #[.slice B n d, .slice C k e] W fun e W1 => ∃ bits : ByteArray, e = .returned (.tuple #[.string bits, .int .i64 0]) ∧ Below W.heap.size W W1 ∧
    ∀ W2 : World, SRow W2 B n r → Calls Try.prog 38 #[.slice B n d, .string bits] W2 fun e W3 => ∃ (D : Option Addr) (f : Nat), e = .returned (.tuple #[.slice D k f, .int .i64 0]) ∧ IRow W3 D k gm ∧ Below W2.heap.size W2 W3
theorem pback_of {B : Option Addr} {n d : Nat} {r : Nat → ByteArray} (hd : n ≤ d) (hG : Cm.Good (cws r n) ∧ Cm.PF (cws r n)) : PBack B n d r := by
  intro W C k e gm hr hi hin hk
  have hP0 : putE r n gm k = 0 := putE_zero.2 ⟨Cm.cErr_zero.2 hG.1, hk, hin⟩
  have hPT : putT r n gm k = tx r gm k := by unfold putT; rw [if_pos hP0]
  have hLe : (tx r gm k).length ≤ 12 * k := tx_le (good_few hG.1).2 hin
  refine (Put_any (c := d) (d := e) W hr hd hi).mono ?_
  rintro e1 W1 ⟨rfl, hb⟩
  rw [hP0, hPT]
  obtain ⟨s, hsd⟩ : ∃ s : ByteArray, s = ⟨(tx r gm k).toArray⟩ := ⟨_, rfl⟩
  have hsw : wd s = tx r gm k := by rw [hsd, wd_mk]
  have hsz2 : s.size ≤ 4096 := by rw [← wd_len, hsw]; omega
  refine ⟨s, by rw [hsd], hb, fun W2 h2 => ?_⟩
  refine (Get_any s W2 h2 hd).mono ?_
  rintro e2 W3 ⟨⟨A7, m7, c7, L, er, rfl, hc7, hl7, hr7, hget⟩, hb7⟩
  have hcE := Cm.cErr_zero.2 hG.1
  have hfin : er = 0 ∧ m7 = k ∧ ∀ j, j < m7 → ((L j : Nat) : Int) = gm j := by
    rcases hget with ⟨h1, _⟩ | ⟨_, h1, _⟩ | ⟨_, _, h1, _⟩ | ⟨_, _, _, _, _, h1⟩ | ⟨_, _, _, h1, h3, h4⟩
    · exact absurd hcE h1
    · exact absurd hG.2 h1
    · omega
    · exact absurd hsw.symm (h1 _ (txW_of hin))
    · have := idx_same (hG.2.ud hG.1.some_) hG.1.nodup (ga := fun k => ((L k : Nat) : Int)) (fun k hk => by have := h3 k hk; omega) hin (h4.trans hsw)
      exact ⟨h1, this⟩
  obtain ⟨rfl, rfl, hsame⟩ := hfin
  exact ⟨A7, c7, rfl, hr7.congr hsame, hb7⟩
theorem tc_make {A : Option Addr} {n c : Nat} {g : Nat → Int} (w : World) (h : IRow w A n g) (hc : n ≤ c) (hg : ∀ k, k < n → 1 ≤ g k ∧ g k ≤ 200) : Calls Try.prog 36 #[.slice A n c] w fun e w' =>
    (12 < n ∧ ∃ B m d, e = .returned (.tuple #[.slice B m d, .int .i64 2])  ∧ Below w.heap.size w w') ∨ (n ≤ 12 ∧ ∃ B d r, e = .returned (.tuple #[.slice B n d, .int .i64 0]) ∧ SRow w' B n r ∧ PBack B n d r ∧ Below w.heap.size w w') := by
  refine (TMake_any w h hc).mono ?_
  rintro e w3 ⟨⟨A3, m3, c3, rfl, hc3, hr3, z3, f3⟩, hb3⟩
  by_cases hn : 12 < n
  · refine .inl ⟨hn, A3, m3, c3, ?_, hb3⟩
    have : Hm.wErr g n = 2 := by unfold Hm.wErr; rw [if_pos hn]
    rw [this]
  · have hE : Hm.wErr g n = 0 := Hm.wErr_zero.2 ⟨by omega, fun k hk => by have := hg k hk; omega⟩
    obtain rfl : m3 = n := f3 hE
    refine .inr ⟨by omega, A3, c3, tmW g m3, by rw [hE], hr3, pback_of hc3 (tmW_good hE), hb3⟩
end Go.Proofs.Ytapjodbaaejldaa
