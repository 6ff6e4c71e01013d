
/-
quilllaw.DistSays: whatever two words, a list of words and a number: it answers true.
-/
import Derived.Test.YtppaicpjbcjgmaaDists
import Derived.Test.YtppaicpjbcjgmaaRefFar
import Derived.Test.YtppaicpjbcjgmaaAlike
import Derived.Test.YtppaicpjbcjgmaaLong
import Derived.Test.YtppaicpjbcjgmaaOpenSS
import Derived.Test.YtppaicpjbcjgmaaNearAny
import Derived.Deep.Cut
import Derived.Deep.CutRange
namespace Go.Proofs.Ytppaicpjbcjgmaa
open Go.RowKit

theorem longRow_ok {A : Option Addr} {n c : Nat} {g : Nat → ByteArray} (w : World) (h : SRow w A n g) (hn : n ≤ 200) (hg : ∀ k, k < n → (g k).size ≤ 200) :
    Calls Try.prog 13 #[.slice A n c] w fun e w' => e = .returned (.int .i64 0) ∧ w = w' := by
  have H := hid h
  have HG := hid hg
  clear h hg
  go_enter Try.func13, Try.ntmps13
  go_wp2
  go_loop [7] (fun i => ∃ k : Nat, k ≤ n ∧ i = .int .i64 k) (fun i => n - (intOf i).toNat)
  case atStart => exact ⟨0, by omega, rfl⟩
  case round =>
    obtain ⟨k, hk, rfl⟩ := hrel
    by_cases hkn : k < n
    · obtain ⟨b, o, rfl, hlt, hc⟩ := H.out k hkn
      have hkn' : (k : Int) < (n : Int) := by omega
      have hgk := HG.out k hkn
      go_wp2
      go_round
      case rel => exact ⟨k + 1, by omega, by go_num⟩
      case measure => simp [intOf]; omega
    · obtain rfl : k = n := by omega
      go_wp2
      go_ret
      exact ⟨rfl, rfl⟩
theorem longRow_large {A : Option Addr} {n c : Nat} {g : Nat → ByteArray} (w : World) (h : SRow w A n g) (hn : n ≤ 200) (hb : ∃ k, k < n ∧ 200 < (g k).size) :
    Calls Try.prog 13 #[.slice A n c] w fun e w' => e = .returned (.int .i64 2) ∧ w = w' := by
  have H := hid h
  have HG := hid hb
  clear h hb
  go_enter Try.func13, Try.ntmps13
  go_wp2
  go_loop [7] (fun i => ∃ k : Nat, k ≤ n ∧ i = .int .i64 k ∧ Hid (∃ m, k ≤ m ∧ m < n ∧ 200 < (g m).size)) (fun i => n - (intOf i).toNat)
  case atStart =>
    obtain ⟨m, h1, h2⟩ := HG.out
    exact ⟨0, by omega, rfl, ⟨m, Nat.zero_le _, h1, h2⟩⟩
  case round =>
    obtain ⟨k, hk, rfl, HM⟩ := hrel
    have hkn : k < n := by obtain ⟨m, h1, h2, _⟩ := HM.out; omega
    obtain ⟨b, o, rfl, hlt, hc⟩ := H.out k hkn
    have hkn' : (k : Int) < (n : Int) := by omega
    by_cases hgk : (g k).size ≤ 200
    · have HM2 : Hid (∃ m, k + 1 ≤ m ∧ m < n ∧ 200 < (g m).size) := by
        obtain ⟨m, h1, h2, h3⟩ := HM.out
        refine ⟨m, ?_, h2, h3⟩
        by_cases e : k = m
        · subst e; omega
        · omega
      go_wp2
      go_round
      case rel => exact ⟨k + 1, by omega, by go_num, HM2⟩
      case measure => simp [intOf]; omega
    · have hgk' : 200 < (g k).size := by omega
      go_wp2
      go_ret
      exact ⟨rfl, rfl⟩
theorem two_row (w : World) (a b : ByteArray) (t : TypeId) : SRow (w.alloc (.cells #[.string a, .string b] t)) (some ⟨w.heap.size, 0, none⟩) 2 (fun k => if k = 0 then a else b) := by
  intro k hk
  refine ⟨w.heap.size, 0, rfl, by simp, ?_⟩
  match k, hk with
  | 0, _ => simp
  | 1, _ => simp
theorem longAB_any (w : World) (a b : ByteArray) (N : Nat) (hN : w.heap.size = N) :
    Calls Try.prog 13 #[.slice (some ⟨N, 0, none⟩) 2 2] (w.alloc (.cells #[.string a, .string b] 9)) fun e w' => e = .returned (.int .i64 (de a b)) ∧ w.alloc (.cells #[.string a, .string b] 9) = w' := by
  subst hN
  by_cases h : a.size ≤ 200 ∧ b.size ≤ 200
  · rw [de_ok h.1 h.2]
    refine longRow_ok _ (two_row w a b 9) (by decide) fun k _ => ?_
    by_cases e : k = 0
    · rw [if_pos e]; exact h.1
    · rw [if_neg e]; exact h.2
  · rw [de_bad h]
    refine longRow_large _ (two_row w a b 9) (by decide) ?_
    by_cases ha : 200 < a.size
    · exact ⟨0, by decide, by rw [if_pos rfl]; exact ha⟩
    · exact ⟨1, by decide, by rw [if_neg (by decide)]; omega⟩
/-- What Swaps answers, and with which error. -/
def SwapIs (a b : ByteArray) (v : Nat) (x : Int) : Prop :=
  (¬ (a.size ≤ 200 ∧ b.size ≤ 200) ∧ v = 0 ∧ x = 2) ∨ ((a.size ≤ 200 ∧ b.size ≤ 200) ∧ a.size ≠ b.size ∧ v = 0 ∧ x = 3) ∨ ((a.size ≤ 200 ∧ b.size ≤ 200) ∧ a.size = b.size ∧ v = Lev.hm (lst a) (lst b) ∧ x = 0)
theorem Swaps_any (a b : ByteArray) (w : World) :
    Calls Try.prog 12 #[.string a, .string b] w fun e w' => ∃ (v : Nat) (x : Int), e = .returned (.tuple #[.int .i64 (v : Nat), .int .i64 x]) ∧ SwapIs a b v x ∧ Below w.heap.size w w' := by
  by_cases h : a.size ≤ 200 ∧ b.size ≤ 200
  · by_cases e : a.size = b.size
    · refine (Swaps_ok a b w h.1 e).mono ?_
      rintro _ w1 ⟨rfl, hd⟩
      exact ⟨_, _, rfl, .inr (.inr ⟨h, e, rfl, rfl⟩), hd.below _⟩
    · refine (Swaps_form a b w h.1 h.2 e).mono ?_
      rintro _ w1 ⟨rfl, rfl⟩
      exact ⟨0, 3, rfl, .inr (.inl ⟨h, e, rfl, rfl⟩), Below.refl _ _⟩
  · refine (Swaps_large a b w (by omega)).mono ?_
    rintro _ w1 ⟨rfl, rfl⟩
    exact ⟨0, 2, rfl, .inl ⟨h, rfl, rfl⟩, Below.refl _ _⟩

set_option maxHeartbeats 4000000 in
set_option maxRecDepth 100000 in
theorem distSays_walk (a b : ByteArray) (A : Option Addr) (n c : Nat) (g : Nat → ByteArray) (most : Int) (w : World) (sa : a.size ≤ 140737488351232) (_ : b.size ≤ 140737488351232) (h : SRow w A n g) (hnc : n ≤ c) (hn16 : n * 16 ≤ 140737488351232) :
    Calls Try.prog 3 #[.string a, .string b, .slice A n c, .int .i64 most] w fun e w' => e = .returned (.bool true) ∧ Below w.heap.size w w' := by
  have H := hid h
  clear h
  obtain ⟨d, hd⟩ : ∃ d, d = dv a b := ⟨_, rfl⟩
  obtain ⟨x, hx⟩ : ∃ x, x = de a b := ⟨_, rfl⟩
  have HX := hid hx
  have HDV := hid hd
  have HC : Hid ((x = 2 ∧ d = 0 ∧ ¬ (a.size ≤ 200 ∧ b.size ≤ 200)) ∨ (x = 0 ∧ d = Lev.lv (lst a) (lst b) ∧ (a.size ≤ 200 ∧ b.size ≤ 200))) := by
    by_cases hst : a.size ≤ 200 ∧ b.size ≤ 200
    · exact .inr ⟨by rw [hx]; exact de_ok hst.1 hst.2, by rw [hd]; exact dv_ok hst.1 hst.2, hst⟩
    · exact .inl ⟨by rw [hx]; exact de_bad hst, by rw [hd]; exact dv_bad hst, hst⟩
  clear hd hx
  go_enter Try.func3, Try.ntmps3
  go_wp2_with fail
  with_reducible refine (Of_any a b _).mono ?_
  rintro e w1 ⟨he, hb1⟩
  rw [← HDV.out, ← HX.out] at he
  subst he
  have HB := hid hb1
  clear hb1
  go_wp2_with fail
  with_reducible refine (Near_any a most _ (H.out.keep HB.out)).mono ?_
  rintro e w2 ⟨B, q, L, y, rfl, hn1, hr1, hb2⟩
  have HB := hid (bl_then HB.out hb2)
  have HN := hid hn1
  have HR := hid hr1
  clear hb2 hn1 hr1
  go_wp2_with fail
  with_reducible refine (Swaps_any a b _).mono ?_
  rintro e w3 ⟨v, z, rfl, hs, hb2⟩
  have HB := hid (bl_then HB.out hb2)
  have HR := hid (HR.out.keep hb2)
  have HS := hid hs
  clear hb2 hs
  go_wp2_with fail
  with_reducible refine (longAB_any w3 a b _ rfl).mono ?_
  rintro e w4 ⟨he, rfl⟩
  rw [← HX.out] at he
  subst he
  have HB := hid (bl_then HB.out (bl_new w3 (.cells #[.string a, .string b] 9)))
  have HR := hid (HR.out.alloc (.cells #[.string a, .string b] 9))
  generalize w3.alloc (.cells #[.string a, .string b] 9) = w4 at *
  go_upto_region 5 with fail
  go_cut [65] from 21 (fun s65 wx => s65 = .bool false ∧ Hid (Below w4.heap.size w4 wx))
  case first =>
    rcases HC.out with ⟨rfl, rfl, _⟩ | ⟨rfl, hdl, hab⟩
    · clear HC
      go_wp2
      go_meet
      exact ⟨rfl, Below.refl _ _⟩
    · have HDL := hid hdl
      clear hdl HC
      go_wp2_with fail
      with_reducible refine (FarOf_ok a b _ hab.1 hab.2).mono ?_
      rintro e w5 ⟨he, hb2⟩
      rw [← HDL.out] at he
      subst he
      go_wp2
      go_meet
      exact ⟨rfl, hb2⟩
  case rest =>
    obtain ⟨rfl, hcut⟩ := hcut
    have HB5 := hid (bl_then HB.out hcut.out)
    have HR5 := hid (HR.out.keep hcut.out)
    clear hcut HB HR
    generalize wc = w5 at *
    go_upto_region 7 with fail
    obtain ⟨bb, HBB⟩ : ∃ bb : Bool, Hid ((bb = true ∧ z = 3) ∨ (bb = false ∧ z = x)) := by
      rcases HS.out with ⟨h1, _, rfl⟩ | ⟨h1, h2, _, rfl⟩ | ⟨h1, h2, _, rfl⟩
      · refine ⟨false, .inr ⟨rfl, ?_⟩⟩
        rcases HC.out with ⟨e, _⟩ | ⟨_, _, e⟩
        · exact e.symm
        · exact absurd e h1
      · exact ⟨true, .inl ⟨rfl, rfl⟩⟩
      · refine ⟨false, .inr ⟨rfl, ?_⟩⟩
        rcases HC.out with ⟨_, _, e⟩ | ⟨e, _⟩
        · exact absurd h1 e
        · exact e.symm
    go_cut [74] from 21 (fun s74 wx => s74 = .bool bb ∧ w5 = wx)
    case first =>
      rcases HS.out with ⟨h1, _, rfl⟩ | ⟨h1, h2, _, rfl⟩ | ⟨h1, h2, _, rfl⟩
      · obtain rfl : x = 2 := by
          rcases HC.out with ⟨e, _⟩ | ⟨_, _, e⟩
          · exact e
          · exact absurd e h1
        obtain rfl : bb = false := by
          rcases HBB.out with ⟨_, e⟩ | ⟨e, _⟩
          · exact absurd e (by decide)
          · exact e
        clear HC HBB HS
        go_wp2
        go_meet
        exact ⟨rfl, rfl⟩
      · obtain rfl : x = 0 := by
          rcases HC.out with ⟨_, _, e⟩ | ⟨e, _⟩
          · exact absurd h1 e
          · exact e
        obtain rfl : bb = true := by
          rcases HBB.out with ⟨e, _⟩ | ⟨_, e⟩
          · exact e
          · exact absurd e (by decide)
        have hne : ((a.size : Int) != (b.size : Int)) = true := bne_iff_ne.2 (by omega)
        have heq : ((a.size : Int) == (b.size : Int)) = false := beq_eq_false_iff_ne.2 (by omega)
        clear HC HBB HS
        go_wp2
        go_meet
        exact ⟨rfl, rfl⟩
      · obtain rfl : x = 0 := by
          rcases HC.out with ⟨_, _, e⟩ | ⟨e, _⟩
          · exact absurd h1 e
          · exact e
        obtain rfl : bb = false := by
          rcases HBB.out with ⟨_, e⟩ | ⟨e, _⟩
          · exact absurd e (by decide)
          · exact e
        have hne : ((a.size : Int) != (b.size : Int)) = false := by rw [h2]; simp
        have heq : ((a.size : Int) == (b.size : Int)) = true := by rw [h2]; simp
        clear HC h2 HBB HS
        go_wp2
        go_meet
        exact ⟨rfl, rfl⟩
    case rest =>
     obtain ⟨rfl, rfl⟩ := hcut
     go_upto_if 74 with fail
     go_cut [15] from 21 (fun s15 wx => s15 = .int .i64 z ∧ w5 = wx)
     case first =>
      rcases HBB.out with ⟨rfl, rfl⟩ | ⟨rfl, rfl⟩
      · clear HC HS HBB
        go_wp2
        go_meet
        exact ⟨rfl, rfl⟩
      · clear HC HS HBB
        go_wp2
        go_meet
        exact ⟨rfl, rfl⟩
     case rest =>
      obtain ⟨rfl, rfl⟩ := hcut
      clear HBB
      obtain ⟨m, hm⟩ : ∃ m, m = min a.size b.size := ⟨_, rfl⟩
      have hmin : min (a.size : Int) (b.size : Int) = (m : Int) := by omega
      have HM := hid hm
      have hma : m ≤ a.size := by omega
      have hmb : m ≤ b.size := by omega
      have HLA := hid (lst_len a)
      have HLB := hid (lst_len b)
      clear hm
      go_wp2
      go_loopw [16, 80] (fun s16 s80 wr => ∃ i : Nat, i ≤ m ∧ s80 = .int .i64 (i : Int) ∧ s16 = .int .i64 (Lev.hf (lst a) (lst b) i : Nat) ∧ Hid (Drew w5 wr)) (fun _ s80 _ => m - (intOf s80).toNat)
      case atStart => exact ⟨0, by omega, rfl, rfl, Drew.refl _⟩
      case round =>
        obtain ⟨i, hi, rfl, rfl, HD⟩ := hrel
        by_cases him : i < m
        · have hia : i < a.size := by omega
          have hib : i < b.size := by omega
          have him' : (i : Int) < (m : Int) := by omega
          have hia' : (i : Int) < (a.size : Int) := by omega
          have hib' : (i : Int) < (b.size : Int) := by omega
          obtain ⟨t, ht⟩ : ∃ t, t = Lev.hf (lst a) (lst b) i := ⟨_, rfl⟩
          have ht5 : t ≤ 140737488351232 := by rw [ht]; have := Lev.hf_le (lst a) (lst b) i; omega
          have hst := Lev.hf_step (a := lst a) (b := lst b) (i := i) (by rw [HLA.out]; exact hia) (by rw [HLB.out]; exact hib)
          rw [← ht] at hst
          rw [← ht]
          by_cases he : byt a i = byt b i
          · have heq : ((a[i].toNat : Int) == (b[i].toNat : Int)) = true := by rw [← byt_eq hia, ← byt_eq hib, he]; simp
            have heq2 : ((a[i].toNat : Int) != (b[i].toNat : Int)) = false := by rw [← byt_eq hia, ← byt_eq hib, he]; simp
            rw [if_pos (show (lst a).getD i 0 = (lst b).getD i 0 from he)] at hst
            have HST := hid hst
            clear he ht hst
            go_wp2
            go_quiet (fail)
            go_wp2
            go_roundw
            case rel => exact ⟨i + 1, by omega, by go_num, by rw [HST.out]; rfl, HD.out.more _⟩
            case measure => simp [intOf]; omega
          · have heq : ((a[i].toNat : Int) == (b[i].toNat : Int)) = false := by rw [← byt_eq hia, ← byt_eq hib]; exact (byte_ne he).2
            have heq2 : ((a[i].toNat : Int) != (b[i].toNat : Int)) = true := by rw [← byt_eq hia, ← byt_eq hib]; exact (byte_ne he).1
            rw [if_neg (show ¬ (lst a).getD i 0 = (lst b).getD i 0 from he)] at hst
            have HST := hid hst
            clear he ht hst
            go_wp2
            go_quiet (fail)
            go_wp2
            go_roundw
            case rel => exact ⟨i + 1, by omega, by go_num, by rw [HST.out]; simp, HD.out.more _⟩
            case measure => simp [intOf]; omega
        · obtain rfl : i = m := by omega
          have hdm : decide ((i : Int) < (i : Int)) = false := decide_eq_false (by omega)
          have HB6 := hid (HB5.out.trans (HD.out.below _))
          have HR6 := hid (HR5.out.keep (HD.out.below _))
          obtain ⟨t, ht⟩ : ∃ t, t = Lev.hf (lst a) (lst b) i := ⟨_, rfl⟩
          have HT := hid ht
          rw [← ht]
          have hzz : ((z : Int) != (z : Int)) = false := by simp
          clear ht HB5 HR5 HD
          generalize wr = w6 at *
          go_upto_region 16 with fail
          go_cut [112] from 21 (fun s112 wx => s112 = .bool false ∧ w6 = wx)
          case first =>
            rcases HS.out with ⟨h1, rfl, rfl⟩ | ⟨h1, h2, rfl, rfl⟩ | ⟨h1, h2, hv, rfl⟩
            · clear HC HS
              go_wp2
              go_meet
              exact ⟨rfl, rfl⟩
            · clear HC HS
              go_wp2
              go_meet
              exact ⟨rfl, rfl⟩
            · have htv : t = v := by
                rw [HT.out, hv, ← Lev.hf_all (a := lst a) (b := lst b) (by rw [HLA.out, HLB.out]; exact h2), HLA.out, HM.out]
                congr 1
                omega
              subst htv
              have htt : ((t : Int) != (t : Int)) = false := by simp
              clear HC HS h2 hv
              go_wp2
              go_meet
              exact ⟨rfl, rfl⟩
          case rest =>
            obtain ⟨rfl, rfl⟩ := hcut
            clear hzz HS HC HT HM HLA HLB hma hmb hmin
            have HH := hid (H.out.keep HB6.out)
            by_cases ha : a.size ≤ 200
            · by_cases hn : n ≤ 200
              · by_cases hg : ∃ k, k < n ∧ 200 < (g k).size
                · have HG := hid hg
                  have hL : L = [] ∧ y = 2 := by
                    rcases HN.out with ⟨_, h1, h2⟩ | ⟨h1, _⟩
                    · exact ⟨h1, h2⟩
                    · exact absurd (.inr (.inr hg)) h1
                  obtain ⟨hL0, rfl⟩ := hL
                  have hLl : (L.length : Int) = 0 := by rw [hL0]; rfl
                  have hLe : ((L.length : Int) == 0) = true := by rw [hLl]; rfl
                  have hnd : decide ((200 : Int) < (n : Int)) = false := decide_eq_false (by omega)
                  clear hg hL0
                  go_wp2_with fail
                  with_reducible refine (long_ok a _ _ (new_cell _ _ _) ha).mono ?_
                  rintro e w7 ⟨rfl, rfl⟩
                  have HH2 : Hid (SRow (w6.alloc (.cells #[.string a] 9)) A n g) := HH.out.keep (bl_new _ _)
                  have HB7 := hid (HB6.out.alloc HB6.out.size (.cells #[.string a] 9))
                  go_wp2_with fail
                  with_reducible refine (longRow_large _ HH2.out hn HG.out).mono ?_
                  rintro e w7 ⟨rfl, rfl⟩
                  go_wp2
                  go_ret
                  exact ⟨rfl, HB7.out⟩
                · have HG : Hid (∀ k, k < n → (g k).size ≤ 200) := fun k hk => Nat.le_of_not_lt fun q => hg ⟨k, hk, q⟩
                  have hL : L = nr a g most n ∧ y = 0 := by
                    rcases HN.out with ⟨hb, _⟩ | ⟨_, h1, h2⟩
                    · exfalso
                      rcases hb with h | h | h
                      · omega
                      · omega
                      · exact hg h
                    · exact ⟨h1, h2⟩
                  obtain ⟨hL1, rfl⟩ := hL
                  have HL1 := hid hL1
                  have hnd : decide ((200 : Int) < (n : Int)) = false := decide_eq_false (by omega)
                  clear hg hL1
                  go_wp2_with fail
                  with_reducible refine (long_ok a _ _ (new_cell _ _ _) ha).mono ?_
                  rintro e w7 ⟨rfl, rfl⟩
                  have HH2 : Hid (SRow (w6.alloc (.cells #[.string a] 9)) A n g) := HH.out.keep (bl_new _ _)
                  have HR7 := hid (HR6.out.alloc (.cells #[.string a] 9))
                  have HB7 := hid (HB6.out.alloc HB6.out.size (.cells #[.string a] 9))
                  generalize w6.alloc (.cells #[.string a] 9) = w7 at *
                  go_wp2_with fail
                  with_reducible refine (longRow_ok _ HH2.out hn HG.out).mono ?_
                  rintro e w8 ⟨rfl, rfl⟩
                  clear hnd
                  go_wp2
                  go_loopw [18, 139] (fun s18 s139 wr => ∃ k : Nat, k ≤ n ∧ s139 = .int .i64 (k : Int) ∧ Hid (OwnI wr w7.heap.size s18 (ofN (nr a g most k))) ∧ Hid (Below w7.heap.size w7 wr)) (fun _ s139 _ => n - (intOf s139).toNat)
                  case atStart => exact ⟨0, by omega, rfl, OwnI.zero _ _, Below.refl _ _⟩
                  case round =>
                    obtain ⟨k, hk, rfl, HV, HB8⟩ := hrel
                    by_cases hkn : k < n
                    · obtain ⟨b1, o, rfl, hlt, hc⟩ := HH2.out.keep HB8.out k hkn
                      have hkn' : (k : Int) < (n : Int) := by omega
                      have hgk := HG.out k hkn
                      obtain ⟨d1, hd1⟩ : ∃ d1, d1 = Lev.lv (lst a) (lst (g k)) := ⟨_, rfl⟩
                      have HD1 := hid hd1
                      clear hd1
                      go_wp2_with fail
                      with_reducible refine (FarOf_ok a (g k) _ ha hgk).mono ?_
                      rintro e w8 ⟨he, hb2⟩
                      rw [← HD1.out] at he
                      subst he
                      have HV2 := hid (HV.out.old hb2)
                      have HB9 := hid (bl_then HB8.out hb2)
                      clear hb2 hc hlt HV HB8
                      by_cases hmost : (d1 : Int) ≤ most
                      · have HNN := hid (nr_yes (s := a) (g := g) (most := most) (n := k) (by rw [← HD1.out]; exact hmost))
                        have hl : (ofN (nr a g most k)).length < 1000000 := by rw [ofN_len]; have := nr_len a g most k; omega
                        have hsz := HB9.out.size
                        go_wp2_with (at_builtin; with_reducible refine app_int rfl _ _ rfl rfl HV2.out _ rfl rfl hsz hl ?_)
                        intro v' w9 hown3 hb3
                        rw [← ofN_snoc, ← HNN.out] at hown3
                        have HV3 := hid hown3
                        have HB3 := hid (HB9.out.trans hb3)
                        clear hown3 hb3 hsz
                        go_wp2
                        go_roundw
                        case rel => exact ⟨k + 1, by omega, by go_num, HV3, HB3⟩
                        case measure => simp [intOf]; omega
                      · have HNN := hid (nr_no (s := a) (g := g) (most := most) (n := k) (by rw [← HD1.out]; exact hmost))
                        have hm' : decide ((d1 : Int) ≤ most) = false := decide_eq_false hmost
                        go_wp2
                        go_roundw
                        case rel => exact ⟨k + 1, by omega, by go_num, by rw [HNN.out]; exact HV2, HB9⟩
                        case measure => simp [intOf]; omega
                    · obtain rfl : k = n := by omega
                      have hdm : decide ((k : Int) < (k : Int)) = false := decide_eq_false (by omega)
                      obtain ⟨A', c', hA, hr⟩ := HV.out.irow
                      rw [ofN_len, ← HL1.out] at hA hr
                      subst hA
                      have HRN := hid (HR7.out.keep HB8.out)
                      have HRA := hid hr
                      have hlL : L.length ≤ maxLen := by rw [HL1.out]; exact Nat.le_trans (nr_len a g most k) (Nat.le_trans hn (by decide))
                      have HLL := hid hlL
                      have HE : Hid (true = eqB L.length L.length (fun q => (L.getD q 0 : Nat)) (fun q => (ofN L).getD q 0)) := (eqB_true.2 ⟨rfl, fun q _ => (ofN_get L q).symm⟩).symm
                      clear hr hlL HV
                      go_wp2_with fail
                      with_reducible refine (alike_any HRN.out HRA.out HLL.out HLL.out).mono ?_
                      rintro e w9 ⟨he, hd9⟩
                      rw [← HE.out] at he
                      subst he
                      have HB9 := hid (((bl_then HB7.out HB8.out)).trans (hd9.below _))
                      go_wp2
                      go_ret
                      exact ⟨rfl, HB9.out⟩
              · have hL : L = [] ∧ y = 2 := by
                  rcases HN.out with ⟨_, h1, h2⟩ | ⟨h1, _⟩
                  · exact ⟨h1, h2⟩
                  · exact absurd (.inr (.inl (by omega))) h1
                obtain ⟨hL0, rfl⟩ := hL
                have hLl : (L.length : Int) = 0 := by rw [hL0]; rfl
                have hLe : ((L.length : Int) == 0) = true := by rw [hLl]; rfl
                have hnd : decide ((200 : Int) < (n : Int)) = true := decide_eq_true (by omega)
                have hn' : (200 : Int) < (n : Int) := by omega
                clear hL0
                go_wp2_with fail
                with_reducible refine (long_ok a _ _ (new_cell _ _ _) ha).mono ?_
                rintro e w7 ⟨rfl, rfl⟩
                go_wp2
                go_ret
                exact ⟨rfl, HB6.out.alloc HB6.out.size _⟩
            · have hL : L = [] ∧ y = 2 := by
                rcases HN.out with ⟨_, h1, h2⟩ | ⟨h1, _⟩
                · exact ⟨h1, h2⟩
                · exact absurd (.inl (by omega)) h1
              obtain ⟨hL0, rfl⟩ := hL
              have hLl : (L.length : Int) = 0 := by rw [hL0]; rfl
              have hLe : ((L.length : Int) == 0) = true := by rw [hLl]; rfl
              have ha' : 200 < a.size := by omega
              clear hL0
              go_wp2_with fail
              with_reducible refine (long_large a _ _ (new_cell _ _ _) ha').mono ?_
              rintro e w7 ⟨rfl, rfl⟩
              go_wp2
              go_ret
              exact ⟨rfl, HB6.out.alloc HB6.out.size _⟩
end Go.Proofs.Ytppaicpjbcjgmaa
