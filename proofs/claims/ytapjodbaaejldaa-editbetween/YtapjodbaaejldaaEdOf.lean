
/-
The contract of edit.Of.
-/
import Derived.Test.YtapjodbaaejldaaEdCk
import Derived.Test.YtapjodbaaejldaaRefBtw
import Derived.Deep.CutRange
namespace Go.Proofs.Ytapjodbaaejldaa
open Go.RowKit

/-- What is left behind both common ends. -/
theorem btw_of {s t : ByteArray} {i j : Nat} (hi : i = Es.cp (lst s) (lst t)) (his : i + j ≤ s.size) (hit : i + j ≤ t.size) (hall : ∀ m, m < j → byt s (s.size - 1 - m) = byt t (t.size - 1 - m))
    (he : i + j = s.size ∨ i + j = t.size ∨ byt s (s.size - 1 - j) ≠ byt t (t.size - 1 - j)) : Es.btw (lst s) (lst t) = ⟨(i : Int), ((s.size - j - i : Nat) : Int), t.extract i (t.size - j)⟩ := by
  have e1 : Es.bi (lst s) (lst t) = i := hi.symm
  have gd : ∀ (l : List UInt8) (m : Nat), (l.drop i).getD m 0 = l.getD (i + m) 0 := fun l m => by
    rw [List.getD_eq_getElem?_getD, List.getElem?_drop, ← List.getD_eq_getElem?_getD]
  have e2 : Es.bj (lst s) (lst t) = j := by
    unfold Es.bj
    rw [e1]
    refine Es.cs_is (by rw [List.length_drop, lst_len]; omega) (by rw [List.length_drop, lst_len]; omega) (fun m hm => ?_) ?_
    · rw [List.length_drop, List.length_drop, lst_len, lst_len, gd, gd, show i + (s.size - i - 1 - m) = s.size - 1 - m by omega, show i + (t.size - i - 1 - m) = t.size - 1 - m by omega]
      exact hall m hm
    · rw [List.length_drop, List.length_drop, lst_len, lst_len]
      by_cases a1 : i + j = s.size
      · left; omega
      · by_cases a2 : i + j = t.size
        · right; left; omega
        · rcases he with he | he | he
          · exact absurd he a1
          · exact absurd he a2
          · right; right
            rw [gd, gd, show i + (s.size - i - 1 - j) = s.size - 1 - j by omega, show i + (t.size - i - 1 - j) = t.size - 1 - j by omega]
            exact he
  unfold Es.btw
  rw [e1, e2, lst_len, lst_len]
  refine Es.Ev.eq rfl ?_ ?_
  · show ((s.size - i - j : Nat) : Int) = ((s.size - j - i : Nat) : Int)
    omega
  · show mkS _ = _
    apply lst_inj_
    rw [lst_mk, lst_mid]
    congr 1; omega
/-- What replacement answers: a row of one edit, or none. -/
def RepPost (s t : ByteArray) (w : World) (e : Ending) (w' : World) : Prop :=
  ∃ (A : Option Addr) (m c : Nat), e = .returned (.slice A m c) ∧ m ≤ c ∧ ((s = t ∧ m = 0) ∨ (s ≠ t ∧ m = 1)) ∧ EvRow w' A m (fun _ => Es.btw (lst s) (lst t)) ∧ Below w.heap.size w w'
set_option maxHeartbeats 2000000 in
theorem replacement_any (s t : ByteArray) (w : World) (hs : s.size ≤ 200) (ht : t.size ≤ 200) :
    Calls Try.prog 64 #[.string s, .string t] w (RepPost s t w) := by
  by_cases hst : s = t
  · have h1 : (s.toList == t.toList) = true := by rw [hst]; simp
    have HST := hid hst
    clear hst
    go_enter Try.func64, Try.ntmps64
    go_wp2
    go_ret
    exact ⟨none, 0, 0, rfl, by omega, .inl ⟨HST.out, rfl⟩, fun k hk => by omega, Below.refl _ _⟩
  · have h1 : (s.toList == t.toList) = false := beq_eq_false_iff_ne.2 fun e => hst (list_eq.1 e)
    have HST := hid hst
    clear hst
    obtain ⟨l, hl2⟩ : ∃ l, l = min s.size t.size := ⟨_, rfl⟩
    have hl : min (s.size : Int) (t.size : Int) = (l : Int) := by omega
    have hl3 : (if t.size < s.size then (t.size : Int) else (s.size : Int)) = (l : Int) := by split <;> omega
    have HL2 := hid hl2
    clear hl2
    go_enter Try.func64, Try.ntmps64
    go_wp2
    go_loopw [5] (fun x wr => ∃ k : Nat, k ≤ l ∧ x = .int .i64 (k : Int) ∧ Hid (∀ t', t' < k → byt s t' = byt t t') ∧ Drew w wr) (fun x _ => l - (intOf x).toNat)
    case atStart => exact ⟨0, by omega, rfl, fun t ht => by omega, Drew.refl _⟩
    case round =>
      obtain ⟨i, hil, rfl, hall, hdd⟩ := hrel
      have HDD := hid hdd
      clear hdd
      go_upto_region 4 with fail
      go_cut [26] from 11 to 28 (fun v W => ∃ c : Bool, v = .bool c ∧ Hid (c = true → i < l ∧ byt s i = byt t i) ∧ Hid (c = false → i = l ∨ byt s i ≠ byt t i) ∧ Hid (Drew w W))
      case first =>
        by_cases h1 : i < l
        · have h2 : i < s.size := by have := HL2.out; omega
          have h3 : i < t.size := by have := HL2.out; omega
          have h1' : (i : Int) < (l : Int) := by omega
          have h2' : (i : Int) < (s.size : Int) := by omega
          have h3' : (i : Int) < (t.size : Int) := by omega
          by_cases he : byt s i = byt t i
          · have heq : ((s[i].toNat : Int) == (t[i].toNat : Int)) = true := by rw [← byt_eq h2, ← byt_eq h3, he]; simp
            have HE := hid he
            clear he
            go_quiet (fail)
            go_wp2
            go_meet
            exact ⟨true, rfl, hid (fun _ => ⟨h1, HE.out⟩), hid (fun h => by cases h), hid (HDD.out.more _)⟩
          · have heq : ((s[i].toNat : Int) == (t[i].toNat : Int)) = false := by rw [← byt_eq h2, ← byt_eq h3]; exact (byte_ne he).2
            have HE := hid he
            clear he
            go_quiet (fail)
            go_wp2
            go_meet
            exact ⟨false, rfl, hid (fun h => by cases h), hid (fun _ => .inr HE.out), hid (HDD.out.more _)⟩
        · have h1' : decide ((i : Int) < (l : Int)) = false := decide_eq_false (by omega)
          go_quiet (fail)
          go_wp2
          go_meet
          exact ⟨false, rfl, hid (fun h => by cases h), hid (fun _ => .inl (by omega)), hid (HDD.out.more _)⟩
      case rest =>
        clear HDD
        obtain ⟨c, rfl, HC1, HC2, HDD⟩ := hcut
        cases c
        case true =>
          have HC := hid (HC1.out rfl)
          have hil2 : i < l := HC.out.1
          have HA : Hid (∀ t', t' < i + 1 → byt s t' = byt t t') := by
            intro t' ht'
            by_cases e : t' = i
            · subst e; exact HC.out.2
            · exact hall.out t' (by omega)
          have hiw : IntKind.i64.wrap ((i : Int) + 1) = (i : Int) + 1 := IntWalk.i64_in _ (by omega)
          clear HC1 HC2 hall
          go_wp2
          go_roundw
          case measure => simp [intOf]; omega
          case rel => exact ⟨i + 1, by omega, by go_num, HA, HDD.out⟩
        case false =>
          have hc := HC2.out rfl
          have hls : l ≤ s.size ∧ l ≤ t.size := by have := HL2.out; omega
          have HI : Hid (i = Es.cp (lst s) (lst t)) := by
            show _ = _
            refine (Es.cp_is (a := lst s) (b := lst t) (k := i) (by rw [lst_len]; omega) (by rw [lst_len]; omega) hall.out ?_).symm
            rw [lst_len, lst_len]
            rcases hc with hc | hc
            · have := HL2.out
              omega
            · exact .inr (.inr hc)
          have his : i ≤ s.size ∧ i ≤ t.size := by omega
          clear HC1 HC2 hall hc hl hl3 HL2 hls hil
          obtain ⟨wq, hwq⟩ : ∃ wq, wq = wc := ⟨_, rfl⟩
          rw [← hwq] at HDD ⊢
          clear hwq
          go_wp2
          go_loopw [6, 7] (fun x y wr => ∃ j : Nat, i + j ≤ s.size ∧ i + j ≤ t.size ∧ x = .int .i64 ((s.size - j : Nat) : Int) ∧ y = .int .i64 ((t.size - j : Nat) : Int) ∧ Hid (∀ m, m < j → byt s (s.size - 1 - m) = byt t (t.size - 1 - m)) ∧ Hid (Drew w wr)) (fun x _ _ => (intOf x).toNat)
          case atStart => exact ⟨0, by omega, by omega, rfl, rfl, hid (fun m hm => by omega), HDD⟩
          case round =>
            clear HDD
            obtain ⟨j, hjs, hjt, rfl, rfl, HALL, HDD⟩ := hrel
            obtain ⟨p, hp⟩ : ∃ p, p = s.size - j := ⟨_, rfl⟩
            obtain ⟨r, hr⟩ : ∃ r, r = t.size - j := ⟨_, rfl⟩
            rw [← hp, ← hr]
            obtain ⟨mm, hmm⟩ : ∃ mm, mm = min p r := ⟨_, rfl⟩
            have hm1 : min (p : Int) (r : Int) = (mm : Int) := by omega
            have hm2 : (if r < p then (r : Int) else (p : Int)) = (mm : Int) := by split <;> omega
            have HMM := hid hmm
            have HP := hid hp
            have HR := hid hr
            obtain ⟨p1, hp1⟩ : ∃ p1, p1 = s.size - 1 - j := ⟨_, rfl⟩
            obtain ⟨r1, hr1⟩ : ∃ r1, r1 = t.size - 1 - j := ⟨_, rfl⟩
            have HP0 := hid hp1
            have HR0 := hid hr1
            clear hmm hp1 hr1
            go_upto_region 7 with fail
            go_cut [48] from 33 to 52 (fun v W => ∃ c : Bool, v = .bool c ∧ Hid (c = true → i < mm ∧ byt s p1 = byt t r1) ∧ Hid (c = false → mm ≤ i ∨ byt s p1 ≠ byt t r1) ∧ Hid (Drew w W))
            case first =>
              by_cases h1 : i < mm
              · have hp1 := HP0.out
                have hr1 := HR0.out
                have hmp := HMM.out
                have h2 : p1 < s.size := by omega
                have h3 : r1 < t.size := by omega
                have ep : (p : Int) - 1 = (p1 : Int) := by omega
                have er : (r : Int) - 1 = (r1 : Int) := by omega
                have wp : IntKind.i64.wrap (p1 : Int) = (p1 : Int) := IntWalk.i64_in _ (by omega)
                have wr' : IntKind.i64.wrap (r1 : Int) = (r1 : Int) := IntWalk.i64_in _ (by omega)
                have h1' : (i : Int) < (mm : Int) := by omega
                have h2' : (p1 : Int) < (s.size : Int) := by omega
                have h3' : (r1 : Int) < (t.size : Int) := by omega
                have h20 : (0 : Int) ≤ (p1 : Int) := by omega
                have h30 : (0 : Int) ≤ (r1 : Int) := by omega
                clear hp hr hp1 hr1 hmp
                by_cases he : byt s p1 = byt t r1
                · have heq : ((s[p1].toNat : Int) == (t[r1].toNat : Int)) = true := by rw [← byt_eq h2, ← byt_eq h3, he]; simp
                  have HE := hid he
                  clear he
                  go_quiet (fail)
                  go_wp2
                  go_meet
                  exact ⟨true, rfl, hid (fun _ => ⟨h1, HE.out⟩), hid (fun h => by cases h), hid (HDD.out.more _)⟩
                · have heq : ((s[p1].toNat : Int) == (t[r1].toNat : Int)) = false := by rw [← byt_eq h2, ← byt_eq h3]; exact (byte_ne he).2
                  have HE := hid he
                  clear he
                  go_quiet (fail)
                  go_wp2
                  go_meet
                  exact ⟨false, rfl, hid (fun h => by cases h), hid (fun _ => .inr HE.out), hid (HDD.out.more _)⟩
              · have h1' : decide ((i : Int) < (mm : Int)) = false := decide_eq_false (by omega)
                clear hp hr
                go_quiet (fail)
                go_wp2
                go_meet
                exact ⟨false, rfl, hid (fun h => by cases h), hid (fun _ => .inl (by omega)), hid (HDD.out.more _)⟩
            case rest =>
              clear HDD
              obtain ⟨c, rfl, HC1, HC2, HDD⟩ := hcut
              cases c
              case true =>
                have HC := hid (HC1.out rfl)
                have hm3 : i < mm := HC.out.1
                have hmp := HMM.out
                have hp0 := HP0.out
                have hr0 := HR0.out
                have hp1 : p1 = s.size - (j + 1) := by omega
                have hr1 : r1 = t.size - (j + 1) := by omega
                have HP1 := hid hp1
                have HR1 := hid hr1
                have ep : (p : Int) - 1 = (p1 : Int) := by omega
                have er : (r : Int) - 1 = (r1 : Int) := by omega
                have wp : IntKind.i64.wrap (p1 : Int) = (p1 : Int) := IntWalk.i64_in _ (by omega)
                have wr' : IntKind.i64.wrap (r1 : Int) = (r1 : Int) := IntWalk.i64_in _ (by omega)
                have hj1 : i + (j + 1) ≤ s.size := by omega
                have hj2 : i + (j + 1) ≤ t.size := by omega
                have hmeas : p1 < p := by omega
                have HA : Hid (∀ m, m < j + 1 → byt s (s.size - 1 - m) = byt t (t.size - 1 - m)) := by
                  intro m hm
                  by_cases e : m = j
                  · rw [e, ← HP0.out, ← HR0.out]; exact HC.out.2
                  · exact HALL.out m (by omega)
                clear HC1 HC2 HALL hp hr hp1 hr1 hmp hp0 hr0
                go_wp2
                go_roundw
                case measure => simp [intOf]; omega
                case rel => exact ⟨j + 1, hj1, hj2, by rw [HP1.out], by rw [HR1.out], HA, HDD⟩
              case false =>
                have hc := HC2.out rfl
                have HX : Hid (Es.btw (lst s) (lst t) = ⟨(i : Int), ((p - i : Nat) : Int), t.extract i r⟩) := by
                  show _ = _
                  rw [HP.out, HR.out]
                  refine btw_of HI.out hjs hjt HALL.out ?_
                  have hmp := HMM.out
                  rcases hc with hc | hc
                  · omega
                  · rw [← HP0.out, ← HR0.out]; exact .inr (.inr hc)
                obtain ⟨d, hd⟩ : ∃ d, d = p - i := ⟨_, rfl⟩
                rw [← hd] at HX
                have ed : (p : Int) - (i : Int) = (d : Int) := by omega
                have wd_ : IntKind.i64.wrap (d : Int) = (d : Int) := IntWalk.i64_in _ (by omega)
                have hir : (i : Int) ≤ (r : Int) := by omega
                have hrt : (r : Int) ≤ (t.size : Int) := by omega
                have hi0 : (0 : Int) ≤ (i : Int) := by omega
                have hr0 : (0 : Int) ≤ (r : Int) := by omega
                clear HC1 HC2 hc HALL hp hr hd HI
                go_wp2
                go_ret
                refine ⟨_, 1, 1, rfl, by omega, .inr ⟨HST.out, rfl⟩, ?_, ?_⟩
                · rw [HX.out]
                  exact EvRow.one _ ⟨(i : Int), (d : Int), t.extract i r⟩ _ _ rfl
                · exact (HDD.out.below _).alloc (by obtain ⟨z, hz⟩ := HDD.out; rw [hz]; exact Nat.le_refl _) _
theorem EdOf_any (s t : ByteArray) (w : World) (_ : s.size ≤ maxLen) (_ : t.size ≤ maxLen) :
    Calls Try.prog 24 #[.string s, .string t] w fun e w' => ∃ (B : Option Addr) (m d : Nat) (x : Int), e = .returned (.tuple #[.slice B m d, .int .i64 x]) ∧ m ≤ d ∧ OfIs s t m x ∧ EvRow w' B m (fun _ => Es.btw (lst s) (lst t)) ∧ Below w.heap.size w w' := by
  have no0 : ∀ W : World, EvRow W none 0 (fun _ => Es.btw (lst s) (lst t)) := fun W k hk => absurd hk (Nat.not_lt_zero _)
  by_cases h1 : 200 < s.size
  · have h1' : (200 : Int) < (s.size : Int) := by omega
    go_enter Try.func24, Try.ntmps24
    go_wp2
    go_ret2
    exact ⟨none, 0, 0, 2, rfl, Nat.le_refl _, .inl ⟨by omega, rfl, rfl⟩, no0 _, Below.refl _ _⟩
  · have h1' : decide ((200 : Int) < (s.size : Int)) = false := decide_eq_false (by omega)
    by_cases h2 : 200 < t.size
    · have h2' : (200 : Int) < (t.size : Int) := by omega
      go_enter Try.func24, Try.ntmps24
      go_wp2
      go_ret2
      exact ⟨none, 0, 0, 2, rfl, Nat.le_refl _, .inl ⟨by omega, rfl, rfl⟩, no0 _, Below.refl _ _⟩
    · have h2' : decide ((200 : Int) < (t.size : Int)) = false := decide_eq_false (by omega)
      have hs : s.size ≤ 200 := by omega
      have ht : t.size ≤ 200 := by omega
      clear h1 h2
      go_enter Try.func24, Try.ntmps24
      go_wp2_with fail
      with_reducible refine (replacement_any s t _ hs ht).mono ?_
      rintro e w1 ⟨A, m, c, rfl, hmc, hpost, hrow, hb⟩
      have HROW := hid hrow
      have HB := hid hb
      have HP := hid hpost
      have hmm : m ≤ maxLen := by
        rcases hpost with ⟨_, rfl⟩ | ⟨_, rfl⟩ <;> decide
      have HWF : Hid (∀ k, k < m → EvWf (Es.btw (lst s) (lst t))) := fun k _ => by
        obtain ⟨P, D, I, Q, q1, q2, q3, q4, q5, q6⟩ := Es.btw_parts (lst s) (lst t)
        have l1 := congrArg List.length q1
        have l2 := congrArg List.length q2
        simp only [List.length_append, lst_len] at l1 l2
        rw [q6]
        refine wf_lit _ ⟨?_, ?_, ?_, ?_, ?_⟩ <;> simp only [mk_size] <;> omega
      have HMM := hid hmm
      clear hrow hb hpost hmm
      go_wp2_with fail
      with_reducible refine (Check_any (s.size : Int) _ HROW.out HWF.out HMM.out (by omega) (by omega)).mono ?_
      rintro e w2 ⟨rfl, hb2⟩
      have HROW2 := hid (HROW.out.keep hb2)
      have HB2 := hid (bl_then HB.out hb2)
      clear hb2
      by_cases hst : s = t
      · obtain rfl : m = 0 := by
          rcases HP.out with ⟨_, h⟩ | ⟨h, _⟩
          · exact h
          · exact absurd hst h
        rw [show Es.eErr (s.size : Int) (el (fun _ => Es.btw (lst s) (lst t)) 0) = 0 from Es.err_nil (by omega) (by omega)]
        have HST := hid hst
        clear hst
        go_wp2
        go_ret2
        exact ⟨A, 0, c, 0, rfl, hmc, .inr (.inl ⟨⟨hs, ht⟩, HST.out, rfl, rfl⟩), HROW2.out, HB2.out⟩
      · obtain rfl : m = 1 := by
          rcases HP.out with ⟨h, _⟩ | ⟨_, h⟩
          · exact absurd h hst
          · exact h
        have herr := Es.btw_err (s := lst s) (t := lst t) (fun e => hst (lst_inj_ e)) (by rw [lst_len]; exact hs) (by rw [lst_len]; exact ht)
        rw [lst_len] at herr
        rw [show el (fun _ => Es.btw (lst s) (lst t)) 1 = [Es.btw (lst s) (lst t)] from rfl, herr]
        have HST := hid hst
        clear hst herr
        by_cases h40 : 40 < (Es.btw (lst s) (lst t)).s.size
        · rw [if_pos h40]
          have H40 := hid h40
          clear h40
          go_wp2
          go_ret2
          exact ⟨none, 0, 0, 2, rfl, Nat.le_refl _, .inr (.inr (.inl ⟨⟨hs, ht⟩, HST.out, H40.out, rfl, rfl⟩)), no0 _, HB2.out⟩
        · rw [if_neg h40]
          have H40 := hid h40
          clear h40
          go_wp2
          go_ret2
          exact ⟨A, 1, c, 0, rfl, hmc, .inr (.inr (.inr ⟨⟨hs, ht⟩, HST.out, Nat.le_of_not_lt H40.out, rfl, rfl⟩)), HROW2.out, HB2.out⟩
end Go.Proofs.Ytapjodbaaejldaa
