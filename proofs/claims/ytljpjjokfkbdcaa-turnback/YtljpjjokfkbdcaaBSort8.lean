/-
The contract of slices.pdqsortOrdered at []byte.
-/
import Derived.Test.YtljpjjokfkbdcaaBSort4
import Derived.Test.YtljpjjokfkbdcaaBSort5
import Derived.Test.YtljpjjokfkbdcaaBSort6
import Derived.Test.YtljpjjokfkbdcaaBSort7
namespace Go.Proofs.Ytljpjjokfkbdcaa
open Go.RowKit

/-- The sort as it is asked for, of parts up to the length N. -/
def PdqOk (w0 : World) (b n c N : Nat) : Prop :=
  ∀ (p q lim : Nat) (g : Nat → Nat) (w : World), q - p < N → SB w0 b n g w → Bs.Lo p q g → p ≤ q → q ≤ n → lim ≤ 64 →
    Calls Try.prog 32 #[.slice (some ⟨b, 0, none⟩) n c, .int .i64 (p : Int), .int .i64 (q : Int), .int .i64 (lim : Int)] w (SrtB w0 b n p q g)
theorem PdqOk.at_ {w0 : World} {b n c N : Nat} (h : PdqOk w0 b n c N) (p q lim : Nat) (g : Nat → Nat) (w : World) (h0 : q - p < N) (h1 : SB w0 b n g w) (h2 : Bs.Lo p q g) (h3 : p ≤ q) (h4 : q ≤ n) (h5 : lim ≤ 64) :
    Calls Try.prog 32 #[.slice (some ⟨b, 0, none⟩) n c, .int .i64 (p : Int), .int .i64 (q : Int), .int .i64 (lim : Int)] w (SrtB w0 b n p q g) := h p q lim g w h0 h1 h2 h3 h4 h5
set_option maxRecDepth 100000 in
set_option maxHeartbeats 40000000 in
theorem pdq_step (w0 : World) (b n c N p q lim : Nat) (g : Nat → Nat) (w : World) (IH : Hid (PdqOk w0 b n c N)) (hN : q - p < N + 1) (H : SB w0 b n g w) (hlo : Bs.Lo p q g) (hpq : p ≤ q) (hqn : q ≤ n) (hl64 : lim ≤ 64) (hn : n ≤ 1000) :
    Calls Try.prog 32 #[.slice (some ⟨b, 0, none⟩) n c, .int .i64 (p : Int), .int .i64 (q : Int), .int .i64 (lim : Int)] w (SrtB w0 b n p q g) := by
  have HH := hid H
  have HLO := hid hlo
  have HN := hid hN
  clear H hlo hN
  go_enter Try.func32, Try.ntmps32
  go_wp2
  go_loopw [1, 2, 3, 8, 9] (fun x1 x2 x3 x4 x5 wr => ∃ (a d lim : Nat) (wb wp : Bool), x1 = .int .i64 (a : Int) ∧ x2 = .int .i64 (d : Int) ∧ x3 = .int .i64 (lim : Int) ∧ x4 = .bool wb ∧ x5 = .bool wp ∧ p ≤ a ∧ a ≤ d ∧ d ≤ q ∧ lim ≤ 64 ∧ Hid (∃ h, Bs.PB p q g h ∧ Bs.Md p q a d h ∧ SB w0 b n h wr)) (fun x1 x2 _ _ _ _ => (intOf x2).toNat - (intOf x1).toNat)
  case atStart => exact ⟨p, q, lim, true, true, rfl, rfl, rfl, rfl, rfl, Nat.le_refl _, hpq, Nat.le_refl _, hl64, hid ⟨g, Bs.PB.refl _ _ _, Bs.Md.start p q g, HH.out⟩⟩
  case round =>
    clear HH hl64
    obtain ⟨a, d, lim, wb, wp, rfl, rfl, rfl, rfl, rfl, hpa, had, hdq, hlm, HR⟩ := hrel
    obtain ⟨hc, hpb, hmd, hsb⟩ := HR.out
    have HPB := hid hpb
    have HMD := hid hmd
    have HSB := hid hsb
    clear HR hpb hmd hsb
    obtain ⟨l, hl⟩ : ∃ l, l = d - a := ⟨_, rfl⟩
    have el : (d : Int) - (a : Int) = (l : Int) := by omega
    have hlb : l ≤ 1000 := by omega
    have hla : a + l = d := by omega
    clear hl
    by_cases h12 : l ≤ 12
    · have h12' : (l : Int) ≤ 12 := by omega
      go_wp2_with fail
      with_reducible refine (insB_any w0 b n c a d hc _ HSB.out had (by omega) hn).mono ?_
      rintro e w2 ⟨rfl, h2, pb2, sb2, s2⟩
      have HF := hid (show SrtB w0 b n p q g (.returned (.tuple #[])) w2 from ⟨rfl, h2, HPB.out.trans (pb2.mono hpa hdq), (HMD.out.pb pb2 hpa hdq).done sb2, s2⟩)
      clear pb2 sb2 s2
      go_wp2
      refine bodyPost_ret (results_none rfl _ _ _) rfl ?_
      exact HF.out
    · have h12' : decide ((l : Int) ≤ 12) = false := decide_eq_false (by omega)
      have h122 : decide (l ≤ 12) = false := decide_eq_false h12
      by_cases hlim : lim = 0
      · subst hlim
        go_wp2_with fail
        with_reducible refine (heapB_any w0 b n c a d hc _ HSB.out (by omega) (by omega) hn).mono ?_
        rintro e w2 ⟨rfl, h2, pb2, sb2, s2⟩
        have HF := hid (show SrtB w0 b n p q g (.returned (.tuple #[])) w2 from ⟨rfl, h2, HPB.out.trans (pb2.mono hpa hdq), (HMD.out.pb pb2 hpa hdq).done sb2, s2⟩)
        clear pb2 sb2 s2
        go_wp2
        refine bodyPost_ret (results_none rfl _ _ _) rfl ?_
        exact HF.out
      · have hlim' : ((lim : Int) == 0) = false := beq_eq_false_iff_ne.2 (by omega)
        cases wb
        · obtain ⟨limc, hlc⟩ : ∃ limc, lim = limc + 1 := ⟨lim - 1, by omega⟩
          have elc : (lim : Int) - 1 = (limc : Int) := by omega
          have hlimc : limc ≤ 64 := by omega
          clear hlc
          go_wp2_with fail
          with_reducible refine (brkB_any w0 b n c a d hc _ HSB.out (by omega) (by omega) hn).mono ?_
          rintro e w2 ⟨rfl, h2, pb2, s2⟩
          have HPBn := hid (HPB.out.trans (pb2.mono hpa hdq))
          have HMDn := hid (HMD.out.pb pb2 hpa hdq)
          have HSBn := hid s2
          clear pb2 s2 HPB HMD HSB
          obtain ⟨hc, HPB, HMD, HSB⟩ : ∃ hc, Hid (Bs.PB p q g hc) ∧ Hid (Bs.Md p q a d hc) ∧ Hid (SB w0 b n hc w2) := ⟨h2, HPBn, HMDn, HSBn⟩
          clear HPBn HMDn HSBn
          go_wp2_with fail
          with_reducible refine (pivB_any w0 b n c a d hc _ HSB.out (by omega) (by omega) hn).mono ?_
          rintro e w3 ⟨x, t, rfl, ht, hax, hxd, s3⟩
          have HSB := hid s3
          clear s3
          rcases ht with rfl | rfl | rfl
          · as_aux_lemma =>
              have hxn : x < n := by omega
              have hxn' : (x : Int) < (n : Int) := by omega
              have cx := HSB.out.row x hxn
              obtain ⟨PX, hPX⟩ : ∃ PX, PX = hc x := ⟨_, rfl⟩
              rw [← hPX] at cx
              by_cases ha0 : 0 < a
              · have ha0' : (0 : Int) < (a : Int) := by omega
                obtain ⟨a1, ha1⟩ : ∃ a1, a = a1 + 1 := ⟨a - 1, by omega⟩
                have ea1 : (a : Int) - 1 = (a1 : Int) := by omega
                have wa1 : IntKind.i64.wrap (a1 : Int) = (a1 : Int) := IntWalk.i64_in _ (by omega)
                have za1 : (0 : Int) ≤ (a1 : Int) := by omega
                have ha1n : a1 < n := by omega
                have ha1n' : (a1 : Int) < (n : Int) := by omega
                have ca1 := HSB.out.row a1 ha1n
                obtain ⟨A1, hA1⟩ : ∃ A1, A1 = hc a1 := ⟨_, rfl⟩
                rw [← hA1] at ca1
                have HCC := hid (fun W => less_any A1 PX W)
                by_cases hless : A1 < PX
                · rw [decide_eq_true hless] at HCC
                  clear hless hPX hA1 ha1
                  go_wp2
                  go_quiet ((go_at_call 46; exact (HCC.out _).mono fun e w' h => ⟨h.1, quiet_d0 h.2⟩))
                  go_wp2_with fail
                  with_reducible refine (partB_any w0 b n c a d x hc _ ?hsb (by omega) (by omega) (by omega) (by omega) hn).mono ?_
                  case hsb => first | exact HSB.out | exact HSB.out.drewN _
                  rintro e w5 ⟨mid, fl, rfl, h5, pb5, ct5, s5⟩
                  have HPB5 := hid (HPB.out.trans (pb5.mono hpa hdq))
                  have HMD5 := hid (HMD.out.pb pb5 hpa hdq)
                  have HCT := hid ct5
                  have HS5 := hid s5
                  have hmid1 := ct5.cm
                  have hmid2 := ct5.md
                  clear pb5 ct5 s5 HPB HMD HSB
                  obtain ⟨ll, hll⟩ : ∃ ll, ll = mid - a := ⟨_, rfl⟩
                  obtain ⟨rl, hrl⟩ : ∃ rl, rl = d - mid := ⟨_, rfl⟩
                  obtain ⟨m1, hm1⟩ : ∃ m1, m1 = mid + 1 := ⟨_, rfl⟩
                  have ell : (mid : Int) - (a : Int) = (ll : Int) := by omega
                  have erl : (d : Int) - (mid : Int) = (rl : Int) := by omega
                  have em1 : (mid : Int) + 1 = (m1 : Int) := by omega
                  obtain ⟨l8, hl8⟩ : ∃ l8, l8 = l / 8 := ⟨_, rfl⟩
                  have el8 : (l : Int) / 8 = (l8 : Int) := by omega
                  have el8' : (l : Int).tdiv 8 = (l8 : Int) := by rw [Int.tdiv_eq_ediv_of_nonneg (by omega)]; exact el8
                  have hb1 : ll ≤ 1000 := by omega
                  have hb2 : rl ≤ 1000 := by omega
                  have hb3 : m1 ≤ 1001 := by omega
                  have hb4 : l8 ≤ 1000 := by omega
                  have HMM := hid hm1
                  have HLL := hid hll
                  have HLO5 := hid (HMD5.out.lo (HLO.out.pb HPB5.out) hpa hdq)
                  by_cases hlr : ll < rl
                  · have hlr' : (ll : Int) < (rl : Int) := by omega
                    obtain ⟨wb2, hwb2⟩ : ∃ wb2, wb2 = decide (l8 ≤ ll) := ⟨_, rfl⟩
                    have ewb2 : decide ((l8 : Int) ≤ (ll : Int)) = wb2 := by rw [hwb2]; exact decide_eq_decide.2 (by omega)
                    have ewb3 : decide (l8 ≤ ll) = wb2 := hwb2.symm
                    clear hll hrl hm1 hl8 hwb2
                    go_wp2_with fail
                    with_reducible refine (IH.out.at_ a mid limc h5 _ (by have := HN.out; omega) HS5.out (HLO5.out.left (by omega)) hmid1 (by omega) hlimc).mono ?_
                    rintro e w6 ⟨rfl, h6, pb6, sb6, s6⟩
                    have HPB6 := hid (HPB5.out.trans (pb6.mono hpa (by omega)))
                    have HMD6 := hid ((HMD5.out.pb (pb6.mono (Nat.le_refl _) (by omega)) hpa hdq).cutl (HCT.out.left pb6) sb6)
                    have HS6 := hid s6
                    clear pb6 sb6 s6
                    go_wp2
                    go_roundw
                    case measure => have := HMM.out; simp [intOf]; omega
                    case rel =>
                      have hm1 := HMM.out
                      exact ⟨m1, d, limc, wb2, fl, by first | rfl | go_num, rfl, rfl, by first | rfl | simp only [ewb2] | simp only [ewb3], rfl, by omega, by omega, hdq, hlimc, hid ⟨h6, HPB6.out, by rw [hm1]; exact HMD6.out, HS6.out⟩⟩
                  · have hlr' : decide ((ll : Int) < (rl : Int)) = false := decide_eq_false (by omega)
                    have hlr2 : decide (ll < rl) = false := decide_eq_false hlr
                    obtain ⟨wb2, hwb2⟩ : ∃ wb2, wb2 = decide (l8 ≤ rl) := ⟨_, rfl⟩
                    have ewb2 : decide ((l8 : Int) ≤ (rl : Int)) = wb2 := by rw [hwb2]; exact decide_eq_decide.2 (by omega)
                    have ewb3 : decide (l8 ≤ rl) = wb2 := hwb2.symm
                    have HCR := hid (show Bs.Lo m1 d h5 by rw [hm1]; exact HCT.out.lo)
                    clear hll hrl hm1 hl8 hwb2
                    go_wp2_with fail
                    with_reducible refine (IH.out.at_ m1 d limc h5 _ (by have := HN.out; have := HMM.out; omega) HS5.out HCR.out (by have := HMM.out; omega) (by omega) hlimc).mono ?_
                    rintro e w6 ⟨rfl, h6, pb6, sb6, s6⟩
                    have hm1 := HMM.out
                    have HPB6 := hid (HPB5.out.trans (pb6.mono (by omega) hdq))
                    have HMD6 : Hid (Bs.Md p q a mid h6) := by
                      rw [hm1] at pb6 sb6
                      exact (HMD5.out.pb (pb6.mono (by omega) (Nat.le_refl _)) hpa hdq).cutr (HCT.out.right pb6) sb6
                    have HS6 := hid s6
                    clear pb6 sb6 s6 hm1
                    go_wp2
                    go_roundw
                    case measure => simp [intOf]; omega
                    case rel => exact ⟨a, mid, limc, wb2, fl, rfl, rfl, rfl, by first | rfl | simp only [ewb2] | simp only [ewb3], rfl, hpa, hmid1, by omega, hlimc, hid ⟨h6, HPB6.out, HMD6.out, HS6.out⟩⟩
                · rw [decide_eq_false hless] at HCC
                  have HPXA := hid (show hc x ≤ hc (a - 1) by rw [show a - 1 = a1 by omega, ← hPX, ← hA1]; omega)
                  clear hless hPX hA1 ha1
                  go_wp2
                  go_quiet ((go_at_call 46; exact (HCC.out _).mono fun e w' h => ⟨h.1, quiet_d0 h.2⟩))
                  go_wp2_with fail
                  with_reducible refine (eqB_any w0 b n c a d x hc _ ?hsb (by omega) (by omega) (by omega) (by omega) hn).mono ?_
                  case hsb => first | exact HSB.out.drewN _ | exact HSB.out
                  rintro e w5 ⟨mid, h5, rfl, pb5, pe5, s5⟩
                  have HPB5 := hid (HPB.out.trans (pb5.mono hpa hdq))
                  have HMD5 := hid (HMD.out.pb pb5 hpa hdq)
                  have HLO5 := hid (HMD5.out.lo (HLO.out.pb HPB5.out) hpa hdq)
                  have HMD6 : Hid (Bs.Md p q mid d h5) := by
                    refine HMD5.out.equal (p := h5 a) (fun k k1 k2 => ?_) (fun k k1 k2 => pe5.le k k1 k2)
                    have q1 := HLO5.out ha0 k k1 k2
                    have q2 := HPXA.out
                    rw [pe5.pv]
                    rw [pb5.out (k := a - 1) (by omega)] at q1
                    omega
                  have HS5 := hid s5
                  have hmid1 := pe5.lo
                  have hmid2 := pe5.jd
                  clear pb5 pe5 s5 HPB HMD HSB
                  go_wp2
                  go_roundw
                  case measure => simp [intOf]; omega
                  case rel => exact ⟨mid, d, limc, false, wp, rfl, rfl, rfl, rfl, rfl, by omega, hmid2, hdq, hlimc, hid ⟨h5, HPB5.out, HMD6.out, HS5.out⟩⟩
              · have ha0' : decide ((0 : Int) < (a : Int)) = false := decide_eq_false (by omega)
                have ha02 : decide (0 < a) = false := decide_eq_false ha0
                clear hPX
                go_wp2
                go_quiet (fail)
                go_wp2_with fail
                with_reducible refine (partB_any w0 b n c a d x hc _ ?hsb (by omega) (by omega) (by omega) (by omega) hn).mono ?_
                case hsb => first | exact HSB.out | exact HSB.out.drewN _
                rintro e w5 ⟨mid, fl, rfl, h5, pb5, ct5, s5⟩
                have HPB5 := hid (HPB.out.trans (pb5.mono hpa hdq))
                have HMD5 := hid (HMD.out.pb pb5 hpa hdq)
                have HCT := hid ct5
                have HS5 := hid s5
                have hmid1 := ct5.cm
                have hmid2 := ct5.md
                clear pb5 ct5 s5 HPB HMD HSB
                obtain ⟨ll, hll⟩ : ∃ ll, ll = mid - a := ⟨_, rfl⟩
                obtain ⟨rl, hrl⟩ : ∃ rl, rl = d - mid := ⟨_, rfl⟩
                obtain ⟨m1, hm1⟩ : ∃ m1, m1 = mid + 1 := ⟨_, rfl⟩
                have ell : (mid : Int) - (a : Int) = (ll : Int) := by omega
                have erl : (d : Int) - (mid : Int) = (rl : Int) := by omega
                have em1 : (mid : Int) + 1 = (m1 : Int) := by omega
                obtain ⟨l8, hl8⟩ : ∃ l8, l8 = l / 8 := ⟨_, rfl⟩
                have el8 : (l : Int) / 8 = (l8 : Int) := by omega
                have el8' : (l : Int).tdiv 8 = (l8 : Int) := by rw [Int.tdiv_eq_ediv_of_nonneg (by omega)]; exact el8
                have hb1 : ll ≤ 1000 := by omega
                have hb2 : rl ≤ 1000 := by omega
                have hb3 : m1 ≤ 1001 := by omega
                have hb4 : l8 ≤ 1000 := by omega
                have HMM := hid hm1
                have HLL := hid hll
                have HLO5 := hid (HMD5.out.lo (HLO.out.pb HPB5.out) hpa hdq)
                by_cases hlr : ll < rl
                · have hlr' : (ll : Int) < (rl : Int) := by omega
                  obtain ⟨wb2, hwb2⟩ : ∃ wb2, wb2 = decide (l8 ≤ ll) := ⟨_, rfl⟩
                  have ewb2 : decide ((l8 : Int) ≤ (ll : Int)) = wb2 := by rw [hwb2]; exact decide_eq_decide.2 (by omega)
                  have ewb3 : decide (l8 ≤ ll) = wb2 := hwb2.symm
                  clear hll hrl hm1 hl8 hwb2
                  go_wp2_with fail
                  with_reducible refine (IH.out.at_ a mid limc h5 _ (by have := HN.out; omega) HS5.out (HLO5.out.left (by omega)) hmid1 (by omega) hlimc).mono ?_
                  rintro e w6 ⟨rfl, h6, pb6, sb6, s6⟩
                  have HPB6 := hid (HPB5.out.trans (pb6.mono hpa (by omega)))
                  have HMD6 := hid ((HMD5.out.pb (pb6.mono (Nat.le_refl _) (by omega)) hpa hdq).cutl (HCT.out.left pb6) sb6)
                  have HS6 := hid s6
                  clear pb6 sb6 s6
                  go_wp2
                  go_roundw
                  case measure => have := HMM.out; simp [intOf]; omega
                  case rel =>
                    have hm1 := HMM.out
                    exact ⟨m1, d, limc, wb2, fl, by first | rfl | go_num, rfl, rfl, by first | rfl | simp only [ewb2] | simp only [ewb3], rfl, by omega, by omega, hdq, hlimc, hid ⟨h6, HPB6.out, by rw [hm1]; exact HMD6.out, HS6.out⟩⟩
                · have hlr' : decide ((ll : Int) < (rl : Int)) = false := decide_eq_false (by omega)
                  have hlr2 : decide (ll < rl) = false := decide_eq_false hlr
                  obtain ⟨wb2, hwb2⟩ : ∃ wb2, wb2 = decide (l8 ≤ rl) := ⟨_, rfl⟩
                  have ewb2 : decide ((l8 : Int) ≤ (rl : Int)) = wb2 := by rw [hwb2]; exact decide_eq_decide.2 (by omega)
                  have ewb3 : decide (l8 ≤ rl) = wb2 := hwb2.symm
                  have HCR := hid (show Bs.Lo m1 d h5 by rw [hm1]; exact HCT.out.lo)
                  clear hll hrl hm1 hl8 hwb2
                  go_wp2_with fail
                  with_reducible refine (IH.out.at_ m1 d limc h5 _ (by have := HN.out; have := HMM.out; omega) HS5.out HCR.out (by have := HMM.out; omega) (by omega) hlimc).mono ?_
                  rintro e w6 ⟨rfl, h6, pb6, sb6, s6⟩
                  have hm1 := HMM.out
                  have HPB6 := hid (HPB5.out.trans (pb6.mono (by omega) hdq))
                  have HMD6 : Hid (Bs.Md p q a mid h6) := by
                    rw [hm1] at pb6 sb6
                    exact (HMD5.out.pb (pb6.mono (by omega) (Nat.le_refl _)) hpa hdq).cutr (HCT.out.right pb6) sb6
                  have HS6 := hid s6
                  clear pb6 sb6 s6 hm1
                  go_wp2
                  go_roundw
                  case measure => simp [intOf]; omega
                  case rel => exact ⟨a, mid, limc, wb2, fl, rfl, rfl, rfl, by first | rfl | simp only [ewb2] | simp only [ewb3], rfl, hpa, hmid1, by omega, hlimc, hid ⟨h6, HPB6.out, HMD6.out, HS6.out⟩⟩
          · as_aux_lemma =>
              have hxn : x < n := by omega
              have hxn' : (x : Int) < (n : Int) := by omega
              have cx := HSB.out.row x hxn
              obtain ⟨PX, hPX⟩ : ∃ PX, PX = hc x := ⟨_, rfl⟩
              rw [← hPX] at cx
              by_cases ha0 : 0 < a
              · have ha0' : (0 : Int) < (a : Int) := by omega
                obtain ⟨a1, ha1⟩ : ∃ a1, a = a1 + 1 := ⟨a - 1, by omega⟩
                have ea1 : (a : Int) - 1 = (a1 : Int) := by omega
                have wa1 : IntKind.i64.wrap (a1 : Int) = (a1 : Int) := IntWalk.i64_in _ (by omega)
                have za1 : (0 : Int) ≤ (a1 : Int) := by omega
                have ha1n : a1 < n := by omega
                have ha1n' : (a1 : Int) < (n : Int) := by omega
                have ca1 := HSB.out.row a1 ha1n
                obtain ⟨A1, hA1⟩ : ∃ A1, A1 = hc a1 := ⟨_, rfl⟩
                rw [← hA1] at ca1
                have HCC := hid (fun W => less_any A1 PX W)
                by_cases hless : A1 < PX
                · rw [decide_eq_true hless] at HCC
                  clear hless hPX hA1 ha1
                  go_wp2
                  go_quiet ((go_at_call 46; exact (HCC.out _).mono fun e w' h => ⟨h.1, quiet_d0 h.2⟩))
                  go_wp2_with fail
                  with_reducible refine (partB_any w0 b n c a d x hc _ ?hsb (by omega) (by omega) (by omega) (by omega) hn).mono ?_
                  case hsb => first | exact HSB.out | exact HSB.out.drewN _
                  rintro e w5 ⟨mid, fl, rfl, h5, pb5, ct5, s5⟩
                  have HPB5 := hid (HPB.out.trans (pb5.mono hpa hdq))
                  have HMD5 := hid (HMD.out.pb pb5 hpa hdq)
                  have HCT := hid ct5
                  have HS5 := hid s5
                  have hmid1 := ct5.cm
                  have hmid2 := ct5.md
                  clear pb5 ct5 s5 HPB HMD HSB
                  obtain ⟨ll, hll⟩ : ∃ ll, ll = mid - a := ⟨_, rfl⟩
                  obtain ⟨rl, hrl⟩ : ∃ rl, rl = d - mid := ⟨_, rfl⟩
                  obtain ⟨m1, hm1⟩ : ∃ m1, m1 = mid + 1 := ⟨_, rfl⟩
                  have ell : (mid : Int) - (a : Int) = (ll : Int) := by omega
                  have erl : (d : Int) - (mid : Int) = (rl : Int) := by omega
                  have em1 : (mid : Int) + 1 = (m1 : Int) := by omega
                  obtain ⟨l8, hl8⟩ : ∃ l8, l8 = l / 8 := ⟨_, rfl⟩
                  have el8 : (l : Int) / 8 = (l8 : Int) := by omega
                  have el8' : (l : Int).tdiv 8 = (l8 : Int) := by rw [Int.tdiv_eq_ediv_of_nonneg (by omega)]; exact el8
                  have hb1 : ll ≤ 1000 := by omega
                  have hb2 : rl ≤ 1000 := by omega
                  have hb3 : m1 ≤ 1001 := by omega
                  have hb4 : l8 ≤ 1000 := by omega
                  have HMM := hid hm1
                  have HLL := hid hll
                  have HLO5 := hid (HMD5.out.lo (HLO.out.pb HPB5.out) hpa hdq)
                  by_cases hlr : ll < rl
                  · have hlr' : (ll : Int) < (rl : Int) := by omega
                    obtain ⟨wb2, hwb2⟩ : ∃ wb2, wb2 = decide (l8 ≤ ll) := ⟨_, rfl⟩
                    have ewb2 : decide ((l8 : Int) ≤ (ll : Int)) = wb2 := by rw [hwb2]; exact decide_eq_decide.2 (by omega)
                    have ewb3 : decide (l8 ≤ ll) = wb2 := hwb2.symm
                    clear hll hrl hm1 hl8 hwb2
                    go_wp2_with fail
                    with_reducible refine (IH.out.at_ a mid limc h5 _ (by have := HN.out; omega) HS5.out (HLO5.out.left (by omega)) hmid1 (by omega) hlimc).mono ?_
                    rintro e w6 ⟨rfl, h6, pb6, sb6, s6⟩
                    have HPB6 := hid (HPB5.out.trans (pb6.mono hpa (by omega)))
                    have HMD6 := hid ((HMD5.out.pb (pb6.mono (Nat.le_refl _) (by omega)) hpa hdq).cutl (HCT.out.left pb6) sb6)
                    have HS6 := hid s6
                    clear pb6 sb6 s6
                    go_wp2
                    go_roundw
                    case measure => have := HMM.out; simp [intOf]; omega
                    case rel =>
                      have hm1 := HMM.out
                      exact ⟨m1, d, limc, wb2, fl, by first | rfl | go_num, rfl, rfl, by first | rfl | simp only [ewb2] | simp only [ewb3], rfl, by omega, by omega, hdq, hlimc, hid ⟨h6, HPB6.out, by rw [hm1]; exact HMD6.out, HS6.out⟩⟩
                  · have hlr' : decide ((ll : Int) < (rl : Int)) = false := decide_eq_false (by omega)
                    have hlr2 : decide (ll < rl) = false := decide_eq_false hlr
                    obtain ⟨wb2, hwb2⟩ : ∃ wb2, wb2 = decide (l8 ≤ rl) := ⟨_, rfl⟩
                    have ewb2 : decide ((l8 : Int) ≤ (rl : Int)) = wb2 := by rw [hwb2]; exact decide_eq_decide.2 (by omega)
                    have ewb3 : decide (l8 ≤ rl) = wb2 := hwb2.symm
                    have HCR := hid (show Bs.Lo m1 d h5 by rw [hm1]; exact HCT.out.lo)
                    clear hll hrl hm1 hl8 hwb2
                    go_wp2_with fail
                    with_reducible refine (IH.out.at_ m1 d limc h5 _ (by have := HN.out; have := HMM.out; omega) HS5.out HCR.out (by have := HMM.out; omega) (by omega) hlimc).mono ?_
                    rintro e w6 ⟨rfl, h6, pb6, sb6, s6⟩
                    have hm1 := HMM.out
                    have HPB6 := hid (HPB5.out.trans (pb6.mono (by omega) hdq))
                    have HMD6 : Hid (Bs.Md p q a mid h6) := by
                      rw [hm1] at pb6 sb6
                      exact (HMD5.out.pb (pb6.mono (by omega) (Nat.le_refl _)) hpa hdq).cutr (HCT.out.right pb6) sb6
                    have HS6 := hid s6
                    clear pb6 sb6 s6 hm1
                    go_wp2
                    go_roundw
                    case measure => simp [intOf]; omega
                    case rel => exact ⟨a, mid, limc, wb2, fl, rfl, rfl, rfl, by first | rfl | simp only [ewb2] | simp only [ewb3], rfl, hpa, hmid1, by omega, hlimc, hid ⟨h6, HPB6.out, HMD6.out, HS6.out⟩⟩
                · rw [decide_eq_false hless] at HCC
                  have HPXA := hid (show hc x ≤ hc (a - 1) by rw [show a - 1 = a1 by omega, ← hPX, ← hA1]; omega)
                  clear hless hPX hA1 ha1
                  go_wp2
                  go_quiet ((go_at_call 46; exact (HCC.out _).mono fun e w' h => ⟨h.1, quiet_d0 h.2⟩))
                  go_wp2_with fail
                  with_reducible refine (eqB_any w0 b n c a d x hc _ ?hsb (by omega) (by omega) (by omega) (by omega) hn).mono ?_
                  case hsb => first | exact HSB.out.drewN _ | exact HSB.out
                  rintro e w5 ⟨mid, h5, rfl, pb5, pe5, s5⟩
                  have HPB5 := hid (HPB.out.trans (pb5.mono hpa hdq))
                  have HMD5 := hid (HMD.out.pb pb5 hpa hdq)
                  have HLO5 := hid (HMD5.out.lo (HLO.out.pb HPB5.out) hpa hdq)
                  have HMD6 : Hid (Bs.Md p q mid d h5) := by
                    refine HMD5.out.equal (p := h5 a) (fun k k1 k2 => ?_) (fun k k1 k2 => pe5.le k k1 k2)
                    have q1 := HLO5.out ha0 k k1 k2
                    have q2 := HPXA.out
                    rw [pe5.pv]
                    rw [pb5.out (k := a - 1) (by omega)] at q1
                    omega
                  have HS5 := hid s5
                  have hmid1 := pe5.lo
                  have hmid2 := pe5.jd
                  clear pb5 pe5 s5 HPB HMD HSB
                  go_wp2
                  go_roundw
                  case measure => simp [intOf]; omega
                  case rel => exact ⟨mid, d, limc, false, wp, rfl, rfl, rfl, rfl, rfl, by omega, hmid2, hdq, hlimc, hid ⟨h5, HPB5.out, HMD6.out, HS5.out⟩⟩
              · have ha0' : decide ((0 : Int) < (a : Int)) = false := decide_eq_false (by omega)
                have ha02 : decide (0 < a) = false := decide_eq_false ha0
                clear hPX
                go_wp2
                go_quiet (fail)
                go_wp2_with fail
                with_reducible refine (partB_any w0 b n c a d x hc _ ?hsb (by omega) (by omega) (by omega) (by omega) hn).mono ?_
                case hsb => first | exact HSB.out | exact HSB.out.drewN _
                rintro e w5 ⟨mid, fl, rfl, h5, pb5, ct5, s5⟩
                have HPB5 := hid (HPB.out.trans (pb5.mono hpa hdq))
                have HMD5 := hid (HMD.out.pb pb5 hpa hdq)
                have HCT := hid ct5
                have HS5 := hid s5
                have hmid1 := ct5.cm
                have hmid2 := ct5.md
                clear pb5 ct5 s5 HPB HMD HSB
                obtain ⟨ll, hll⟩ : ∃ ll, ll = mid - a := ⟨_, rfl⟩
                obtain ⟨rl, hrl⟩ : ∃ rl, rl = d - mid := ⟨_, rfl⟩
                obtain ⟨m1, hm1⟩ : ∃ m1, m1 = mid + 1 := ⟨_, rfl⟩
                have ell : (mid : Int) - (a : Int) = (ll : Int) := by omega
                have erl : (d : Int) - (mid : Int) = (rl : Int) := by omega
                have em1 : (mid : Int) + 1 = (m1 : Int) := by omega
                obtain ⟨l8, hl8⟩ : ∃ l8, l8 = l / 8 := ⟨_, rfl⟩
                have el8 : (l : Int) / 8 = (l8 : Int) := by omega
                have el8' : (l : Int).tdiv 8 = (l8 : Int) := by rw [Int.tdiv_eq_ediv_of_nonneg (by omega)]; exact el8
                have hb1 : ll ≤ 1000 := by omega
                have hb2 : rl ≤ 1000 := by omega
                have hb3 : m1 ≤ 1001 := by omega
                have hb4 : l8 ≤ 1000 := by omega
                have HMM := hid hm1
                have HLL := hid hll
                have HLO5 := hid (HMD5.out.lo (HLO.out.pb HPB5.out) hpa hdq)
                by_cases hlr : ll < rl
                · have hlr' : (ll : Int) < (rl : Int) := by omega
                  obtain ⟨wb2, hwb2⟩ : ∃ wb2, wb2 = decide (l8 ≤ ll) := ⟨_, rfl⟩
                  have ewb2 : decide ((l8 : Int) ≤ (ll : Int)) = wb2 := by rw [hwb2]; exact decide_eq_decide.2 (by omega)
                  have ewb3 : decide (l8 ≤ ll) = wb2 := hwb2.symm
                  clear hll hrl hm1 hl8 hwb2
                  go_wp2_with fail
                  with_reducible refine (IH.out.at_ a mid limc h5 _ (by have := HN.out; omega) HS5.out (HLO5.out.left (by omega)) hmid1 (by omega) hlimc).mono ?_
                  rintro e w6 ⟨rfl, h6, pb6, sb6, s6⟩
                  have HPB6 := hid (HPB5.out.trans (pb6.mono hpa (by omega)))
                  have HMD6 := hid ((HMD5.out.pb (pb6.mono (Nat.le_refl _) (by omega)) hpa hdq).cutl (HCT.out.left pb6) sb6)
                  have HS6 := hid s6
                  clear pb6 sb6 s6
                  go_wp2
                  go_roundw
                  case measure => have := HMM.out; simp [intOf]; omega
                  case rel =>
                    have hm1 := HMM.out
                    exact ⟨m1, d, limc, wb2, fl, by first | rfl | go_num, rfl, rfl, by first | rfl | simp only [ewb2] | simp only [ewb3], rfl, by omega, by omega, hdq, hlimc, hid ⟨h6, HPB6.out, by rw [hm1]; exact HMD6.out, HS6.out⟩⟩
                · have hlr' : decide ((ll : Int) < (rl : Int)) = false := decide_eq_false (by omega)
                  have hlr2 : decide (ll < rl) = false := decide_eq_false hlr
                  obtain ⟨wb2, hwb2⟩ : ∃ wb2, wb2 = decide (l8 ≤ rl) := ⟨_, rfl⟩
                  have ewb2 : decide ((l8 : Int) ≤ (rl : Int)) = wb2 := by rw [hwb2]; exact decide_eq_decide.2 (by omega)
                  have ewb3 : decide (l8 ≤ rl) = wb2 := hwb2.symm
                  have HCR := hid (show Bs.Lo m1 d h5 by rw [hm1]; exact HCT.out.lo)
                  clear hll hrl hm1 hl8 hwb2
                  go_wp2_with fail
                  with_reducible refine (IH.out.at_ m1 d limc h5 _ (by have := HN.out; have := HMM.out; omega) HS5.out HCR.out (by have := HMM.out; omega) (by omega) hlimc).mono ?_
                  rintro e w6 ⟨rfl, h6, pb6, sb6, s6⟩
                  have hm1 := HMM.out
                  have HPB6 := hid (HPB5.out.trans (pb6.mono (by omega) hdq))
                  have HMD6 : Hid (Bs.Md p q a mid h6) := by
                    rw [hm1] at pb6 sb6
                    exact (HMD5.out.pb (pb6.mono (by omega) (Nat.le_refl _)) hpa hdq).cutr (HCT.out.right pb6) sb6
                  have HS6 := hid s6
                  clear pb6 sb6 s6 hm1
                  go_wp2
                  go_roundw
                  case measure => simp [intOf]; omega
                  case rel => exact ⟨a, mid, limc, wb2, fl, rfl, rfl, rfl, by first | rfl | simp only [ewb2] | simp only [ewb3], rfl, hpa, hmid1, by omega, hlimc, hid ⟨h6, HPB6.out, HMD6.out, HS6.out⟩⟩
          · go_wp2_with fail
            with_reducible refine (revB_any w0 b n c a d hc _ HSB.out (by omega) (by omega) hn).mono ?_
            rintro e w4 ⟨rfl, h4, pb4, s4⟩
            have HPBn := hid (HPB.out.trans (pb4.mono hpa hdq))
            have HMDn := hid (HMD.out.pb pb4 hpa hdq)
            have HSBn := hid s4
            clear pb4 s4 HPB HMD HSB
            obtain ⟨d1, hd1⟩ : ∃ d1, d = d1 + 1 := ⟨d - 1, by omega⟩
            obtain ⟨xa, hxa⟩ : ∃ xa, xa = x - a := ⟨_, rfl⟩
            obtain ⟨y, hy⟩ : ∃ y, y = d1 - xa := ⟨_, rfl⟩
            have ed1 : (d : Int) - 1 = (d1 : Int) := by omega
            have exa : (x : Int) - (a : Int) = (xa : Int) := by omega
            have ey : (d1 : Int) - (xa : Int) = (y : Int) := by omega
            have hay : a ≤ y := by omega
            have hyd : y < d := by omega
            have hd1b : d1 ≤ 1000 := by omega
            have hxab : xa ≤ 1000 := by omega
            clear hd1 hxa hy
            obtain ⟨hc, HPB, HMD, HSB⟩ : ∃ hc, Hid (Bs.PB p q g hc) ∧ Hid (Bs.Md p q a d hc) ∧ Hid (SB w0 b n hc w4) := ⟨h4, HPBn, HMDn, HSBn⟩
            clear HPBn HMDn HSBn
            as_aux_lemma =>
              have hxn : y < n := by omega
              have hxn' : (y : Int) < (n : Int) := by omega
              have cx := HSB.out.row y hxn
              obtain ⟨PX, hPX⟩ : ∃ PX, PX = hc y := ⟨_, rfl⟩
              rw [← hPX] at cx
              by_cases ha0 : 0 < a
              · have ha0' : (0 : Int) < (a : Int) := by omega
                obtain ⟨a1, ha1⟩ : ∃ a1, a = a1 + 1 := ⟨a - 1, by omega⟩
                have ea1 : (a : Int) - 1 = (a1 : Int) := by omega
                have wa1 : IntKind.i64.wrap (a1 : Int) = (a1 : Int) := IntWalk.i64_in _ (by omega)
                have za1 : (0 : Int) ≤ (a1 : Int) := by omega
                have ha1n : a1 < n := by omega
                have ha1n' : (a1 : Int) < (n : Int) := by omega
                have ca1 := HSB.out.row a1 ha1n
                obtain ⟨A1, hA1⟩ : ∃ A1, A1 = hc a1 := ⟨_, rfl⟩
                rw [← hA1] at ca1
                have HCC := hid (fun W => less_any A1 PX W)
                by_cases hless : A1 < PX
                · rw [decide_eq_true hless] at HCC
                  clear hless hPX hA1 ha1
                  go_wp2
                  go_quiet ((go_at_call 46; exact (HCC.out _).mono fun e w' h => ⟨h.1, quiet_d0 h.2⟩))
                  go_wp2_with fail
                  with_reducible refine (partB_any w0 b n c a d y hc _ ?hsb (by omega) (by omega) (by omega) (by omega) hn).mono ?_
                  case hsb => first | exact HSB.out | exact HSB.out.drewN _
                  rintro e w5 ⟨mid, fl, rfl, h5, pb5, ct5, s5⟩
                  have HPB5 := hid (HPB.out.trans (pb5.mono hpa hdq))
                  have HMD5 := hid (HMD.out.pb pb5 hpa hdq)
                  have HCT := hid ct5
                  have HS5 := hid s5
                  have hmid1 := ct5.cm
                  have hmid2 := ct5.md
                  clear pb5 ct5 s5 HPB HMD HSB
                  obtain ⟨ll, hll⟩ : ∃ ll, ll = mid - a := ⟨_, rfl⟩
                  obtain ⟨rl, hrl⟩ : ∃ rl, rl = d - mid := ⟨_, rfl⟩
                  obtain ⟨m1, hm1⟩ : ∃ m1, m1 = mid + 1 := ⟨_, rfl⟩
                  have ell : (mid : Int) - (a : Int) = (ll : Int) := by omega
                  have erl : (d : Int) - (mid : Int) = (rl : Int) := by omega
                  have em1 : (mid : Int) + 1 = (m1 : Int) := by omega
                  obtain ⟨l8, hl8⟩ : ∃ l8, l8 = l / 8 := ⟨_, rfl⟩
                  have el8 : (l : Int) / 8 = (l8 : Int) := by omega
                  have el8' : (l : Int).tdiv 8 = (l8 : Int) := by rw [Int.tdiv_eq_ediv_of_nonneg (by omega)]; exact el8
                  have hb1 : ll ≤ 1000 := by omega
                  have hb2 : rl ≤ 1000 := by omega
                  have hb3 : m1 ≤ 1001 := by omega
                  have hb4 : l8 ≤ 1000 := by omega
                  have HMM := hid hm1
                  have HLL := hid hll
                  have HLO5 := hid (HMD5.out.lo (HLO.out.pb HPB5.out) hpa hdq)
                  by_cases hlr : ll < rl
                  · have hlr' : (ll : Int) < (rl : Int) := by omega
                    obtain ⟨wb2, hwb2⟩ : ∃ wb2, wb2 = decide (l8 ≤ ll) := ⟨_, rfl⟩
                    have ewb2 : decide ((l8 : Int) ≤ (ll : Int)) = wb2 := by rw [hwb2]; exact decide_eq_decide.2 (by omega)
                    have ewb3 : decide (l8 ≤ ll) = wb2 := hwb2.symm
                    clear hll hrl hm1 hl8 hwb2
                    go_wp2_with fail
                    with_reducible refine (IH.out.at_ a mid limc h5 _ (by have := HN.out; omega) HS5.out (HLO5.out.left (by omega)) hmid1 (by omega) hlimc).mono ?_
                    rintro e w6 ⟨rfl, h6, pb6, sb6, s6⟩
                    have HPB6 := hid (HPB5.out.trans (pb6.mono hpa (by omega)))
                    have HMD6 := hid ((HMD5.out.pb (pb6.mono (Nat.le_refl _) (by omega)) hpa hdq).cutl (HCT.out.left pb6) sb6)
                    have HS6 := hid s6
                    clear pb6 sb6 s6
                    go_wp2
                    go_roundw
                    case measure => have := HMM.out; simp [intOf]; omega
                    case rel =>
                      have hm1 := HMM.out
                      exact ⟨m1, d, limc, wb2, fl, by first | rfl | go_num, rfl, rfl, by first | rfl | simp only [ewb2] | simp only [ewb3], rfl, by omega, by omega, hdq, hlimc, hid ⟨h6, HPB6.out, by rw [hm1]; exact HMD6.out, HS6.out⟩⟩
                  · have hlr' : decide ((ll : Int) < (rl : Int)) = false := decide_eq_false (by omega)
                    have hlr2 : decide (ll < rl) = false := decide_eq_false hlr
                    obtain ⟨wb2, hwb2⟩ : ∃ wb2, wb2 = decide (l8 ≤ rl) := ⟨_, rfl⟩
                    have ewb2 : decide ((l8 : Int) ≤ (rl : Int)) = wb2 := by rw [hwb2]; exact decide_eq_decide.2 (by omega)
                    have ewb3 : decide (l8 ≤ rl) = wb2 := hwb2.symm
                    have HCR := hid (show Bs.Lo m1 d h5 by rw [hm1]; exact HCT.out.lo)
                    clear hll hrl hm1 hl8 hwb2
                    go_wp2_with fail
                    with_reducible refine (IH.out.at_ m1 d limc h5 _ (by have := HN.out; have := HMM.out; omega) HS5.out HCR.out (by have := HMM.out; omega) (by omega) hlimc).mono ?_
                    rintro e w6 ⟨rfl, h6, pb6, sb6, s6⟩
                    have hm1 := HMM.out
                    have HPB6 := hid (HPB5.out.trans (pb6.mono (by omega) hdq))
                    have HMD6 : Hid (Bs.Md p q a mid h6) := by
                      rw [hm1] at pb6 sb6
                      exact (HMD5.out.pb (pb6.mono (by omega) (Nat.le_refl _)) hpa hdq).cutr (HCT.out.right pb6) sb6
                    have HS6 := hid s6
                    clear pb6 sb6 s6 hm1
                    go_wp2
                    go_roundw
                    case measure => simp [intOf]; omega
                    case rel => exact ⟨a, mid, limc, wb2, fl, rfl, rfl, rfl, by first | rfl | simp only [ewb2] | simp only [ewb3], rfl, hpa, hmid1, by omega, hlimc, hid ⟨h6, HPB6.out, HMD6.out, HS6.out⟩⟩
                · rw [decide_eq_false hless] at HCC
                  have HPXA := hid (show hc y ≤ hc (a - 1) by rw [show a - 1 = a1 by omega, ← hPX, ← hA1]; omega)
                  clear hless hPX hA1 ha1
                  go_wp2
                  go_quiet ((go_at_call 46; exact (HCC.out _).mono fun e w' h => ⟨h.1, quiet_d0 h.2⟩))
                  go_wp2_with fail
                  with_reducible refine (eqB_any w0 b n c a d y hc _ ?hsb (by omega) (by omega) (by omega) (by omega) hn).mono ?_
                  case hsb => first | exact HSB.out.drewN _ | exact HSB.out
                  rintro e w5 ⟨mid, h5, rfl, pb5, pe5, s5⟩
                  have HPB5 := hid (HPB.out.trans (pb5.mono hpa hdq))
                  have HMD5 := hid (HMD.out.pb pb5 hpa hdq)
                  have HLO5 := hid (HMD5.out.lo (HLO.out.pb HPB5.out) hpa hdq)
                  have HMD6 : Hid (Bs.Md p q mid d h5) := by
                    refine HMD5.out.equal (p := h5 a) (fun k k1 k2 => ?_) (fun k k1 k2 => pe5.le k k1 k2)
                    have q1 := HLO5.out ha0 k k1 k2
                    have q2 := HPXA.out
                    rw [pe5.pv]
                    rw [pb5.out (k := a - 1) (by omega)] at q1
                    omega
                  have HS5 := hid s5
                  have hmid1 := pe5.lo
                  have hmid2 := pe5.jd
                  clear pb5 pe5 s5 HPB HMD HSB
                  go_wp2
                  go_roundw
                  case measure => simp [intOf]; omega
                  case rel => exact ⟨mid, d, limc, false, wp, rfl, rfl, rfl, rfl, rfl, by omega, hmid2, hdq, hlimc, hid ⟨h5, HPB5.out, HMD6.out, HS5.out⟩⟩
              · have ha0' : decide ((0 : Int) < (a : Int)) = false := decide_eq_false (by omega)
                have ha02 : decide (0 < a) = false := decide_eq_false ha0
                clear hPX
                go_wp2
                go_quiet (fail)
                go_wp2_with fail
                with_reducible refine (partB_any w0 b n c a d y hc _ ?hsb (by omega) (by omega) (by omega) (by omega) hn).mono ?_
                case hsb => first | exact HSB.out | exact HSB.out.drewN _
                rintro e w5 ⟨mid, fl, rfl, h5, pb5, ct5, s5⟩
                have HPB5 := hid (HPB.out.trans (pb5.mono hpa hdq))
                have HMD5 := hid (HMD.out.pb pb5 hpa hdq)
                have HCT := hid ct5
                have HS5 := hid s5
                have hmid1 := ct5.cm
                have hmid2 := ct5.md
                clear pb5 ct5 s5 HPB HMD HSB
                obtain ⟨ll, hll⟩ : ∃ ll, ll = mid - a := ⟨_, rfl⟩
                obtain ⟨rl, hrl⟩ : ∃ rl, rl = d - mid := ⟨_, rfl⟩
                obtain ⟨m1, hm1⟩ : ∃ m1, m1 = mid + 1 := ⟨_, rfl⟩
                have ell : (mid : Int) - (a : Int) = (ll : Int) := by omega
                have erl : (d : Int) - (mid : Int) = (rl : Int) := by omega
                have em1 : (mid : Int) + 1 = (m1 : Int) := by omega
                obtain ⟨l8, hl8⟩ : ∃ l8, l8 = l / 8 := ⟨_, rfl⟩
                have el8 : (l : Int) / 8 = (l8 : Int) := by omega
                have el8' : (l : Int).tdiv 8 = (l8 : Int) := by rw [Int.tdiv_eq_ediv_of_nonneg (by omega)]; exact el8
                have hb1 : ll ≤ 1000 := by omega
                have hb2 : rl ≤ 1000 := by omega
                have hb3 : m1 ≤ 1001 := by omega
                have hb4 : l8 ≤ 1000 := by omega
                have HMM := hid hm1
                have HLL := hid hll
                have HLO5 := hid (HMD5.out.lo (HLO.out.pb HPB5.out) hpa hdq)
                by_cases hlr : ll < rl
                · have hlr' : (ll : Int) < (rl : Int) := by omega
                  obtain ⟨wb2, hwb2⟩ : ∃ wb2, wb2 = decide (l8 ≤ ll) := ⟨_, rfl⟩
                  have ewb2 : decide ((l8 : Int) ≤ (ll : Int)) = wb2 := by rw [hwb2]; exact decide_eq_decide.2 (by omega)
                  have ewb3 : decide (l8 ≤ ll) = wb2 := hwb2.symm
                  clear hll hrl hm1 hl8 hwb2
                  go_wp2_with fail
                  with_reducible refine (IH.out.at_ a mid limc h5 _ (by have := HN.out; omega) HS5.out (HLO5.out.left (by omega)) hmid1 (by omega) hlimc).mono ?_
                  rintro e w6 ⟨rfl, h6, pb6, sb6, s6⟩
                  have HPB6 := hid (HPB5.out.trans (pb6.mono hpa (by omega)))
                  have HMD6 := hid ((HMD5.out.pb (pb6.mono (Nat.le_refl _) (by omega)) hpa hdq).cutl (HCT.out.left pb6) sb6)
                  have HS6 := hid s6
                  clear pb6 sb6 s6
                  go_wp2
                  go_roundw
                  case measure => have := HMM.out; simp [intOf]; omega
                  case rel =>
                    have hm1 := HMM.out
                    exact ⟨m1, d, limc, wb2, fl, by first | rfl | go_num, rfl, rfl, by first | rfl | simp only [ewb2] | simp only [ewb3], rfl, by omega, by omega, hdq, hlimc, hid ⟨h6, HPB6.out, by rw [hm1]; exact HMD6.out, HS6.out⟩⟩
                · have hlr' : decide ((ll : Int) < (rl : Int)) = false := decide_eq_false (by omega)
                  have hlr2 : decide (ll < rl) = false := decide_eq_false hlr
                  obtain ⟨wb2, hwb2⟩ : ∃ wb2, wb2 = decide (l8 ≤ rl) := ⟨_, rfl⟩
                  have ewb2 : decide ((l8 : Int) ≤ (rl : Int)) = wb2 := by rw [hwb2]; exact decide_eq_decide.2 (by omega)
                  have ewb3 : decide (l8 ≤ rl) = wb2 := hwb2.symm
                  have HCR := hid (show Bs.Lo m1 d h5 by rw [hm1]; exact HCT.out.lo)
                  clear hll hrl hm1 hl8 hwb2
                  go_wp2_with fail
                  with_reducible refine (IH.out.at_ m1 d limc h5 _ (by have := HN.out; have := HMM.out; omega) HS5.out HCR.out (by have := HMM.out; omega) (by omega) hlimc).mono ?_
                  rintro e w6 ⟨rfl, h6, pb6, sb6, s6⟩
                  have hm1 := HMM.out
                  have HPB6 := hid (HPB5.out.trans (pb6.mono (by omega) hdq))
                  have HMD6 : Hid (Bs.Md p q a mid h6) := by
                    rw [hm1] at pb6 sb6
                    exact (HMD5.out.pb (pb6.mono (by omega) (Nat.le_refl _)) hpa hdq).cutr (HCT.out.right pb6) sb6
                  have HS6 := hid s6
                  clear pb6 sb6 s6 hm1
                  go_wp2
                  go_roundw
                  case measure => simp [intOf]; omega
                  case rel => exact ⟨a, mid, limc, wb2, fl, rfl, rfl, rfl, by first | rfl | simp only [ewb2] | simp only [ewb3], rfl, hpa, hmid1, by omega, hlimc, hid ⟨h6, HPB6.out, HMD6.out, HS6.out⟩⟩
        · obtain ⟨limc, hlc⟩ : ∃ limc, limc = lim := ⟨_, rfl⟩
          have hlimc : limc ≤ 64 := by omega
          subst hlc
          go_wp2_with fail
          with_reducible refine (pivB_any w0 b n c a d hc _ HSB.out (by omega) (by omega) hn).mono ?_
          rintro e w3 ⟨x, t, rfl, ht, hax, hxd, s3⟩
          have HSB := hid s3
          clear s3
          rcases ht with rfl | rfl | rfl
          · cases wp
            · as_aux_lemma =>
                have hxn : x < n := by omega
                have hxn' : (x : Int) < (n : Int) := by omega
                have cx := HSB.out.row x hxn
                obtain ⟨PX, hPX⟩ : ∃ PX, PX = hc x := ⟨_, rfl⟩
                rw [← hPX] at cx
                by_cases ha0 : 0 < a
                · have ha0' : (0 : Int) < (a : Int) := by omega
                  obtain ⟨a1, ha1⟩ : ∃ a1, a = a1 + 1 := ⟨a - 1, by omega⟩
                  have ea1 : (a : Int) - 1 = (a1 : Int) := by omega
                  have wa1 : IntKind.i64.wrap (a1 : Int) = (a1 : Int) := IntWalk.i64_in _ (by omega)
                  have za1 : (0 : Int) ≤ (a1 : Int) := by omega
                  have ha1n : a1 < n := by omega
                  have ha1n' : (a1 : Int) < (n : Int) := by omega
                  have ca1 := HSB.out.row a1 ha1n
                  obtain ⟨A1, hA1⟩ : ∃ A1, A1 = hc a1 := ⟨_, rfl⟩
                  rw [← hA1] at ca1
                  have HCC := hid (fun W => less_any A1 PX W)
                  by_cases hless : A1 < PX
                  · rw [decide_eq_true hless] at HCC
                    clear hless hPX hA1 ha1
                    go_wp2
                    go_quiet ((go_at_call 46; exact (HCC.out _).mono fun e w' h => ⟨h.1, quiet_d0 h.2⟩))
                    go_wp2_with fail
                    with_reducible refine (partB_any w0 b n c a d x hc _ ?hsb (by omega) (by omega) (by omega) (by omega) hn).mono ?_
                    case hsb => first | exact HSB.out | exact HSB.out.drewN _
                    rintro e w5 ⟨mid, fl, rfl, h5, pb5, ct5, s5⟩
                    have HPB5 := hid (HPB.out.trans (pb5.mono hpa hdq))
                    have HMD5 := hid (HMD.out.pb pb5 hpa hdq)
                    have HCT := hid ct5
                    have HS5 := hid s5
                    have hmid1 := ct5.cm
                    have hmid2 := ct5.md
                    clear pb5 ct5 s5 HPB HMD HSB
                    obtain ⟨ll, hll⟩ : ∃ ll, ll = mid - a := ⟨_, rfl⟩
                    obtain ⟨rl, hrl⟩ : ∃ rl, rl = d - mid := ⟨_, rfl⟩
                    obtain ⟨m1, hm1⟩ : ∃ m1, m1 = mid + 1 := ⟨_, rfl⟩
                    have ell : (mid : Int) - (a : Int) = (ll : Int) := by omega
                    have erl : (d : Int) - (mid : Int) = (rl : Int) := by omega
                    have em1 : (mid : Int) + 1 = (m1 : Int) := by omega
                    obtain ⟨l8, hl8⟩ : ∃ l8, l8 = l / 8 := ⟨_, rfl⟩
                    have el8 : (l : Int) / 8 = (l8 : Int) := by omega
                    have el8' : (l : Int).tdiv 8 = (l8 : Int) := by rw [Int.tdiv_eq_ediv_of_nonneg (by omega)]; exact el8
                    have hb1 : ll ≤ 1000 := by omega
                    have hb2 : rl ≤ 1000 := by omega
                    have hb3 : m1 ≤ 1001 := by omega
                    have hb4 : l8 ≤ 1000 := by omega
                    have HMM := hid hm1
                    have HLL := hid hll
                    have HLO5 := hid (HMD5.out.lo (HLO.out.pb HPB5.out) hpa hdq)
                    by_cases hlr : ll < rl
                    · have hlr' : (ll : Int) < (rl : Int) := by omega
                      obtain ⟨wb2, hwb2⟩ : ∃ wb2, wb2 = decide (l8 ≤ ll) := ⟨_, rfl⟩
                      have ewb2 : decide ((l8 : Int) ≤ (ll : Int)) = wb2 := by rw [hwb2]; exact decide_eq_decide.2 (by omega)
                      have ewb3 : decide (l8 ≤ ll) = wb2 := hwb2.symm
                      clear hll hrl hm1 hl8 hwb2
                      go_wp2_with fail
                      with_reducible refine (IH.out.at_ a mid limc h5 _ (by have := HN.out; omega) HS5.out (HLO5.out.left (by omega)) hmid1 (by omega) hlimc).mono ?_
                      rintro e w6 ⟨rfl, h6, pb6, sb6, s6⟩
                      have HPB6 := hid (HPB5.out.trans (pb6.mono hpa (by omega)))
                      have HMD6 := hid ((HMD5.out.pb (pb6.mono (Nat.le_refl _) (by omega)) hpa hdq).cutl (HCT.out.left pb6) sb6)
                      have HS6 := hid s6
                      clear pb6 sb6 s6
                      go_wp2
                      go_roundw
                      case measure => have := HMM.out; simp [intOf]; omega
                      case rel =>
                        have hm1 := HMM.out
                        exact ⟨m1, d, limc, wb2, fl, by first | rfl | go_num, rfl, rfl, by first | rfl | simp only [ewb2] | simp only [ewb3], rfl, by omega, by omega, hdq, hlimc, hid ⟨h6, HPB6.out, by rw [hm1]; exact HMD6.out, HS6.out⟩⟩
                    · have hlr' : decide ((ll : Int) < (rl : Int)) = false := decide_eq_false (by omega)
                      have hlr2 : decide (ll < rl) = false := decide_eq_false hlr
                      obtain ⟨wb2, hwb2⟩ : ∃ wb2, wb2 = decide (l8 ≤ rl) := ⟨_, rfl⟩
                      have ewb2 : decide ((l8 : Int) ≤ (rl : Int)) = wb2 := by rw [hwb2]; exact decide_eq_decide.2 (by omega)
                      have ewb3 : decide (l8 ≤ rl) = wb2 := hwb2.symm
                      have HCR := hid (show Bs.Lo m1 d h5 by rw [hm1]; exact HCT.out.lo)
                      clear hll hrl hm1 hl8 hwb2
                      go_wp2_with fail
                      with_reducible refine (IH.out.at_ m1 d limc h5 _ (by have := HN.out; have := HMM.out; omega) HS5.out HCR.out (by have := HMM.out; omega) (by omega) hlimc).mono ?_
                      rintro e w6 ⟨rfl, h6, pb6, sb6, s6⟩
                      have hm1 := HMM.out
                      have HPB6 := hid (HPB5.out.trans (pb6.mono (by omega) hdq))
                      have HMD6 : Hid (Bs.Md p q a mid h6) := by
                        rw [hm1] at pb6 sb6
                        exact (HMD5.out.pb (pb6.mono (by omega) (Nat.le_refl _)) hpa hdq).cutr (HCT.out.right pb6) sb6
                      have HS6 := hid s6
                      clear pb6 sb6 s6 hm1
                      go_wp2
                      go_roundw
                      case measure => simp [intOf]; omega
                      case rel => exact ⟨a, mid, limc, wb2, fl, rfl, rfl, rfl, by first | rfl | simp only [ewb2] | simp only [ewb3], rfl, hpa, hmid1, by omega, hlimc, hid ⟨h6, HPB6.out, HMD6.out, HS6.out⟩⟩
                  · rw [decide_eq_false hless] at HCC
                    have HPXA := hid (show hc x ≤ hc (a - 1) by rw [show a - 1 = a1 by omega, ← hPX, ← hA1]; omega)
                    clear hless hPX hA1 ha1
                    go_wp2
                    go_quiet ((go_at_call 46; exact (HCC.out _).mono fun e w' h => ⟨h.1, quiet_d0 h.2⟩))
                    go_wp2_with fail
                    with_reducible refine (eqB_any w0 b n c a d x hc _ ?hsb (by omega) (by omega) (by omega) (by omega) hn).mono ?_
                    case hsb => first | exact HSB.out.drewN _ | exact HSB.out
                    rintro e w5 ⟨mid, h5, rfl, pb5, pe5, s5⟩
                    have HPB5 := hid (HPB.out.trans (pb5.mono hpa hdq))
                    have HMD5 := hid (HMD.out.pb pb5 hpa hdq)
                    have HLO5 := hid (HMD5.out.lo (HLO.out.pb HPB5.out) hpa hdq)
                    have HMD6 : Hid (Bs.Md p q mid d h5) := by
                      refine HMD5.out.equal (p := h5 a) (fun k k1 k2 => ?_) (fun k k1 k2 => pe5.le k k1 k2)
                      have q1 := HLO5.out ha0 k k1 k2
                      have q2 := HPXA.out
                      rw [pe5.pv]
                      rw [pb5.out (k := a - 1) (by omega)] at q1
                      omega
                    have HS5 := hid s5
                    have hmid1 := pe5.lo
                    have hmid2 := pe5.jd
                    clear pb5 pe5 s5 HPB HMD HSB
                    go_wp2
                    go_roundw
                    case measure => simp [intOf]; omega
                    case rel => exact ⟨mid, d, limc, true, false, rfl, rfl, rfl, rfl, rfl, by omega, hmid2, hdq, hlimc, hid ⟨h5, HPB5.out, HMD6.out, HS5.out⟩⟩
                · have ha0' : decide ((0 : Int) < (a : Int)) = false := decide_eq_false (by omega)
                  have ha02 : decide (0 < a) = false := decide_eq_false ha0
                  clear hPX
                  go_wp2
                  go_quiet (fail)
                  go_wp2_with fail
                  with_reducible refine (partB_any w0 b n c a d x hc _ ?hsb (by omega) (by omega) (by omega) (by omega) hn).mono ?_
                  case hsb => first | exact HSB.out | exact HSB.out.drewN _
                  rintro e w5 ⟨mid, fl, rfl, h5, pb5, ct5, s5⟩
                  have HPB5 := hid (HPB.out.trans (pb5.mono hpa hdq))
                  have HMD5 := hid (HMD.out.pb pb5 hpa hdq)
                  have HCT := hid ct5
                  have HS5 := hid s5
                  have hmid1 := ct5.cm
                  have hmid2 := ct5.md
                  clear pb5 ct5 s5 HPB HMD HSB
                  obtain ⟨ll, hll⟩ : ∃ ll, ll = mid - a := ⟨_, rfl⟩
                  obtain ⟨rl, hrl⟩ : ∃ rl, rl = d - mid := ⟨_, rfl⟩
                  obtain ⟨m1, hm1⟩ : ∃ m1, m1 = mid + 1 := ⟨_, rfl⟩
                  have ell : (mid : Int) - (a : Int) = (ll : Int) := by omega
                  have erl : (d : Int) - (mid : Int) = (rl : Int) := by omega
                  have em1 : (mid : Int) + 1 = (m1 : Int) := by omega
                  obtain ⟨l8, hl8⟩ : ∃ l8, l8 = l / 8 := ⟨_, rfl⟩
                  have el8 : (l : Int) / 8 = (l8 : Int) := by omega
                  have el8' : (l : Int).tdiv 8 = (l8 : Int) := by rw [Int.tdiv_eq_ediv_of_nonneg (by omega)]; exact el8
                  have hb1 : ll ≤ 1000 := by omega
                  have hb2 : rl ≤ 1000 := by omega
                  have hb3 : m1 ≤ 1001 := by omega
                  have hb4 : l8 ≤ 1000 := by omega
                  have HMM := hid hm1
                  have HLL := hid hll
                  have HLO5 := hid (HMD5.out.lo (HLO.out.pb HPB5.out) hpa hdq)
                  by_cases hlr : ll < rl
                  · have hlr' : (ll : Int) < (rl : Int) := by omega
                    obtain ⟨wb2, hwb2⟩ : ∃ wb2, wb2 = decide (l8 ≤ ll) := ⟨_, rfl⟩
                    have ewb2 : decide ((l8 : Int) ≤ (ll : Int)) = wb2 := by rw [hwb2]; exact decide_eq_decide.2 (by omega)
                    have ewb3 : decide (l8 ≤ ll) = wb2 := hwb2.symm
                    clear hll hrl hm1 hl8 hwb2
                    go_wp2_with fail
                    with_reducible refine (IH.out.at_ a mid limc h5 _ (by have := HN.out; omega) HS5.out (HLO5.out.left (by omega)) hmid1 (by omega) hlimc).mono ?_
                    rintro e w6 ⟨rfl, h6, pb6, sb6, s6⟩
                    have HPB6 := hid (HPB5.out.trans (pb6.mono hpa (by omega)))
                    have HMD6 := hid ((HMD5.out.pb (pb6.mono (Nat.le_refl _) (by omega)) hpa hdq).cutl (HCT.out.left pb6) sb6)
                    have HS6 := hid s6
                    clear pb6 sb6 s6
                    go_wp2
                    go_roundw
                    case measure => have := HMM.out; simp [intOf]; omega
                    case rel =>
                      have hm1 := HMM.out
                      exact ⟨m1, d, limc, wb2, fl, by first | rfl | go_num, rfl, rfl, by first | rfl | simp only [ewb2] | simp only [ewb3], rfl, by omega, by omega, hdq, hlimc, hid ⟨h6, HPB6.out, by rw [hm1]; exact HMD6.out, HS6.out⟩⟩
                  · have hlr' : decide ((ll : Int) < (rl : Int)) = false := decide_eq_false (by omega)
                    have hlr2 : decide (ll < rl) = false := decide_eq_false hlr
                    obtain ⟨wb2, hwb2⟩ : ∃ wb2, wb2 = decide (l8 ≤ rl) := ⟨_, rfl⟩
                    have ewb2 : decide ((l8 : Int) ≤ (rl : Int)) = wb2 := by rw [hwb2]; exact decide_eq_decide.2 (by omega)
                    have ewb3 : decide (l8 ≤ rl) = wb2 := hwb2.symm
                    have HCR := hid (show Bs.Lo m1 d h5 by rw [hm1]; exact HCT.out.lo)
                    clear hll hrl hm1 hl8 hwb2
                    go_wp2_with fail
                    with_reducible refine (IH.out.at_ m1 d limc h5 _ (by have := HN.out; have := HMM.out; omega) HS5.out HCR.out (by have := HMM.out; omega) (by omega) hlimc).mono ?_
                    rintro e w6 ⟨rfl, h6, pb6, sb6, s6⟩
                    have hm1 := HMM.out
                    have HPB6 := hid (HPB5.out.trans (pb6.mono (by omega) hdq))
                    have HMD6 : Hid (Bs.Md p q a mid h6) := by
                      rw [hm1] at pb6 sb6
                      exact (HMD5.out.pb (pb6.mono (by omega) (Nat.le_refl _)) hpa hdq).cutr (HCT.out.right pb6) sb6
                    have HS6 := hid s6
                    clear pb6 sb6 s6 hm1
                    go_wp2
                    go_roundw
                    case measure => simp [intOf]; omega
                    case rel => exact ⟨a, mid, limc, wb2, fl, rfl, rfl, rfl, by first | rfl | simp only [ewb2] | simp only [ewb3], rfl, hpa, hmid1, by omega, hlimc, hid ⟨h6, HPB6.out, HMD6.out, HS6.out⟩⟩
            · as_aux_lemma =>
                have hxn : x < n := by omega
                have hxn' : (x : Int) < (n : Int) := by omega
                have cx := HSB.out.row x hxn
                obtain ⟨PX, hPX⟩ : ∃ PX, PX = hc x := ⟨_, rfl⟩
                rw [← hPX] at cx
                by_cases ha0 : 0 < a
                · have ha0' : (0 : Int) < (a : Int) := by omega
                  obtain ⟨a1, ha1⟩ : ∃ a1, a = a1 + 1 := ⟨a - 1, by omega⟩
                  have ea1 : (a : Int) - 1 = (a1 : Int) := by omega
                  have wa1 : IntKind.i64.wrap (a1 : Int) = (a1 : Int) := IntWalk.i64_in _ (by omega)
                  have za1 : (0 : Int) ≤ (a1 : Int) := by omega
                  have ha1n : a1 < n := by omega
                  have ha1n' : (a1 : Int) < (n : Int) := by omega
                  have ca1 := HSB.out.row a1 ha1n
                  obtain ⟨A1, hA1⟩ : ∃ A1, A1 = hc a1 := ⟨_, rfl⟩
                  rw [← hA1] at ca1
                  have HCC := hid (fun W => less_any A1 PX W)
                  by_cases hless : A1 < PX
                  · rw [decide_eq_true hless] at HCC
                    clear hless hPX hA1 ha1
                    go_wp2
                    go_quiet ((go_at_call 46; exact (HCC.out _).mono fun e w' h => ⟨h.1, quiet_d0 h.2⟩))
                    go_wp2_with fail
                    with_reducible refine (partB_any w0 b n c a d x hc _ ?hsb (by omega) (by omega) (by omega) (by omega) hn).mono ?_
                    case hsb => first | exact HSB.out | exact HSB.out.drewN _
                    rintro e w5 ⟨mid, fl, rfl, h5, pb5, ct5, s5⟩
                    have HPB5 := hid (HPB.out.trans (pb5.mono hpa hdq))
                    have HMD5 := hid (HMD.out.pb pb5 hpa hdq)
                    have HCT := hid ct5
                    have HS5 := hid s5
                    have hmid1 := ct5.cm
                    have hmid2 := ct5.md
                    clear pb5 ct5 s5 HPB HMD HSB
                    obtain ⟨ll, hll⟩ : ∃ ll, ll = mid - a := ⟨_, rfl⟩
                    obtain ⟨rl, hrl⟩ : ∃ rl, rl = d - mid := ⟨_, rfl⟩
                    obtain ⟨m1, hm1⟩ : ∃ m1, m1 = mid + 1 := ⟨_, rfl⟩
                    have ell : (mid : Int) - (a : Int) = (ll : Int) := by omega
                    have erl : (d : Int) - (mid : Int) = (rl : Int) := by omega
                    have em1 : (mid : Int) + 1 = (m1 : Int) := by omega
                    obtain ⟨l8, hl8⟩ : ∃ l8, l8 = l / 8 := ⟨_, rfl⟩
                    have el8 : (l : Int) / 8 = (l8 : Int) := by omega
                    have el8' : (l : Int).tdiv 8 = (l8 : Int) := by rw [Int.tdiv_eq_ediv_of_nonneg (by omega)]; exact el8
                    have hb1 : ll ≤ 1000 := by omega
                    have hb2 : rl ≤ 1000 := by omega
                    have hb3 : m1 ≤ 1001 := by omega
                    have hb4 : l8 ≤ 1000 := by omega
                    have HMM := hid hm1
                    have HLL := hid hll
                    have HLO5 := hid (HMD5.out.lo (HLO.out.pb HPB5.out) hpa hdq)
                    by_cases hlr : ll < rl
                    · have hlr' : (ll : Int) < (rl : Int) := by omega
                      obtain ⟨wb2, hwb2⟩ : ∃ wb2, wb2 = decide (l8 ≤ ll) := ⟨_, rfl⟩
                      have ewb2 : decide ((l8 : Int) ≤ (ll : Int)) = wb2 := by rw [hwb2]; exact decide_eq_decide.2 (by omega)
                      have ewb3 : decide (l8 ≤ ll) = wb2 := hwb2.symm
                      clear hll hrl hm1 hl8 hwb2
                      go_wp2_with fail
                      with_reducible refine (IH.out.at_ a mid limc h5 _ (by have := HN.out; omega) HS5.out (HLO5.out.left (by omega)) hmid1 (by omega) hlimc).mono ?_
                      rintro e w6 ⟨rfl, h6, pb6, sb6, s6⟩
                      have HPB6 := hid (HPB5.out.trans (pb6.mono hpa (by omega)))
                      have HMD6 := hid ((HMD5.out.pb (pb6.mono (Nat.le_refl _) (by omega)) hpa hdq).cutl (HCT.out.left pb6) sb6)
                      have HS6 := hid s6
                      clear pb6 sb6 s6
                      go_wp2
                      go_roundw
                      case measure => have := HMM.out; simp [intOf]; omega
                      case rel =>
                        have hm1 := HMM.out
                        exact ⟨m1, d, limc, wb2, fl, by first | rfl | go_num, rfl, rfl, by first | rfl | simp only [ewb2] | simp only [ewb3], rfl, by omega, by omega, hdq, hlimc, hid ⟨h6, HPB6.out, by rw [hm1]; exact HMD6.out, HS6.out⟩⟩
                    · have hlr' : decide ((ll : Int) < (rl : Int)) = false := decide_eq_false (by omega)
                      have hlr2 : decide (ll < rl) = false := decide_eq_false hlr
                      obtain ⟨wb2, hwb2⟩ : ∃ wb2, wb2 = decide (l8 ≤ rl) := ⟨_, rfl⟩
                      have ewb2 : decide ((l8 : Int) ≤ (rl : Int)) = wb2 := by rw [hwb2]; exact decide_eq_decide.2 (by omega)
                      have ewb3 : decide (l8 ≤ rl) = wb2 := hwb2.symm
                      have HCR := hid (show Bs.Lo m1 d h5 by rw [hm1]; exact HCT.out.lo)
                      clear hll hrl hm1 hl8 hwb2
                      go_wp2_with fail
                      with_reducible refine (IH.out.at_ m1 d limc h5 _ (by have := HN.out; have := HMM.out; omega) HS5.out HCR.out (by have := HMM.out; omega) (by omega) hlimc).mono ?_
                      rintro e w6 ⟨rfl, h6, pb6, sb6, s6⟩
                      have hm1 := HMM.out
                      have HPB6 := hid (HPB5.out.trans (pb6.mono (by omega) hdq))
                      have HMD6 : Hid (Bs.Md p q a mid h6) := by
                        rw [hm1] at pb6 sb6
                        exact (HMD5.out.pb (pb6.mono (by omega) (Nat.le_refl _)) hpa hdq).cutr (HCT.out.right pb6) sb6
                      have HS6 := hid s6
                      clear pb6 sb6 s6 hm1
                      go_wp2
                      go_roundw
                      case measure => simp [intOf]; omega
                      case rel => exact ⟨a, mid, limc, wb2, fl, rfl, rfl, rfl, by first | rfl | simp only [ewb2] | simp only [ewb3], rfl, hpa, hmid1, by omega, hlimc, hid ⟨h6, HPB6.out, HMD6.out, HS6.out⟩⟩
                  · rw [decide_eq_false hless] at HCC
                    have HPXA := hid (show hc x ≤ hc (a - 1) by rw [show a - 1 = a1 by omega, ← hPX, ← hA1]; omega)
                    clear hless hPX hA1 ha1
                    go_wp2
                    go_quiet ((go_at_call 46; exact (HCC.out _).mono fun e w' h => ⟨h.1, quiet_d0 h.2⟩))
                    go_wp2_with fail
                    with_reducible refine (eqB_any w0 b n c a d x hc _ ?hsb (by omega) (by omega) (by omega) (by omega) hn).mono ?_
                    case hsb => first | exact HSB.out.drewN _ | exact HSB.out
                    rintro e w5 ⟨mid, h5, rfl, pb5, pe5, s5⟩
                    have HPB5 := hid (HPB.out.trans (pb5.mono hpa hdq))
                    have HMD5 := hid (HMD.out.pb pb5 hpa hdq)
                    have HLO5 := hid (HMD5.out.lo (HLO.out.pb HPB5.out) hpa hdq)
                    have HMD6 : Hid (Bs.Md p q mid d h5) := by
                      refine HMD5.out.equal (p := h5 a) (fun k k1 k2 => ?_) (fun k k1 k2 => pe5.le k k1 k2)
                      have q1 := HLO5.out ha0 k k1 k2
                      have q2 := HPXA.out
                      rw [pe5.pv]
                      rw [pb5.out (k := a - 1) (by omega)] at q1
                      omega
                    have HS5 := hid s5
                    have hmid1 := pe5.lo
                    have hmid2 := pe5.jd
                    clear pb5 pe5 s5 HPB HMD HSB
                    go_wp2
                    go_roundw
                    case measure => simp [intOf]; omega
                    case rel => exact ⟨mid, d, limc, true, true, rfl, rfl, rfl, rfl, rfl, by omega, hmid2, hdq, hlimc, hid ⟨h5, HPB5.out, HMD6.out, HS5.out⟩⟩
                · have ha0' : decide ((0 : Int) < (a : Int)) = false := decide_eq_false (by omega)
                  have ha02 : decide (0 < a) = false := decide_eq_false ha0
                  clear hPX
                  go_wp2
                  go_quiet (fail)
                  go_wp2_with fail
                  with_reducible refine (partB_any w0 b n c a d x hc _ ?hsb (by omega) (by omega) (by omega) (by omega) hn).mono ?_
                  case hsb => first | exact HSB.out | exact HSB.out.drewN _
                  rintro e w5 ⟨mid, fl, rfl, h5, pb5, ct5, s5⟩
                  have HPB5 := hid (HPB.out.trans (pb5.mono hpa hdq))
                  have HMD5 := hid (HMD.out.pb pb5 hpa hdq)
                  have HCT := hid ct5
                  have HS5 := hid s5
                  have hmid1 := ct5.cm
                  have hmid2 := ct5.md
                  clear pb5 ct5 s5 HPB HMD HSB
                  obtain ⟨ll, hll⟩ : ∃ ll, ll = mid - a := ⟨_, rfl⟩
                  obtain ⟨rl, hrl⟩ : ∃ rl, rl = d - mid := ⟨_, rfl⟩
                  obtain ⟨m1, hm1⟩ : ∃ m1, m1 = mid + 1 := ⟨_, rfl⟩
                  have ell : (mid : Int) - (a : Int) = (ll : Int) := by omega
                  have erl : (d : Int) - (mid : Int) = (rl : Int) := by omega
                  have em1 : (mid : Int) + 1 = (m1 : Int) := by omega
                  obtain ⟨l8, hl8⟩ : ∃ l8, l8 = l / 8 := ⟨_, rfl⟩
                  have el8 : (l : Int) / 8 = (l8 : Int) := by omega
                  have el8' : (l : Int).tdiv 8 = (l8 : Int) := by rw [Int.tdiv_eq_ediv_of_nonneg (by omega)]; exact el8
                  have hb1 : ll ≤ 1000 := by omega
                  have hb2 : rl ≤ 1000 := by omega
                  have hb3 : m1 ≤ 1001 := by omega
                  have hb4 : l8 ≤ 1000 := by omega
                  have HMM := hid hm1
                  have HLL := hid hll
                  have HLO5 := hid (HMD5.out.lo (HLO.out.pb HPB5.out) hpa hdq)
                  by_cases hlr : ll < rl
                  · have hlr' : (ll : Int) < (rl : Int) := by omega
                    obtain ⟨wb2, hwb2⟩ : ∃ wb2, wb2 = decide (l8 ≤ ll) := ⟨_, rfl⟩
                    have ewb2 : decide ((l8 : Int) ≤ (ll : Int)) = wb2 := by rw [hwb2]; exact decide_eq_decide.2 (by omega)
                    have ewb3 : decide (l8 ≤ ll) = wb2 := hwb2.symm
                    clear hll hrl hm1 hl8 hwb2
                    go_wp2_with fail
                    with_reducible refine (IH.out.at_ a mid limc h5 _ (by have := HN.out; omega) HS5.out (HLO5.out.left (by omega)) hmid1 (by omega) hlimc).mono ?_
                    rintro e w6 ⟨rfl, h6, pb6, sb6, s6⟩
                    have HPB6 := hid (HPB5.out.trans (pb6.mono hpa (by omega)))
                    have HMD6 := hid ((HMD5.out.pb (pb6.mono (Nat.le_refl _) (by omega)) hpa hdq).cutl (HCT.out.left pb6) sb6)
                    have HS6 := hid s6
                    clear pb6 sb6 s6
                    go_wp2
                    go_roundw
                    case measure => have := HMM.out; simp [intOf]; omega
                    case rel =>
                      have hm1 := HMM.out
                      exact ⟨m1, d, limc, wb2, fl, by first | rfl | go_num, rfl, rfl, by first | rfl | simp only [ewb2] | simp only [ewb3], rfl, by omega, by omega, hdq, hlimc, hid ⟨h6, HPB6.out, by rw [hm1]; exact HMD6.out, HS6.out⟩⟩
                  · have hlr' : decide ((ll : Int) < (rl : Int)) = false := decide_eq_false (by omega)
                    have hlr2 : decide (ll < rl) = false := decide_eq_false hlr
                    obtain ⟨wb2, hwb2⟩ : ∃ wb2, wb2 = decide (l8 ≤ rl) := ⟨_, rfl⟩
                    have ewb2 : decide ((l8 : Int) ≤ (rl : Int)) = wb2 := by rw [hwb2]; exact decide_eq_decide.2 (by omega)
                    have ewb3 : decide (l8 ≤ rl) = wb2 := hwb2.symm
                    have HCR := hid (show Bs.Lo m1 d h5 by rw [hm1]; exact HCT.out.lo)
                    clear hll hrl hm1 hl8 hwb2
                    go_wp2_with fail
                    with_reducible refine (IH.out.at_ m1 d limc h5 _ (by have := HN.out; have := HMM.out; omega) HS5.out HCR.out (by have := HMM.out; omega) (by omega) hlimc).mono ?_
                    rintro e w6 ⟨rfl, h6, pb6, sb6, s6⟩
                    have hm1 := HMM.out
                    have HPB6 := hid (HPB5.out.trans (pb6.mono (by omega) hdq))
                    have HMD6 : Hid (Bs.Md p q a mid h6) := by
                      rw [hm1] at pb6 sb6
                      exact (HMD5.out.pb (pb6.mono (by omega) (Nat.le_refl _)) hpa hdq).cutr (HCT.out.right pb6) sb6
                    have HS6 := hid s6
                    clear pb6 sb6 s6 hm1
                    go_wp2
                    go_roundw
                    case measure => simp [intOf]; omega
                    case rel => exact ⟨a, mid, limc, wb2, fl, rfl, rfl, rfl, by first | rfl | simp only [ewb2] | simp only [ewb3], rfl, hpa, hmid1, by omega, hlimc, hid ⟨h6, HPB6.out, HMD6.out, HS6.out⟩⟩
          · cases wp
            · as_aux_lemma =>
                have hxn : x < n := by omega
                have hxn' : (x : Int) < (n : Int) := by omega
                have cx := HSB.out.row x hxn
                obtain ⟨PX, hPX⟩ : ∃ PX, PX = hc x := ⟨_, rfl⟩
                rw [← hPX] at cx
                by_cases ha0 : 0 < a
                · have ha0' : (0 : Int) < (a : Int) := by omega
                  obtain ⟨a1, ha1⟩ : ∃ a1, a = a1 + 1 := ⟨a - 1, by omega⟩
                  have ea1 : (a : Int) - 1 = (a1 : Int) := by omega
                  have wa1 : IntKind.i64.wrap (a1 : Int) = (a1 : Int) := IntWalk.i64_in _ (by omega)
                  have za1 : (0 : Int) ≤ (a1 : Int) := by omega
                  have ha1n : a1 < n := by omega
                  have ha1n' : (a1 : Int) < (n : Int) := by omega
                  have ca1 := HSB.out.row a1 ha1n
                  obtain ⟨A1, hA1⟩ : ∃ A1, A1 = hc a1 := ⟨_, rfl⟩
                  rw [← hA1] at ca1
                  have HCC := hid (fun W => less_any A1 PX W)
                  by_cases hless : A1 < PX
                  · rw [decide_eq_true hless] at HCC
                    clear hless hPX hA1 ha1
                    go_wp2
                    go_quiet ((go_at_call 46; exact (HCC.out _).mono fun e w' h => ⟨h.1, quiet_d0 h.2⟩))
                    go_wp2_with fail
                    with_reducible refine (partB_any w0 b n c a d x hc _ ?hsb (by omega) (by omega) (by omega) (by omega) hn).mono ?_
                    case hsb => first | exact HSB.out | exact HSB.out.drewN _
                    rintro e w5 ⟨mid, fl, rfl, h5, pb5, ct5, s5⟩
                    have HPB5 := hid (HPB.out.trans (pb5.mono hpa hdq))
                    have HMD5 := hid (HMD.out.pb pb5 hpa hdq)
                    have HCT := hid ct5
                    have HS5 := hid s5
                    have hmid1 := ct5.cm
                    have hmid2 := ct5.md
                    clear pb5 ct5 s5 HPB HMD HSB
                    obtain ⟨ll, hll⟩ : ∃ ll, ll = mid - a := ⟨_, rfl⟩
                    obtain ⟨rl, hrl⟩ : ∃ rl, rl = d - mid := ⟨_, rfl⟩
                    obtain ⟨m1, hm1⟩ : ∃ m1, m1 = mid + 1 := ⟨_, rfl⟩
                    have ell : (mid : Int) - (a : Int) = (ll : Int) := by omega
                    have erl : (d : Int) - (mid : Int) = (rl : Int) := by omega
                    have em1 : (mid : Int) + 1 = (m1 : Int) := by omega
                    obtain ⟨l8, hl8⟩ : ∃ l8, l8 = l / 8 := ⟨_, rfl⟩
                    have el8 : (l : Int) / 8 = (l8 : Int) := by omega
                    have el8' : (l : Int).tdiv 8 = (l8 : Int) := by rw [Int.tdiv_eq_ediv_of_nonneg (by omega)]; exact el8
                    have hb1 : ll ≤ 1000 := by omega
                    have hb2 : rl ≤ 1000 := by omega
                    have hb3 : m1 ≤ 1001 := by omega
                    have hb4 : l8 ≤ 1000 := by omega
                    have HMM := hid hm1
                    have HLL := hid hll
                    have HLO5 := hid (HMD5.out.lo (HLO.out.pb HPB5.out) hpa hdq)
                    by_cases hlr : ll < rl
                    · have hlr' : (ll : Int) < (rl : Int) := by omega
                      obtain ⟨wb2, hwb2⟩ : ∃ wb2, wb2 = decide (l8 ≤ ll) := ⟨_, rfl⟩
                      have ewb2 : decide ((l8 : Int) ≤ (ll : Int)) = wb2 := by rw [hwb2]; exact decide_eq_decide.2 (by omega)
                      have ewb3 : decide (l8 ≤ ll) = wb2 := hwb2.symm
                      clear hll hrl hm1 hl8 hwb2
                      go_wp2_with fail
                      with_reducible refine (IH.out.at_ a mid limc h5 _ (by have := HN.out; omega) HS5.out (HLO5.out.left (by omega)) hmid1 (by omega) hlimc).mono ?_
                      rintro e w6 ⟨rfl, h6, pb6, sb6, s6⟩
                      have HPB6 := hid (HPB5.out.trans (pb6.mono hpa (by omega)))
                      have HMD6 := hid ((HMD5.out.pb (pb6.mono (Nat.le_refl _) (by omega)) hpa hdq).cutl (HCT.out.left pb6) sb6)
                      have HS6 := hid s6
                      clear pb6 sb6 s6
                      go_wp2
                      go_roundw
                      case measure => have := HMM.out; simp [intOf]; omega
                      case rel =>
                        have hm1 := HMM.out
                        exact ⟨m1, d, limc, wb2, fl, by first | rfl | go_num, rfl, rfl, by first | rfl | simp only [ewb2] | simp only [ewb3], rfl, by omega, by omega, hdq, hlimc, hid ⟨h6, HPB6.out, by rw [hm1]; exact HMD6.out, HS6.out⟩⟩
                    · have hlr' : decide ((ll : Int) < (rl : Int)) = false := decide_eq_false (by omega)
                      have hlr2 : decide (ll < rl) = false := decide_eq_false hlr
                      obtain ⟨wb2, hwb2⟩ : ∃ wb2, wb2 = decide (l8 ≤ rl) := ⟨_, rfl⟩
                      have ewb2 : decide ((l8 : Int) ≤ (rl : Int)) = wb2 := by rw [hwb2]; exact decide_eq_decide.2 (by omega)
                      have ewb3 : decide (l8 ≤ rl) = wb2 := hwb2.symm
                      have HCR := hid (show Bs.Lo m1 d h5 by rw [hm1]; exact HCT.out.lo)
                      clear hll hrl hm1 hl8 hwb2
                      go_wp2_with fail
                      with_reducible refine (IH.out.at_ m1 d limc h5 _ (by have := HN.out; have := HMM.out; omega) HS5.out HCR.out (by have := HMM.out; omega) (by omega) hlimc).mono ?_
                      rintro e w6 ⟨rfl, h6, pb6, sb6, s6⟩
                      have hm1 := HMM.out
                      have HPB6 := hid (HPB5.out.trans (pb6.mono (by omega) hdq))
                      have HMD6 : Hid (Bs.Md p q a mid h6) := by
                        rw [hm1] at pb6 sb6
                        exact (HMD5.out.pb (pb6.mono (by omega) (Nat.le_refl _)) hpa hdq).cutr (HCT.out.right pb6) sb6
                      have HS6 := hid s6
                      clear pb6 sb6 s6 hm1
                      go_wp2
                      go_roundw
                      case measure => simp [intOf]; omega
                      case rel => exact ⟨a, mid, limc, wb2, fl, rfl, rfl, rfl, by first | rfl | simp only [ewb2] | simp only [ewb3], rfl, hpa, hmid1, by omega, hlimc, hid ⟨h6, HPB6.out, HMD6.out, HS6.out⟩⟩
                  · rw [decide_eq_false hless] at HCC
                    have HPXA := hid (show hc x ≤ hc (a - 1) by rw [show a - 1 = a1 by omega, ← hPX, ← hA1]; omega)
                    clear hless hPX hA1 ha1
                    go_wp2
                    go_quiet ((go_at_call 46; exact (HCC.out _).mono fun e w' h => ⟨h.1, quiet_d0 h.2⟩))
                    go_wp2_with fail
                    with_reducible refine (eqB_any w0 b n c a d x hc _ ?hsb (by omega) (by omega) (by omega) (by omega) hn).mono ?_
                    case hsb => first | exact HSB.out.drewN _ | exact HSB.out
                    rintro e w5 ⟨mid, h5, rfl, pb5, pe5, s5⟩
                    have HPB5 := hid (HPB.out.trans (pb5.mono hpa hdq))
                    have HMD5 := hid (HMD.out.pb pb5 hpa hdq)
                    have HLO5 := hid (HMD5.out.lo (HLO.out.pb HPB5.out) hpa hdq)
                    have HMD6 : Hid (Bs.Md p q mid d h5) := by
                      refine HMD5.out.equal (p := h5 a) (fun k k1 k2 => ?_) (fun k k1 k2 => pe5.le k k1 k2)
                      have q1 := HLO5.out ha0 k k1 k2
                      have q2 := HPXA.out
                      rw [pe5.pv]
                      rw [pb5.out (k := a - 1) (by omega)] at q1
                      omega
                    have HS5 := hid s5
                    have hmid1 := pe5.lo
                    have hmid2 := pe5.jd
                    clear pb5 pe5 s5 HPB HMD HSB
                    go_wp2
                    go_roundw
                    case measure => simp [intOf]; omega
                    case rel => exact ⟨mid, d, limc, true, false, rfl, rfl, rfl, rfl, rfl, by omega, hmid2, hdq, hlimc, hid ⟨h5, HPB5.out, HMD6.out, HS5.out⟩⟩
                · have ha0' : decide ((0 : Int) < (a : Int)) = false := decide_eq_false (by omega)
                  have ha02 : decide (0 < a) = false := decide_eq_false ha0
                  clear hPX
                  go_wp2
                  go_quiet (fail)
                  go_wp2_with fail
                  with_reducible refine (partB_any w0 b n c a d x hc _ ?hsb (by omega) (by omega) (by omega) (by omega) hn).mono ?_
                  case hsb => first | exact HSB.out | exact HSB.out.drewN _
                  rintro e w5 ⟨mid, fl, rfl, h5, pb5, ct5, s5⟩
                  have HPB5 := hid (HPB.out.trans (pb5.mono hpa hdq))
                  have HMD5 := hid (HMD.out.pb pb5 hpa hdq)
                  have HCT := hid ct5
                  have HS5 := hid s5
                  have hmid1 := ct5.cm
                  have hmid2 := ct5.md
                  clear pb5 ct5 s5 HPB HMD HSB
                  obtain ⟨ll, hll⟩ : ∃ ll, ll = mid - a := ⟨_, rfl⟩
                  obtain ⟨rl, hrl⟩ : ∃ rl, rl = d - mid := ⟨_, rfl⟩
                  obtain ⟨m1, hm1⟩ : ∃ m1, m1 = mid + 1 := ⟨_, rfl⟩
                  have ell : (mid : Int) - (a : Int) = (ll : Int) := by omega
                  have erl : (d : Int) - (mid : Int) = (rl : Int) := by omega
                  have em1 : (mid : Int) + 1 = (m1 : Int) := by omega
                  obtain ⟨l8, hl8⟩ : ∃ l8, l8 = l / 8 := ⟨_, rfl⟩
                  have el8 : (l : Int) / 8 = (l8 : Int) := by omega
                  have el8' : (l : Int).tdiv 8 = (l8 : Int) := by rw [Int.tdiv_eq_ediv_of_nonneg (by omega)]; exact el8
                  have hb1 : ll ≤ 1000 := by omega
                  have hb2 : rl ≤ 1000 := by omega
                  have hb3 : m1 ≤ 1001 := by omega
                  have hb4 : l8 ≤ 1000 := by omega
                  have HMM := hid hm1
                  have HLL := hid hll
                  have HLO5 := hid (HMD5.out.lo (HLO.out.pb HPB5.out) hpa hdq)
                  by_cases hlr : ll < rl
                  · have hlr' : (ll : Int) < (rl : Int) := by omega
                    obtain ⟨wb2, hwb2⟩ : ∃ wb2, wb2 = decide (l8 ≤ ll) := ⟨_, rfl⟩
                    have ewb2 : decide ((l8 : Int) ≤ (ll : Int)) = wb2 := by rw [hwb2]; exact decide_eq_decide.2 (by omega)
                    have ewb3 : decide (l8 ≤ ll) = wb2 := hwb2.symm
                    clear hll hrl hm1 hl8 hwb2
                    go_wp2_with fail
                    with_reducible refine (IH.out.at_ a mid limc h5 _ (by have := HN.out; omega) HS5.out (HLO5.out.left (by omega)) hmid1 (by omega) hlimc).mono ?_
                    rintro e w6 ⟨rfl, h6, pb6, sb6, s6⟩
                    have HPB6 := hid (HPB5.out.trans (pb6.mono hpa (by omega)))
                    have HMD6 := hid ((HMD5.out.pb (pb6.mono (Nat.le_refl _) (by omega)) hpa hdq).cutl (HCT.out.left pb6) sb6)
                    have HS6 := hid s6
                    clear pb6 sb6 s6
                    go_wp2
                    go_roundw
                    case measure => have := HMM.out; simp [intOf]; omega
                    case rel =>
                      have hm1 := HMM.out
                      exact ⟨m1, d, limc, wb2, fl, by first | rfl | go_num, rfl, rfl, by first | rfl | simp only [ewb2] | simp only [ewb3], rfl, by omega, by omega, hdq, hlimc, hid ⟨h6, HPB6.out, by rw [hm1]; exact HMD6.out, HS6.out⟩⟩
                  · have hlr' : decide ((ll : Int) < (rl : Int)) = false := decide_eq_false (by omega)
                    have hlr2 : decide (ll < rl) = false := decide_eq_false hlr
                    obtain ⟨wb2, hwb2⟩ : ∃ wb2, wb2 = decide (l8 ≤ rl) := ⟨_, rfl⟩
                    have ewb2 : decide ((l8 : Int) ≤ (rl : Int)) = wb2 := by rw [hwb2]; exact decide_eq_decide.2 (by omega)
                    have ewb3 : decide (l8 ≤ rl) = wb2 := hwb2.symm
                    have HCR := hid (show Bs.Lo m1 d h5 by rw [hm1]; exact HCT.out.lo)
                    clear hll hrl hm1 hl8 hwb2
                    go_wp2_with fail
                    with_reducible refine (IH.out.at_ m1 d limc h5 _ (by have := HN.out; have := HMM.out; omega) HS5.out HCR.out (by have := HMM.out; omega) (by omega) hlimc).mono ?_
                    rintro e w6 ⟨rfl, h6, pb6, sb6, s6⟩
                    have hm1 := HMM.out
                    have HPB6 := hid (HPB5.out.trans (pb6.mono (by omega) hdq))
                    have HMD6 : Hid (Bs.Md p q a mid h6) := by
                      rw [hm1] at pb6 sb6
                      exact (HMD5.out.pb (pb6.mono (by omega) (Nat.le_refl _)) hpa hdq).cutr (HCT.out.right pb6) sb6
                    have HS6 := hid s6
                    clear pb6 sb6 s6 hm1
                    go_wp2
                    go_roundw
                    case measure => simp [intOf]; omega
                    case rel => exact ⟨a, mid, limc, wb2, fl, rfl, rfl, rfl, by first | rfl | simp only [ewb2] | simp only [ewb3], rfl, hpa, hmid1, by omega, hlimc, hid ⟨h6, HPB6.out, HMD6.out, HS6.out⟩⟩
            · go_wp2_with fail
              with_reducible refine (tryB_any w0 b n c a d hc _ HSB.out (by omega) (by omega) (HMD.out.lo (HLO.out.pb HPB.out) hpa hdq) hn).mono ?_
              rintro e w7 ⟨h7, hr7, pb7, s7⟩
              have HPBn := hid (HPB.out.trans (pb7.mono hpa hdq))
              have HMDn := hid (HMD.out.pb pb7 hpa hdq)
              have HSBn := hid s7
              clear pb7 s7 HPB HMD HSB
              rcases hr7 with ⟨rfl, sb7⟩ | rfl
              · have SB7 := hid sb7
                clear sb7
                go_wp2
                refine bodyPost_ret (results_none rfl _ _ _) rfl ?_
                exact ⟨rfl, h7, HPBn.out, HMDn.out.done SB7.out, HSBn.out⟩
              · obtain ⟨hc, HPB, HMD, HSB⟩ : ∃ hc, Hid (Bs.PB p q g hc) ∧ Hid (Bs.Md p q a d hc) ∧ Hid (SB w0 b n hc w7) := ⟨h7, HPBn, HMDn, HSBn⟩
                clear HPBn HMDn HSBn
                as_aux_lemma =>
                  have hxn : x < n := by omega
                  have hxn' : (x : Int) < (n : Int) := by omega
                  have cx := HSB.out.row x hxn
                  obtain ⟨PX, hPX⟩ : ∃ PX, PX = hc x := ⟨_, rfl⟩
                  rw [← hPX] at cx
                  by_cases ha0 : 0 < a
                  · have ha0' : (0 : Int) < (a : Int) := by omega
                    obtain ⟨a1, ha1⟩ : ∃ a1, a = a1 + 1 := ⟨a - 1, by omega⟩
                    have ea1 : (a : Int) - 1 = (a1 : Int) := by omega
                    have wa1 : IntKind.i64.wrap (a1 : Int) = (a1 : Int) := IntWalk.i64_in _ (by omega)
                    have za1 : (0 : Int) ≤ (a1 : Int) := by omega
                    have ha1n : a1 < n := by omega
                    have ha1n' : (a1 : Int) < (n : Int) := by omega
                    have ca1 := HSB.out.row a1 ha1n
                    obtain ⟨A1, hA1⟩ : ∃ A1, A1 = hc a1 := ⟨_, rfl⟩
                    rw [← hA1] at ca1
                    have HCC := hid (fun W => less_any A1 PX W)
                    by_cases hless : A1 < PX
                    · rw [decide_eq_true hless] at HCC
                      clear hless hPX hA1 ha1
                      go_wp2
                      go_quiet ((go_at_call 46; exact (HCC.out _).mono fun e w' h => ⟨h.1, quiet_d0 h.2⟩))
                      go_wp2_with fail
                      with_reducible refine (partB_any w0 b n c a d x hc _ ?hsb (by omega) (by omega) (by omega) (by omega) hn).mono ?_
                      case hsb => first | exact HSB.out | exact HSB.out.drewN _
                      rintro e w5 ⟨mid, fl, rfl, h5, pb5, ct5, s5⟩
                      have HPB5 := hid (HPB.out.trans (pb5.mono hpa hdq))
                      have HMD5 := hid (HMD.out.pb pb5 hpa hdq)
                      have HCT := hid ct5
                      have HS5 := hid s5
                      have hmid1 := ct5.cm
                      have hmid2 := ct5.md
                      clear pb5 ct5 s5 HPB HMD HSB
                      obtain ⟨ll, hll⟩ : ∃ ll, ll = mid - a := ⟨_, rfl⟩
                      obtain ⟨rl, hrl⟩ : ∃ rl, rl = d - mid := ⟨_, rfl⟩
                      obtain ⟨m1, hm1⟩ : ∃ m1, m1 = mid + 1 := ⟨_, rfl⟩
                      have ell : (mid : Int) - (a : Int) = (ll : Int) := by omega
                      have erl : (d : Int) - (mid : Int) = (rl : Int) := by omega
                      have em1 : (mid : Int) + 1 = (m1 : Int) := by omega
                      obtain ⟨l8, hl8⟩ : ∃ l8, l8 = l / 8 := ⟨_, rfl⟩
                      have el8 : (l : Int) / 8 = (l8 : Int) := by omega
                      have el8' : (l : Int).tdiv 8 = (l8 : Int) := by rw [Int.tdiv_eq_ediv_of_nonneg (by omega)]; exact el8
                      have hb1 : ll ≤ 1000 := by omega
                      have hb2 : rl ≤ 1000 := by omega
                      have hb3 : m1 ≤ 1001 := by omega
                      have hb4 : l8 ≤ 1000 := by omega
                      have HMM := hid hm1
                      have HLL := hid hll
                      have HLO5 := hid (HMD5.out.lo (HLO.out.pb HPB5.out) hpa hdq)
                      by_cases hlr : ll < rl
                      · have hlr' : (ll : Int) < (rl : Int) := by omega
                        obtain ⟨wb2, hwb2⟩ : ∃ wb2, wb2 = decide (l8 ≤ ll) := ⟨_, rfl⟩
                        have ewb2 : decide ((l8 : Int) ≤ (ll : Int)) = wb2 := by rw [hwb2]; exact decide_eq_decide.2 (by omega)
                        have ewb3 : decide (l8 ≤ ll) = wb2 := hwb2.symm
                        clear hll hrl hm1 hl8 hwb2
                        go_wp2_with fail
                        with_reducible refine (IH.out.at_ a mid limc h5 _ (by have := HN.out; omega) HS5.out (HLO5.out.left (by omega)) hmid1 (by omega) hlimc).mono ?_
                        rintro e w6 ⟨rfl, h6, pb6, sb6, s6⟩
                        have HPB6 := hid (HPB5.out.trans (pb6.mono hpa (by omega)))
                        have HMD6 := hid ((HMD5.out.pb (pb6.mono (Nat.le_refl _) (by omega)) hpa hdq).cutl (HCT.out.left pb6) sb6)
                        have HS6 := hid s6
                        clear pb6 sb6 s6
                        go_wp2
                        go_roundw
                        case measure => have := HMM.out; simp [intOf]; omega
                        case rel =>
                          have hm1 := HMM.out
                          exact ⟨m1, d, limc, wb2, fl, by first | rfl | go_num, rfl, rfl, by first | rfl | simp only [ewb2] | simp only [ewb3], rfl, by omega, by omega, hdq, hlimc, hid ⟨h6, HPB6.out, by rw [hm1]; exact HMD6.out, HS6.out⟩⟩
                      · have hlr' : decide ((ll : Int) < (rl : Int)) = false := decide_eq_false (by omega)
                        have hlr2 : decide (ll < rl) = false := decide_eq_false hlr
                        obtain ⟨wb2, hwb2⟩ : ∃ wb2, wb2 = decide (l8 ≤ rl) := ⟨_, rfl⟩
                        have ewb2 : decide ((l8 : Int) ≤ (rl : Int)) = wb2 := by rw [hwb2]; exact decide_eq_decide.2 (by omega)
                        have ewb3 : decide (l8 ≤ rl) = wb2 := hwb2.symm
                        have HCR := hid (show Bs.Lo m1 d h5 by rw [hm1]; exact HCT.out.lo)
                        clear hll hrl hm1 hl8 hwb2
                        go_wp2_with fail
                        with_reducible refine (IH.out.at_ m1 d limc h5 _ (by have := HN.out; have := HMM.out; omega) HS5.out HCR.out (by have := HMM.out; omega) (by omega) hlimc).mono ?_
                        rintro e w6 ⟨rfl, h6, pb6, sb6, s6⟩
                        have hm1 := HMM.out
                        have HPB6 := hid (HPB5.out.trans (pb6.mono (by omega) hdq))
                        have HMD6 : Hid (Bs.Md p q a mid h6) := by
                          rw [hm1] at pb6 sb6
                          exact (HMD5.out.pb (pb6.mono (by omega) (Nat.le_refl _)) hpa hdq).cutr (HCT.out.right pb6) sb6
                        have HS6 := hid s6
                        clear pb6 sb6 s6 hm1
                        go_wp2
                        go_roundw
                        case measure => simp [intOf]; omega
                        case rel => exact ⟨a, mid, limc, wb2, fl, rfl, rfl, rfl, by first | rfl | simp only [ewb2] | simp only [ewb3], rfl, hpa, hmid1, by omega, hlimc, hid ⟨h6, HPB6.out, HMD6.out, HS6.out⟩⟩
                    · rw [decide_eq_false hless] at HCC
                      have HPXA := hid (show hc x ≤ hc (a - 1) by rw [show a - 1 = a1 by omega, ← hPX, ← hA1]; omega)
                      clear hless hPX hA1 ha1
                      go_wp2
                      go_quiet ((go_at_call 46; exact (HCC.out _).mono fun e w' h => ⟨h.1, quiet_d0 h.2⟩))
                      go_wp2_with fail
                      with_reducible refine (eqB_any w0 b n c a d x hc _ ?hsb (by omega) (by omega) (by omega) (by omega) hn).mono ?_
                      case hsb => first | exact HSB.out.drewN _ | exact HSB.out
                      rintro e w5 ⟨mid, h5, rfl, pb5, pe5, s5⟩
                      have HPB5 := hid (HPB.out.trans (pb5.mono hpa hdq))
                      have HMD5 := hid (HMD.out.pb pb5 hpa hdq)
                      have HLO5 := hid (HMD5.out.lo (HLO.out.pb HPB5.out) hpa hdq)
                      have HMD6 : Hid (Bs.Md p q mid d h5) := by
                        refine HMD5.out.equal (p := h5 a) (fun k k1 k2 => ?_) (fun k k1 k2 => pe5.le k k1 k2)
                        have q1 := HLO5.out ha0 k k1 k2
                        have q2 := HPXA.out
                        rw [pe5.pv]
                        rw [pb5.out (k := a - 1) (by omega)] at q1
                        omega
                      have HS5 := hid s5
                      have hmid1 := pe5.lo
                      have hmid2 := pe5.jd
                      clear pb5 pe5 s5 HPB HMD HSB
                      go_wp2
                      go_roundw
                      case measure => simp [intOf]; omega
                      case rel => exact ⟨mid, d, limc, true, true, rfl, rfl, rfl, rfl, rfl, by omega, hmid2, hdq, hlimc, hid ⟨h5, HPB5.out, HMD6.out, HS5.out⟩⟩
                  · have ha0' : decide ((0 : Int) < (a : Int)) = false := decide_eq_false (by omega)
                    have ha02 : decide (0 < a) = false := decide_eq_false ha0
                    clear hPX
                    go_wp2
                    go_quiet (fail)
                    go_wp2_with fail
                    with_reducible refine (partB_any w0 b n c a d x hc _ ?hsb (by omega) (by omega) (by omega) (by omega) hn).mono ?_
                    case hsb => first | exact HSB.out | exact HSB.out.drewN _
                    rintro e w5 ⟨mid, fl, rfl, h5, pb5, ct5, s5⟩
                    have HPB5 := hid (HPB.out.trans (pb5.mono hpa hdq))
                    have HMD5 := hid (HMD.out.pb pb5 hpa hdq)
                    have HCT := hid ct5
                    have HS5 := hid s5
                    have hmid1 := ct5.cm
                    have hmid2 := ct5.md
                    clear pb5 ct5 s5 HPB HMD HSB
                    obtain ⟨ll, hll⟩ : ∃ ll, ll = mid - a := ⟨_, rfl⟩
                    obtain ⟨rl, hrl⟩ : ∃ rl, rl = d - mid := ⟨_, rfl⟩
                    obtain ⟨m1, hm1⟩ : ∃ m1, m1 = mid + 1 := ⟨_, rfl⟩
                    have ell : (mid : Int) - (a : Int) = (ll : Int) := by omega
                    have erl : (d : Int) - (mid : Int) = (rl : Int) := by omega
                    have em1 : (mid : Int) + 1 = (m1 : Int) := by omega
                    obtain ⟨l8, hl8⟩ : ∃ l8, l8 = l / 8 := ⟨_, rfl⟩
                    have el8 : (l : Int) / 8 = (l8 : Int) := by omega
                    have el8' : (l : Int).tdiv 8 = (l8 : Int) := by rw [Int.tdiv_eq_ediv_of_nonneg (by omega)]; exact el8
                    have hb1 : ll ≤ 1000 := by omega
                    have hb2 : rl ≤ 1000 := by omega
                    have hb3 : m1 ≤ 1001 := by omega
                    have hb4 : l8 ≤ 1000 := by omega
                    have HMM := hid hm1
                    have HLL := hid hll
                    have HLO5 := hid (HMD5.out.lo (HLO.out.pb HPB5.out) hpa hdq)
                    by_cases hlr : ll < rl
                    · have hlr' : (ll : Int) < (rl : Int) := by omega
                      obtain ⟨wb2, hwb2⟩ : ∃ wb2, wb2 = decide (l8 ≤ ll) := ⟨_, rfl⟩
                      have ewb2 : decide ((l8 : Int) ≤ (ll : Int)) = wb2 := by rw [hwb2]; exact decide_eq_decide.2 (by omega)
                      have ewb3 : decide (l8 ≤ ll) = wb2 := hwb2.symm
                      clear hll hrl hm1 hl8 hwb2
                      go_wp2_with fail
                      with_reducible refine (IH.out.at_ a mid limc h5 _ (by have := HN.out; omega) HS5.out (HLO5.out.left (by omega)) hmid1 (by omega) hlimc).mono ?_
                      rintro e w6 ⟨rfl, h6, pb6, sb6, s6⟩
                      have HPB6 := hid (HPB5.out.trans (pb6.mono hpa (by omega)))
                      have HMD6 := hid ((HMD5.out.pb (pb6.mono (Nat.le_refl _) (by omega)) hpa hdq).cutl (HCT.out.left pb6) sb6)
                      have HS6 := hid s6
                      clear pb6 sb6 s6
                      go_wp2
                      go_roundw
                      case measure => have := HMM.out; simp [intOf]; omega
                      case rel =>
                        have hm1 := HMM.out
                        exact ⟨m1, d, limc, wb2, fl, by first | rfl | go_num, rfl, rfl, by first | rfl | simp only [ewb2] | simp only [ewb3], rfl, by omega, by omega, hdq, hlimc, hid ⟨h6, HPB6.out, by rw [hm1]; exact HMD6.out, HS6.out⟩⟩
                    · have hlr' : decide ((ll : Int) < (rl : Int)) = false := decide_eq_false (by omega)
                      have hlr2 : decide (ll < rl) = false := decide_eq_false hlr
                      obtain ⟨wb2, hwb2⟩ : ∃ wb2, wb2 = decide (l8 ≤ rl) := ⟨_, rfl⟩
                      have ewb2 : decide ((l8 : Int) ≤ (rl : Int)) = wb2 := by rw [hwb2]; exact decide_eq_decide.2 (by omega)
                      have ewb3 : decide (l8 ≤ rl) = wb2 := hwb2.symm
                      have HCR := hid (show Bs.Lo m1 d h5 by rw [hm1]; exact HCT.out.lo)
                      clear hll hrl hm1 hl8 hwb2
                      go_wp2_with fail
                      with_reducible refine (IH.out.at_ m1 d limc h5 _ (by have := HN.out; have := HMM.out; omega) HS5.out HCR.out (by have := HMM.out; omega) (by omega) hlimc).mono ?_
                      rintro e w6 ⟨rfl, h6, pb6, sb6, s6⟩
                      have hm1 := HMM.out
                      have HPB6 := hid (HPB5.out.trans (pb6.mono (by omega) hdq))
                      have HMD6 : Hid (Bs.Md p q a mid h6) := by
                        rw [hm1] at pb6 sb6
                        exact (HMD5.out.pb (pb6.mono (by omega) (Nat.le_refl _)) hpa hdq).cutr (HCT.out.right pb6) sb6
                      have HS6 := hid s6
                      clear pb6 sb6 s6 hm1
                      go_wp2
                      go_roundw
                      case measure => simp [intOf]; omega
                      case rel => exact ⟨a, mid, limc, wb2, fl, rfl, rfl, rfl, by first | rfl | simp only [ewb2] | simp only [ewb3], rfl, hpa, hmid1, by omega, hlimc, hid ⟨h6, HPB6.out, HMD6.out, HS6.out⟩⟩
          · go_wp2_with fail
            with_reducible refine (revB_any w0 b n c a d hc _ HSB.out (by omega) (by omega) hn).mono ?_
            rintro e w4 ⟨rfl, h4, pb4, s4⟩
            have HPBn := hid (HPB.out.trans (pb4.mono hpa hdq))
            have HMDn := hid (HMD.out.pb pb4 hpa hdq)
            have HSBn := hid s4
            clear pb4 s4 HPB HMD HSB
            obtain ⟨d1, hd1⟩ : ∃ d1, d = d1 + 1 := ⟨d - 1, by omega⟩
            obtain ⟨xa, hxa⟩ : ∃ xa, xa = x - a := ⟨_, rfl⟩
            obtain ⟨y, hy⟩ : ∃ y, y = d1 - xa := ⟨_, rfl⟩
            have ed1 : (d : Int) - 1 = (d1 : Int) := by omega
            have exa : (x : Int) - (a : Int) = (xa : Int) := by omega
            have ey : (d1 : Int) - (xa : Int) = (y : Int) := by omega
            have hay : a ≤ y := by omega
            have hyd : y < d := by omega
            have hd1b : d1 ≤ 1000 := by omega
            have hxab : xa ≤ 1000 := by omega
            clear hd1 hxa hy
            obtain ⟨hc, HPB, HMD, HSB⟩ : ∃ hc, Hid (Bs.PB p q g hc) ∧ Hid (Bs.Md p q a d hc) ∧ Hid (SB w0 b n hc w4) := ⟨h4, HPBn, HMDn, HSBn⟩
            clear HPBn HMDn HSBn
            cases wp
            · as_aux_lemma =>
                have hxn : y < n := by omega
                have hxn' : (y : Int) < (n : Int) := by omega
                have cx := HSB.out.row y hxn
                obtain ⟨PX, hPX⟩ : ∃ PX, PX = hc y := ⟨_, rfl⟩
                rw [← hPX] at cx
                by_cases ha0 : 0 < a
                · have ha0' : (0 : Int) < (a : Int) := by omega
                  obtain ⟨a1, ha1⟩ : ∃ a1, a = a1 + 1 := ⟨a - 1, by omega⟩
                  have ea1 : (a : Int) - 1 = (a1 : Int) := by omega
                  have wa1 : IntKind.i64.wrap (a1 : Int) = (a1 : Int) := IntWalk.i64_in _ (by omega)
                  have za1 : (0 : Int) ≤ (a1 : Int) := by omega
                  have ha1n : a1 < n := by omega
                  have ha1n' : (a1 : Int) < (n : Int) := by omega
                  have ca1 := HSB.out.row a1 ha1n
                  obtain ⟨A1, hA1⟩ : ∃ A1, A1 = hc a1 := ⟨_, rfl⟩
                  rw [← hA1] at ca1
                  have HCC := hid (fun W => less_any A1 PX W)
                  by_cases hless : A1 < PX
                  · rw [decide_eq_true hless] at HCC
                    clear hless hPX hA1 ha1
                    go_wp2
                    go_quiet ((go_at_call 46; exact (HCC.out _).mono fun e w' h => ⟨h.1, quiet_d0 h.2⟩))
                    go_wp2_with fail
                    with_reducible refine (partB_any w0 b n c a d y hc _ ?hsb (by omega) (by omega) (by omega) (by omega) hn).mono ?_
                    case hsb => first | exact HSB.out | exact HSB.out.drewN _
                    rintro e w5 ⟨mid, fl, rfl, h5, pb5, ct5, s5⟩
                    have HPB5 := hid (HPB.out.trans (pb5.mono hpa hdq))
                    have HMD5 := hid (HMD.out.pb pb5 hpa hdq)
                    have HCT := hid ct5
                    have HS5 := hid s5
                    have hmid1 := ct5.cm
                    have hmid2 := ct5.md
                    clear pb5 ct5 s5 HPB HMD HSB
                    obtain ⟨ll, hll⟩ : ∃ ll, ll = mid - a := ⟨_, rfl⟩
                    obtain ⟨rl, hrl⟩ : ∃ rl, rl = d - mid := ⟨_, rfl⟩
                    obtain ⟨m1, hm1⟩ : ∃ m1, m1 = mid + 1 := ⟨_, rfl⟩
                    have ell : (mid : Int) - (a : Int) = (ll : Int) := by omega
                    have erl : (d : Int) - (mid : Int) = (rl : Int) := by omega
                    have em1 : (mid : Int) + 1 = (m1 : Int) := by omega
                    obtain ⟨l8, hl8⟩ : ∃ l8, l8 = l / 8 := ⟨_, rfl⟩
                    have el8 : (l : Int) / 8 = (l8 : Int) := by omega
                    have el8' : (l : Int).tdiv 8 = (l8 : Int) := by rw [Int.tdiv_eq_ediv_of_nonneg (by omega)]; exact el8
                    have hb1 : ll ≤ 1000 := by omega
                    have hb2 : rl ≤ 1000 := by omega
                    have hb3 : m1 ≤ 1001 := by omega
                    have hb4 : l8 ≤ 1000 := by omega
                    have HMM := hid hm1
                    have HLL := hid hll
                    have HLO5 := hid (HMD5.out.lo (HLO.out.pb HPB5.out) hpa hdq)
                    by_cases hlr : ll < rl
                    · have hlr' : (ll : Int) < (rl : Int) := by omega
                      obtain ⟨wb2, hwb2⟩ : ∃ wb2, wb2 = decide (l8 ≤ ll) := ⟨_, rfl⟩
                      have ewb2 : decide ((l8 : Int) ≤ (ll : Int)) = wb2 := by rw [hwb2]; exact decide_eq_decide.2 (by omega)
                      have ewb3 : decide (l8 ≤ ll) = wb2 := hwb2.symm
                      clear hll hrl hm1 hl8 hwb2
                      go_wp2_with fail
                      with_reducible refine (IH.out.at_ a mid limc h5 _ (by have := HN.out; omega) HS5.out (HLO5.out.left (by omega)) hmid1 (by omega) hlimc).mono ?_
                      rintro e w6 ⟨rfl, h6, pb6, sb6, s6⟩
                      have HPB6 := hid (HPB5.out.trans (pb6.mono hpa (by omega)))
                      have HMD6 := hid ((HMD5.out.pb (pb6.mono (Nat.le_refl _) (by omega)) hpa hdq).cutl (HCT.out.left pb6) sb6)
                      have HS6 := hid s6
                      clear pb6 sb6 s6
                      go_wp2
                      go_roundw
                      case measure => have := HMM.out; simp [intOf]; omega
                      case rel =>
                        have hm1 := HMM.out
                        exact ⟨m1, d, limc, wb2, fl, by first | rfl | go_num, rfl, rfl, by first | rfl | simp only [ewb2] | simp only [ewb3], rfl, by omega, by omega, hdq, hlimc, hid ⟨h6, HPB6.out, by rw [hm1]; exact HMD6.out, HS6.out⟩⟩
                    · have hlr' : decide ((ll : Int) < (rl : Int)) = false := decide_eq_false (by omega)
                      have hlr2 : decide (ll < rl) = false := decide_eq_false hlr
                      obtain ⟨wb2, hwb2⟩ : ∃ wb2, wb2 = decide (l8 ≤ rl) := ⟨_, rfl⟩
                      have ewb2 : decide ((l8 : Int) ≤ (rl : Int)) = wb2 := by rw [hwb2]; exact decide_eq_decide.2 (by omega)
                      have ewb3 : decide (l8 ≤ rl) = wb2 := hwb2.symm
                      have HCR := hid (show Bs.Lo m1 d h5 by rw [hm1]; exact HCT.out.lo)
                      clear hll hrl hm1 hl8 hwb2
                      go_wp2_with fail
                      with_reducible refine (IH.out.at_ m1 d limc h5 _ (by have := HN.out; have := HMM.out; omega) HS5.out HCR.out (by have := HMM.out; omega) (by omega) hlimc).mono ?_
                      rintro e w6 ⟨rfl, h6, pb6, sb6, s6⟩
                      have hm1 := HMM.out
                      have HPB6 := hid (HPB5.out.trans (pb6.mono (by omega) hdq))
                      have HMD6 : Hid (Bs.Md p q a mid h6) := by
                        rw [hm1] at pb6 sb6
                        exact (HMD5.out.pb (pb6.mono (by omega) (Nat.le_refl _)) hpa hdq).cutr (HCT.out.right pb6) sb6
                      have HS6 := hid s6
                      clear pb6 sb6 s6 hm1
                      go_wp2
                      go_roundw
                      case measure => simp [intOf]; omega
                      case rel => exact ⟨a, mid, limc, wb2, fl, rfl, rfl, rfl, by first | rfl | simp only [ewb2] | simp only [ewb3], rfl, hpa, hmid1, by omega, hlimc, hid ⟨h6, HPB6.out, HMD6.out, HS6.out⟩⟩
                  · rw [decide_eq_false hless] at HCC
                    have HPXA := hid (show hc y ≤ hc (a - 1) by rw [show a - 1 = a1 by omega, ← hPX, ← hA1]; omega)
                    clear hless hPX hA1 ha1
                    go_wp2
                    go_quiet ((go_at_call 46; exact (HCC.out _).mono fun e w' h => ⟨h.1, quiet_d0 h.2⟩))
                    go_wp2_with fail
                    with_reducible refine (eqB_any w0 b n c a d y hc _ ?hsb (by omega) (by omega) (by omega) (by omega) hn).mono ?_
                    case hsb => first | exact HSB.out.drewN _ | exact HSB.out
                    rintro e w5 ⟨mid, h5, rfl, pb5, pe5, s5⟩
                    have HPB5 := hid (HPB.out.trans (pb5.mono hpa hdq))
                    have HMD5 := hid (HMD.out.pb pb5 hpa hdq)
                    have HLO5 := hid (HMD5.out.lo (HLO.out.pb HPB5.out) hpa hdq)
                    have HMD6 : Hid (Bs.Md p q mid d h5) := by
                      refine HMD5.out.equal (p := h5 a) (fun k k1 k2 => ?_) (fun k k1 k2 => pe5.le k k1 k2)
                      have q1 := HLO5.out ha0 k k1 k2
                      have q2 := HPXA.out
                      rw [pe5.pv]
                      rw [pb5.out (k := a - 1) (by omega)] at q1
                      omega
                    have HS5 := hid s5
                    have hmid1 := pe5.lo
                    have hmid2 := pe5.jd
                    clear pb5 pe5 s5 HPB HMD HSB
                    go_wp2
                    go_roundw
                    case measure => simp [intOf]; omega
                    case rel => exact ⟨mid, d, limc, true, false, rfl, rfl, rfl, rfl, rfl, by omega, hmid2, hdq, hlimc, hid ⟨h5, HPB5.out, HMD6.out, HS5.out⟩⟩
                · have ha0' : decide ((0 : Int) < (a : Int)) = false := decide_eq_false (by omega)
                  have ha02 : decide (0 < a) = false := decide_eq_false ha0
                  clear hPX
                  go_wp2
                  go_quiet (fail)
                  go_wp2_with fail
                  with_reducible refine (partB_any w0 b n c a d y hc _ ?hsb (by omega) (by omega) (by omega) (by omega) hn).mono ?_
                  case hsb => first | exact HSB.out | exact HSB.out.drewN _
                  rintro e w5 ⟨mid, fl, rfl, h5, pb5, ct5, s5⟩
                  have HPB5 := hid (HPB.out.trans (pb5.mono hpa hdq))
                  have HMD5 := hid (HMD.out.pb pb5 hpa hdq)
                  have HCT := hid ct5
                  have HS5 := hid s5
                  have hmid1 := ct5.cm
                  have hmid2 := ct5.md
                  clear pb5 ct5 s5 HPB HMD HSB
                  obtain ⟨ll, hll⟩ : ∃ ll, ll = mid - a := ⟨_, rfl⟩
                  obtain ⟨rl, hrl⟩ : ∃ rl, rl = d - mid := ⟨_, rfl⟩
                  obtain ⟨m1, hm1⟩ : ∃ m1, m1 = mid + 1 := ⟨_, rfl⟩
                  have ell : (mid : Int) - (a : Int) = (ll : Int) := by omega
                  have erl : (d : Int) - (mid : Int) = (rl : Int) := by omega
                  have em1 : (mid : Int) + 1 = (m1 : Int) := by omega
                  obtain ⟨l8, hl8⟩ : ∃ l8, l8 = l / 8 := ⟨_, rfl⟩
                  have el8 : (l : Int) / 8 = (l8 : Int) := by omega
                  have el8' : (l : Int).tdiv 8 = (l8 : Int) := by rw [Int.tdiv_eq_ediv_of_nonneg (by omega)]; exact el8
                  have hb1 : ll ≤ 1000 := by omega
                  have hb2 : rl ≤ 1000 := by omega
                  have hb3 : m1 ≤ 1001 := by omega
                  have hb4 : l8 ≤ 1000 := by omega
                  have HMM := hid hm1
                  have HLL := hid hll
                  have HLO5 := hid (HMD5.out.lo (HLO.out.pb HPB5.out) hpa hdq)
                  by_cases hlr : ll < rl
                  · have hlr' : (ll : Int) < (rl : Int) := by omega
                    obtain ⟨wb2, hwb2⟩ : ∃ wb2, wb2 = decide (l8 ≤ ll) := ⟨_, rfl⟩
                    have ewb2 : decide ((l8 : Int) ≤ (ll : Int)) = wb2 := by rw [hwb2]; exact decide_eq_decide.2 (by omega)
                    have ewb3 : decide (l8 ≤ ll) = wb2 := hwb2.symm
                    clear hll hrl hm1 hl8 hwb2
                    go_wp2_with fail
                    with_reducible refine (IH.out.at_ a mid limc h5 _ (by have := HN.out; omega) HS5.out (HLO5.out.left (by omega)) hmid1 (by omega) hlimc).mono ?_
                    rintro e w6 ⟨rfl, h6, pb6, sb6, s6⟩
                    have HPB6 := hid (HPB5.out.trans (pb6.mono hpa (by omega)))
                    have HMD6 := hid ((HMD5.out.pb (pb6.mono (Nat.le_refl _) (by omega)) hpa hdq).cutl (HCT.out.left pb6) sb6)
                    have HS6 := hid s6
                    clear pb6 sb6 s6
                    go_wp2
                    go_roundw
                    case measure => have := HMM.out; simp [intOf]; omega
                    case rel =>
                      have hm1 := HMM.out
                      exact ⟨m1, d, limc, wb2, fl, by first | rfl | go_num, rfl, rfl, by first | rfl | simp only [ewb2] | simp only [ewb3], rfl, by omega, by omega, hdq, hlimc, hid ⟨h6, HPB6.out, by rw [hm1]; exact HMD6.out, HS6.out⟩⟩
                  · have hlr' : decide ((ll : Int) < (rl : Int)) = false := decide_eq_false (by omega)
                    have hlr2 : decide (ll < rl) = false := decide_eq_false hlr
                    obtain ⟨wb2, hwb2⟩ : ∃ wb2, wb2 = decide (l8 ≤ rl) := ⟨_, rfl⟩
                    have ewb2 : decide ((l8 : Int) ≤ (rl : Int)) = wb2 := by rw [hwb2]; exact decide_eq_decide.2 (by omega)
                    have ewb3 : decide (l8 ≤ rl) = wb2 := hwb2.symm
                    have HCR := hid (show Bs.Lo m1 d h5 by rw [hm1]; exact HCT.out.lo)
                    clear hll hrl hm1 hl8 hwb2
                    go_wp2_with fail
                    with_reducible refine (IH.out.at_ m1 d limc h5 _ (by have := HN.out; have := HMM.out; omega) HS5.out HCR.out (by have := HMM.out; omega) (by omega) hlimc).mono ?_
                    rintro e w6 ⟨rfl, h6, pb6, sb6, s6⟩
                    have hm1 := HMM.out
                    have HPB6 := hid (HPB5.out.trans (pb6.mono (by omega) hdq))
                    have HMD6 : Hid (Bs.Md p q a mid h6) := by
                      rw [hm1] at pb6 sb6
                      exact (HMD5.out.pb (pb6.mono (by omega) (Nat.le_refl _)) hpa hdq).cutr (HCT.out.right pb6) sb6
                    have HS6 := hid s6
                    clear pb6 sb6 s6 hm1
                    go_wp2
                    go_roundw
                    case measure => simp [intOf]; omega
                    case rel => exact ⟨a, mid, limc, wb2, fl, rfl, rfl, rfl, by first | rfl | simp only [ewb2] | simp only [ewb3], rfl, hpa, hmid1, by omega, hlimc, hid ⟨h6, HPB6.out, HMD6.out, HS6.out⟩⟩
            · go_wp2_with fail
              with_reducible refine (tryB_any w0 b n c a d hc _ HSB.out (by omega) (by omega) (HMD.out.lo (HLO.out.pb HPB.out) hpa hdq) hn).mono ?_
              rintro e w7 ⟨h7, hr7, pb7, s7⟩
              have HPBn := hid (HPB.out.trans (pb7.mono hpa hdq))
              have HMDn := hid (HMD.out.pb pb7 hpa hdq)
              have HSBn := hid s7
              clear pb7 s7 HPB HMD HSB
              rcases hr7 with ⟨rfl, sb7⟩ | rfl
              · have SB7 := hid sb7
                clear sb7
                go_wp2
                refine bodyPost_ret (results_none rfl _ _ _) rfl ?_
                exact ⟨rfl, h7, HPBn.out, HMDn.out.done SB7.out, HSBn.out⟩
              · obtain ⟨hc, HPB, HMD, HSB⟩ : ∃ hc, Hid (Bs.PB p q g hc) ∧ Hid (Bs.Md p q a d hc) ∧ Hid (SB w0 b n hc w7) := ⟨h7, HPBn, HMDn, HSBn⟩
                clear HPBn HMDn HSBn
                as_aux_lemma =>
                  have hxn : y < n := by omega
                  have hxn' : (y : Int) < (n : Int) := by omega
                  have cx := HSB.out.row y hxn
                  obtain ⟨PX, hPX⟩ : ∃ PX, PX = hc y := ⟨_, rfl⟩
                  rw [← hPX] at cx
                  by_cases ha0 : 0 < a
                  · have ha0' : (0 : Int) < (a : Int) := by omega
                    obtain ⟨a1, ha1⟩ : ∃ a1, a = a1 + 1 := ⟨a - 1, by omega⟩
                    have ea1 : (a : Int) - 1 = (a1 : Int) := by omega
                    have wa1 : IntKind.i64.wrap (a1 : Int) = (a1 : Int) := IntWalk.i64_in _ (by omega)
                    have za1 : (0 : Int) ≤ (a1 : Int) := by omega
                    have ha1n : a1 < n := by omega
                    have ha1n' : (a1 : Int) < (n : Int) := by omega
                    have ca1 := HSB.out.row a1 ha1n
                    obtain ⟨A1, hA1⟩ : ∃ A1, A1 = hc a1 := ⟨_, rfl⟩
                    rw [← hA1] at ca1
                    have HCC := hid (fun W => less_any A1 PX W)
                    by_cases hless : A1 < PX
                    · rw [decide_eq_true hless] at HCC
                      clear hless hPX hA1 ha1
                      go_wp2
                      go_quiet ((go_at_call 46; exact (HCC.out _).mono fun e w' h => ⟨h.1, quiet_d0 h.2⟩))
                      go_wp2_with fail
                      with_reducible refine (partB_any w0 b n c a d y hc _ ?hsb (by omega) (by omega) (by omega) (by omega) hn).mono ?_
                      case hsb => first | exact HSB.out | exact HSB.out.drewN _
                      rintro e w5 ⟨mid, fl, rfl, h5, pb5, ct5, s5⟩
                      have HPB5 := hid (HPB.out.trans (pb5.mono hpa hdq))
                      have HMD5 := hid (HMD.out.pb pb5 hpa hdq)
                      have HCT := hid ct5
                      have HS5 := hid s5
                      have hmid1 := ct5.cm
                      have hmid2 := ct5.md
                      clear pb5 ct5 s5 HPB HMD HSB
                      obtain ⟨ll, hll⟩ : ∃ ll, ll = mid - a := ⟨_, rfl⟩
                      obtain ⟨rl, hrl⟩ : ∃ rl, rl = d - mid := ⟨_, rfl⟩
                      obtain ⟨m1, hm1⟩ : ∃ m1, m1 = mid + 1 := ⟨_, rfl⟩
                      have ell : (mid : Int) - (a : Int) = (ll : Int) := by omega
                      have erl : (d : Int) - (mid : Int) = (rl : Int) := by omega
                      have em1 : (mid : Int) + 1 = (m1 : Int) := by omega
                      obtain ⟨l8, hl8⟩ : ∃ l8, l8 = l / 8 := ⟨_, rfl⟩
                      have el8 : (l : Int) / 8 = (l8 : Int) := by omega
                      have el8' : (l : Int).tdiv 8 = (l8 : Int) := by rw [Int.tdiv_eq_ediv_of_nonneg (by omega)]; exact el8
                      have hb1 : ll ≤ 1000 := by omega
                      have hb2 : rl ≤ 1000 := by omega
                      have hb3 : m1 ≤ 1001 := by omega
                      have hb4 : l8 ≤ 1000 := by omega
                      have HMM := hid hm1
                      have HLL := hid hll
                      have HLO5 := hid (HMD5.out.lo (HLO.out.pb HPB5.out) hpa hdq)
                      by_cases hlr : ll < rl
                      · have hlr' : (ll : Int) < (rl : Int) := by omega
                        obtain ⟨wb2, hwb2⟩ : ∃ wb2, wb2 = decide (l8 ≤ ll) := ⟨_, rfl⟩
                        have ewb2 : decide ((l8 : Int) ≤ (ll : Int)) = wb2 := by rw [hwb2]; exact decide_eq_decide.2 (by omega)
                        have ewb3 : decide (l8 ≤ ll) = wb2 := hwb2.symm
                        clear hll hrl hm1 hl8 hwb2
                        go_wp2_with fail
                        with_reducible refine (IH.out.at_ a mid limc h5 _ (by have := HN.out; omega) HS5.out (HLO5.out.left (by omega)) hmid1 (by omega) hlimc).mono ?_
                        rintro e w6 ⟨rfl, h6, pb6, sb6, s6⟩
                        have HPB6 := hid (HPB5.out.trans (pb6.mono hpa (by omega)))
                        have HMD6 := hid ((HMD5.out.pb (pb6.mono (Nat.le_refl _) (by omega)) hpa hdq).cutl (HCT.out.left pb6) sb6)
                        have HS6 := hid s6
                        clear pb6 sb6 s6
                        go_wp2
                        go_roundw
                        case measure => have := HMM.out; simp [intOf]; omega
                        case rel =>
                          have hm1 := HMM.out
                          exact ⟨m1, d, limc, wb2, fl, by first | rfl | go_num, rfl, rfl, by first | rfl | simp only [ewb2] | simp only [ewb3], rfl, by omega, by omega, hdq, hlimc, hid ⟨h6, HPB6.out, by rw [hm1]; exact HMD6.out, HS6.out⟩⟩
                      · have hlr' : decide ((ll : Int) < (rl : Int)) = false := decide_eq_false (by omega)
                        have hlr2 : decide (ll < rl) = false := decide_eq_false hlr
                        obtain ⟨wb2, hwb2⟩ : ∃ wb2, wb2 = decide (l8 ≤ rl) := ⟨_, rfl⟩
                        have ewb2 : decide ((l8 : Int) ≤ (rl : Int)) = wb2 := by rw [hwb2]; exact decide_eq_decide.2 (by omega)
                        have ewb3 : decide (l8 ≤ rl) = wb2 := hwb2.symm
                        have HCR := hid (show Bs.Lo m1 d h5 by rw [hm1]; exact HCT.out.lo)
                        clear hll hrl hm1 hl8 hwb2
                        go_wp2_with fail
                        with_reducible refine (IH.out.at_ m1 d limc h5 _ (by have := HN.out; have := HMM.out; omega) HS5.out HCR.out (by have := HMM.out; omega) (by omega) hlimc).mono ?_
                        rintro e w6 ⟨rfl, h6, pb6, sb6, s6⟩
                        have hm1 := HMM.out
                        have HPB6 := hid (HPB5.out.trans (pb6.mono (by omega) hdq))
                        have HMD6 : Hid (Bs.Md p q a mid h6) := by
                          rw [hm1] at pb6 sb6
                          exact (HMD5.out.pb (pb6.mono (by omega) (Nat.le_refl _)) hpa hdq).cutr (HCT.out.right pb6) sb6
                        have HS6 := hid s6
                        clear pb6 sb6 s6 hm1
                        go_wp2
                        go_roundw
                        case measure => simp [intOf]; omega
                        case rel => exact ⟨a, mid, limc, wb2, fl, rfl, rfl, rfl, by first | rfl | simp only [ewb2] | simp only [ewb3], rfl, hpa, hmid1, by omega, hlimc, hid ⟨h6, HPB6.out, HMD6.out, HS6.out⟩⟩
                    · rw [decide_eq_false hless] at HCC
                      have HPXA := hid (show hc y ≤ hc (a - 1) by rw [show a - 1 = a1 by omega, ← hPX, ← hA1]; omega)
                      clear hless hPX hA1 ha1
                      go_wp2
                      go_quiet ((go_at_call 46; exact (HCC.out _).mono fun e w' h => ⟨h.1, quiet_d0 h.2⟩))
                      go_wp2_with fail
                      with_reducible refine (eqB_any w0 b n c a d y hc _ ?hsb (by omega) (by omega) (by omega) (by omega) hn).mono ?_
                      case hsb => first | exact HSB.out.drewN _ | exact HSB.out
                      rintro e w5 ⟨mid, h5, rfl, pb5, pe5, s5⟩
                      have HPB5 := hid (HPB.out.trans (pb5.mono hpa hdq))
                      have HMD5 := hid (HMD.out.pb pb5 hpa hdq)
                      have HLO5 := hid (HMD5.out.lo (HLO.out.pb HPB5.out) hpa hdq)
                      have HMD6 : Hid (Bs.Md p q mid d h5) := by
                        refine HMD5.out.equal (p := h5 a) (fun k k1 k2 => ?_) (fun k k1 k2 => pe5.le k k1 k2)
                        have q1 := HLO5.out ha0 k k1 k2
                        have q2 := HPXA.out
                        rw [pe5.pv]
                        rw [pb5.out (k := a - 1) (by omega)] at q1
                        omega
                      have HS5 := hid s5
                      have hmid1 := pe5.lo
                      have hmid2 := pe5.jd
                      clear pb5 pe5 s5 HPB HMD HSB
                      go_wp2
                      go_roundw
                      case measure => simp [intOf]; omega
                      case rel => exact ⟨mid, d, limc, true, true, rfl, rfl, rfl, rfl, rfl, by omega, hmid2, hdq, hlimc, hid ⟨h5, HPB5.out, HMD6.out, HS5.out⟩⟩
                  · have ha0' : decide ((0 : Int) < (a : Int)) = false := decide_eq_false (by omega)
                    have ha02 : decide (0 < a) = false := decide_eq_false ha0
                    clear hPX
                    go_wp2
                    go_quiet (fail)
                    go_wp2_with fail
                    with_reducible refine (partB_any w0 b n c a d y hc _ ?hsb (by omega) (by omega) (by omega) (by omega) hn).mono ?_
                    case hsb => first | exact HSB.out | exact HSB.out.drewN _
                    rintro e w5 ⟨mid, fl, rfl, h5, pb5, ct5, s5⟩
                    have HPB5 := hid (HPB.out.trans (pb5.mono hpa hdq))
                    have HMD5 := hid (HMD.out.pb pb5 hpa hdq)
                    have HCT := hid ct5
                    have HS5 := hid s5
                    have hmid1 := ct5.cm
                    have hmid2 := ct5.md
                    clear pb5 ct5 s5 HPB HMD HSB
                    obtain ⟨ll, hll⟩ : ∃ ll, ll = mid - a := ⟨_, rfl⟩
                    obtain ⟨rl, hrl⟩ : ∃ rl, rl = d - mid := ⟨_, rfl⟩
                    obtain ⟨m1, hm1⟩ : ∃ m1, m1 = mid + 1 := ⟨_, rfl⟩
                    have ell : (mid : Int) - (a : Int) = (ll : Int) := by omega
                    have erl : (d : Int) - (mid : Int) = (rl : Int) := by omega
                    have em1 : (mid : Int) + 1 = (m1 : Int) := by omega
                    obtain ⟨l8, hl8⟩ : ∃ l8, l8 = l / 8 := ⟨_, rfl⟩
                    have el8 : (l : Int) / 8 = (l8 : Int) := by omega
                    have el8' : (l : Int).tdiv 8 = (l8 : Int) := by rw [Int.tdiv_eq_ediv_of_nonneg (by omega)]; exact el8
                    have hb1 : ll ≤ 1000 := by omega
                    have hb2 : rl ≤ 1000 := by omega
                    have hb3 : m1 ≤ 1001 := by omega
                    have hb4 : l8 ≤ 1000 := by omega
                    have HMM := hid hm1
                    have HLL := hid hll
                    have HLO5 := hid (HMD5.out.lo (HLO.out.pb HPB5.out) hpa hdq)
                    by_cases hlr : ll < rl
                    · have hlr' : (ll : Int) < (rl : Int) := by omega
                      obtain ⟨wb2, hwb2⟩ : ∃ wb2, wb2 = decide (l8 ≤ ll) := ⟨_, rfl⟩
                      have ewb2 : decide ((l8 : Int) ≤ (ll : Int)) = wb2 := by rw [hwb2]; exact decide_eq_decide.2 (by omega)
                      have ewb3 : decide (l8 ≤ ll) = wb2 := hwb2.symm
                      clear hll hrl hm1 hl8 hwb2
                      go_wp2_with fail
                      with_reducible refine (IH.out.at_ a mid limc h5 _ (by have := HN.out; omega) HS5.out (HLO5.out.left (by omega)) hmid1 (by omega) hlimc).mono ?_
                      rintro e w6 ⟨rfl, h6, pb6, sb6, s6⟩
                      have HPB6 := hid (HPB5.out.trans (pb6.mono hpa (by omega)))
                      have HMD6 := hid ((HMD5.out.pb (pb6.mono (Nat.le_refl _) (by omega)) hpa hdq).cutl (HCT.out.left pb6) sb6)
                      have HS6 := hid s6
                      clear pb6 sb6 s6
                      go_wp2
                      go_roundw
                      case measure => have := HMM.out; simp [intOf]; omega
                      case rel =>
                        have hm1 := HMM.out
                        exact ⟨m1, d, limc, wb2, fl, by first | rfl | go_num, rfl, rfl, by first | rfl | simp only [ewb2] | simp only [ewb3], rfl, by omega, by omega, hdq, hlimc, hid ⟨h6, HPB6.out, by rw [hm1]; exact HMD6.out, HS6.out⟩⟩
                    · have hlr' : decide ((ll : Int) < (rl : Int)) = false := decide_eq_false (by omega)
                      have hlr2 : decide (ll < rl) = false := decide_eq_false hlr
                      obtain ⟨wb2, hwb2⟩ : ∃ wb2, wb2 = decide (l8 ≤ rl) := ⟨_, rfl⟩
                      have ewb2 : decide ((l8 : Int) ≤ (rl : Int)) = wb2 := by rw [hwb2]; exact decide_eq_decide.2 (by omega)
                      have ewb3 : decide (l8 ≤ rl) = wb2 := hwb2.symm
                      have HCR := hid (show Bs.Lo m1 d h5 by rw [hm1]; exact HCT.out.lo)
                      clear hll hrl hm1 hl8 hwb2
                      go_wp2_with fail
                      with_reducible refine (IH.out.at_ m1 d limc h5 _ (by have := HN.out; have := HMM.out; omega) HS5.out HCR.out (by have := HMM.out; omega) (by omega) hlimc).mono ?_
                      rintro e w6 ⟨rfl, h6, pb6, sb6, s6⟩
                      have hm1 := HMM.out
                      have HPB6 := hid (HPB5.out.trans (pb6.mono (by omega) hdq))
                      have HMD6 : Hid (Bs.Md p q a mid h6) := by
                        rw [hm1] at pb6 sb6
                        exact (HMD5.out.pb (pb6.mono (by omega) (Nat.le_refl _)) hpa hdq).cutr (HCT.out.right pb6) sb6
                      have HS6 := hid s6
                      clear pb6 sb6 s6 hm1
                      go_wp2
                      go_roundw
                      case measure => simp [intOf]; omega
                      case rel => exact ⟨a, mid, limc, wb2, fl, rfl, rfl, rfl, by first | rfl | simp only [ewb2] | simp only [ewb3], rfl, hpa, hmid1, by omega, hlimc, hid ⟨h6, HPB6.out, HMD6.out, HS6.out⟩⟩
theorem pdq_any (w0 : World) (b n c : Nat) (hn : n ≤ 1000) : ∀ N, PdqOk w0 b n c N
  | 0 => fun p q lim g w h0 H hlo hpq hqn hl => by omega
  | N + 1 => fun p q lim g w h0 H hlo hpq hqn hl => pdq_step w0 b n c N p q lim g w (pdq_any w0 b n c hn N) h0 H hlo hpq hqn hl hn
end Go.Proofs.Ytljpjjokfkbdcaa
