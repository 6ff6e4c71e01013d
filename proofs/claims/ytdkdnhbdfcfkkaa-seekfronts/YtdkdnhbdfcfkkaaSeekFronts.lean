/-
The walk of quillkeep.SeekFronts: it returns true for all strings.
-/
import Derived.Test.YtdkdnhbdfcfkkaaSeeks
import Derived.Test.YtdkdnhbdfcfkkaaFronts
import Derived.Test.YtdkdnhbdfcfkkaaApp
import Derived.Deep.RegionHeld3
import Derived.Laws.RangeString
import Derived.Laws.RangeAny
import Derived.Lib.OthersKept
namespace Go.Proofs.Ytdkdnhbdfcfkkaa
open Go.RowKit

/-- p stands in s at k just if the whole begins anew there with as many bytes. -/
theorem front_stands {s p : ByteArray} {k : Nat} (hk : k < s.size) : p.size ≤ Wm.zf (byt (p ++ s)) (p.size + s.size) (p.size + k) ↔ Stands s p k := by
  rw [Wm.zf_ge]
  have e : ∀ t, t < p.size → (byt (p ++ s) t = byt (p ++ s) (p.size + k + t) ↔ byt p t = byt s (k + t)) := by
    intro t ht
    rw [byt_app, byt_app, Wm.cat_lt ht, Wm.cat_ge (by omega), show p.size + k + t - p.size = k + t by omega]
  constructor
  · rintro ⟨h1, h2⟩
    exact ⟨by omega, fun t ht => (e t ht).1 (h2 t ht)⟩
  · rintro ⟨h1, h2⟩
    exact ⟨by omega, fun t ht => (e t ht).2 (h2 t ht)⟩
/-- It begins anew at i to its end just if it has that border. -/
theorem front_border {f : Nat → UInt8} {n i : Nat} (hi : i ≤ n) : i + Wm.zf f n i = n ↔ Wm.Bd f n (n - i) := by
  obtain ⟨g1, _, _⟩ := Wm.zf_spec f n i
  have key : i + Wm.zf f n i = n ↔ n - i ≤ Wm.zf f n i := by omega
  rw [key, Wm.zf_ge]
  constructor
  · rintro ⟨_, h⟩
    exact ⟨by omega, fun t ht => by rw [h t ht]; congr 1; omega⟩
  · rintro ⟨_, h⟩
    exact ⟨by omega, fun t ht => by rw [h t ht]; congr 1; omega⟩
theorem down_step {f : Nat → UInt8} {n i : Nat} (hi : i < n) : Wm.down f n (n - i) = if i + Wm.zf f n i = n then n - i else Wm.down f n (n - 1 - i) := by
  obtain ⟨k, hk⟩ : ∃ k, n - i = k + 1 := ⟨n - i - 1, by omega⟩
  have hb := front_border (f := f) (n := n) (i := i) (by omega)
  rw [hk] at hb ⊢
  rw [Wm.down, show n - 1 - i = k by omega]
  by_cases h : Wm.Bd f n (k + 1)
  · rw [if_pos h, if_pos (hb.2 h)]
  · rw [if_neg h, if_neg fun e => h (hb.1 e)]
theorem width_pos (s : ByteArray) (pos : Nat) (h : pos < s.size) : 1 ≤ (Utf8.decode s pos).2 := by
  by_cases ha : (s[pos]'h).toNat < 128
  · rw [decode_ascii s pos h ha]
    exact Nat.le_refl _
  · exact (decode_high s pos h (by omega)).2

def aabaa : ByteArray := ⟨#[97, 97, 98, 97, 97]⟩
theorem aabaa_fronts : ∀ k, k < 5 → (Wm.zf (byt aabaa) 5 k : Int) = ([5, 1, 0, 2, 1] : List Int).getD k 0 := by decide +kernel

theorem iter_less {wr wn : World} {K pos q n : Nat} {x : ByteArray} (h1 : wr.heap[K]? = some (.stringIter x pos)) (h2 : wn.heap[K]? = some (.stringIter x (pos + q))) (hq : 1 ≤ q) (hp : pos < n) : n - wn.iterPos K < n - wr.iterPos K := by
  unfold World.iterPos
  rw [h1, h2]
  show n - (pos + q) < n - pos
  omega

set_option maxHeartbeats 1000000 in
theorem seekFronts_ok (s p : ByteArray) (w : World) (h0 : 0 < (cutS p 60).size) :
    Calls Try.prog 4 #[.string s, .string p] w fun e w' => e = .returned (.bool true) ∧ Below w.heap.size w w' := by
  have hs := (cutS_size s 120).1
  have hp := (cutS_size p 60).1
  have hm : 120 ≤ maxLen := by decide
  have hm2 : 60 ≤ maxLen := by decide
  obtain ⟨x, hx⟩ : ∃ x, x = cutS s 120 := ⟨_, rfl⟩
  obtain ⟨y, hy⟩ : ∃ y, y = cutS p 60 := ⟨_, rfl⟩
  rw [← hx] at hs
  rw [← hy] at hp h0
  have HX := hid hx
  have HY := hid hy
  clear hx hy
  obtain ⟨N, hNe⟩ : ∃ N, N = y.size + x.size := ⟨_, rfl⟩
  have hn0 : (y ++ x).size = N := by rw [size_app, hNe]
  have eN : (y.size : Int) + (x.size : Int) = (N : Int) := by omega
  obtain ⟨f, hf⟩ : ∃ f, f = byt (y ++ x) := ⟨_, rfl⟩
  have hst : ∀ k, k < x.size → (y.size ≤ Wm.zf f N (y.size + k) ↔ Stands x y k) := by
    intro k hk; rw [hf, hNe]; exact front_stands hk
  have HF := hid hf
  have HST := hid hst
  have HN := hid hn0
  have hadd := fun W : World => run_string_add_sum (P := Try.prog) W y x (by omega)
  have hxy : (y ++ x).size ≤ 200 := by omega
  have hl1 := fiL_len (s := x) h0
  have hget : ∀ k, k < (fiL x y).length → ∃ z : Nat, (fiL x y).getD k 0 = (z : Int) ∧ Stands x y z := fun k hk => fiL_get hk
  have hfind : ∀ z, Stands x y z → ∃ k, k < (fiL x y).length ∧ (fiL x y).getD k 0 = (z : Int) := fun z hz => fiL_find hz
  obtain ⟨L, hL⟩ : ∃ L, L = fiL x y := ⟨_, rfl⟩
  rw [← hL] at hl1 hget hfind
  have HL := hid hL
  have HGET := hid hget
  have HFIND := hid hfind
  have hLm : L.length ≤ maxLen := by unfold maxLen; omega
  clear hf hst hn0 hL hget hfind hNe
  go_enter Try.func4, Try.ntmps4
  go_wp2_with fail
  refine (Fronts_ok aabaa _ (by decide)).mono ?_
  rintro e w1 ⟨A1, c1, rfl, hr1, hb1⟩
  have L1 : IRow (w1.alloc (.cells #[.int .i64 5, .int .i64 1, .int .i64 0, .int .i64 2, .int .i64 1] 3)) (some ⟨w1.heap.size, 0, none⟩) 5 (fun k => ([5, 1, 0, 2, 1] : List Int).getD k 0) := IRow.lit w1 [5, 1, 0, 2, 1] 3 5 _ rfl rfl
  have R1' : IRow (w1.alloc (.cells #[.int .i64 5, .int .i64 1, .int .i64 0, .int .i64 2, .int .i64 1] 3)) A1 5 (fun k => (Wm.zf (byt aabaa) 5 k : Int)) := hr1.alloc _
  rw [show aabaa.size = 5 from rfl]
  have R1 := hid R1'
  have HL1 := hid L1
  clear hr1 R1' L1
  go_wp2_with fail
  with_reducible refine (equal_any R1.out HL1.out (by decide) (by decide)).mono ?_
  rw [eqB_true.2 ⟨rfl, aabaa_fronts⟩]
  rintro e w2 ⟨rfl, hd2⟩
  have hb2 := bl_then hb1 ((bl_new w1 (.cells #[.int .i64 5, .int .i64 1, .int .i64 0, .int .i64 2, .int .i64 1] 3)).trans (hd2.below _))
  clear hd2 hb1 R1 HL1
  go_wp2_with fail
  with_reducible refine (seeks_any _).mono ?_
  rintro e w3 ⟨rfl, hb3⟩
  go_wp2_with fail
  refine (cut_any s 120 _ hm).mono ?_
  rw [← HX.out]
  rintro e w1' ⟨rfl, rfl⟩
  go_wp2_with fail
  refine (cut_any p 60 _ hm2).mono ?_
  rw [← HY.out]
  rintro e w1' ⟨rfl, rfl⟩
  go_wp2_with fail
  with_reducible refine (Fronts_ok (y ++ x) _ hxy).mono ?_
  rw [HN.out, ← HF.out]
  rintro e w4 ⟨A4, c4, rfl, hr4, hb4⟩
  have R4 := hid hr4
  clear hr4
  go_wp2_with fail
  with_reducible refine (Find_ok x y _ (by omega) (by omega) h0).mono ?_
  rw [← HL.out]
  rintro e w5 ⟨A5, c5, rfl, hr5, hb5⟩
  have R5 := hid hr5
  clear hr5
  go_wp2_with fail
  with_reducible refine (Borders_ok (y ++ x) _ hxy).mono ?_
  rw [HN.out, ← HF.out]
  rintro e w6 ⟨A6, c6, rfl, hr6, hb6⟩
  have S4 := hid ((R4.out.keep hb5).keep hb6)
  have S5 := hid (R5.out.keep hb6)
  have S6 := hid hr6
  have hb := hid (bl_then (bl_then (bl_then (bl_then hb2 hb3) hb4) hb5) hb6)
  clear hr6 R4 R5 hb2 hb3 hb4 hb5 hb6 hadd
  go_wp2_with fail
  with_reducible refine (good_ok _ 2 2 _ (by omega) (two_zeros _ _)).mono ?_
  rintro e w7 ⟨rfl, rfl⟩
  have hb0 := hid (bl_then hb.out (bl_new w6 (.cells #[.int .i64 0, .int .i64 0] 24)))
  have T4 := hid (S4.out.alloc (.cells #[.int .i64 0, .int .i64 0] 24))
  have T5 := hid (S5.out.alloc (.cells #[.int .i64 0, .int .i64 0] 24))
  have T6 := hid (S6.out.alloc (.cells #[.int .i64 0, .int .i64 0] 24))
  have hsz7 : (w6.alloc (.cells #[.int .i64 0, .int .i64 0] 24)).heap.size = w6.heap.size + 1 := by simp
  clear S4 S5 S6 hb
  generalize w6.alloc (.cells #[.int .i64 0, .int .i64 0] 24) = w7 at *
  go_wp2
  have K1 := hid hsz7
  clear hsz7
  go_loopw [13] (fun _ wr => ∃ pos : Nat, wr.heap[w6.heap.size + 1]? = some (.stringIter x pos) ∧ Hid (Below (w6.heap.size + 1) w7 wr)) (fun _ wr => x.size - wr.iterPos (w6.heap.size + 1))
  case atStart =>
    refine ⟨0, ?_, ?_⟩
    · rw [← K1.out]; exact World.iter_heap w7 x 0
    · rw [← K1.out]; exact bl_new w7 _
  case round =>
    obtain ⟨pos, hit, HB⟩ := hrel
    by_cases hlt : pos < x.size
    · have hwd := width_pos x pos hlt
      have hnx : ∀ ty, (Instr.next (.pointer (some ⟨w6.heap.size + 1, 0, none⟩)) true ty).run Try.prog wr = _ := fun ty => Lib.run_next_any_at wr (w6.heap.size + 1) x pos ty hit hlt
      have hnb := Lib.below_iterAt HB.out (Nat.le_refl _) x (pos + (Utf8.decode x pos).2)
      have hit2 := Lib.iterAt_heap wr (w6.heap.size + 1) x pos (pos + (Utf8.decode x pos).2) hit
      have hnb7 : Below w7.heap.size w7 (wr.iterAt (w6.heap.size + 1) x (pos + (Utf8.decode x pos).2)) := by rw [K1.out]; exact hnb
      obtain ⟨j, hj⟩ : ∃ j, j = y.size + pos := ⟨_, rfl⟩
      have hz4 := (T4.out.keep hnb7).at_ (k := j) (by omega)
      have T5' := hid (T5.out.keep hnb7)
      have HNB := hid hnb
      obtain ⟨b, o, rfl, _, hc⟩ := hz4
      have epos : (y.size : Int) + (pos : Int) = (j : Int) := by omega
      have hjn : (j : Int) < (N : Int) := by omega
      have hj0 : (0 : Int) ≤ (j : Int) := by omega
      have hjw : IntKind.i64.wrap (j : Int) = (j : Int) := IntWalk.i64_in _ (by omega)
      obtain ⟨v, hv⟩ : ∃ v, v = Wm.zf f N j := ⟨_, rfl⟩
      have hvs := HST.out pos hlt
      rw [← hj] at hvs
      rw [← hv] at hvs hc
      clear hv hnb hnb7 hj
      generalize wr.iterAt (w6.heap.size + 1) x (pos + (Utf8.decode x pos).2) = wn at *
      by_cases hst : Stands x y pos
      · have hge0 : y.size ≤ v := hvs.2 hst
        have hge : decide (y.size ≤ v) = true := decide_eq_true hge0
        have HS := hid (HFIND.out pos hst)
        clear hst hvs hge0
        go_wp2
        go_region_held3 (fun W => W.cell? ⟨b, o + j, none⟩ = some (.int .i64 (v : Int))) (first | exact hc) (first | (go_at_call 10; (with_reducible refine (contains_yes T5'.out.drew hLm HS.out).mono ?_); rintro e w8 ⟨rfl, rfl⟩))
        go_wp2
        go_roundw
        case rel => exact ⟨_, hit2, HNB.out.drew⟩
        case measure => exact iter_less hit hit2 hwd hlt
      · have hge0 : v < y.size := by
          rcases Nat.lt_or_ge v y.size with h | h
          · exact h
          · exact absurd (hvs.1 h) hst
        have hge : decide (y.size ≤ v) = false := by simp; omega
        have hno : ∀ k, k < L.length → L.getD k 0 ≠ (pos : Int) := by
          intro k hk e
          obtain ⟨z, hz, hzs⟩ := HGET.out k hk
          rw [hz] at e
          obtain rfl : z = pos := by omega
          exact hst hzs
        have HS := hid hno
        clear hst hvs hge0 hno
        go_wp2
        go_region_held3 (fun W => W.cell? ⟨b, o + j, none⟩ = some (.int .i64 (v : Int))) (first | exact hc) (first | (go_at_call 10; (with_reducible refine (contains_no T5'.out.drew hLm HS.out).mono ?_); rintro e w8 ⟨rfl, rfl⟩))
        go_wp2
        go_roundw
        case rel => exact ⟨_, hit2, HNB.out.drew⟩
        case measure => exact iter_less hit hit2 hwd hlt
    · have hnx : ∀ ty, (Instr.next (.pointer (some ⟨w6.heap.size + 1, 0, none⟩)) true ty).run Try.prog wr = _ := fun ty => Lib.run_next_end_at wr (w6.heap.size + 1) x pos ty hit hlt
      have hb7 : Below w7.heap.size w7 wr := by rw [K1.out]; exact HB.out
      have U4 := hid (T4.out.keep hb7)
      have U6 := hid (T6.out.keep hb7)
      have hbw := hid (bl_then hb0.out hb7)
      clear T4 T5 T6 HB hb7 hb0
      go_wp2
      have hN1 : 0 < N := by omega
      go_loop [14, 15] (fun u v => ∃ i c : Nat, i < N ∧ c ≤ N ∧ u = .int .i64 c ∧ v = .int .i64 i ∧ Hid (c = Wm.down f N (N - 1 - i))) (fun _ v => (intOf v).toNat)
      case atStart => exact ⟨N - 1, 0, by omega, by omega, rfl, by go_num, by show 0 = _; rw [Nat.sub_self]; rfl⟩
      case round =>
        obtain ⟨i, c, hi, hcN, rfl, rfl, hcd⟩ := hrel
        by_cases hi0 : 0 < i
        · obtain ⟨b, o, rfl, _, hc⟩ := U4.out.at_ hi
          obtain ⟨hv1, _, _⟩ := Wm.zf_spec f N i
          have hds := down_step (f := f) hi
          obtain ⟨v, hv⟩ : ∃ v, v = Wm.zf f N i := ⟨_, rfl⟩
          rw [← hv] at hc hv1 hds
          have hi' : (i : Int) < (N : Int) := by omega
          clear hv
          by_cases hend : i + v = N
          · rw [if_pos hend] at hds
            have HD := hid hds
            have heq : ((i : Int) + (v : Int) == (N : Int)) = true := by rw [beq_iff_eq]; omega
            have hvN : v = N - i := by omega
            have HV := hid hvN
            clear hds hend hvN
            go_wp2
            go_round
            case rel => exact ⟨i - 1, v, by omega, by omega, rfl, by go_num, by show v = _; rw [show N - 1 - (i - 1) = N - i by omega, HD.out, HV.out]⟩
            case measure => simp [intOf]; omega
          · rw [if_neg hend] at hds
            have HD := hid hds
            have heq : ((i : Int) + (v : Int) == (N : Int)) = false := by rw [beq_eq_false_iff_ne]; omega
            clear hds hend
            go_wp2
            go_round
            case rel => exact ⟨i - 1, c, by omega, by omega, rfl, by go_num, by show c = _; rw [show N - 1 - (i - 1) = N - i by omega, HD.out]; exact hcd.out⟩
            case measure => simp [intOf]; omega
        · have hcl : c = Wm.lb f N := by
            have h1 := hcd.out
            obtain rfl : i = 0 := by omega
            rw [h1]; rfl
          obtain ⟨b, o, rfl, _, hc⟩ := U6.out.at_ (k := N - 1) (by omega)
          rw [show N - 1 + 1 = N by omega, ← hcl] at hc
          have hne := some_bytes h0
          clear hcl
          go_wp2
          go_ret
          exact ⟨rfl, hbw.out⟩

set_option maxHeartbeats 1000000 in
theorem seekFronts_none (s p : ByteArray) (w : World) (h0 : (cutS p 60).size = 0) :
    Calls Try.prog 4 #[.string s, .string p] w fun e w' => e = .returned (.bool true) ∧ Below w.heap.size w w' := by
  have hs := (cutS_size s 120).1
  have hp := (cutS_size p 60).1
  have hm : 120 ≤ maxLen := by decide
  have hm2 : 60 ≤ maxLen := by decide
  obtain ⟨x, hx⟩ : ∃ x, x = cutS s 120 := ⟨_, rfl⟩
  obtain ⟨y, hy⟩ : ∃ y, y = cutS p 60 := ⟨_, rfl⟩
  rw [← hx] at hs
  rw [← hy] at hp h0
  have HX := hid hx
  have HY := hid hy
  clear hx hy
  obtain ⟨N, hNe⟩ : ∃ N, N = y.size + x.size := ⟨_, rfl⟩
  have hn0 : (y ++ x).size = N := by rw [size_app, hNe]
  have eN : (y.size : Int) + (x.size : Int) = (N : Int) := by omega
  obtain ⟨f, hf⟩ : ∃ f, f = byt (y ++ x) := ⟨_, rfl⟩
  have hst : ∀ k, k < x.size → (y.size ≤ Wm.zf f N (y.size + k) ↔ Stands x y k) := by
    intro k hk; rw [hf, hNe]; exact front_stands hk
  have HF := hid hf
  have HST := hid hst
  have HN := hid hn0
  have hadd := fun W : World => run_string_add_sum (P := Try.prog) W y x (by omega)
  have hxy : (y ++ x).size ≤ 200 := by omega
  have hye := no_bytes h0
  have hyN : x.size = N := by omega
  clear hf hst hn0 hNe
  go_enter Try.func4, Try.ntmps4
  go_wp2_with fail
  refine (Fronts_ok aabaa _ (by decide)).mono ?_
  rintro e w1 ⟨A1, c1, rfl, hr1, hb1⟩
  have L1 : IRow (w1.alloc (.cells #[.int .i64 5, .int .i64 1, .int .i64 0, .int .i64 2, .int .i64 1] 3)) (some ⟨w1.heap.size, 0, none⟩) 5 (fun k => ([5, 1, 0, 2, 1] : List Int).getD k 0) := IRow.lit w1 [5, 1, 0, 2, 1] 3 5 _ rfl rfl
  have R1' : IRow (w1.alloc (.cells #[.int .i64 5, .int .i64 1, .int .i64 0, .int .i64 2, .int .i64 1] 3)) A1 5 (fun k => (Wm.zf (byt aabaa) 5 k : Int)) := hr1.alloc _
  rw [show aabaa.size = 5 from rfl]
  have R1 := hid R1'
  have HL1 := hid L1
  clear hr1 R1' L1
  go_wp2_with fail
  with_reducible refine (equal_any R1.out HL1.out (by decide) (by decide)).mono ?_
  rw [eqB_true.2 ⟨rfl, aabaa_fronts⟩]
  rintro e w2 ⟨rfl, hd2⟩
  have hb2 := bl_then hb1 ((bl_new w1 (.cells #[.int .i64 5, .int .i64 1, .int .i64 0, .int .i64 2, .int .i64 1] 3)).trans (hd2.below _))
  clear hd2 hb1 R1 HL1
  go_wp2_with fail
  with_reducible refine (seeks_any _).mono ?_
  rintro e w3 ⟨rfl, hb3⟩
  go_wp2_with fail
  refine (cut_any s 120 _ hm).mono ?_
  rw [← HX.out]
  rintro e w1' ⟨rfl, rfl⟩
  go_wp2_with fail
  refine (cut_any p 60 _ hm2).mono ?_
  rw [← HY.out]
  rintro e w1' ⟨rfl, rfl⟩
  go_wp2_with fail
  with_reducible refine (Fronts_ok (y ++ x) _ hxy).mono ?_
  rw [HN.out, ← HF.out]
  rintro e w4 ⟨A4, c4, rfl, hr4, hb4⟩
  have R4 := hid hr4
  clear hr4
  go_wp2_with fail
  with_reducible refine (Find_empty x y _ (by omega) h0).mono ?_
  rintro e w5 ⟨rfl, hb5⟩
  go_wp2_with fail
  with_reducible refine (Borders_ok (y ++ x) _ hxy).mono ?_
  rw [HN.out, ← HF.out]
  rintro e w6 ⟨A6, c6, rfl, hr6, hb6⟩
  have S4 := hid ((R4.out.keep hb5).keep hb6)
  have S6 := hid hr6
  have hb := hid (bl_then (bl_then (bl_then (bl_then hb2 hb3) hb4) hb5) hb6)
  clear hr6 R4 hb2 hb3 hb4 hb5 hb6 hadd
  go_wp2_with fail
  with_reducible refine (good_ok _ 2 2 _ (by omega) (two_zeros _ _)).mono ?_
  rintro e w7 ⟨rfl, rfl⟩
  have hb0 := hid (bl_then hb.out (bl_new w6 (.cells #[.int .i64 0, .int .i64 0] 24)))
  have T4 := hid (S4.out.alloc (.cells #[.int .i64 0, .int .i64 0] 24))
  have T6 := hid (S6.out.alloc (.cells #[.int .i64 0, .int .i64 0] 24))
  have hsz7 : (w6.alloc (.cells #[.int .i64 0, .int .i64 0] 24)).heap.size = w6.heap.size + 1 := by simp
  clear S4 S6 hb
  generalize w6.alloc (.cells #[.int .i64 0, .int .i64 0] 24) = w7 at *
  go_wp2
  have K1 := hid hsz7
  clear hsz7
  go_loopw [13] (fun _ wr => ∃ pos : Nat, wr.heap[w6.heap.size + 1]? = some (.stringIter x pos) ∧ Hid (Below (w6.heap.size + 1) w7 wr)) (fun _ wr => x.size - wr.iterPos (w6.heap.size + 1))
  case atStart =>
    refine ⟨0, ?_, ?_⟩
    · rw [← K1.out]; exact World.iter_heap w7 x 0
    · rw [← K1.out]; exact bl_new w7 _
  case round =>
    obtain ⟨pos, hit, HB⟩ := hrel
    by_cases hlt : pos < x.size
    · have hwd := width_pos x pos hlt
      have hnx : ∀ ty, (Instr.next (.pointer (some ⟨w6.heap.size + 1, 0, none⟩)) true ty).run Try.prog wr = _ := fun ty => Lib.run_next_any_at wr (w6.heap.size + 1) x pos ty hit hlt
      have hnb := Lib.below_iterAt HB.out (Nat.le_refl _) x (pos + (Utf8.decode x pos).2)
      have hit2 := Lib.iterAt_heap wr (w6.heap.size + 1) x pos (pos + (Utf8.decode x pos).2) hit
      have HNB := hid hnb
      clear hnb
      generalize wr.iterAt (w6.heap.size + 1) x (pos + (Utf8.decode x pos).2) = wn at *
      go_wp2
      go_quiet (fail)
      go_wp2
      go_roundw
      case rel => exact ⟨_, hit2, bl_drewN HNB.out _⟩
      case measure => exact iter_less hit hit2 hwd hlt
    · have hnx : ∀ ty, (Instr.next (.pointer (some ⟨w6.heap.size + 1, 0, none⟩)) true ty).run Try.prog wr = _ := fun ty => Lib.run_next_end_at wr (w6.heap.size + 1) x pos ty hit hlt
      have hb7 : Below w7.heap.size w7 wr := by rw [K1.out]; exact HB.out
      have U4 := hid (T4.out.keep hb7)
      have U6 := hid (T6.out.keep hb7)
      have hbw := hid (bl_then hb0.out hb7)
      clear T4 T6 HB hb7 hb0
      by_cases hN1 : 0 < N
      · go_wp2
        go_loop [14, 15] (fun u v => ∃ i c : Nat, i < N ∧ c ≤ N ∧ u = .int .i64 c ∧ v = .int .i64 i ∧ Hid (c = Wm.down f N (N - 1 - i))) (fun _ v => (intOf v).toNat)
        case atStart => exact ⟨N - 1, 0, by omega, by omega, rfl, by go_num, by show 0 = _; rw [Nat.sub_self]; rfl⟩
        case round =>
          obtain ⟨i, c, hi, hcN, rfl, rfl, hcd⟩ := hrel
          by_cases hi0 : 0 < i
          · obtain ⟨b, o, rfl, _, hc⟩ := U4.out.at_ hi
            obtain ⟨hv1, _, _⟩ := Wm.zf_spec f N i
            have hds := down_step (f := f) hi
            obtain ⟨v, hv⟩ : ∃ v, v = Wm.zf f N i := ⟨_, rfl⟩
            rw [← hv] at hc hv1 hds
            have hi' : (i : Int) < (N : Int) := by omega
            clear hv
            by_cases hend : i + v = N
            · rw [if_pos hend] at hds
              have HD := hid hds
              have heq : ((i : Int) + (v : Int) == (N : Int)) = true := by rw [beq_iff_eq]; omega
              have hvN : v = N - i := by omega
              have HV := hid hvN
              clear hds hend hvN
              go_wp2
              go_round
              case rel => exact ⟨i - 1, v, by omega, by omega, rfl, by go_num, by show v = _; rw [show N - 1 - (i - 1) = N - i by omega, HD.out, HV.out]⟩
              case measure => simp [intOf]; omega
            · rw [if_neg hend] at hds
              have HD := hid hds
              have heq : ((i : Int) + (v : Int) == (N : Int)) = false := by rw [beq_eq_false_iff_ne]; omega
              clear hds hend
              go_wp2
              go_round
              case rel => exact ⟨i - 1, c, by omega, by omega, rfl, by go_num, by show c = _; rw [show N - 1 - (i - 1) = N - i by omega, HD.out]; exact hcd.out⟩
              case measure => simp [intOf]; omega
          · have hcl : c = Wm.lb f N := by
              have h1 := hcd.out
              obtain rfl : i = 0 := by omega
              rw [h1]; rfl
            obtain ⟨b, o, rfl, _, hc⟩ := U6.out.at_ (k := N - 1) (by omega)
            rw [show N - 1 + 1 = N by omega, ← hcl] at hc
            clear hcl
            go_wp2
            go_ret
            exact ⟨rfl, hbw.out⟩
      · obtain rfl : N = 0 := by omega
        go_wp2
        go_loop [14, 15] (fun u v => u = .int .i64 0 ∧ v = .int .i64 (-1)) (fun _ _ => 0)
        case atStart => exact ⟨rfl, rfl⟩
        case round =>
          obtain ⟨rfl, rfl⟩ := hrel
          go_wp2
          go_ret
          exact ⟨rfl, hbw.out⟩

theorem seekFronts_walk (s p : ByteArray) (_ : s.size ≤ maxLen) (_ : p.size ≤ maxLen) (w : World) :
    Calls Try.prog 4 #[.string s, .string p] w fun e w' => e = .returned (.bool true) ∧ Below w.heap.size w w' := by
  by_cases h : 0 < (cutS p 60).size
  · exact seekFronts_ok s p w h
  · exact seekFronts_none s p w (by omega)
end Go.Proofs.Ytdkdnhbdfcfkkaa
