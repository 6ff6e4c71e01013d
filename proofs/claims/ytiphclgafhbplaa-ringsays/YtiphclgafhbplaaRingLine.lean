/-
The walk of quillkeep.RingLine: for every k, n and w it returns true.
-/
import Derived.Test.YtiphclgafhbplaaHitMath
import Derived.Test.YtiphclgafhbplaaRLine
import Derived.Test.YtiphclgafhbplaaOwnB
namespace Go.Proofs.Ytiphclgafhbplaa
open Go.RowKit

theorem ok_l23 : Rm.Ok 2 3 := ⟨by decide, by decide, by decide, by decide, by decide⟩
theorem line_23 : sd (Rm.lineD 2 3) = ⟨#[97, 97, 97, 98, 97, 98, 98, 98]⟩ := by
  rw [show Rm.lineD 2 3 = [0, 0, 0, 1, 0, 1, 1, 1] by decide +kernel]
  rfl
theorem Line_23 (w : World) : Calls Try.prog 9 #[.int .i64 2, .int .i64 3] w fun e w' => e = .returned (.tuple #[.string ⟨#[97, 97, 97, 98, 97, 98, 98, 98]⟩, .int .i64 0]) ∧ Below w.heap.size w w' := by
  have hc := Line_ok 2 3 w ok_l23 (by omega)
  rw [line_23, show ((2 : Nat) : Int) = 2 from rfl, show ((3 : Nat) : Int) = 3 from rfl] at hc
  exact hc
/-- The letter that w gives at place i. -/
def dgt (v : ByteArray) (k i : Nat) : Nat := (if i < v.size then (byt v i).toNat else 0) % k
def dgts (v : ByteArray) (k m : Nat) : List Nat := (List.range m).map (dgt v k)
theorem dgts_len (v : ByteArray) (k m : Nat) : (dgts v k m).length = m := by unfold dgts; simp
theorem dgts_succ (v : ByteArray) (k m : Nat) : dgts v k (m + 1) = dgts v k m ++ [dgt v k m] := by unfold dgts; rw [List.range_succ, List.map_append]; rfl
theorem dgts_low {v : ByteArray} {k m : Nat} (hk : 0 < k) : ∀ x, x ∈ dgts v k m → x < k := by
  intro x hx
  unfold dgts at hx
  obtain ⟨i, _, rfl⟩ := List.mem_map.1 hx
  exact Nat.mod_lt _ hk
/-- The bytes of letters, as numbers. -/
def nums (l : List Nat) : List Int := l.map fun (x : Nat) => 97 + (x : Int)
theorem nums_len (l : List Nat) : (nums l).length = l.length := by unfold nums; simp
theorem nums_app (a b : List Nat) : nums (a ++ b) = nums a ++ nums b := by unfold nums; rw [List.map_append]
theorem nums_sd (l : List Nat) : strOfNums (nums l) = sd l := by
  refine wd_inj ?_
  rw [wd_sd, wd, strOfNums_data]
  unfold nums
  rw [List.map_map]
  refine List.map_congr_left fun x _ => ?_
  show UInt8.ofNat (97 + (x : Int)).toNat = _
  rw [show (97 + (x : Int)).toNat = 97 + x by omega]
theorem sd_inj {a b : List Nat} (ha : ∀ x, x ∈ a → x < 100) (hb : ∀ x, x ∈ b → x < 100) (h : sd a = sd b) : a = b := by
  have hl := congrArg ByteArray.size h
  rw [sd_size, sd_size] at hl
  refine List.ext_getElem hl fun i h1 h2 => ?_
  have := congrArg (fun s => fb s i) h
  try simp only at this
  rw [sd_at h1 ha, sd_at h2 hb, getD_lt h1, getD_lt h2] at this
  omega
/-- x is s again and again. -/
structure Rep (s x : ByteArray) : Prop where
  mul : x.size % s.size = 0
  at_ : ∀ i, i < x.size → fb x i = fb s (i % s.size)
theorem Rep.one (s : ByteArray) : Rep s s := ⟨Nat.mod_self _, fun i hi => by rw [Nat.mod_eq_of_lt hi]⟩
theorem Rep.more {s x : ByteArray} (h : Rep s x) : Rep s (x ++ s) := by
  refine ⟨by rw [size_app, Nat.add_mod_right]; exact h.mul, fun i hi => ?_⟩
  rw [size_app] at hi
  unfold fb
  rw [wd_app]
  by_cases hx : i < x.size
  · rw [Lm.bn_app_l (by rw [wd_len]; exact hx)]
    exact h.at_ i hx
  · have e : i = (wd x).length + (i - x.size) := by rw [wd_len]; omega
    rw [e, Lm.bn_app_r]
    congr 1
    rw [← e]
    obtain ⟨q, hq⟩ := Nat.dvd_of_mod_eq_zero h.mul
    rw [show i = (i - x.size) + s.size * q by omega, Nat.add_mul_mod_self_left, ← hq, Nat.mod_eq_of_lt (by omega)]
    omega
theorem Rep.part {L : List Nat} {x : ByteArray} {n E i j : Nat} (h : Rep (sd L) x) (hL : ∀ y, y ∈ L → y < 100) (h0 : 0 < L.length) (hE : E ≤ x.size) (hj : j = i + n) (hjE : j ≤ E) : (x.extract 0 E).extract i j = sd (Rm.win L n i) := by
  have hwl := Rm.win_len L n i
  have hz : (x.extract 0 E).size = E := by rw [size_ext]; omega
  refine wd_inj (Lm.bn_ext ?_ fun t ht => ?_)
  · rw [wd_len, wd_len, size_ext, sd_size, hwl, hz]; omega
  · rw [wd_len, size_ext, hz] at ht
    rw [bn_wd, byt_ext (by omega), byt_ext (by omega), Nat.zero_add]
    show fb x (i + t) = fb (sd (Rm.win L n i)) t
    rw [h.at_ _ (by omega), sd_size, sd_at (Nat.mod_lt _ h0) hL, sd_at (by omega) (Rm.win_mem h0 hL n i), getD_lt (l := Rm.win L n i) (by omega), Rm.win_get]
theorem line_err (k n : Int) (v : ByteArray) (w : World) (h : ringErr k n ≠ 0) :
    Calls Try.prog 6 #[.int .i64 k, .int .i64 n, .string v] w fun e w' => e = .returned (.bool true) ∧ Below w.heap.size w w' := by
  go_enter Try.func6, Try.ntmps6
  go_wp2_with fail
  with_reducible refine (Line_23 _).mono ?_
  rintro e w1 ⟨rfl, hb⟩
  have hc := Line_err k n w1 h
  obtain ⟨r, hr⟩ : ∃ r, r = ringErr k n := ⟨_, rfl⟩
  rw [← hr] at h hc
  have hne : (r == 0) = false := beq_eq_false_iff_ne.2 h
  have hne2 : (r != 0) = true := bne_iff_ne.2 h
  have hemp : ByteArray.empty.toList.isEmpty = true := no_bytes rfl
  clear hr
  go_wp2_with fail
  with_reducible refine hc.mono ?_
  rintro e w2 ⟨rfl, rfl⟩
  go_wp2
  go_ret
  exact ⟨rfl, hb⟩
theorem line_large (k n : Nat) (v : ByteArray) (w : World) (h : Rm.Ok k n) (hn : 200 < n) :
    Calls Try.prog 6 #[.int .i64 (k : Int), .int .i64 (n : Int), .string v] w fun e w' => e = .returned (.bool true) ∧ Below w.heap.size w w' := by
  have hemp : ByteArray.empty.toList.isEmpty = true := no_bytes rfl
  go_enter Try.func6, Try.ntmps6
  go_wp2_with fail
  with_reducible refine (Line_23 _).mono ?_
  rintro e w1 ⟨rfl, hb⟩
  go_wp2_with fail
  with_reducible refine (Line_large k n _ h hn).mono ?_
  rintro e w2 ⟨rfl, rfl⟩
  go_wp2
  go_ret
  exact ⟨rfl, hb⟩
set_option maxHeartbeats 2000000 in
set_option maxRecDepth 100000 in
theorem line_fine (k n : Nat) (v : ByteArray) (w : World) (h : Rm.Ok k n) (hn : n ≤ 200) :
    Calls Try.prog 6 #[.int .i64 (k : Int), .int .i64 (n : Int), .string v] w fun e w' => e = .returned (.bool true) ∧ Below w.heap.size w w' := by
  have hk1 := h.k1
  have hk8 := h.k8
  have hn1 := h.n1
  have hB := Rm.bruijn h
  have hcl := fun W => Line_ok k n W h hn
  obtain ⟨L, hL⟩ : ∃ L, L = Rm.lineD k n := ⟨_, rfl⟩
  rw [← hL] at hB hcl
  obtain ⟨s, hs⟩ : ∃ s, s = sd L := ⟨_, rfl⟩
  rw [← hs] at hcl
  obtain ⟨N, hN⟩ : ∃ N, N = L.length := ⟨_, rfl⟩
  have hsz : s.size = N := by rw [hs, sd_size, hN]
  have hNk : N = k ^ n := by rw [hN, hB.len]
  have hN5 : N ≤ 512 := by rw [hNk]; exact h.few
  have hN0 : 0 < N := by rw [hNk]; exact Nat.pow_pos (by omega)
  have HBR := hid hB
  have HO := hid h
  have HS := hid hs
  have HNL := hid hN
  have HNK := hid hNk
  have HC := hid hcl
  clear hB hs hN hNk h hL hcl
  go_enter Try.func6, Try.ntmps6
  go_wp2_with fail
  with_reducible refine (Line_23 _).mono ?_
  rintro e w1 ⟨rfl, hb⟩
  go_wp2_with fail
  with_reducible refine (HC.out _).mono ?_
  rintro e w2 ⟨rfl, hb2⟩
  have HB := hid (bl_then hb hb2)
  have hw2 := (bl_then hb hb2).size
  clear hb hb2 HC
  go_wp2
  go_loopw [11, 39] (fun x y wr => ∃ i c : Nat, i ≤ n ∧ x = .int .i64 (c : Int) ∧ y = .int .i64 (i : Int) ∧ Hid (c = k ^ i) ∧ wr = w2) (fun _ y _ => n - (intOf y).toNat)
  case atStart => exact ⟨0, 1, by omega, rfl, rfl, hid (by simp), rfl⟩
  case round =>
    obtain ⟨i, c, hi, rfl, rfl, HCK, rfl⟩ := hrel
    by_cases hlt : i < n
    · obtain ⟨c', hc'⟩ : ∃ c', c' = c * k := ⟨_, rfl⟩
      have ec : (c : Int) * (k : Int) = (c' : Int) := by rw [hc']; simp
      have HC' := hid (show c' = k ^ (i + 1) by rw [hc', HCK.out, pow_next])
      have hb : c' ≤ 512 := by rw [HC'.out]; exact Nat.le_trans (Rm.pow_mono hk1 hlt) HO.out.few
      have hw : IntKind.i64.wrap (c' : Int) = (c' : Int) := i64_of (by omega) (by omega)
      clear hc'
      go_wp2
      go_roundw
      case measure => simp [intOf]; omega
      case rel => exact ⟨i + 1, c', by omega, by trivial, by go_num, HC', by trivial⟩
    · have dl : decide ((i : Int) < (n : Int)) = false := decide_eq_false (by omega)
      obtain rfl : N = c := by rw [HCK.out, HNK.out, show i = n by omega]
      clear HCK
      go_wp2
      have hb3 := HB.out.alloc hw2 (.cells #[] 5)
      have HO3 := hid (OwnB.fresh wr w.heap.size hw2 wr.heap.size rfl)
      have HB3 := hid hb3
      clear hb3
      go_loopw [12, 51] (fun x y wr => ∃ i : Nat, i ≤ n ∧ y = .int .i64 (i : Int) ∧ Hid (OwnB wr w.heap.size x (nums (dgts v k i))) ∧ Hid (Below w.heap.size w wr)) (fun _ y _ => n - (intOf y).toNat)
      case atStart => exact ⟨0, by omega, rfl, HO3, HB3⟩
      case round =>
        clear HO3 HB3 HB hw2
        obtain ⟨i, hi, rfl, HOB, HB⟩ := hrel
        have hw2 := HB.out.size
        by_cases hlt : i < n
        · obtain ⟨t, ht⟩ : ∃ t, t = dgt v k i := ⟨_, rfl⟩
          have htk : t < k := by rw [ht]; exact Nat.mod_lt _ (by omega)
          have hwk : IntKind.u8.wrap (k : Int) = (k : Int) := IntWalk.u8_in _ (by omega)
          have hwt : IntKind.u8.wrap (t : Int) = (t : Int) := IntWalk.u8_in _ (by omega)
          have hwt2 : IntKind.u8.wrap (97 + (t : Int)) = 97 + (t : Int) := IntWalk.u8_in _ (by omega)
          have hk0 : ((k : Int) == 0) = false := beq_eq_false_iff_ne.2 (by omega)
          have hk0' : (k : Int) ≠ 0 := by omega
          have hll : (nums (dgts v k i)).length = i := by rw [nums_len, dgts_len]
          have HN1 : Hid (nums (dgts v k (i + 1)) = nums (dgts v k i) ++ [97 + (t : Int)]) := by
            show _ = _
            rw [dgts_succ, nums_app, ← ht]
            rfl
          by_cases hiv : i < v.size
          · have hiv' : (i : Int) < (v.size : Int) := by omega
            have hdv : decide ((i : Int) < (v.size : Int)) = true := decide_eq_true hiv'
            obtain ⟨c, hc⟩ : ∃ c, c = v[i].toNat := ⟨_, rfl⟩
            have hct : c % k = t := by rw [ht, dgt, if_pos hiv, byt_eq hiv, hc]
            have m1 : (c : Int) % (k : Int) = (t : Int) := by rw [← hct]; simp
            have m2 : Int.tmod (c : Int) (k : Int) = (t : Int) := by rw [Int.tmod_eq_emod_of_nonneg (by omega)]; exact m1
            have hci : (v[i].toNat : Int) = (c : Int) := by rw [hc]
            clear ht hct hc
            go_wp2_with (at_builtin; with_reducible refine app_byte rfl _ _ rfl rfl HOB.out _ rfl rfl hw2 (by omega) ?_)
            intro v' w4 hown hb4 _
            rw [← HN1.out] at hown
            have HOB4 := hid hown
            have HB4 := hid (HB.out.trans hb4)
            clear hown hb4 HOB HB
            go_wp2
            go_roundw
            case measure => simp [intOf]; omega
            case rel => exact ⟨i + 1, by omega, by go_num, HOB4, HB4⟩
          · have hdv : decide ((i : Int) < (v.size : Int)) = false := decide_eq_false (by omega)
            have ht0 : t = 0 := by rw [ht, dgt, if_neg hiv, Nat.zero_mod]
            have m1 : (0 : Int) % (k : Int) = (t : Int) := by rw [ht0]; simp
            have m2 : Int.tmod 0 (k : Int) = (t : Int) := by rw [ht0]; simp
            clear ht ht0
            go_wp2_with (at_builtin; with_reducible refine app_byte rfl _ _ rfl rfl HOB.out _ rfl rfl hw2 (by omega) ?_)
            intro v' w4 hown hb4 _
            rw [← HN1.out] at hown
            have HOB4 := hid hown
            have HB4 := hid (HB.out.trans hb4)
            clear hown hb4 HOB HB
            go_wp2
            go_roundw
            case measure => simp [intOf]; omega
            case rel => exact ⟨i + 1, by omega, by go_num, HOB4, HB4⟩
        · have dl : decide ((i : Int) < (n : Int)) = false := decide_eq_false (by omega)
          obtain rfl : n = i := by omega
          obtain ⟨A, cp, hv, hcl⟩ := HOB.out.cells
          subst hv
          obtain ⟨b, rfl, hblt, hbase, hcell⟩ := hcl (by rw [nums_len, dgts_len]; omega)
          have hll : (nums (dgts v k n)).length = n := by rw [nums_len, dgts_len]
          rw [hll] at hcell ⊢
          have HLL := hid hll
          have HCE := hid hcell
          have HSB := hid (nums_sd (dgts v k n))
          clear hcl hcell hll HOB
          obtain ⟨E1, hE1⟩ : ∃ E1, E1 = N + n := ⟨_, rfl⟩
          obtain ⟨E, hE⟩ : ∃ E, E = N + n - 1 := ⟨_, rfl⟩
          have e1 : (N : Int) + (n : Int) = (E1 : Int) := by omega
          have e2 : (E1 : Int) - 1 = (E : Int) := by omega
          have hwe1 : IntKind.i64.wrap (E1 : Int) = (E1 : Int) := i64_of (by omega) (by omega)
          have hwe : IntKind.i64.wrap (E : Int) = (E : Int) := i64_of (by omega) (by omega)
          have HE := hid hE
          have hEb : E ≤ 711 := by omega
          have hE0 : (0 : Int) ≤ (E : Int) := by omega
          clear hE1 hE
          obtain ⟨w3, hw3⟩ : ∃ w3, w3 = wr := ⟨_, rfl⟩
          rw [← hw3] at HCE HB hblt
          have HW3 := hid hw3
          clear hw3
          go_wp2
          go_loopg [15] (2000 - N) (fun g x W => ∃ s2 : ByteArray, x = .string s2 ∧ s2.size ≤ 1300 ∧ Hid (g = 2000 - s2.size) ∧ Hid (Rep s s2) ∧ W = w3)
          case atStart => exact ⟨s, rfl, by omega, hid (by rw [hsz]), hid (Rep.one s), HW3.out.symm⟩
          case round =>
            obtain ⟨s2, rfl, hs2, HG, HR, rfl⟩ := hrel
            by_cases hl2 : s2.size < E
            · have dl2 : decide ((s2.size : Int) < (E : Int)) = true := decide_eq_true (by omega)
              have hadd := fun W : World => run_string_add_sum (P := Try.prog) W s2 s (by omega)
              have HR2 := hid HR.out.more
              have hsa := size_app s2 s
              obtain ⟨s3, hs3⟩ : ∃ s3, s3 = s2 ++ s := ⟨_, rfl⟩
              rw [← hs3] at HR2 hsa hadd
              have HSA := hid hsa
              clear hs3 hsa
              go_wp2
              go_roundg (2000 - s3.size)
              case measure => have := HSA.out; have := HG.out; omega
              case rel => exact ⟨s3, by trivial, by have := HSA.out; omega, hid rfl, HR2, by trivial⟩
            · have dl2 : decide ((s2.size : Int) < (E : Int)) = false := decide_eq_false (by omega)
              have hle : (E : Int) ≤ (s2.size : Int) := by omega
              have hWz : (s2.extract 0 E).size = E := by rw [size_ext]; omega
              have HW : Hid (∀ i j, j = i + n → j ≤ E → (s2.extract 0 E).extract i j = sd (Rm.win L n i)) := fun i j h1 h2 => by
                have hr := HR.out
                rw [HS.out] at hr
                exact hr.part (fun y hy => by have := HBR.out.low y hy; omega) (by rw [← HNL.out]; exact hN0) (by omega) h1 h2
              obtain ⟨wi, hwi⟩ : ∃ wi, wi = s2.extract 0 E := ⟨_, rfl⟩
              rw [← hwi] at hWz HW
              have hwi2 : s2.extract 0 E = wi := hwi.symm
              clear HR HG hwi
              go_wp2
              go_loopw [16, 91] (fun x y W => ∃ i c : Nat, i ≤ N ∧ c ≤ i ∧ x = .int .i64 (c : Int) ∧ y = .int .i64 (i : Int) ∧ Hid (c = Rm.hc L n (dgts v k n) i) ∧ Drew wr W) (fun _ y _ => N - (intOf y).toNat)
              case atStart => exact ⟨0, 0, by omega, by omega, rfl, rfl, hid rfl, Drew.refl _⟩
              case round =>
                obtain ⟨i, c, hi, hci, rfl, rfl, HCC, hdr⟩ := hrel
                by_cases hlt : i < N
                · have hltI : (i : Int) < (N : Int) := by omega
                  obtain ⟨j, hj⟩ : ∃ j, j = i + n := ⟨_, rfl⟩
                  have ej : (i : Int) + (n : Int) = (j : Int) := by omega
                  have hwj : IntKind.i64.wrap (j : Int) = (j : Int) := i64_of (by omega) (by omega)
                  have hjE : (j : Int) ≤ (E : Int) := by have := HE.out; omega
                  have hij : (i : Int) ≤ (j : Int) := by omega
                  have heb := HW.out i j hj (by omega)
                  obtain ⟨eb, hebn⟩ : ∃ eb, wi.extract i j = eb := ⟨_, rfl⟩
                  rw [hebn] at heb
                  have HEB := hid heb
                  clear heb hj
                  obtain ⟨sb, hsbn⟩ : ∃ sb, strOfNums (nums (dgts v k n)) = sb := ⟨_, rfl⟩
                  have hcv : (convert 33 9 (.slice (some ⟨b, 0, none⟩) n cp)).run Try.prog wr.drew = .ok (.string sb) wr.drew := by
                    rw [← hsbn]
                    obtain ⟨d, rfl⟩ := hdr
                    exact run_convert_bytes_arg (P := Try.prog) (wr.drewN d).drew 33 5 Try.underlying33 Try.underlying5 b 0 n cp _ HLL.out HCE.out 9 Try.underlying9
                  have HSBI := hid (hsbn.symm.trans HSB.out)
                  clear hsbn
                  by_cases hx : Rm.win L n i = dgts v k n
                  · skip
                    have hq : (eb.toList == sb.toList) = true := same_yes (by rw [HEB.out, HSBI.out, hx])
                    have HX := hid hx
                    clear hx
                    go_wp2
                    go_region
                    go_wp2
                    go_roundw
                    case measure => simp [intOf]; omega
                    case rel =>
                      refine ⟨i + 1, c + 1, by omega, by omega, by go_num, by go_num, hid ?_, hdr.more 1⟩
                      rw [Rm.hc, if_pos HX.out, ← HCC.out]
                  · skip
                    have hq : (eb.toList == sb.toList) = false := same_no fun e => hx (sd_inj (fun y hy => by have := Rm.win_mem (by rw [← HNL.out]; exact hN0) HBR.out.low n i y hy; omega) (fun y hy => by have := dgts_low (v := v) (m := n) (show 0 < k by omega) y hy; omega) (by rw [← HEB.out, ← HSBI.out, e]))
                    have HX := hid hx
                    clear hx
                    go_wp2
                    go_region
                    go_wp2
                    go_roundw
                    case measure => simp [intOf]; omega
                    case rel =>
                      refine ⟨i + 1, c, by omega, by omega, by go_num, by go_num, hid ?_, hdr.more 1⟩
                      rw [Rm.hc, if_neg HX.out, ← HCC.out, Nat.add_zero]
                · have dl : decide ((i : Int) < (N : Int)) = false := decide_eq_false (by omega)
                  have hc1 : c = 1 := by
                    have := HBR.out.one (dgts v k n) (dgts_len _ _ _) (dgts_low (by omega))
                    rw [← HNL.out] at this
                    rw [HCC.out, show i = N by omega]
                    exact this
                  subst hc1
                  clear HCC
                  go_wp2
                  go_ret
                  exact ⟨rfl, HB.out.trans (hdr.below _)⟩
theorem line_walk (k n : Int) (v : ByteArray) (_ : (Lit.int .i64 k).wf = true) (_ : (Lit.int .i64 n).wf = true) (_ : v.size ≤ maxLen) (w : World) :
    Calls Try.prog 6 #[.int .i64 k, .int .i64 n, .string v] w fun e w' => e = .returned (.bool true) ∧ Below w.heap.size w w' := by
  by_cases h : ringErr k n = 0
  · obtain ⟨K, N, rfl, rfl, hO⟩ := ringErr_ok h
    by_cases hn : N ≤ 200
    · exact line_fine K N v w hO hn
    · exact line_large K N v w hO (by omega)
  · exact line_err k n v w h
end Go.Proofs.Ytiphclgafhbplaa
