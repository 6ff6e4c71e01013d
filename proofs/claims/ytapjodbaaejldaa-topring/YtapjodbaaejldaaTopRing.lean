
/-
quilltop.TopRing: whatever two numbers and a word: it answers true.
-/
import Derived.Test.YtapjodbaaejldaaTopRingM
import Derived.Test.YtapjodbaaejldaaTopWorks
import Derived.Test.YtapjodbaaejldaaKeep
import Derived.Test.YtapjodbaaejldaaBack
import Derived.Test.YtapjodbaaejldaaShelfL
import Derived.Deep.RegionHeld3
namespace Go.Proofs.Ytapjodbaaejldaa
open Go.RowKit

/-- The word so far: its first i letters are those that v gives. -/
def ltr (v : ByteArray) (k i j : Nat) : UInt8 := if j < i then UInt8.ofNat (97 + dgt v k j) else 97
theorem ltr_nums {v : ByteArray} {k n : Nat} (hk : 0 < k) (hk5 : k < 5) : (List.range n).map (fun j => ((ltr v k n j).toNat : Int)) = nums (dgts v k n) := by
  unfold nums dgts
  rw [List.map_map]
  refine List.map_congr_left fun j hj => ?_
  have hjn := List.mem_range.1 hj
  have hd : dgt v k j < k := Nat.mod_lt _ hk
  unfold ltr
  rw [if_pos hjn]
  show _ = 97 + ((dgt v k j : Nat) : Int)
  rw [UInt8.toNat_ofNat']
  omega
theorem srepA (n : Nat) (hn : n ≤ 200) (W : World) : Calls Try.prog 43 #[.string ⟨#[97]⟩, .int .i64 (n : Int)] W fun e w' => e = .returned (.string (mkS (List.replicate n 97))) ∧ Below W.heap.size W w' := by
  have := Try.strings_Repeat ⟨#[97]⟩ n W (by omega) (by show 1 * n ≤ _; omega)
  have hl : ∀ m, Lib.repeatL (⟨#[97]⟩ : ByteArray).data.toList m = List.replicate m 97 := by
    intro m
    induction m with
    | zero => rfl
    | succ m ih =>
      show ([97] : List UInt8) ++ Lib.repeatL (⟨#[97]⟩ : ByteArray).data.toList m = _
      rw [ih, List.replicate_succ]; rfl
  have e : (⟨(Lib.repeatL (⟨#[97]⟩ : ByteArray).data.toList n).toArray⟩ : ByteArray) = mkS (List.replicate n 97) := by rw [hl]; rfl
  rw [e] at this
  exact this
set_option maxHeartbeats 4000000 in
set_option maxRecDepth 100000 in
theorem topRing_walk (k0 n0 : Int) (v : ByteArray) (_ : (Lit.int .i64 k0).wf = true) (_ : (Lit.int .i64 n0).wf = true) (_ : v.size ≤ maxLen) (w : World) :
    Calls Try.prog 13 #[.int .i64 k0, .int .i64 n0, .string v] w fun e w' => e = .returned (.bool true) ∧ Below w.heap.size w w' := by
  have hw3 : ∀ W : World, Calls Try.prog 31 #[.int .i64 k0, .int .i64 3] W fun e w' => e = .returned (.int .i64 ((k0 % ((3 : Nat) : Int)).toNat : Nat)) ∧ W = w' := fun W => within_any k0 3 W (by decide) (by decide)
  have hw7 : ∀ W : World, Calls Try.prog 31 #[.int .i64 n0, .int .i64 7] W fun e w' => e = .returned (.int .i64 ((n0 % ((7 : Nat) : Int)).toNat : Nat)) ∧ W = w' := fun W => within_any n0 7 W (by decide) (by decide)
  obtain ⟨r, hr⟩ : ∃ r, r = (k0 % ((3 : Nat) : Int)).toNat := ⟨_, rfl⟩
  obtain ⟨q, hq⟩ : ∃ q, q = (n0 % ((7 : Nat) : Int)).toNat := ⟨_, rfl⟩
  rw [← hr] at hw3
  rw [← hq] at hw7
  have hr3 : r < 3 := by have := Int.emod_lt_of_pos k0 (show (0 : Int) < ((3 : Nat) : Int) by decide); omega
  have hq7 : q < 7 := by have := Int.emod_lt_of_pos n0 (show (0 : Int) < ((7 : Nat) : Int) by decide); omega
  have HW3 := hid hw3
  have HW7 := hid hw7
  obtain ⟨k, hk⟩ : ∃ k, k = 2 + r := ⟨_, rfl⟩
  obtain ⟨n, hn⟩ : ∃ n, n = 1 + q := ⟨_, rfl⟩
  have ek : (2 : Int) + (r : Int) = (k : Int) := by omega
  have en : (1 : Int) + (q : Int) = (n : Int) := by omega
  have hk2 : 2 ≤ k := by omega
  have hk5 : k < 5 := by omega
  have hn1 : 1 ≤ n := by omega
  have hn8 : n < 8 := by omega
  clear hr hq hw3 hw7 hk hn hr3 hq7
  go_enter Try.func13, Try.ntmps13
  go_wp2_with fail
  with_reducible refine (HW3.out _).mono ?_
  rintro e w1 ⟨rfl, rfl⟩
  go_wp2_with fail
  with_reducible refine (HW7.out _).mono ?_
  rintro e w1 ⟨rfl, rfl⟩
  clear HW3 HW7
  by_cases hpow : k ^ n ≤ 512
  · have hok : Rm.Ok k n := ⟨by omega, by omega, hn1, by omega, hpow⟩
    have HOK := hid hok
    have HPW := hid hpow
    clear hpow hok
    go_wp2_with fail
    with_reducible refine (Line_ok k n _ HOK.out (by omega)).mono ?_
    rintro e w2 ⟨rfl, hb2⟩
    have HB := hid hb2
    clear hb2
    obtain ⟨L, hL⟩ : ∃ L, L = Rm.lineD k n := ⟨_, rfl⟩
    rw [← hL]
    have hbr := Rm.bruijn HOK.out
    rw [← hL] at hbr
    have HBR := hid hbr
    have HL := hid hL
    obtain ⟨s, hs⟩ : ∃ s, s = sd L := ⟨_, rfl⟩
    rw [← hs]
    have hsz : s.size = L.length := by rw [hs, sd_size]
    have HS := hid hs
    have HSZ := hid hsz
    clear hbr hL hs hsz
    go_wp2_with fail
    with_reducible refine (works_ok _).mono ?_
    rintro e w3 ⟨rfl, hb2⟩
    have HB := hid (bl_then HB.out hb2)
    clear hb2
    by_cases hfew : s.size ≤ 150
    · have hfd : decide ((150 : Int) < (s.size : Int)) = false := decide_eq_false (by omega)
      have hlyn : LynS s := by
        rw [HS.out]
        refine lyn_sd ?_ (fun x hx => by have := HBR.out.low x hx; omega) ?_
        · rw [HBR.out.len]; exact Nat.pow_pos (by omega)
        · rw [HL.out]
          have := HBR.out.len
          have := HSZ.out
          exact lyn_few k hk5 hk2 n hn8 hn1 (by omega)
      have HLY := hid hlyn
      have hs200 : s.size ≤ 200 := by omega
      clear hlyn
      go_wp2_with fail
      with_reducible refine (Is_yes s _ hs200 HLY.out).mono ?_
      rintro e w4 ⟨rfl, hd⟩
      have HB := hid (HB.out.trans (hd.below _))
      clear hd
      go_wp2_with fail
      with_reducible refine (Put_ok s _ hs200).mono ?_
      rintro e w5 ⟨t, a, rfl, hp, hb2⟩
      have HB := hid (bl_then HB.out hb2)
      have HP := hid hp
      clear hb2 hp
      go_wp2_with fail
      with_reducible refine (srepA n (by omega) _).mono ?_
      rintro e w6 ⟨rfl, hb2⟩
      have HB := hid (bl_then HB.out hb2)
      clear hb2
      obtain ⟨ra, hra⟩ : ∃ ra, ra = mkS (List.replicate n 97) := ⟨_, rfl⟩
      rw [← hra]
      have hraz : ra.size = n := by rw [hra, mk_size, List.length_replicate]
      have hw6 := HB.out.size
      have hcv := run_bytes_of_string (P := Try.prog) w6 9 74 5 ra Try.underlying9 Try.underlying74 Try.underlying5
      have hnb := new_bytes w6 ra (grownCap w6 ra.size 0 5) 5
      have HB := hid (bl_then HB.out (bl_new w6 (.cells (bytesRow ra (grownCap w6 ra.size 0 5)) 5 ((bytesRow ra (grownCap w6 ra.size 0 5)).size, (bytesRow ra (grownCap w6 ra.size 0 5)).size + 1))))
      have HNB : Hid (BRow (w6.alloc (.cells (bytesRow ra (grownCap w6 ra.size 0 5)) 5 ((bytesRow ra (grownCap w6 ra.size 0 5)).size, (bytesRow ra (grownCap w6 ra.size 0 5)).size + 1))) w6.heap.size n (ltr v k 0)) := fun j hj => by
        have h1 := hnb j (by omega)
        have h2 : byt ra j = ltr v k 0 j := by
          unfold ltr
          rw [if_neg (Nat.not_lt_zero _), hra]
          show (lst (mkS (List.replicate n 97))).getD j 0 = 97
          rw [lst_mk, List.getD_eq_getElem?_getD, List.getElem?_replicate, if_pos hj]; rfl
        rw [h2] at h1
        exact h1
      have HRZ := hid hraz
      clear hnb hra hraz
      go_wp2
      rw [HRZ.out]
      clear hcv
      rw [HRZ.out] at HNB HB
      obtain ⟨PB, hPB⟩ : ∃ PB, PB = w6.heap.size := ⟨_, rfl⟩
      rw [← hPB] at HNB ⊢
      obtain ⟨pc, hpc⟩ : ∃ pc, pc = grownCap w6 n 0 5 := ⟨_, rfl⟩
      rw [← hpc] at HNB HB ⊢
      have hPW : w.heap.size ≤ PB := by rw [hPB]; exact hw6
      clear hPB hpc hw6
      generalize w6.alloc (.cells (bytesRow ra pc) 5 ((bytesRow ra pc).size, (bytesRow ra pc).size + 1)) = w7 at *
      go_loopw [69] (fun x wr => ∃ i : Nat, i ≤ n ∧ x = .int .i64 (i : Int) ∧ Hid (BRow wr PB n (ltr v k i)) ∧ Hid (Below w.heap.size w wr)) (fun x _ => n - (intOf x).toNat)
      case atStart => exact ⟨0, by omega, rfl, HNB, HB.out.drew⟩
      case round =>
        clear HNB HB
        obtain ⟨i, hi, rfl, HR, HB⟩ := hrel
        by_cases hin : i < n
        · have hin' : (i : Int) < (n : Int) := by omega
          by_cases hiv : i < v.size
          · have hiv' : (i : Int) < (v.size : Int) := by omega
            obtain ⟨x, hx⟩ : ∃ x, x = (byt v i).toNat % k := ⟨_, rfl⟩
            have hxk : x < k := by rw [hx]; exact Nat.mod_lt _ (by omega)
            have hlt : ltr v k (i + 1) i = UInt8.ofNat (97 + x) := by
              unfold ltr dgt
              rw [if_pos (by omega), if_pos hiv, hx]
            have c1 := (HR.out i hin).1
            have f1 := (HR.out i hin).2
            have hl97 : ((ltr v k i i).toNat : Int) = 97 := by unfold ltr; rw [if_neg (Nat.lt_irrefl _)]; rfl
            rw [hl97] at c1
            obtain ⟨c, hc⟩ : ∃ c, c = v[i].toNat := ⟨_, rfl⟩
            have hcx : c % k = x := by rw [hx, byt_eq hiv, hc]
            have m1 : (c : Int) % (k : Int) = (x : Int) := by rw [← hcx]; simp
            have m2 : Int.tmod (c : Int) (k : Int) = (x : Int) := by rw [Int.tmod_eq_emod_of_nonneg (by omega)]; exact m1
            have hci : (v[i].toNat : Int) = (c : Int) := by rw [hc]
            have hwk : IntKind.u8.wrap (k : Int) = (k : Int) := IntWalk.u8_in _ (by omega)
            have hwx : IntKind.u8.wrap (x : Int) = (x : Int) := IntWalk.u8_in _ (by omega)
            have hwx2 : IntKind.u8.wrap (97 + (x : Int)) = 97 + (x : Int) := IntWalk.u8_in _ (by omega)
            have hk0 : ((k : Int) == 0) = false := beq_eq_false_iff_ne.2 (by omega)
            have hk0' : (k : Int) ≠ 0 := by omega
            have hdv : decide ((i : Int) < (v.size : Int)) = true := decide_eq_true hiv'
            have hlt2 : ((ltr v k (i + 1) i).toNat : Int) = 97 + (x : Int) := by
              rw [hlt, UInt8.toNat_ofNat']; omega
            have R : Hid (∀ d, BRow ((wr.drewN d).setCell ⟨PB, i, none⟩ (.int .u8 (97 + (x : Int)))) PB n (ltr v k (i + 1)) ∧ Below w.heap.size w ((wr.drewN d).setCell ⟨PB, i, none⟩ (.int .u8 (97 + (x : Int))))) := fun d => by
              have h1 := ((HR.out.drewN d).set_ hin (ltr v k (i + 1) i)).congr (h' := ltr v k (i + 1)) fun j _ => by
                by_cases e : j = i
                · rw [if_pos e, e]
                · rw [if_neg e]
                  unfold ltr
                  by_cases h2 : j < i
                  · rw [if_pos h2, if_pos (by omega)]
                  · rw [if_neg h2, if_neg (by omega)]
              rw [hlt2] at h1
              exact ⟨h1, (bl_drewN HB.out d).setCell hPW _⟩
            clear hlt hlt2 hx hcx hc hl97 HR HB
            go_wp2
            go_region
            go_wp2
            go_roundw
            case measure => simp [intOf]; omega
            case rel => exact ⟨i + 1, by omega, by go_num, hid (R.out 1).1, hid (R.out 1).2⟩
          · have hdv : decide ((i : Int) < (v.size : Int)) = false := decide_eq_false (by omega)
            have HR2 : Hid (BRow wr PB n (ltr v k (i + 1))) := HR.out.congr fun j _ => by
              unfold ltr
              by_cases h2 : j < i
              · rw [if_pos h2, if_pos (by omega)]
              · rw [if_neg h2]
                by_cases e : j = i
                · rw [if_pos (by omega), e]
                  unfold dgt
                  rw [if_neg hiv, Nat.zero_mod]; rfl
                · rw [if_neg (by omega)]
            clear HR
            go_wp2
            go_roundw
            case measure => simp [intOf]; omega
            case rel => exact ⟨i + 1, by omega, by go_num, HR2, HB⟩
        · obtain rfl : i = n := by omega
          have dl : decide ((i : Int) < (i : Int)) = false := decide_eq_false (by omega)
          obtain ⟨ps, hps⟩ : ∃ ps, ps = sd (dgts v k i) := ⟨_, rfl⟩
          have hcv : ∀ (cap : Nat) (W : World) (d : Nat), W = wr.drewN d → (convert 74 9 (.slice (some ⟨PB, 0, none⟩) i cap)).run Try.prog W = .ok (.string ps) W := fun cap W d hW => by
            subst hW
            rw [hps, ← nums_sd]
            exact run_convert_bytes_arg (P := Try.prog) (wr.drewN d) 74 5 Try.underlying74 Try.underlying5 PB 0 i cap (nums (dgts v k i)) (by rw [nums_len, dgts_len]) (fun j hj => by
              rw [Nat.zero_add, show (wr.drewN d).cell? ⟨PB, j, none⟩ = _ from (HR.out j hj).1, ← ltr_nums (n := i) (by omega) hk5, List.getD_eq_getElem?_getD, List.getElem?_map, List.getElem?_range hj]
              rfl) 9 Try.underlying9
          have HCV := hid hcv
          have hcv0 := hcv pc wr 0 rfl
          have hpz : ps.size = i := by rw [hps, sd_size, dgts_len]
          have htz : t.size = s.size := by have := HP.out.len; rw [lst_len, lst_len] at this; exact this
          have hL0 : 0 < L.length := by rw [HBR.out.len]; exact Nat.pow_pos (by omega)
          have hL100 : ∀ y, y ∈ L → y < 100 := fun y hy => by have := HBR.out.low y hy; omega
          have hd100 : ∀ y, y ∈ dgts v k i → y < 100 := fun y hy => by have := dgts_low (v := v) (m := i) (show 0 < k by omega) y hy; omega
          have hone : Rm.hc L i (dgts v k i) L.length = 1 := HBR.out.one _ (dgts_len _ _ _) (dgts_low (by omega))
          have hc1 : Tm.csn (lst t) (lst ps) = 1 := by
            rw [HP.out.count, HS.out, hps, occ_hc L (dgts v k i) hL100 hd100 hL0, dgts_len]
            exact hone
          have HPS := hid hps
          have HONE := hid hone
          have HL0 := hid hL0
          have HL100 := hid hL100
          have HD100 := hid hd100
          have HC1 := hid hc1
          have HTZ := hid htz
          clear hcv hps hone hL0 hL100 hd100 hc1 htz
          go_wp2_with fail
          with_reducible refine (Count_ok t ps _ (by have := HTZ.out; omega) (by omega)).mono ?_
          rintro e w8 ⟨rfl, hb8⟩
          rw [HC1.out]
          have HB := hid (bl_then HB.out hb8)
          have hw8 := HB.out.size
          obtain ⟨E1, hE1⟩ : ∃ E1, E1 = s.size + i := ⟨_, rfl⟩
          obtain ⟨E, hE⟩ : ∃ E, E = s.size + i - 1 := ⟨_, rfl⟩
          have e1 : (s.size : Int) + (i : Int) = (E1 : Int) := by omega
          have e2 : (E1 : Int) - 1 = (E : Int) := by omega
          have hwe1 : IntKind.i64.wrap (E1 : Int) = (E1 : Int) := i64_of (by omega) (by omega)
          have hwe : IntKind.i64.wrap (E : Int) = (E : Int) := i64_of (by omega) (by omega)
          have HE := hid hE
          have hEb : E ≤ 160 := by omega
          have hE0 : (0 : Int) ≤ (E : Int) := by omega
          have hs0 : 0 < s.size := by have := HL0.out; have := HSZ.out; omega
          have HR8 : Hid (∀ j, j < i → w8.cell? ⟨PB, j, none⟩ = some (.int .u8 ((ltr v k i j).toNat : Int))) := fun j hj => by
            rw [hb8.cell (World.block_lt_of_cell? wr ⟨PB, j, none⟩ (HR.out j hj).1)]
            exact (HR.out j hj).1
          clear hb8 hE hE1 hcv0 HCV HR HC1
          generalize w8 = w9 at *
          have hcv9 : ∀ (W : World), (∃ d, W = w9.drewN d) → (convert 74 9 (.slice (some ⟨PB, 0, none⟩) i pc)).run Try.prog W = .ok (.string ps) W := fun W hW => by
            obtain ⟨d, rfl⟩ := hW
            rw [HPS.out, ← nums_sd]
            exact run_convert_bytes_arg (P := Try.prog) (w9.drewN d) 74 5 Try.underlying74 Try.underlying5 PB 0 i pc (nums (dgts v k i)) (by rw [nums_len, dgts_len]) (fun j hj => by
              rw [Nat.zero_add, show (w9.drewN d).cell? ⟨PB, j, none⟩ = _ from HR8.out j hj, ← ltr_nums (n := i) (by omega) hk5, List.getD_eq_getElem?_getD, List.getElem?_map, List.getElem?_range hj]
              rfl) 9 Try.underlying9
          have hcva := hid (hcv9 w9.drew ⟨1, rfl⟩)
          have hcvb := hid (hcv9 w9 ⟨0, rfl⟩)
          have HCW : Hid (∀ W : World, Below w9.drew.heap.size w9.drew W → (convert 74 9 (.slice (some ⟨PB, 0, none⟩) i pc)).run Try.prog W = .ok (.string ps) W) := fun W hW => by
            rw [HPS.out, ← nums_sd]
            exact run_convert_bytes_arg (P := Try.prog) W 74 5 Try.underlying74 Try.underlying5 PB 0 i pc (nums (dgts v k i)) (by rw [nums_len, dgts_len]) (fun j hj => by
              rw [Nat.zero_add, hW.cell (World.block_lt_of_cell? w9 ⟨PB, j, none⟩ (HR8.out j hj)), show w9.drew.cell? ⟨PB, j, none⟩ = _ from HR8.out j hj, ← ltr_nums (n := i) (by omega) hk5, List.getD_eq_getElem?_getD, List.getElem?_map, List.getElem?_range hj]
              rfl) 9 Try.underlying9
          clear hcv9 HR8
          go_wp2
          go_loopg [18] (2000 - s.size) (fun g x W => ∃ s2 : ByteArray, x = .string s2 ∧ s2.size ≤ 1300 ∧ Hid (g = 2000 - s2.size) ∧ Hid (Rep s s2) ∧ W = w9)
          case atStart => exact ⟨s, rfl, by omega, hid rfl, hid (Rep.one s), rfl⟩
          case round =>
            obtain ⟨s2, rfl, hs2, HG, HR, rfl⟩ := hrel
            by_cases hl2 : s2.size < E
            · have dl2 : decide ((s2.size : Int) < (E : Int)) = true := decide_eq_true (by omega)
              have hadd := fun W : World => run_string_add_sum (P := Try.prog) W s2 s (by omega)
              have HR2 := hid HR.out.more
              have hsa := size_app s2 s
              obtain ⟨s3, hs3⟩ : ∃ s3, s3 = s2 ++ s := ⟨_, rfl⟩
              rw [← hs3] at HR2 hsa hadd
              have HSA := hid hsa
              clear hs3 hsa
              go_wp2
              go_roundg (2000 - s3.size)
              case measure => have := HSA.out; have := HG.out; omega
              case rel => exact ⟨s3, by trivial, by have := HSA.out; omega, hid rfl, HR2, by trivial⟩
            · have dl2 : decide ((s2.size : Int) < (E : Int)) = false := decide_eq_false (by omega)
              have hle : (E : Int) ≤ (s2.size : Int) := by omega
              have hWz : (s2.extract 0 E).size = E := by rw [size_ext]; omega
              have hpl : (fiL (s2.extract 0 E) ps).length = 1 := by
                have hr := HR.out
                rw [HS.out] at hr
                have hp := places_hc (b := dgts v k i) (E := E) hr HL100.out HD100.out HL0.out (by rw [dgts_len]; omega) (by rw [dgts_len, ← HSZ.out]; exact HE.out) (by omega)
                rw [dgts_len] at hp
                rw [HPS.out, hp]
                exact HONE.out
              obtain ⟨wi, hwi⟩ : ∃ wi, wi = s2.extract 0 E := ⟨_, rfl⟩
              rw [← hwi] at hWz hpl
              have hwi2 : s2.extract 0 E = wi := hwi.symm
              have hcv1 := hcva.out
              have hcv2 := hcvb.out
              have HPL := hid hpl
              clear HR HG hwi hcva hcvb hpl
              go_wp2
              go_region_held3 (fun W => (convert 74 9 (.slice (some ⟨PB, 0, none⟩) i pc)).run Try.prog W = .ok (.string ps) W) (first | exact hcv1 | exact hcv2 | exact HCW.out _ (by assumption)) (first | (go_at_call 47; (with_reducible refine (Find_ok wi ps _ (by omega) (by omega) (by omega)).mono ?_); rintro e w10 ⟨A, c10, rfl, hi10, hb10⟩; rw [HPL.out]))
              have HB := hid (bl_then HB.out.drew hb10)
              clear hi10 hb10 hcv1 hcv2
              have hz : Hid (∀ j, j < 4 → (w10.alloc (.cells #[.int .i64 0, .int .i64 0, .int .i64 0, .int .i64 0] 23)).cell? ⟨w10.heap.size, j, none⟩ = some (.int .i64 0)) := zeros_new w10 23 4
              go_wp2_with fail
              with_reducible refine (topGood_ok w10.heap.size 4 4 _ (by decide) hz.out).mono ?_
              rintro e w11 ⟨rfl, rfl⟩
              go_wp2
              go_ret
              exact ⟨rfl, bl_then HB.out (bl_new w10 _)⟩
    · have hfd : decide ((150 : Int) < (s.size : Int)) = true := decide_eq_true (by omega)
      go_wp2_with fail
      with_reducible refine (works_ok _).mono ?_
      rintro e w4 ⟨rfl, hb2⟩
      have HB := hid (bl_then HB.out hb2)
      clear hb2
      go_wp2
      go_ret
      exact ⟨rfl, HB.out⟩
  · have he : ringErr (k : Int) (n : Int) = 2 := by
      unfold ringErr
      rw [if_neg (by omega), if_pos (by rw [Int.toNat_natCast, Int.toNat_natCast]; omega)]
    have HE := hid he
    clear hpow he
    go_wp2_with fail
    with_reducible refine (Line_err (k : Int) (n : Int) _ (by rw [HE.out]; decide)).mono ?_
    rintro e w2 ⟨he, rfl⟩
    rw [HE.out] at he
    subst he
    go_wp2_with fail
    with_reducible refine (works_ok _).mono ?_
    rintro e w3 ⟨rfl, hb2⟩
    have HB := hid hb2
    clear hb2
    go_wp2_with fail
    with_reducible refine (works_ok _).mono ?_
    rintro e w4 ⟨rfl, hb2⟩
    have HB := hid (bl_then HB.out hb2)
    clear hb2
    go_wp2
    go_ret
    exact ⟨rfl, HB.out⟩
end Go.Proofs.Ytapjodbaaejldaa
