
/-
The contracts of quillref.Long at two strings, quillref.In and quillref.SameOf.
-/
import Derived.Test.YtejcijlmpiiffaaSameTab
namespace Go.Proofs.Ytejcijlmpiiffaa
open Go.RowKit

theorem two_strings (w : World) (s t : ByteArray) (ty : TypeId) : (w.alloc (.cells #[.string s, .string t] ty)).cell? ⟨w.heap.size, 0, none⟩ = some (.string s) ∧ (w.alloc (.cells #[.string s, .string t] ty)).cell? ⟨w.heap.size, 1, none⟩ = some (.string t) := by
  constructor <;> simp
theorem longTwo_ok (s t : ByteArray) (b : Nat) (w : World) (hc : w.cell? ⟨b, 0, none⟩ = some (.string s) ∧ w.cell? ⟨b, 1, none⟩ = some (.string t)) (hs : s.size ≤ 200) (ht : t.size ≤ 200) :
    Calls Try.prog 10 #[.slice (some ⟨b, 0, none⟩) 2 2] w fun e w' => e = .returned (.int .i64 0) ∧ w = w' := by
  go_enter Try.func10, Try.ntmps10
  go_wp2
  go_loop [7] (fun i => ∃ k : Nat, k ≤ 2 ∧ i = .int .i64 k) (fun i => 2 - (intOf i).toNat)
  case atStart => exact ⟨0, by omega, rfl⟩
  case round =>
    obtain ⟨k, hk, rfl⟩ := hrel
    by_cases h : k < 2
    · obtain ⟨r, hr, hc'⟩ : ∃ r : ByteArray, r.size ≤ 200 ∧ w.cell? ⟨b, k, none⟩ = some (.string r) := by
        by_cases h0 : k = 0
        · subst h0; exact ⟨s, hs, hc.1⟩
        · obtain rfl : 1 = k := by omega
          exact ⟨t, ht, hc.2⟩
      clear hc hs ht
      go_wp2
      go_round
      case rel => exact ⟨k + 1, by omega, by go_num⟩
      case measure => simp [intOf]; omega
    · go_wp2
      go_ret
      exact ⟨rfl, rfl⟩
theorem longTwo_large (s t : ByteArray) (b : Nat) (w : World) (hc : w.cell? ⟨b, 0, none⟩ = some (.string s) ∧ w.cell? ⟨b, 1, none⟩ = some (.string t)) (hl : 200 < s.size ∨ 200 < t.size) :
    Calls Try.prog 10 #[.slice (some ⟨b, 0, none⟩) 2 2] w fun e w' => e = .returned (.int .i64 2) ∧ w = w' := by
  go_enter Try.func10, Try.ntmps10
  go_wp2
  go_loop [7] (fun i => ∃ k : Nat, k ≤ 1 ∧ i = .int .i64 k ∧ (k = 1 → s.size ≤ 200)) (fun i => 2 - (intOf i).toNat)
  case atStart => exact ⟨0, by omega, rfl, by omega⟩
  case round =>
    obtain ⟨k, hk, rfl, hk1⟩ := hrel
    by_cases h0 : k = 0
    · subst h0
      obtain ⟨hc, _⟩ := hc
      clear hk1
      by_cases hs : s.size ≤ 200
      · go_wp2
        go_round
        case rel => exact ⟨1, by omega, by go_num, fun _ => hs⟩
        case measure => simp [intOf]
      · have hs' : 200 < s.size := by omega
        go_wp2
        go_ret
        exact ⟨rfl, rfl⟩
    · obtain rfl : 1 = k := by omega
      obtain ⟨_, hc⟩ := hc
      have ht : 200 < t.size := by have := hk1 rfl; omega
      clear hk1 h0
      go_wp2
      go_ret
      exact ⟨rfl, rfl⟩

/-- Two rows of numbers that the call has made: the one holds f, the other h. -/
structure Rw (w wr : World) (B g k M : Nat) (f h : Nat → Nat) : Prop where
  below : Below B w wr
  hg : B ≤ g
  hk : B ≤ k
  ne : g ≠ k
  one : wr.rowIs g 3 M (fun q => .int .i64 (f q : Nat))
  two : wr.rowIs k 3 M (fun q => .int .i64 (h q : Nat))
theorem Rw.set {w wr : World} {B g k M j v : Nat} {f h h' : Nat → Nat} (R : Rw w wr B g k M f h) (e : ∀ q, q < M → h' q = if q = j then v else h q) (d : Nat) : Rw w ((wr.drewN d).setCell ⟨k, j, none⟩ (.int .i64 (v : Nat))) B g k M f h' := by
  refine ⟨(bl_drewN R.below d).setCell R.hk _, R.hg, R.hk, R.ne, World.rowIs.setOther (w := wr.drewN d) R.one R.ne _, (World.rowIs.set (w := wr.drewN d) R.two j _).congr fun q hq => ?_⟩
  rw [e q hq]
  by_cases h : q = j
  · rw [if_pos h, if_pos h]
  · rw [if_neg h, if_neg h]
/-- The row in the making: its first places are done. -/
def nxt (a b : List UInt8) (i k q : Nat) : Nat := if q ≤ k then Sa.fore a b (i + 1) q else 0
theorem nxt_zero (a b : List UInt8) (i q : Nat) : nxt a b i 0 q = 0 := by
  unfold nxt
  by_cases h : q ≤ 0
  · rw [if_pos h, Sa.fore_none (.inr (by omega))]
  · rw [if_neg h]
theorem nxt_at (a b : List UInt8) {i k q : Nat} (h : q ≤ k) : nxt a b i k q = Sa.fore a b (i + 1) q := if_pos h
theorem nxt_step (a b : List UInt8) (i k q v : Nat) (hv : v = Sa.fore a b (i + 1) (k + 1)) : nxt a b i (k + 1) q = if q = k + 1 then v else nxt a b i k q := by
  unfold nxt
  by_cases h : q = k + 1
  · subst h; rw [if_pos rfl, if_pos (Nat.le_refl _), hv]
  · rw [if_neg h]
    by_cases h2 : q ≤ k
    · rw [if_pos h2, if_pos (by omega)]
    · rw [if_neg h2, if_neg (by omega)]
set_option maxHeartbeats 2000000 in
theorem SameOf_ok (a b : ByteArray) (w : World) (ha : a.size ≤ 200) (hb : b.size ≤ 200) :
    Calls Try.prog 11 #[.string a, .string b] w fun e w' => e = .returned (.int .i64 (Sa.lc (lst a) (lst b) : Nat)) ∧ Below w.heap.size w w' := by
  obtain ⟨M, hM⟩ : ∃ M, M = b.size + 1 := ⟨_, rfl⟩
  have eM : (b.size : Int) + 1 = (M : Int) := by omega
  have hwM : IntKind.i64.wrap (M : Int) = (M : Int) := IntWalk.i64_in _ (by omega)
  have hM5 : M ≤ 201 := by omega
  have hbM : b.size < M := by omega
  have hbM' : (b.size : Int) < (M : Int) := by omega
  have HM := hid hM
  clear hM
  have hmkA := run_make_row' (P := Try.prog) 45 3 (.int .i64 0) 8 Try.underlying45 Try.infoInt rfl .i64 .i64 M (by omega) (by omega)
  have HMK := hid hmkA
  have hrow := World.rowIs_made w (.int .i64 0) M 3
  have hb0 := bl_new w (.cells (madeCells #[.int .i64 0] M) 3)
  have hsz0 : w.heap.size < (w.alloc (.cells (madeCells #[.int .i64 0] M) 3)).heap.size := by simp
  have hmk := hmkA w
  clear hmkA
  generalize w.alloc (.cells (madeCells #[.int .i64 0] M) 3) = w0 at hmk hrow hb0 hsz0
  have HR0 : Hid (w0.rowIs w.heap.size 3 M (fun q => .int .i64 (Sa.fore (lst a) (lst b) 0 q : Nat))) := hrow.congr fun q _ => by rw [Sa.fore_none (.inl rfl)]; rfl
  have HB0 := hid hb0
  clear hrow hb0
  go_enter Try.func11, Try.ntmps11
  go_wp2
  clear hmk
  go_loopw [5, 15] (fun v x wr => ∃ i g : Nat, i ≤ a.size ∧ x = .int .i64 (i : Int) ∧ v = .slice (some ⟨g, 0, none⟩) M M ∧ w.heap.size ≤ g ∧ Hid (Below w.heap.size w wr) ∧ Hid (wr.rowIs g 3 M (fun q => .int .i64 (Sa.fore (lst a) (lst b) i q : Nat)))) (fun _ x _ => a.size - (intOf x).toNat)
  case atStart => exact ⟨0, w.heap.size, by omega, rfl, rfl, Nat.le_refl _, HB0, HR0⟩
  case round =>
    clear HR0 HB0 hsz0
    obtain ⟨i, g, hi, rfl, rfl, hg, HB, HR⟩ := hrel
    by_cases hia : i < a.size
    · have hia' : (i : Int) < (a.size : Int) := by omega
      have hmk := HMK.out wr
      have hrow := World.rowIs_made wr (.int .i64 0) M 3
      have HRW : Hid (Rw w (wr.alloc (.cells (madeCells #[.int .i64 0] M) 3)) w.heap.size g wr.heap.size M (Sa.fore (lst a) (lst b) i) (nxt (lst a) (lst b) i 0)) :=
        ⟨HB.out.alloc HB.out.size _, hg, HB.out.size, (by have := HR.out.lt; omega), HR.out.alloc _, hrow.congr fun q _ => by rw [nxt_zero]; rfl⟩
      obtain ⟨g2, hg2⟩ : ∃ g2, g2 = wr.heap.size := ⟨_, rfl⟩
      rw [← hg2] at hmk HRW
      clear hrow HB HR hg2
      generalize wr.alloc (.cells (madeCells #[.int .i64 0] M) 3) = w1 at hmk HRW
      go_wp2
      clear hmk
      go_loopw [24] (fun x wr => ∃ k : Nat, k ≤ b.size ∧ x = .int .i64 (k : Int) ∧ Hid (Rw w wr w.heap.size g g2 M (Sa.fore (lst a) (lst b) i) (nxt (lst a) (lst b) i k))) (fun x _ => b.size - (intOf x).toNat)
      case atStart => exact ⟨0, by omega, rfl, HRW⟩
      case round =>
        clear HRW
        obtain ⟨k, hk, rfl, HW⟩ := hrel
        by_cases hkb : k < b.size
        · have hkb' : (k : Int) < (b.size : Int) := by omega
          obtain ⟨k1, hk1⟩ : ∃ k1, k1 = k + 1 := ⟨_, rfl⟩
          have ek : (k : Int) + 1 = (k1 : Int) := by omega
          have hkw : IntKind.i64.wrap (k1 : Int) = (k1 : Int) := IntWalk.i64_in _ (by omega)
          have hk0 : (0 : Int) ≤ (k1 : Int) := by omega
          have hkM : k < M := by omega
          have hk1M : k1 < M := by omega
          have hkM' : (k : Int) < (M : Int) := by omega
          have hk1M' : (k1 : Int) < (M : Int) := by omega
          have c1 := HW.out.two.cell hkM
          have c2 := HW.out.one.cell hk1M
          have c3 := HW.out.two.cell hk1M
          have f3 := HW.out.two.frozen k1
          try simp only at c1 c2 c3
          rw [nxt_at (lst a) (lst b) (Nat.le_refl k)] at c1
          obtain ⟨u, hu⟩ : ∃ u, u = Sa.fore (lst a) (lst b) (i + 1) k := ⟨_, rfl⟩
          obtain ⟨v, hv⟩ : ∃ v, v = Sa.fore (lst a) (lst b) i k1 := ⟨_, rfl⟩
          rw [← hu] at c1
          rw [← hv] at c2
          obtain ⟨v2, hv2⟩ : ∃ v2, v2 = max u v := ⟨_, rfl⟩
          have hmx : (if u < v then (v : Int) else (u : Int)) = (v2 : Int) := by
            rw [hv2]
            by_cases h : u < v
            · rw [if_pos h]; omega
            · rw [if_neg h]; omega
          have hmx2 : max (u : Int) (v : Int) = (v2 : Int) := by omega
          have R := fun d => HW.out.set (j := k1) (v := v2) (h' := fun q => if q = k1 then v2 else nxt (lst a) (lst b) i k q) (fun _ _ => rfl) d
          have K1 : ∀ d, _ := fun d => (R d).two.cell hkM
          have K2 : ∀ d, _ := fun d => (R d).one.cell hk1M
          rw [if_neg (show ¬ k = k1 by omega), nxt_at (lst a) (lst b) (Nat.le_refl k), ← hu] at K1
          rw [← hv] at K2
          have K3 : (wr.setCell ⟨g2, k1, none⟩ (.int .i64 (v2 : Int))).drew.cell? ⟨g2, k, none⟩ = some (.int .i64 (u : Int)) := K1 1
          have K4 : (wr.setCell ⟨g2, k1, none⟩ (.int .i64 (v2 : Int))).drew.cell? ⟨g, k1, none⟩ = some (.int .i64 (v : Int)) := K2 1
          have HRR : Hid (Rw w (wr.setCell ⟨g2, k1, none⟩ (.int .i64 (v2 : Int))).drew w.heap.size g g2 M (Sa.fore (lst a) (lst b) i) (fun q => if q = k1 then v2 else nxt (lst a) (lst b) i k q)) := R 1
          have HV2 := hid hv2
          have HU := hid hu
          have HV := hid hv
          have HK1 := hid hk1
          clear R hv2 hu hv hk1 HW
          go_wp2
          go_region_held3 (fun W => W.cell? ⟨g2, k, none⟩ = some (.int .i64 (u : Int)) ∧ W.cell? ⟨g, k1, none⟩ = some (.int .i64 (v : Int))) (first | exact ⟨c1, c2⟩ | exact ⟨K3, K4⟩) (fail)
          have e1 : (wr.setCell ⟨g2, k1, none⟩ (.int .i64 (v2 : Int))).drew = (wr.setCell ⟨g2, k1, none⟩ (.int .i64 (v2 : Int))).drew := rfl
          clear c1 c2 c3 f3 K1 K2 K3 K4 e1
          generalize (wr.setCell ⟨g2, k1, none⟩ (.int .i64 (v2 : Int))).drew = w2 at *
          by_cases he : byt a i = byt b k
          · have heq : ((a[i].toNat : Int) == (b[k].toNat : Int)) = true := by rw [← byt_eq hia, ← byt_eq hkb, he]; simp
            obtain ⟨t, ht⟩ : ∃ t, t = Sa.fore (lst a) (lst b) i k := ⟨_, rfl⟩
            have c1 := HRR.out.one.cell hkM
            have c2 := HRR.out.two.cell hk1M
            have f2 := HRR.out.two.frozen k1
            try simp only at c1 c2
            rw [← ht] at c1
            rw [if_pos trivial] at c2
            obtain ⟨t1, ht1⟩ : ∃ t1, t1 = t + 1 := ⟨_, rfl⟩
            have et : (t : Int) + 1 = (t1 : Int) := by omega
            have htb : t ≤ 200 := by rw [ht]; have := Sa.fore_le (lst a) (lst b) i k; rw [lst_len] at this; omega
            have htw : IntKind.i64.wrap (t1 : Int) = (t1 : Int) := IntWalk.i64_in _ (by omega)
            have hfin : t1 = Sa.fore (lst a) (lst b) (i + 1) (k + 1) := by
              rw [ht1, ht]
              exact (Sa.fore_same (a := lst a) (b := lst b) (by rw [lst_len]; exact hia) (by rw [lst_len]; exact hkb) he).symm
            have R := fun d => HRR.out.set (j := k1) (v := t1) (h' := nxt (lst a) (lst b) i (k + 1)) (fun q _ => by
              rw [nxt_step (lst a) (lst b) i k q t1 hfin, ← HK1.out]
              by_cases h : q = k1
              · rw [if_pos h, if_pos h]
              · rw [if_neg h, if_neg h, if_neg h]) d
            have R := hid R
            clear he ht ht1 hfin HRR
            go_wp2
            go_quiet (fail)
            go_wp2
            go_roundw
            case rel => exact ⟨k + 1, by omega, by go_num, hid (R.out _)⟩
            case measure => simp [intOf]; omega
          · have heq : ((a[i].toNat : Int) == (b[k].toNat : Int)) = false := by rw [← byt_eq hia, ← byt_eq hkb]; exact (byte_ne he).2
            have hfin : v2 = Sa.fore (lst a) (lst b) (i + 1) (k + 1) := by
              rw [HV2.out, HU.out, HV.out, HK1.out]
              exact (Sa.fore_unlike (a := lst a) (b := lst b) (by rw [lst_len]; exact hia) (by rw [lst_len]; exact hkb) he).symm
            have R : Hid (∀ d, Rw w (w2.drewN d) w.heap.size g g2 M (Sa.fore (lst a) (lst b) i) (nxt (lst a) (lst b) i (k + 1))) := fun d =>
              ⟨bl_drewN HRR.out.below d, HRR.out.hg, HRR.out.hk, HRR.out.ne, HRR.out.one, HRR.out.two.congr fun q _ => by rw [nxt_step (lst a) (lst b) i k q v2 hfin, HK1.out]⟩
            clear he hfin HRR
            go_wp2
            go_quiet (fail)
            go_wp2
            go_roundw
            case rel => exact ⟨k + 1, by omega, by go_num, hid (R.out _)⟩
            case measure => simp [intOf]; omega
        · obtain rfl : k = b.size := by omega
          have hd : decide ((b.size : Int) < (b.size : Int)) = false := decide_eq_false (by omega)
          have HR2 : Hid (wr.rowIs g2 3 M (fun q => .int .i64 (Sa.fore (lst a) (lst b) (i + 1) q : Nat))) := HW.out.two.congr fun q hq => by rw [nxt_at (lst a) (lst b) (by have := HM.out; omega)]
          have HB2 := hid HW.out.below
          have HG2 := HW.out.hk
          clear HW
          go_wp2
          go_roundw
          case rel => exact ⟨i + 1, g2, by omega, by go_num, rfl, HG2, HB2, HR2⟩
          case measure => simp [intOf]; omega
    · obtain rfl : i = a.size := by omega
      have hd : decide ((a.size : Int) < (a.size : Int)) = false := decide_eq_false (by omega)
      have c1 := HR.out.cell hbM
      try simp only at c1
      have ef : Sa.fore (lst a) (lst b) a.size b.size = Sa.lc (lst a) (lst b) := by
        have := Sa.fore_all (lst a) (lst b)
        rwa [lst_len, lst_len] at this
      rw [ef] at c1
      clear HR ef
      go_wp2
      go_ret
      exact ⟨rfl, HB.out⟩
end Go.Proofs.Ytejcijlmpiiffaa
