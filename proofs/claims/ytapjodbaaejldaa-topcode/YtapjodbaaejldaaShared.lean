
/-
The contract of suffix.shared: how many bytes two strings begin alike with.
-/
import Derived.Test.YtapjodbaaejldaaSeg35
import Derived.Test.YtapjodbaaejldaaMathAll
import Derived.Test.YtapjodbaaejldaaStr
import Derived.Test.YtapjodbaaejldaaLst
import Derived.Deep.RegionHeld3
namespace Go.Proofs.Ytapjodbaaejldaa
open Go.RowKit

theorem shared_any (a b : ByteArray) (w : World) (ha : a.size ≤ 1000) (hb : b.size ≤ 1000) :
    Calls Try.prog 129 #[.string a, .string b] w fun e w' => e = .returned (.int .i64 (Sm.lcp (lst a) (lst b) : Nat)) ∧ Drew w w' := by
  go_enter Try.func129, Try.ntmps129
  go_wp2
  go_loopw [5] (fun x wr => ∃ k : Nat, k ≤ a.size ∧ k ≤ b.size ∧ x = .int .i64 (k : Int) ∧ Hid (∀ t, t < k → byt a t = byt b t) ∧ Drew w wr) (fun x _ => a.size - (intOf x).toNat)
  case atStart => exact ⟨0, by omega, by omega, rfl, fun t ht => by omega, Drew.refl _⟩
  case round =>
    obtain ⟨k, hka, hkb, rfl, hall, hd⟩ := hrel
    have fin : (k = a.size ∨ k = b.size ∨ byt a k ≠ byt b k) → Hid ((k : Int) = (Sm.lcp (lst a) (lst b) : Nat)) := by
      intro h
      refine congrArg Int.ofNat (Sm.lcp_is (x := lst a) (y := lst b) (n := k) (by rw [lst_len]; exact hka) (by rw [lst_len]; exact hkb) hall.out ?_).symm
      rw [lst_len, lst_len]
      exact h
    by_cases h1 : k < a.size
    · have h1' : (k : Int) < (a.size : Int) := by omega
      by_cases h2 : k < b.size
      · have h2' : (k : Int) < (b.size : Int) := by omega
        by_cases he : byt a k = byt b k
        · have heq : ((a[k].toNat : Int) == (b[k].toNat : Int)) = true := by rw [← byt_eq h1, ← byt_eq h2, he]; simp
          have HA : Hid (∀ t, t < k + 1 → byt a t = byt b t) := by
            intro t ht
            by_cases e : t = k
            · subst e; exact he
            · exact hall.out t (by omega)
          clear he fin
          go_wp2
          go_quiet (fail)
          go_wp2
          go_roundw
          case rel => exact ⟨k + 1, by omega, by omega, by go_num, HA, hd.more _⟩
          case measure => simp [intOf]; omega
        · have heq : ((a[k].toNat : Int) == (b[k].toNat : Int)) = false := by rw [← byt_eq h1, ← byt_eq h2]; exact (byte_ne he).2
          have HF := fin (.inr (.inr he))
          clear he fin
          go_wp2
          go_quiet (fail)
          go_wp2
          go_ret
          exact ⟨ret_int HF.out, hd.more _⟩
      · have HF := fin (.inr (.inl (by omega)))
        clear fin
        have h2' : decide ((k : Int) < (b.size : Int)) = false := decide_eq_false (by omega)
        go_wp2
        go_quiet (fail)
        go_wp2
        go_ret
        exact ⟨ret_int HF.out, hd.more _⟩
    · have HF := fin (.inl (by omega))
      clear fin
      have h1' : decide ((k : Int) < (a.size : Int)) = false := decide_eq_false (by omega)
      go_wp2
      go_quiet (fail)
      go_wp2
      go_ret
      exact ⟨ret_int HF.out, hd.more _⟩

/-- What is written when the numbers g 0, g 1, .. are stored up to i. -/
def fillG (g : Nat → Int) (i j : Nat) : Int := if j < i then g j else 0
theorem fillG_lt {g : Nat → Int} {i j : Nat} (h : j < i) : fillG g i j = g j := by unfold fillG; rw [if_pos h]
theorem fillG_succ (g : Nat → Int) (i j : Nat) : fillG g (i + 1) j = if j = i then g i else fillG g i j := by
  unfold fillG
  by_cases h : j = i
  · subst h; simp
  · rw [if_neg h]
    by_cases h2 : j < i
    · rw [if_pos h2, if_pos (by omega)]
    · rw [if_neg h2, if_neg (by omega)]
theorem fill_store {w wr : World} {g : Nat → Int} {b B n i : Nat} {t : TypeId} {v : Int} (hrow : wr.rowIs b t n (fun j => .int .i64 (fillG g i j))) (hbel : Below B w wr) (hB : B ≤ b) (hv : v = g i) :
    ∀ d, ((wr.drewN d).setCell ⟨b, i, none⟩ (.int .i64 v)).rowIs b t n (fun j => .int .i64 (fillG g (i + 1) j)) ∧ Below B w ((wr.drewN d).setCell ⟨b, i, none⟩ (.int .i64 v)) := by
  intro d
  refine ⟨(World.rowIs.set (w := wr.drewN d) hrow i _).congr fun j _ => ?_, (bl_drewN hbel d).setCell hB _⟩
  rw [fillG_succ]
  by_cases h : j = i
  · rw [if_pos h, if_pos h, hv]
  · rw [if_neg h, if_neg h]

/-- The numbers of suffix.common. -/
def cg (s : ByteArray) (k : Nat) : Int := (Sm.C (lst s) k : Nat)
def sg (s : ByteArray) (k : Nat) : Int := (Sm.sa (lst s) k : Nat)
set_option maxHeartbeats 400000 in
theorem common_any (s : ByteArray) (A : Option Addr) (c : Nat) (w : World) (hs : s.size ≤ 200) (h : IRow w A s.size (sg s)) :
    Calls Try.prog 98 #[.string s, .slice A s.size c] w fun e w' => e = .returned (.slice (some ⟨w.heap.size, 0, none⟩) s.size s.size) ∧ w'.rowIs w.heap.size 3 s.size (fun k => .int .i64 (cg s k)) ∧ Below w.heap.size w w' := by
  have hmk := run_make_row' (P := Try.prog) 53 3 (.int .i64 0) 8 Try.underlying53 Try.infoInt rfl .i64 .i64 s.size (by omega) (by omega) w
  have hmade := World.rowIs_made w (.int .i64 0) s.size 3
  have hb0 := bl_new w (.cells (madeCells #[.int .i64 0] s.size) 3)
  generalize w.alloc (.cells (madeCells #[.int .i64 0] s.size) 3) = w0 at hmk hmade hb0
  have R0 : Hid (w0.rowIs w.heap.size 3 s.size (fun j => .int .i64 (fillG (cg s) 1 j))) := hmade.congr fun j _ => by
    unfold fillG cg
    by_cases hj : j < 1
    · rw [if_pos hj, show j = 0 by omega, Sm.C_zero]; rfl
    · rw [if_neg hj]
  have HI := hid h
  clear hmade h
  go_enter Try.func98, Try.ntmps98
  go_wp2
  go_loopw [6] (fun x wr => ∃ i : Nat, 1 ≤ i ∧ i ≤ s.size + 1 ∧ x = .int .i64 i ∧ wr.rowIs w.heap.size 3 s.size (fun j => .int .i64 (fillG (cg s) i j)) ∧ Below w.heap.size w wr) (fun x _ => s.size - (intOf x).toNat)
  case atStart => exact ⟨1, by omega, by omega, rfl, R0.out, hb0⟩
  case round =>
    clear R0 hb0 hmk
    obtain ⟨i, hi1, hi2, rfl, hrow, hbel⟩ := hrel
    by_cases hlt : i < s.size
    · have hlt' : (i : Int) < (s.size : Int) := by omega
      obtain ⟨b, o, rfl, hb, hc1⟩ := HI.out.at_ (k := i - 1) (by omega)
      obtain ⟨b', o', e', _, hc2⟩ := HI.out.at_ (k := i) hlt
      obtain ⟨rfl, rfl⟩ : b = b' ∧ o = o' := by injection e' with e'; injection e' with e1 e2; exact ⟨e1, e2⟩
      have hp1 : Sm.sa (lst s) (i - 1) < s.size := by have := Sm.sa_lt (s := lst s) (k := i - 1) (by rw [lst_len]; omega); rwa [lst_len] at this
      have hp2 : Sm.sa (lst s) i < s.size := by have := Sm.sa_lt (s := lst s) (k := i) (by rw [lst_len]; omega); rwa [lst_len] at this
      replace hc1 := (hbel.cell (p := ⟨b, o + (i - 1), none⟩) hb).trans hc1
      replace hc2 := (hbel.cell (p := ⟨b, o + i, none⟩) hb).trans hc2
      have KB : ∀ d v k, ((wr.drewN d).setCell ⟨w.heap.size, i, none⟩ v).cell? ⟨b, k, none⟩ = wr.cell? ⟨b, k, none⟩ := fun d v k => ((Below.refl w.heap.size (wr.drewN d)).setCell (Nat.le_refl _) v).cell (p := ⟨b, k, none⟩) hb
      unfold sg at hc1 hc2
      obtain ⟨p, hp⟩ : ∃ p, p = Sm.sa (lst s) (i - 1) := ⟨_, rfl⟩
      obtain ⟨q, hq⟩ : ∃ q, q = Sm.sa (lst s) i := ⟨_, rfl⟩
      have HV : Hid ((Sm.lcp (lst (s.extract p s.size)) (lst (s.extract q s.size)) : Nat) = cg s i) := by
        rw [lst_drop, lst_drop, hp, hq]
        unfold cg Sm.C
        rw [if_neg (by omega)]
        rfl
      rw [← hp] at hc1 hp1
      rw [← hq] at hc2 hp2
      clear hp hq e'
      have hp1' : (p : Int) ≤ (s.size : Int) := by omega
      have hp2' : (q : Int) ≤ (s.size : Int) := by omega
      have e1 : (s.extract p s.size).size ≤ 1000 := by rw [size_ext]; omega
      have e2 : (s.extract q s.size).size ≤ 1000 := by rw [size_ext]; omega
      have hroom := hrow.frozen i
      have hci : wr.cell? ⟨w.heap.size, i, none⟩ = some (.int .i64 (fillG (cg s) i i)) := hrow.cell hlt
      have hz := hrow.lt
      obtain ⟨j, hj⟩ : ∃ j, j = i - 1 := ⟨_, rfl⟩
      have ei : (i : Int) - 1 = (j : Int) := by omega
      have ej0 : (0 : Int) ≤ (j : Int) := by omega
      have ej1 : (j : Int) < (s.size : Int) := by omega
      have ejw : IntKind.i64.wrap (j : Int) = (j : Int) := IntWalk.i64_in _ (by omega)
      rw [← hj] at hc1
      clear hj
      have R := hid (fill_store hrow hbel (Nat.le_refl _) HV.out)
      clear hrow hbel
      go_wp2
      go_region_held3 (fun W => W.cell? ⟨b, o + j, none⟩ = some (.int .i64 (p : Int)) ∧ W.cell? ⟨b, o + i, none⟩ = some (.int .i64 (q : Int))) (first | exact ⟨hc1, hc2⟩ | exact ⟨(KB _ _ _).trans hc1, (KB _ _ _).trans hc2⟩) (first | (go_at_call 129; (with_reducible refine (shared_any _ _ _ e1 e2).mono ?_); rintro e w2 ⟨rfl, d, rfl⟩))
      go_wp2
      go_roundw
      case rel => exact ⟨i + 1, by omega, by omega, by go_num, (R.out _).1, (R.out _).2⟩
      case measure => simp [intOf]; omega
    · go_wp2
      go_ret
      refine ⟨rfl, hrow.congr fun k hk => ?_, hbel⟩
      rw [fillG_lt (by omega)]
end Go.Proofs.Ytapjodbaaejldaa
