
/-
The contracts of package mirror's helpers: reach, arms, around.
-/
import Derived.Test.YtejcijlmpiiffaaShared
import Derived.Test.YtejcijlmpiiffaaMathAll
namespace Go.Proofs.Ytejcijlmpiiffaa
open Go.RowKit

/-- The number of package mirror at the middle c. -/
def ag (s : ByteArray) (c : Nat) : Int := (Mm.arm (byt s) s.size c : Nat)

theorem reach_any (s : ByteArray) (c : Nat) (w : World) (hs : s.size ≤ 200) (hc : c ≤ 2 * s.size) :
    Calls Try.prog 47 #[.string s, .int .i64 (c : Int)] w fun e w' => e = .returned (.int .i64 (ag s c)) ∧ Drew w w' := by
  obtain ⟨p, hp⟩ : ∃ p, p = c / 2 := ⟨_, rfl⟩
  obtain ⟨q, hq⟩ : ∃ q, q = (c + 1) / 2 := ⟨_, rfl⟩
  have hp' : (c : Int) / 2 = (p : Int) := by omega
  have hq' : ((c : Int) + 1) / 2 = (q : Int) := by omega
  have HG : Hid (Mm.rc (byt s) s.size p q = Mm.arm (byt s) s.size c) := by rw [hp, hq]; rfl
  have hpq : p ≤ q := by omega
  have hqs : q ≤ s.size := by omega
  clear hp hq
  go_enter Try.func47, Try.ntmps47
  go_wp2
  go_loopw [5, 6] (fun x y wr => ∃ a b : Nat, a ≤ b ∧ b ≤ s.size ∧ x = .int .i64 (a : Int) ∧ y = .int .i64 (b : Int) ∧ Hid (Mm.rc (byt s) s.size a b = Mm.arm (byt s) s.size c) ∧ Drew w wr) (fun x _ _ => (intOf x).toNat)
  case atStart => exact ⟨p, q, hpq, hqs, by first | rfl | rw [hp'], by first | rfl | rw [hq'], HG, Drew.refl _⟩
  case round =>
    clear HG hp' hq' hpq hqs
    obtain ⟨a, b, hab, hbs, rfl, rfl, HR, hd⟩ := hrel
    by_cases h0 : 0 < a
    · obtain ⟨j, hj⟩ : ∃ j, a = j + 1 := ⟨a - 1, by omega⟩
      have ej : (a : Int) - 1 = (j : Int) := by omega
      have ej0 : (0 : Int) ≤ (j : Int) := by omega
      have ejs : (j : Int) < (s.size : Int) := by omega
      have ejn : j < s.size := by omega
      have ejw : IntKind.i64.wrap (j : Int) = (j : Int) := IntWalk.i64_in _ (by omega)
      have h0' : (0 : Int) < (a : Int) := by omega
      have hstop : ¬ (b < s.size ∧ byt s j = byt s b) → Hid ((b : Int) - (a : Int) = ag s c) := by
        intro hn
        have := HR.out
        rw [hj] at this
        unfold Mm.rc at this
        rw [if_neg hn] at this
        show _ = ((Mm.arm (byt s) s.size c : Nat) : Int)
        omega
      have hgo : (b < s.size ∧ byt s j = byt s b) → Hid (Mm.rc (byt s) s.size j (b + 1) = Mm.arm (byt s) s.size c) := by
        intro hn
        have := HR.out
        rw [hj] at this
        unfold Mm.rc at this
        rw [if_pos hn] at this
        exact this
      have HJ := hid hj
      clear hj
      by_cases hb : b < s.size
      · have hb' : (b : Int) < (s.size : Int) := by omega
        by_cases he : byt s j = byt s b
        · have heq : ((s[j].toNat : Int) == (s[b].toNat : Int)) = true := by rw [← byt_eq ejn, ← byt_eq hb, he]; simp
          have HN := hgo ⟨hb, he⟩
          clear hgo hstop he
          go_wp2
          go_quiet (fail)
          go_wp2
          go_roundw
          case rel => exact ⟨j, b + 1, by have := HJ.out; omega, by omega, by go_num, by go_num, HN, hd.more _⟩
          case measure => have := HJ.out; simp [intOf]; omega
        · have heq : ((s[j].toNat : Int) == (s[b].toNat : Int)) = false := by rw [← byt_eq ejn, ← byt_eq hb]; exact (byte_ne he).2
          have HN := hstop (fun h => he h.2)
          clear hgo hstop he
          go_wp2
          go_quiet (fail)
          go_wp2
          go_ret
          exact ⟨ret_int HN.out, hd.more _⟩
      · have hb' : decide ((b : Int) < (s.size : Int)) = false := decide_eq_false (by omega)
        have HN := hstop (fun h => hb h.1)
        clear hgo hstop
        go_wp2
        go_quiet (fail)
        go_wp2
        go_ret
        exact ⟨ret_int HN.out, hd.more _⟩
    · obtain rfl : a = 0 := by omega
      have HN : Hid ((b : Int) - ((0 : Nat) : Int) = ag s c) := by
        have := HR.out
        unfold Mm.rc at this
        show _ = ((Mm.arm (byt s) s.size c : Nat) : Int)
        omega
      go_wp2
      go_quiet (fail)
      go_wp2
      go_ret
      exact ⟨ret_int HN.out, hd.more _⟩

/-- The n bytes round the middle c. -/
def aroundS (s : ByteArray) (c n : Nat) : ByteArray := s.extract ((c - n) / 2) ((c + n) / 2)
theorem around_any (s : ByteArray) (c n : Nat) (w : World) (hs : s.size ≤ 200) (h1 : n ≤ c) (h2 : n + c ≤ 2 * s.size) :
    Calls Try.prog 38 #[.string s, .int .i64 (c : Int), .int .i64 (n : Int)] w fun e w' => e = .returned (.string (aroundS s c n)) ∧ w = w' := by
  unfold aroundS
  obtain ⟨p, hp⟩ : ∃ p, p = (c - n) / 2 := ⟨_, rfl⟩
  obtain ⟨q, hq⟩ : ∃ q, q = (c + n) / 2 := ⟨_, rfl⟩
  have hp' : ((c : Int) - (n : Int)) / 2 = (p : Int) := by omega
  have hq' : ((c : Int) + (n : Int)) / 2 = (q : Int) := by omega
  have hpq : p ≤ q := by omega
  have hqs : q ≤ s.size := by omega
  have hpq' : (p : Int) ≤ (q : Int) := by omega
  have hqs' : (q : Int) ≤ (s.size : Int) := by omega
  rw [← hp, ← hq]
  clear hp hq
  go_enter Try.func38, Try.ntmps38
  go_wp2
  go_ret
  exact ⟨rfl, rfl⟩
set_option maxHeartbeats 400000 in
theorem arms_any (s : ByteArray) (w : World) (hs : s.size ≤ 200) :
    Calls Try.prog 37 #[.string s] w fun e w' => e = .returned (.slice (some ⟨w.heap.size, 0, none⟩) (2 * s.size + 1 : Nat) (2 * s.size + 1 : Nat)) ∧ w'.rowIs w.heap.size 3 (2 * s.size + 1) (fun k => .int .i64 (ag s k)) ∧ Below w.heap.size w w' := by
  obtain ⟨m, hm⟩ : ∃ m, m = 2 * s.size + 1 := ⟨_, rfl⟩
  rw [← hm]
  have hm' : 2 * (s.size : Int) + 1 = (m : Int) := by omega
  have hmw : IntKind.i64.wrap (m : Int) = (m : Int) := IntWalk.i64_in _ (by omega)
  have hm0 : ¬ (m : Int) < 0 := by omega
  have HM := hid hm
  clear hm
  have hmk := run_make_row' (P := Try.prog) 45 3 (.int .i64 0) 8 Try.underlying45 Try.infoInt rfl .i64 .i64 m (by omega) (by omega) w
  have hmade := World.rowIs_made w (.int .i64 0) m 3
  have hb0 := bl_new w (.cells (madeCells #[.int .i64 0] m) 3)
  generalize w.alloc (.cells (madeCells #[.int .i64 0] m) 3) = w0 at hmk hmade hb0
  have R0 : Hid (w0.rowIs w.heap.size 3 m (fun j => .int .i64 (fillG (ag s) 0 j))) := hmade.congr fun j _ => by
    unfold fillG
    rw [if_neg (by omega)]
  clear hmade
  go_enter Try.func37, Try.ntmps37
  go_wp2
  go_loopw [12] (fun x wr => ∃ i : Nat, i ≤ m ∧ x = .int .i64 (i : Int) ∧ Hid (wr.rowIs w.heap.size 3 m (fun j => .int .i64 (fillG (ag s) i j))) ∧ Hid (Below w.heap.size w wr)) (fun x _ => m - (intOf x).toNat)
  case atStart => exact ⟨0, by omega, rfl, R0, hb0⟩
  case round =>
    clear R0 hb0 hmk
    obtain ⟨i, hi, rfl, hrow, hbel⟩ := hrel
    by_cases hlt : i < m
    · have hlt' : (i : Int) < (m : Int) := by omega
      have hic : i ≤ 2 * s.size := by have := HM.out; omega
      have hroom := hrow.out.frozen i
      have hci : wr.cell? ⟨w.heap.size, i, none⟩ = some (.int .i64 (fillG (ag s) i i)) := hrow.out.cell hlt
      go_wp2_with fail
      with_reducible refine (reach_any s i _ hs hic).mono ?_
      rintro e w2 ⟨rfl, d, rfl⟩
      have R := hid (fill_store hrow.out hbel.out (Nat.le_refl _) (rfl : ag s i = ag s i) d)
      replace hroom : (wr.drewN d).frozen? ⟨w.heap.size, i, none⟩ = false := hroom
      replace hci : (wr.drewN d).cell? ⟨w.heap.size, i, none⟩ = some (.int .i64 (fillG (ag s) i i)) := hci
      clear hrow hbel
      go_wp2
      go_roundw
      case rel => exact ⟨i + 1, by omega, by go_num, R.out.1, R.out.2⟩
      case measure => simp [intOf]; omega
    · have hdl : decide ((i : Int) < (m : Int)) = false := decide_eq_false (by omega)
      go_wp2
      go_ret
      refine ⟨rfl, hrow.out.congr fun k hk => ?_, hbel.out⟩
      rw [fillG_lt (by omega)]
end Go.Proofs.Ytejcijlmpiiffaa
