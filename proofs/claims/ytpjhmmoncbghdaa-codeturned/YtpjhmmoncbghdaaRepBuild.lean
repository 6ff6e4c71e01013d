/-
The contract of (*strings.Replacer).build for the four strings of quillkeep.CodeTurned: a table of bytes.
-/
import Derived.Test.YtpjhmmoncbghdaaByteRep
import Derived.Laws.Pointers
import Derived.Deep.WholeRow
namespace Go.Proofs.Ytpjhmmoncbghdaa
open Go.RowKit

theorem zeroTab (W : World) : (zeroValue 127).run Try.prog W = .ok (.agg (madeCells #[.int .u8 0] 256)) W := by kernel_rfl
def oldNew (k : Nat) : ByteArray := if k = 0 ∨ k = 3 then ⟨#[48]⟩ else ⟨#[49]⟩
set_option maxRecDepth 100000 in
set_option maxHeartbeats 1000000 in
theorem build_any (P G cap : Nat) (w : World) (hc : w.cell? ⟨P, 4, none⟩ = some (.slice (some ⟨G, 0, none⟩) 4 cap)) (hs : ∀ k, k < 4 → w.cell? ⟨G, k, none⟩ = some (.string (oldNew k))) :
    Calls Try.prog 66 #[.pointer (some ⟨P, 0, none⟩)] w fun e w' => e = .returned (.iface 128 (.pointer (some ⟨w.heap.size, 0, none⟩))) ∧ (∀ b : UInt8, w'.cell? ⟨w.heap.size, b.toNat, none⟩ = some (.int .u8 ((flip1 b).toNat : Int))) ∧ Below w.heap.size w w' := by
  have h0 : w.cell? ⟨G, 0, none⟩ = some (.string ⟨#[48]⟩) := hs 0 (by omega)
  have h1 : w.cell? ⟨G, 1, none⟩ = some (.string ⟨#[49]⟩) := hs 1 (by omega)
  have h2 : w.cell? ⟨G, 2, none⟩ = some (.string ⟨#[49]⟩) := hs 2 (by omega)
  have h3 : w.cell? ⟨G, 3, none⟩ = some (.string ⟨#[48]⟩) := hs 3 (by omega)
  clear hs
  have hG : G < w.heap.size := World.block_lt_of_cell? _ _ h0
  have hz := zeroTab
  obtain ⟨cs, hcs⟩ : ∃ cs, cs = madeCells #[.int .u8 0] 256 := ⟨_, rfl⟩
  rw [← hcs] at hz
  have HCS := hid hcs
  clear hcs
  go_enter Try.func66, Try.ntmps66
  go_wp2
  go_loopw [4, 5] (fun v y wr => v = .bool true ∧ (y = .int .i64 0 ∨ y = .int .i64 2 ∨ y = .int .i64 4) ∧ wr = w) (fun _ y _ => 4 - (intOf y).toNat)
  case atStart => exact ⟨rfl, .inl rfl, rfl⟩
  case round =>
    obtain ⟨rfl, hy, hww⟩ := hrel
    obtain rfl : w = wr := hww.symm
    rcases hy with rfl | rfl | rfl
    · go_wp2
      go_roundw
      case measure => simp [intOf]
      case rel => exact ⟨by trivial, .inr (.inl rfl), by trivial⟩
    · go_wp2
      go_roundw
      case measure => simp [intOf]
      case rel => exact ⟨by trivial, .inr (.inr rfl), by trivial⟩
    · have ho := heap_alloc_new w (.cells cs 127)
      have hin : (Try.prog.info? 127).map (·.size) = some cs.size := by rw [HCS.out]; kernel_rfl
      have hone : cs.all (·.oneCell') = true := by rw [HCS.out]; kernel_rfl
      have hw2 := World.setRow_alloc_new w cs cs 127
      have hrow : Hid ((w.alloc (.cells cs 127)).rowIs w.heap.size 127 256 (fun j => .int .u8 ((if j < 0 then j else 0 : Nat) : Int))) := by
        rw [HCS.out]
        exact (World.rowIs_made w (.int .u8 0) 256 127).congr fun j _ => by simp
      have hbl := hid (bl_new w (.cells cs 127))
      go_wp2_with (first | (with_reducible refine wpList_store_row rfl 127 _ _ rfl w.heap.size cs rfl rfl 127 cs ho hin rfl hone ?_; rw [hw2]))
      generalize w.alloc (.cells cs 127) = w0 at *
      clear ho hin hone hw2 hz HCS
      have hBl := hbl.out.size
      go_wp2
      go_loopw [61] (fun y w2 => ∃ i : Nat, i ≤ 256 ∧ y = .int .i64 (i : Int) ∧ Hid (w2.rowIs w.heap.size 127 256 (fun j => .int .u8 ((if j < i then j else 0 : Nat) : Int))) ∧ Hid (Below w.heap.size w w2)) (fun y _ => 256 - (intOf y).toNat)
      case atStart => exact ⟨0, by omega, rfl, hrow, hbl⟩
      case round =>
        clear hrow hbl hBl
        obtain ⟨i, hi, rfl, HR, HB⟩ := hrel
        by_cases hlt : i < 256
        · have hlt' : (i : Int) < 256 := by omega
          have hu8 : IntKind.u8.wrap (i : Int) = (i : Int) := IntWalk.u8_in _ (by omega)
          have hci := HR.out.cell hlt
          have hri := HR.out.frozen i
          have HR2 : Hid ((wr.setCell ⟨w.heap.size, i, none⟩ (.int .u8 (i : Int))).rowIs w.heap.size 127 256 (fun j => .int .u8 ((if j < i + 1 then j else 0 : Nat) : Int))) := (HR.out.set i _).congr fun j _ => by
            by_cases e : j = i
            · rw [if_pos e, if_pos (by omega), e]
            · rw [if_neg e]
              by_cases h2 : j < i
              · rw [if_pos h2, if_pos (by omega)]
              · rw [if_neg h2, if_neg (by omega)]
          have HB2 : Hid (Below w.heap.size w (wr.setCell ⟨w.heap.size, i, none⟩ (.int .u8 (i : Int)))) := HB.out.setCell (Nat.le_refl _) _
          clear HR HB
          go_wp2
          go_roundw
          case measure => simp [intOf]; omega
          case rel => exact ⟨i + 1, by omega, by go_num, HR2, HB2⟩
        · have hdl : decide ((i : Int) < 256) = false := decide_eq_false (by omega)
          obtain rfl : i = 256 := by omega
          have HR2 : Hid (wr.rowIs w.heap.size 127 256 (fun j => .int .u8 (j : Int))) := HR.out.congr fun j hj => by rw [if_pos hj]
          clear HR
          go_wp2
          go_loopw [8] (fun y w2 => Hid (Below w.heap.size w w2) ∧ ((y = .int .i64 2 ∧ Hid (w2.rowIs w.heap.size 127 256 (fun j => .int .u8 (j : Int)))) ∨ (y = .int .i64 0 ∧ Hid (w2.rowIs w.heap.size 127 256 (fun j => .int .u8 ((if j = 49 then 48 else j : Nat) : Int)))) ∨ (y = .int .i64 (-2) ∧ Hid (w2.rowIs w.heap.size 127 256 (fun j => .int .u8 ((if j = 48 then 49 else if j = 49 then 48 else j : Nat) : Int)))))) (fun y _ => (intOf y + 2).toNat)
          case atStart => exact ⟨HB, .inl ⟨rfl, HR2⟩⟩
          case round =>
            clear HB HR2
            obtain ⟨HB, hy⟩ := hrel
            have k0 := (HB.out.cell (p := ⟨G, 0, none⟩) hG).trans h0
            have k1 := (HB.out.cell (p := ⟨G, 1, none⟩) hG).trans h1
            have k2 := (HB.out.cell (p := ⟨G, 2, none⟩) hG).trans h2
            have k3 := (HB.out.cell (p := ⟨G, 3, none⟩) hG).trans h3
            have i48 : ∀ h, ((⟨#[48]⟩ : ByteArray)[0]'h).toNat = 48 := fun _ => rfl
            have i49 : ∀ h, ((⟨#[49]⟩ : ByteArray)[0]'h).toNat = 49 := fun _ => rfl
            rcases hy with ⟨rfl, HR⟩ | ⟨rfl, HR⟩ | ⟨rfl, HR⟩
            · have hci := HR.out.cell (show 49 < 256 by omega)
              have hri := HR.out.frozen 49
              have HR2 : Hid ((wr.setCell ⟨w.heap.size, 49, none⟩ (.int .u8 48)).rowIs w.heap.size 127 256 (fun j => .int .u8 ((if j = 49 then 48 else j : Nat) : Int))) := (HR.out.set 49 _).congr fun j _ => by
                by_cases e : j = 49
                · rw [if_pos e, if_pos e]; rfl
                · rw [if_neg e, if_neg e]
              have HB2 : Hid (Below w.heap.size w (wr.setCell ⟨w.heap.size, 49, none⟩ (.int .u8 48))) := HB.out.setCell (Nat.le_refl _) _
              clear HR HB
              go_wp2
              go_roundw
              case measure => simp [intOf]
              case rel => exact ⟨HB2, .inr (.inl ⟨rfl, HR2⟩)⟩
            · have hci := HR.out.cell (show 48 < 256 by omega)
              have hri := HR.out.frozen 48
              have HR2 : Hid ((wr.setCell ⟨w.heap.size, 48, none⟩ (.int .u8 49)).rowIs w.heap.size 127 256 (fun j => .int .u8 ((if j = 48 then 49 else if j = 49 then 48 else j : Nat) : Int))) := (HR.out.set 48 _).congr fun j _ => by
                by_cases e : j = 48
                · rw [if_pos e, if_pos e]; rfl
                · rw [if_neg e, if_neg e]
              have HB2 : Hid (Below w.heap.size w (wr.setCell ⟨w.heap.size, 48, none⟩ (.int .u8 49))) := HB.out.setCell (Nat.le_refl _) _
              clear HR HB
              go_wp2
              go_roundw
              case measure => simp [intOf]
              case rel => exact ⟨HB2, .inr (.inr ⟨rfl, HR2⟩)⟩
            · have HT : Hid (∀ b : UInt8, wr.cell? ⟨w.heap.size, b.toNat, none⟩ = some (.int .u8 ((flip1 b).toNat : Int))) := by
                intro b
                rw [HR.out.cell b.toNat_lt]
                congr 2
                unfold flip1
                by_cases e0 : b = 48
                · subst e0; rfl
                · by_cases e1 : b = 49
                  · subst e1; rfl
                  · rw [if_neg e0, if_neg e1, if_neg (show ¬ b.toNat = 48 from fun h => e0 (UInt8.toNat_inj.1 h)), if_neg (show ¬ b.toNat = 49 from fun h => e1 (UInt8.toNat_inj.1 h))]
              clear HR
              go_wp2
              go_ret
              exact ⟨rfl, HT.out, HB.out⟩
end Go.Proofs.Ytpjhmmoncbghdaa
