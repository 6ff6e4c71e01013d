/-
The contract of (*strings.byteReplacer).Replace: each byte as the table says.
-/
import Derived.Test.YtpjhmmoncbghdaaBack
import Derived.Test.YtpjhmmoncbghdaaSRows
import Derived.Test.YtpjhmmoncbghdaaSortW
import Derived.Lib.LazyBuf
namespace Go.Proofs.Ytpjhmmoncbghdaa
open Go.RowKit

/-- 0 and 1 changed. -/
def flip1 (b : UInt8) : UInt8 := if b = 48 then 49 else if b = 49 then 48 else b
theorem flip_flip (a : UInt8) : flip1 (flip1 a) = a := by
  unfold flip1
  by_cases h1 : a = 48
  · subst h1; decide
  · by_cases h2 : a = 49
    · subst h2; decide
    · rw [if_neg h1, if_neg h2, if_neg h1, if_neg h2]
theorem flip_inj (a b : UInt8) (h : flip1 a = flip1 b) : a = b := by rw [← flip_flip a, h, flip_flip]
def flipS (s : ByteArray) : ByteArray := mkS ((wd s).map flip1)
theorem flipS_wd (s : ByteArray) : wd (flipS s) = (wd s).map flip1 := lst_mk _
theorem flip_part (s : ByteArray) : mkS ((List.range s.size).map fun k => flip1 (byt s k)) = flipS s := by
  unfold flipS
  congr 1
  refine List.ext_getElem (by simp [wd_len]) fun i h1 h2 => ?_
  have hi : i < s.size := by simpa using h1
  rw [List.getElem_map, List.getElem_map, List.getElem_range]
  congr 1
  unfold byt wd
  rw [List.getD_eq_getElem?_getD, List.getElem?_eq_getElem (by simpa using hi)]
  rfl
theorem nums_str (l : List UInt8) : strOfNums (l.map fun b => (b.toNat : Int)) = mkS l := by
  unfold strOfNums mkS
  congr 1
  apply Array.toList_inj.1
  simp only [List.map_map]
  refine (List.map_congr_left fun b _ => ?_).trans (List.map_id l)
  show UInt8.ofNat ((b.toNat : Int).toNat) = b
  rw [Int.toNat_natCast, UInt8.ofNat_toNat]
set_option maxRecDepth 100000 in
set_option maxHeartbeats 1000000 in
theorem byteRep_any (R : Nat) (s : ByteArray) (w : World) (hs : s.size ≤ maxLen) (hT : ∀ b : UInt8, w.cell? ⟨R, b.toNat, none⟩ = some (.int .u8 ((flip1 b).toNat : Int))) :
    Calls Try.prog 148 #[.pointer (some ⟨R, 0, none⟩), .string s] w fun e w' => e = .returned (.string (flipS s)) ∧ Below w.heap.size w w' := by
  have HT := hid hT
  have hR : R < w.heap.size := World.block_lt_of_cell? _ _ (hT 0)
  have hx : s.size ≤ 9223372036854775807 := by unfold maxLen at hs; omega
  clear hT
  have hcv := run_bytes_of_string (P := Try.prog) w 9 41 5 s Try.underlying9 Try.underlying41 Try.underlying5
  have hBR : BRow (w.drew.alloc (.cells (bytesRow s (grownCap w s.size 0 5)) 5 ((bytesRow s (grownCap w s.size 0 5)).size, (bytesRow s (grownCap w s.size 0 5)).size + 1))) w.heap.size s.size (byt s) := new_bytes w.drew s (grownCap w s.size 0 5) 5
  have hbl : Below w.heap.size w (w.drew.alloc (.cells (bytesRow s (grownCap w s.size 0 5)) 5 ((bytesRow s (grownCap w s.size 0 5)).size, (bytesRow s (grownCap w s.size 0 5)).size + 1))) := by
    have h := bl_new w.drew (.cells (bytesRow s (grownCap w s.size 0 5)) 5 ((bytesRow s (grownCap w s.size 0 5)).size, (bytesRow s (grownCap w s.size 0 5)).size + 1))
    exact ⟨h.os, h.tape, h.output, h.size, h.block⟩
  generalize w.drew.alloc (.cells (bytesRow s (grownCap w s.size 0 5)) 5 ((bytesRow s (grownCap w s.size 0 5)).size, (bytesRow s (grownCap w s.size 0 5)).size + 1)) = W1 at hcv hBR hbl
  generalize grownCap w s.size 0 5 = gc at hcv
  have HBR := hid hBR
  have HBL := hid hbl
  clear hBR hbl
  have hnl1 : ∀ W : World, (binOp .eql 41 (.slice none 0 0) (.slice none 0 0)).run Try.prog W = .ok (.bool true) W := fun W => Go.run_eql_slice_nil (P := Try.prog) W 41 5 none 0 0 Try.underlying41
  have hnl2 : ∀ (a : Addr) (l c : Nat) (W : World), (binOp .eql 41 (.slice (some a) l c) (.slice none 0 0)).run Try.prog W = .ok (.bool false) W := fun a l c W => Go.run_eql_slice_nil (P := Try.prog) W 41 5 (some a) l c Try.underlying41
  go_enter Try.func148, Try.ntmps148
  go_wp2
  go_loopw [5, 6] (fun v y wr => ∃ i : Nat, i ≤ s.size ∧ y = .int .i64 (i : Int) ∧ Hid (Below w.heap.size w wr) ∧ ((v = .slice none 0 0 ∧ wr = w ∧ Hid (∀ j, j < i → flip1 (byt s j) = byt s j)) ∨ (∃ c, v = .slice (some ⟨w.heap.size, 0, none⟩) s.size c ∧ Hid (BRow wr w.heap.size s.size (fun k => if k < i then flip1 (byt s k) else byt s k))))) (fun _ y _ => s.size - (intOf y).toNat)
  case atStart => exact ⟨0, by omega, rfl, Below.refl _ _, .inl ⟨rfl, rfl, fun j hj => by omega⟩⟩
  case round =>
    obtain ⟨i, hi, rfl, HB, hcase⟩ := hrel
    by_cases hlt : i < s.size
    · have hlt' : (i : Int) < (s.size : Int) := by omega
      have htab : wr.cell? ⟨R, s[i].toNat, none⟩ = some (.int .u8 ((flip1 s[i]).toNat : Int)) := (HB.out.cell (p := ⟨R, s[i].toNat, none⟩) hR).trans (HT.out _)
      have hb256 : (s[i].toNat : Int) < 256 := by have := s[i].toNat_lt; omega
      have hb0 : (0 : Int) ≤ (s[i].toNat : Int) := by omega
      by_cases hf : flip1 s[i] = s[i]
      · have hne : (((flip1 s[i]).toNat : Int) != (s[i].toNat : Int)) = false := by rw [hf]; simp
        have HF : Hid (flip1 (byt s i) = byt s i) := by rw [byt_eq hlt]; exact hf
        clear hf
        rcases hcase with ⟨rfl, rfl, HJ⟩ | ⟨c, rfl, HR⟩
        · have HJ2 : Hid (∀ j, j < i + 1 → flip1 (byt s j) = byt s j) := by
            intro j hj
            by_cases e : j = i
            · subst e; exact HF.out
            · exact HJ.out j (by omega)
          clear HJ HF hcv
          go_wp2
          go_roundw
          case measure => simp [intOf]; omega
          case rel => exact ⟨i + 1, by omega, by go_num, HB, .inl ⟨rfl, by trivial, HJ2⟩⟩
        · have HR2 : Hid (BRow wr w.heap.size s.size (fun k => if k < i + 1 then flip1 (byt s k) else byt s k)) := HR.out.congr fun k hk => by
            by_cases e : k = i
            · subst e; rw [if_neg (by omega), if_pos (by omega), HF.out]
            · by_cases h2 : k < i
              · rw [if_pos h2, if_pos (by omega)]
              · rw [if_neg h2, if_neg (by omega)]
          clear HR HF hcv
          go_wp2
          go_roundw
          case measure => simp [intOf]; omega
          case rel => exact ⟨i + 1, by omega, by go_num, HB, .inr ⟨c, rfl, HR2⟩⟩
      · have hne : (((flip1 s[i]).toNat : Int) != (s[i].toNat : Int)) = true := (byte_ne hf).1
        clear hf
        have hbyt : byt s i = s[i] := byt_eq hlt
        rcases hcase with ⟨rfl, rfl, HJ⟩ | ⟨c, rfl, HR⟩
        · have htab1 : W1.cell? ⟨R, s[i].toNat, none⟩ = some (.int .u8 ((flip1 s[i]).toNat : Int)) := (HBL.out.cell (p := ⟨R, s[i].toNat, none⟩) hR).trans htab
          have hci := (HBR.out i hlt).1
          have hri := (HBR.out i hlt).2
          have HR2 : Hid (BRow (W1.setCell ⟨wr.heap.size, i, none⟩ (.int .u8 ((flip1 s[i]).toNat : Int))) wr.heap.size s.size (fun k => if k < i + 1 then flip1 (byt s k) else byt s k)) := (HBR.out.set_ hlt (flip1 s[i])).congr fun k hk => by
            by_cases e : k = i
            · subst e; rw [if_pos rfl, if_pos (by omega), hbyt]
            · rw [if_neg e]
              by_cases h2 : k < i
              · rw [if_pos (by omega), HJ.out k h2]
              · rw [if_neg (by omega)]
          have HB2 : Hid (Below wr.heap.size wr (W1.setCell ⟨wr.heap.size, i, none⟩ (.int .u8 ((flip1 s[i]).toNat : Int)))) := HBL.out.setCell (Nat.le_refl _) _
          clear HJ HBR HBL HB hbyt
          go_wp2
          go_roundw
          case measure => simp [intOf]; omega
          case rel => exact ⟨i + 1, by omega, by go_num, HB2, .inr ⟨gc, rfl, HR2⟩⟩
        · have hci := (HR.out i hlt).1
          have hri := (HR.out i hlt).2
          have HR2 : Hid (BRow (wr.setCell ⟨w.heap.size, i, none⟩ (.int .u8 ((flip1 s[i]).toNat : Int))) w.heap.size s.size (fun k => if k < i + 1 then flip1 (byt s k) else byt s k)) := (HR.out.set_ hlt (flip1 s[i])).congr fun k hk => by
            by_cases e : k = i
            · subst e; rw [if_pos rfl, if_pos (by omega), hbyt]
            · rw [if_neg e]
              by_cases h2 : k < i
              · rw [if_pos h2, if_pos (by omega)]
              · rw [if_neg h2, if_neg (by omega)]
          have HB2 : Hid (Below w.heap.size w (wr.setCell ⟨w.heap.size, i, none⟩ (.int .u8 ((flip1 s[i]).toNat : Int)))) := HB.out.setCell (Nat.le_refl _) _
          clear HR HB hcv HBR HBL hbyt
          go_wp2
          go_roundw
          case measure => simp [intOf]; omega
          case rel => exact ⟨i + 1, by omega, by go_num, HB2, .inr ⟨c, rfl, HR2⟩⟩
    · have hdl : decide ((i : Int) < (s.size : Int)) = false := decide_eq_false (by omega)
      obtain rfl : i = s.size := by omega
      rcases hcase with ⟨rfl, rfl, HJ⟩ | ⟨c, rfl, HR⟩
      · have HF : Hid (flipS s = s) := by
          refine str_eq'.2 ⟨?_, fun k hk => ?_⟩
          · rw [← flip_part, mk_size]; simp
          · have hks : k < s.size := by rw [← flip_part, mk_size] at hk; simpa using hk
            have : byt (flipS s) k = flip1 (byt s k) := by
              rw [← flip_part]
              unfold byt mkS
              rw [List.toList_toArray, List.getD_eq_getElem?_getD, List.getElem?_map, List.getElem?_range hks]
              rfl
            rw [this, HJ.out k hks]
        clear HJ hcv HBR HBL
        go_wp2
        go_ret
        rw [HF.out]
        exact ⟨rfl, HB.out⟩
      · have hcv2 := run_convert_bytes_arg (P := Try.prog) wr 41 5 Try.underlying41 Try.underlying5 w.heap.size 0 s.size c (((List.range s.size).map fun k => flip1 (byt s k)).map fun b => (b.toNat : Int)) (by simp) (fun k hk => by
          have e1 : (if k < s.size then flip1 (byt s k) else byt s k) = flip1 (byt s k) := if_pos hk
          rw [Nat.zero_add, (HR.out k hk).1]
          show some (Value.int .u8 (((if k < s.size then flip1 (byt s k) else byt s k)).toNat : Int)) = _
          rw [e1, List.getD_eq_getElem?_getD, List.getElem?_map, List.getElem?_map, List.getElem?_range hk]
          rfl) 9 Try.underlying9
        rw [nums_str, flip_part] at hcv2
        clear HR hcv HBR HBL
        go_wp2
        go_ret
        exact ⟨rfl, HB.out⟩
end Go.Proofs.Ytpjhmmoncbghdaa
