
/-
quillkeep.row and quilltop.typed: a text with a row of ops done; what is told of a row that All lets by.
-/
import Derived.Test.YtgkagigagcamoaaShBox
namespace Go.Proofs.Ytgkagigagcamoaa
open Go.RowKit

/-- What All's answer 0 tells. -/
structure AllGood (n : Int) (A B : List Sh.Op) : Prop where
  la : A.length ≤ 30
  lb : B.length ≤ 30
  ra : Sh.RowOk n A
  rb : Sh.RowOk n B
  ta : n + Sh.tot A + (A.length + B.length) ≤ 200
  tb : n + Sh.tot B + (A.length + B.length) ≤ 200
theorem AllIs.good {n : Int} {A B u v : List Sh.Op} {e : Int} (h : AllIs n A B u v e) (_ : N64 n) (he : e = 0) : AllGood n A B := by
  obtain ⟨h1, h2, ⟨h3, h4⟩, h5, h6⟩ := Sh.allErr_zero.1 (h.ok he).1
  exact ⟨h1, h2, h3, h5, h4, h6⟩
theorem run_size {s : ByteArray} {L : List Sh.Op} (h : Sh.RowOk (s.size : Int) L) : ((mkS (Sh.run (lst s) L)).size : Int) = (s.size : Int) + Sh.tot L := by
  have h1 := Sh.rowOk_ok h
  rw [← lst_len] at h1
  have := Sh.run_len h1
  rw [← lst_len (mkS _), lst_mk, this, lst_len]
theorem row_wf {L : List Sh.Op} : ∀ {n : Int}, Sh.RowOk n L → ∀ x, x ∈ L → OpWf x := by
  induction L with
  | nil => intro n _ x hx; simp at hx
  | cons y L ih =>
    intro n h x hx
    rw [List.mem_cons] at hx
    rcases hx with rfl | hx
    · have := op_small h.1
      exact ⟨by omega, by omega, by omega, by omega⟩
    · exact ih h.2 x hx
theorem getD_wf {L : List Sh.Op} {n : Int} (h : Sh.RowOk n L) : ∀ k, k < L.length → OpWf (L.getD k Sh.zero) := fun k hk => by
  rw [List.getD_eq_getElem?_getD, List.getElem?_eq_getElem hk]
  exact row_wf h _ (List.getElem_mem hk)
theorem small_len {n : Nat} (h : n ≤ 1000000) : n ≤ maxLen := Nat.le_trans h (by decide)
set_option maxHeartbeats 1000000 in
theorem row_any {A : Option Addr} {n c : Nat} {g : Nat → Sh.Op} (s : ByteArray) (w : World) (h : OpIn w A n g) (hok : Sh.RowOk (s.size : Int) (ol g n)) :
    Calls Try.prog 23 #[.string s, .slice A n c] w fun e w' => e = .returned (.tuple #[.string (mkS (Sh.run (lst s) (ol g n))), .bool true]) ∧ Below w.heap.size w w' := by
  have H := hid h
  have HOK := hid hok
  have hnm := h.len
  unfold maxLen at hnm
  clear h hok
  go_enter Try.func23, Try.ntmps23
  go_wp2
  go_loopw [0, 12] (fun v x wr => ∃ (k : Nat) (t : ByteArray), k ≤ n ∧ x = .int .i64 (k : Int) ∧ v = .string t ∧ Hid (Sh.run (lst s) (ol g n) = Sh.run (lst t) ((ol g n).drop k)) ∧ Hid (Sh.RowOk (t.size : Int) ((ol g n).drop k)) ∧ Hid (Below w.heap.size w wr)) (fun _ x _ => n - (intOf x).toNat)
  case atStart => exact ⟨0, s, by omega, rfl, rfl, by show _ = _; rw [List.drop_zero], by show Sh.RowOk _ _; rw [List.drop_zero]; exact HOK.out, Below.refl _ _⟩
  case round =>
    obtain ⟨k, t, hk, rfl, rfl, HR, HO, HB⟩ := hrel
    by_cases hkn : k < n
    · obtain ⟨b, o, rfl, hlt, c0, c1, c2⟩ := (H.out.row.keep HB.out) k hkn
      have hkn' : (k : Int) < (n : Int) := by omega
      obtain ⟨x, hx⟩ : ∃ x, x = g k := ⟨_, rfl⟩
      have hxw := H.out.wf k hkn
      have hdr : (ol g n).drop k = x :: (ol g n).drop (k + 1) := by rw [hx]; exact ol_drop hkn
      rw [← hx] at c0 c1 c2 hxw
      rw [hdr] at HR HO
      have ho := HO.out
      have hr := op_range ho.1
      have htm : t.size ≤ maxLen := Nat.le_trans (show t.size ≤ 200 by omega) (by decide)
      have O1 := hid ho.1
      have O2 := hid ho.2
      have HXW := hid hxw
      have BX := hid (Bx.new wr x _ rfl)
      have HB2 := hid (bl_then HB.out (bl_new wr (.cells #[.int .i64 x.k, .int .i64 x.a, .int .u8 (x.b.toNat : Int)] 23)))
      obtain ⟨-, x0, x1, x2⟩ := BX.out
      clear hx hdr hxw ho hr HO HB
      go_wp2_with fail
      with_reducible refine (Do_any t x _ htm HXW.out).mono ?_
      rintro e w2 ⟨u, z, rfl, hd, hb⟩
      obtain ⟨rfl, hu⟩ := hd.ok O1.out
      have HB3 := hid (bl_then HB2.out hb)
      have hsz := do_size O1.out
      rw [← hu] at hsz
      have HR2 : Hid (Sh.run (lst s) (ol g n) = Sh.run (lst u) ((ol g n).drop (k + 1))) := by
        show _ = _
        rw [HR.out, hu, lst_mk]
        rfl
      have HO2 : Hid (Sh.RowOk (u.size : Int) ((ol g n).drop (k + 1))) := by
        show Sh.RowOk _ _
        rw [hsz]
        exact O2.out
      clear hd hb hu hsz x0 x1 x2 BX HB2 HR
      go_wp2
      go_roundw
      case measure => simp [intOf]; omega
      case rel => exact ⟨k + 1, u, by omega, by go_num, rfl, HR2, HO2, HB3⟩
    · obtain rfl : k = n := by omega
      have hkd : decide ((k : Int) < (k : Int)) = false := decide_eq_false (by omega)
      have HF : Hid (mkS (Sh.run (lst s) (ol g k)) = t) := by
        show _ = _
        rw [HR.out, ol_end]
        exact mk_lst t
      clear HR HO
      go_wp2
      go_ret2
      exact ⟨by rw [HF.out]; rfl, HB.out⟩
set_option maxHeartbeats 1000000 in
theorem typed_any {A : Option Addr} {n c : Nat} {g : Nat → Sh.Op} (s : ByteArray) (w : World) (h : OpIn w A n g) (hok : Sh.RowOk (s.size : Int) (ol g n)) :
    Calls Try.prog 37 #[.string s, .slice A n c] w fun e w' => e = .returned (.tuple #[.string (mkS (Sh.run (lst s) (ol g n))), .bool true]) ∧ Below w.heap.size w w' := by
  have H := hid h
  have HOK := hid hok
  have hnm := h.len
  unfold maxLen at hnm
  clear h hok
  go_enter Try.func37, Try.ntmps37
  go_wp2
  go_loopw [0, 12] (fun v x wr => ∃ (k : Nat) (t : ByteArray), k ≤ n ∧ x = .int .i64 (k : Int) ∧ v = .string t ∧ Hid (Sh.run (lst s) (ol g n) = Sh.run (lst t) ((ol g n).drop k)) ∧ Hid (Sh.RowOk (t.size : Int) ((ol g n).drop k)) ∧ Hid (Below w.heap.size w wr)) (fun _ x _ => n - (intOf x).toNat)
  case atStart => exact ⟨0, s, by omega, rfl, rfl, by show _ = _; rw [List.drop_zero], by show Sh.RowOk _ _; rw [List.drop_zero]; exact HOK.out, Below.refl _ _⟩
  case round =>
    obtain ⟨k, t, hk, rfl, rfl, HR, HO, HB⟩ := hrel
    by_cases hkn : k < n
    · obtain ⟨b, o, rfl, hlt, c0, c1, c2⟩ := (H.out.row.keep HB.out) k hkn
      have hkn' : (k : Int) < (n : Int) := by omega
      obtain ⟨x, hx⟩ : ∃ x, x = g k := ⟨_, rfl⟩
      have hxw := H.out.wf k hkn
      have hdr : (ol g n).drop k = x :: (ol g n).drop (k + 1) := by rw [hx]; exact ol_drop hkn
      rw [← hx] at c0 c1 c2 hxw
      rw [hdr] at HR HO
      have ho := HO.out
      have hr := op_range ho.1
      have htm : t.size ≤ maxLen := Nat.le_trans (show t.size ≤ 200 by omega) (by decide)
      have O1 := hid ho.1
      have O2 := hid ho.2
      have HXW := hid hxw
      have BX := hid (Bx.new wr x _ rfl)
      have HB2 := hid (bl_then HB.out (bl_new wr (.cells #[.int .i64 x.k, .int .i64 x.a, .int .u8 (x.b.toNat : Int)] 23)))
      obtain ⟨-, x0, x1, x2⟩ := BX.out
      clear hx hdr hxw ho hr HO HB
      go_wp2_with fail
      with_reducible refine (Do_any t x _ htm HXW.out).mono ?_
      rintro e w2 ⟨u, z, rfl, hd, hb⟩
      obtain ⟨rfl, hu⟩ := hd.ok O1.out
      have HB3 := hid (bl_then HB2.out hb)
      have hsz := do_size O1.out
      rw [← hu] at hsz
      have HR2 : Hid (Sh.run (lst s) (ol g n) = Sh.run (lst u) ((ol g n).drop (k + 1))) := by
        show _ = _
        rw [HR.out, hu, lst_mk]
        rfl
      have HO2 : Hid (Sh.RowOk (u.size : Int) ((ol g n).drop (k + 1))) := by
        show Sh.RowOk _ _
        rw [hsz]
        exact O2.out
      clear hd hb hu hsz x0 x1 x2 BX HB2 HR
      go_wp2
      go_roundw
      case measure => simp [intOf]; omega
      case rel => exact ⟨k + 1, u, by omega, by go_num, rfl, HR2, HO2, HB3⟩
    · obtain rfl : k = n := by omega
      have hkd : decide ((k : Int) < (k : Int)) = false := decide_eq_false (by omega)
      have HF : Hid (mkS (Sh.run (lst s) (ol g k)) = t) := by
        show _ = _
        rw [HR.out, ol_end]
        exact mk_lst t
      clear HR HO
      go_wp2
      go_ret2
      exact ⟨by rw [HF.out]; rfl, HB.out⟩
end Go.Proofs.Ytgkagigagcamoaa
