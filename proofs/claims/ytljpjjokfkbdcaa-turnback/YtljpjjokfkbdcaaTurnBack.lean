/-
quillkeep.TurnBack: whatever s: it answers true.
-/
import Derived.Test.YtljpjjokfkbdcaaTurns
import Derived.Test.YtljpjjokfkbdcaaBEqual
import Derived.Test.YtljpjjokfkbdcaaBSort9
namespace Go.Proofs.Ytljpjjokfkbdcaa
open Go.RowKit

theorem sorted_num {n : Nat} {g h : Nat → Nat} (s1 : Bs.Sb 0 n g) (s2 : Bs.Sb 0 n h) (hc : ∀ P : Nat → Bool, Tm.cnt (fun k => P (g k)) n = Tm.cnt (fun k => P (h k)) n) : ∀ k, k < n → g k = h k := by
  have key : ∀ {g h : Nat → Nat}, Bs.Sb 0 n g → Bs.Sb 0 n h → (∀ P : Nat → Bool, Tm.cnt (fun k => P (g k)) n = Tm.cnt (fun k => P (h k)) n) → ∀ k, k < n → ¬ g k < h k := by
    intro g h s1 s2 hc k hk hlt
    have h1 : Tm.cnt (fun j => decide (j < k + 1)) n ≤ Tm.cnt (fun j => decide (g j ≤ g k)) n := Tm.cnt_mono fun j hj e => by
      have e := of_decide_eq_true e
      refine decide_eq_true ?_
      by_cases hjk : j = k
      · rw [hjk]; exact Nat.le_refl _
      · exact s1 j k (Nat.zero_le _) (by omega) hk
    have h2 : Tm.cnt (fun j => decide (h j ≤ g k)) n ≤ Tm.cnt (fun j => decide (j < k)) n := Tm.cnt_mono fun j hj e => by
      have e := of_decide_eq_true e
      refine decide_eq_true ?_
      by_cases hjk : j < k
      · exact hjk
      · exfalso
        by_cases hj2 : j = k
        · rw [hj2] at e; omega
        · have := s2 k j (Nat.zero_le _) (by omega) hj
          omega
    have h3 := hc fun x => decide (x ≤ g k)
    rw [Tm.cnt_below] at h1 h2
    omega
  intro k hk
  have a := key s1 s2 hc k hk
  have b := key s2 s1 (fun P => (hc P).symm) k hk
  omega
theorem cnt_bytes (P : Nat → Bool) (l : List UInt8) : Tm.cnt (fun k => P (Lm.bn l k)) l.length = l.countP fun x => P x.toNat := by
  rw [Tm.cnt_countP]
  have e : (List.range l.length).map (fun j => l.getD j 0) = l := by
    refine List.ext_getElem (by simp) fun i h1 h2 => ?_
    simp [List.getD_eq_getElem?_getD, List.getElem?_eq_getElem h2]
  rw [← congrArg (fun m => List.countP (fun x => P x.toNat) m) e, List.countP_map]
  rfl
/-- A string turned into bytes of the call's own. -/
theorem conv_new (w : World) (s : ByteArray) : ∃ (W : World) (c : Nat), (convert 9 37 (.string s)).run Try.prog w = .ok (.slice (some ⟨w.heap.size, 0, none⟩) s.size c) W ∧ BRow W w.heap.size s.size (byt s) ∧ Below w.heap.size w W ∧ W.heap.size = w.heap.size + 1 :=
  ⟨_, _, run_bytes_of_string (P := Try.prog) w 9 37 5 s Try.underlying9 Try.underlying37 Try.underlying5, (new_bytes w s _ 5).drew, (bl_new w _).drew, by simp⟩
theorem turnBack_large (s : ByteArray) (w : World) (hs : 200 < s.size) :
    Calls Try.prog 4 #[.string s] w fun e w' => e = .returned (.bool true) ∧ Below w.heap.size w w' := by
  go_enter Try.func4, Try.ntmps4
  go_wp2_with fail
  with_reducible refine (turns_any _).mono ?_
  rintro e w1 ⟨rfl, hb1⟩
  go_wp2_with fail
  with_reducible refine (Put_large s _ hs).mono ?_
  rintro e w2 ⟨rfl, rfl⟩
  go_wp2
  go_ret
  exact ⟨rfl, hb1⟩
set_option maxRecDepth 100000 in
theorem turnBack_ok (s : ByteArray) (w : World) (hs : s.size ≤ 200) :
    Calls Try.prog 4 #[.string s] w fun e w' => e = .returned (.bool true) ∧ Below w.heap.size w w' := by
  go_enter Try.func4, Try.ntmps4
  go_wp2_with fail
  with_reducible refine (turns_any _).mono ?_
  rintro e w1 ⟨rfl, hb1⟩
  go_wp2_with fail
  with_reducible refine (Put_ok s _ hs).mono ?_
  rintro e w2 ⟨t, a, rfl, hput, hb2⟩
  have hb2 := bl_then hb1 hb2
  have htz : t.size = s.size := by rw [← lst_len, ← lst_len]; exact hput.len
  have hgt : gtS t a = s := lst_inj (by rw [gtS_lst, hput.back])
  have hGet : ∀ W, Calls Try.prog 9 #[.string t, .int .i64 (a : Int)] W fun e w' => e = .returned (.tuple #[.string s, .int .i64 0]) ∧ Below W.heap.size W w' := by
    intro W
    refine (Get_fit t a W (by omega) ?_).mono ?_
    · obtain ⟨σ, _, _, h3⟩ := hput.all
      rcases Nat.eq_zero_or_pos s.size with h0 | h0
      · have := hput.zero (by rw [lst_len]; exact h0)
        omega
      · have := (h3 (by rw [lst_len]; exact h0)).1
        rw [lst_len] at this
        omega
    · rintro e w' ⟨⟨_, rfl⟩ | ⟨hn, rfl⟩, hb⟩
      · rw [hgt]; exact ⟨rfl, hb⟩
      · exact absurd (by rw [hput.back]; exact hput) hn
  have HPERM := hid hput.perm
  clear hb1 hput hgt
  go_wp2_with fail
  with_reducible refine (hGet _).mono ?_
  rintro e w3 ⟨rfl, hb3⟩
  have hb3 := bl_then hb2 hb3
  obtain ⟨N, hN⟩ : ∃ N, N = w3.heap.size := ⟨_, rfl⟩
  obtain ⟨W2, c1, hcv, B1, L1, Z1⟩ := conv_new w3 s
  obtain ⟨W4, c2, hcv2, B2, L2, Z2⟩ := conv_new W2 t
  rw [Z1] at hcv2 B2 Z2
  rw [htz] at hcv2 B2
  rw [← hN] at hcv hcv2 B1 B2 Z2 Z1
  have hNw : w.heap.size ≤ N := by rw [hN]; exact hb3.size
  have S1 : SB W4 N s.size (fun k => Lm.bn (lst s) k) W4 := by
    refine ⟨fun k hk => ?_, fun k hk => ?_, ⟨rfl, rfl, rfl, Nat.le_refl _, fun _ _ _ => rfl⟩, by omega⟩
    · exact (L2.cell (p := ⟨N, k, none⟩) (by rw [Z1]; exact Nat.lt_succ_self _)).trans (B1 k hk).1
    · have h1 := (B1 k hk).2
      unfold World.frozen? at h1 ⊢
      rw [L2.block N (by rw [Z1]; exact Nat.lt_succ_self _)]
      exact h1
  have R2 : ∀ k, k < s.size → W4.cell? ⟨N + 1, k, none⟩ = some (.int .u8 ((Lm.bn (lst t) k : Nat) : Int)) ∧ W4.frozen? ⟨N + 1, k, none⟩ = false := fun k hk => B2 k hk
  have HS1 := hid S1
  have HR2 := hid R2
  have HB4 := hid (show Below w.heap.size w W4 from bl_then (bl_then hb3 L1) L2)
  have HZ2 := hid Z2
  clear hb2 hGet B1 B2 L1 L2 Z1 Z2 S1 R2 hb3 htz hN
  go_wp2_with fail
  with_reducible refine (sortB_any N s.size c1 _ _ HS1.out (by omega)).mono ?_
  rintro e w5 ⟨rfl, h5, pb5, sb5, s5⟩
  have HS2 : Hid (SB w5 (N + 1) s.size (fun k => Lm.bn (lst t) k) w5) := by
    have hz := HZ2.out
    have hbk := s5.gr.block (N + 1) (by omega) (by simp)
    refine ⟨fun k hk => (World.cell?_of_block (a := ⟨N + 1, k, none⟩) hbk).trans (HR2.out k hk).1, fun k hk => ?_, ⟨rfl, rfl, rfl, Nat.le_refl _, fun _ _ _ => rfl⟩, by have := s5.gr.size; omega⟩
    have h1 := (HR2.out k hk).2
    unfold World.frozen? at h1 ⊢
    rw [hbk]
    exact h1
  have HB5 := hid (HB4.out.grown s5.gr (by have := HB4.out.size; exact this) (fun k hk => by injection hk with hk; omega))
  have HPB5 := hid pb5
  have HSB5 := hid sb5
  have HS5 := hid s5
  clear pb5 sb5 s5 HS1 HR2 HB4 HZ2
  go_wp2_with fail
  with_reducible refine (sortB_any (N + 1) s.size c2 _ _ HS2.out (by omega)).mono ?_
  rintro e w6 ⟨rfl, h6, pb6, sb6, s6⟩
  have HEQ := hid (sorted_num HSB5.out sb6 (fun P => by
    rw [HPB5.out.cnt P, pb6.cnt P]
    have e1 := cnt_bytes P (lst s)
    have e2 := cnt_bytes P (lst t)
    rw [lst_len] at e1
    rw [HPERM.out.length_eq, lst_len] at e2
    rw [e1, e2, HPERM.out.countP_eq]))
  have HR5 : Hid (RB w6 N s.size h5) := fun k hk => by
    have hbk := s6.gr.block N HS5.out.lt (by simp)
    exact (World.cell?_of_block (a := ⟨N, k, none⟩) hbk).trans (HS5.out.row k hk)
  have HR6 : Hid (RB w6 (N + 1) s.size h5) := fun k hk => by rw [HEQ.out k hk]; exact s6.row k hk
  have HB6 := hid (HB5.out.grown s6.gr HB5.out.size (fun k hk => by injection hk with hk; omega))
  have hss : (s.toList == s.toList) = true := by simp
  clear pb6 sb6 s6 HPB5 HSB5 HS5 HS2 HB5 HEQ
  go_wp2_with fail
  with_reducible refine (bequal_same N (N + 1) s.size c1 c2 h5 _ HR5.out HR6.out (by omega)).mono ?_
  rintro e w7 ⟨rfl, hd⟩
  go_wp2
  go_ret
  exact ⟨ret_bool (by simp), HB6.out.trans (hd.below _)⟩
theorem turnBack_any (s : ByteArray) (_h : s.size ≤ maxLen) (w : World) :
    Calls Try.prog 4 #[.string s] w fun e w' => e = .returned (.bool true) ∧ Below w.heap.size w w' := by
  by_cases hs : s.size ≤ 200
  · exact turnBack_ok s w hs
  · exact turnBack_large s w (by omega)
end Go.Proofs.Ytljpjjokfkbdcaa
