/-
The contracts of package quillref's functions on palindromes: Mirror, ArmsOf, MirrorsOf.
-/
import Derived.Test.YtgeikpfbgdgciaaRefSuf
import Derived.Test.YtgeikpfbgdgciaaMirror
import Derived.Test.YtgeikpfbgdgciaaBack
import Derived.Test.YtgeikpfbgdgciaaIdxOf
import Derived.Laws.BytesArg
namespace Go.Proofs.Ytgeikpfbgdgciaa
open Go.RowKit

/-- What quillref.Mirror tells. -/
def mirB (s : ByteArray) : Bool := (backS s).toList == s.toList
theorem mir_iff (s : ByteArray) : mirB s = true ↔ (lst s).reverse = lst s := by
  unfold mirB
  rw [beq_iff_eq, str_eq, backS_size]
  have hp := pal_rev (s := s) (a := 0) (b := s.size) (Nat.le_refl _)
  have he : s.extract 0 s.size = s := by
    rw [str_eq', size_ext]
    refine ⟨by omega, fun i hi => ?_⟩
    rw [byt_ext (by omega), Nat.zero_add]
  rw [he] at hp
  rw [← hp]
  constructor
  · rintro ⟨_, h⟩ i _ hi
    rw [← h i hi, backS_byt hi, show 0 + s.size - 1 - i = s.size - 1 - i by omega]
  · intro h
    refine ⟨rfl, fun i hi => ?_⟩
    rw [backS_byt hi, h i (Nat.zero_le _) hi, show 0 + s.size - 1 - i = s.size - 1 - i by omega]
theorem mir_ext {s : ByteArray} {a b : Nat} (hb : b ≤ s.size) : mirB (s.extract a b) = true ↔ Mm.Pal (byt s) a b := (mir_iff _).trans (pal_rev hb).symm
set_option maxHeartbeats 400000 in
theorem refMirror_any (s : ByteArray) (w : World) (hs : s.size ≤ maxLen) :
    Calls Try.prog 26 #[.string s] w fun e w' => e = .returned (.bool (mirB s)) ∧ Below w.heap.size w w' := by
  have hcv := run_bytes_of_string (P := Try.prog) w 9 38 5 s Try.underlying9 Try.underlying38 Try.underlying5
  go_enter Try.func26, Try.ntmps26
  go_wp2_with fail
  clear hcv
  with_reducible refine (reverse_any w.heap.size s.size _ (byt s) _ (new_bytes w s _ _).drew hs).mono ?_
  rintro e w1 ⟨rfl, HB, hb⟩
  have hcv2 := run_convert_bytes_arg (P := Try.prog) w1 38 5 Try.underlying38 Try.underlying5 w.heap.size 0 s.size (grownCap w s.size 0 5) ((List.range s.size).map fun k => ((byt s (s.size - 1 - k)).toNat : Int)) (by simp) (fun i hi => by
    rw [Nat.zero_add, (HB i hi).1, List.getD_eq_getElem?_getD, List.getElem?_map, List.getElem?_range hi]
    rfl) 9 Try.underlying9
  have hfin := hid ((bl_new w (.cells (bytesRow s (grownCap w s.size 0 5)) 5 ((bytesRow s (grownCap w s.size 0 5)).size, (bytesRow s (grownCap w s.size 0 5)).size + 1))).drew.trans hb)
  rw [show strOfNums ((List.range s.size).map fun k => ((byt s (s.size - 1 - k)).toNat : Int)) = backS s from rfl] at hcv2
  clear HB hb
  go_wp2
  go_ret
  exact ⟨rfl, hfin.out⟩
set_option maxHeartbeats 1000000 in
theorem ArmsOf_ok (s : ByteArray) (w : World) (hs : s.size ≤ 200) :
    Calls Try.prog 13 #[.string s] w fun e w' => e = .returned (.slice (some ⟨w.heap.size, 0, none⟩) (2 * s.size + 1 : Nat) (2 * s.size + 1 : Nat)) ∧ IRow w' (some ⟨w.heap.size, 0, none⟩) (2 * s.size + 1) (ag s) ∧ Below w.heap.size w w' := by
  obtain ⟨m, hm⟩ : ∃ m, m = 2 * s.size + 1 := ⟨_, rfl⟩
  rw [← hm]
  have hm' : 2 * (s.size : Int) + 1 = (m : Int) := by omega
  have hmw : IntKind.i64.wrap (m : Int) = (m : Int) := IntWalk.i64_in _ (by omega)
  have hm0 : ¬ (m : Int) < 0 := by omega
  have HM := hid hm
  clear hm
  have hmk := run_make_row' (P := Try.prog) 22 3 (.int .i64 0) 8 Try.underlying22 Try.infoInt rfl .i64 .i64 m (by omega) (by omega) w
  have hmade := World.rowIs_made w (.int .i64 0) m 3
  have hb0 := bl_new w (.cells (madeCells #[.int .i64 0] m) 3)
  generalize w.alloc (.cells (madeCells #[.int .i64 0] m) 3) = w0 at hmk hmade hb0
  have R0 : Hid (∃ g : Nat → Nat, w0.rowIs w.heap.size 3 m (fun j => .int .i64 (g j : Int)) ∧ Mm.ArmAt (byt s) s.size 0 (0 + 1) g) := ⟨fun _ => 0, hmade, (Mm.ArmAt.zero _ _).begin_ (Nat.le_refl _)⟩
  clear hmade
  go_enter Try.func13, Try.ntmps13
  go_wp2
  go_loopw [13] (fun x wr => ∃ i : Nat, i ≤ s.size ∧ x = .int .i64 (i : Int) ∧ Hid (∃ g : Nat → Nat, wr.rowIs w.heap.size 3 m (fun j => .int .i64 (g j : Int)) ∧ Mm.ArmAt (byt s) s.size i (i + 1) g) ∧ Hid (Below w.heap.size w wr)) (fun x _ => s.size - (intOf x).toNat)
  case atStart => exact ⟨0, by omega, rfl, R0, hb0⟩
  case round =>
    clear R0 hb0 hmk
    obtain ⟨i, hi, rfl, HR, HB⟩ := hrel
    by_cases hlt : i < s.size
    · have hlt' : (i : Int) < (s.size : Int) := by omega
      go_wp2
      go_loopw [5] (fun y w2 => ∃ k : Nat, i + 1 ≤ k ∧ k ≤ s.size + 1 ∧ y = .int .i64 (k : Int) ∧ Hid (∃ g : Nat → Nat, w2.rowIs w.heap.size 3 m (fun j => .int .i64 (g j : Int)) ∧ Mm.ArmAt (byt s) s.size i k g) ∧ Hid (Below w.heap.size w w2)) (fun y _ => s.size + 1 - (intOf y).toNat)
      case atStart => exact ⟨i + 1, by omega, by omega, by go_num, HR, HB⟩
      case round =>
        clear HR HB
        obtain ⟨k, hk1, hk2, rfl, HR, HB⟩ := hrel
        by_cases hkn : k ≤ s.size
        · have hkn' : (k : Int) ≤ (s.size : Int) := by omega
          have hik' : (i : Int) ≤ (k : Int) := by omega
          have hz : (s.extract i k).size ≤ maxLen := by unfold maxLen; rw [size_ext]; omega
          go_wp2_with fail
          with_reducible refine (refMirror_any (s.extract i k) _ hz).mono ?_
          rintro e w3 ⟨rfl, hb3⟩
          obtain ⟨g, hrow, harm⟩ := HR.out
          have hrow3 : w3.rowIs w.heap.size 3 m (fun j => .int .i64 (g j : Int)) := hrow.of_block (hb3.block _ hrow.lt)
          have HB3 := hid (bl_then HB.out hb3)
          clear HR HB hb3 hrow
          by_cases hp : Mm.Pal (byt s) i k
          · rw [(mir_ext hkn).2 hp]
            have HA := hid (harm.yes hp (by omega) hkn)
            clear harm hp
            obtain ⟨c, hc⟩ : ∃ c, c = i + k := ⟨_, rfl⟩
            have ec : (i : Int) + (k : Int) = (c : Int) := by omega
            have ecm : (c : Int) < (m : Int) := by have := HM.out; omega
            have ecn : c < m := by omega
            have hcell := hrow3.cell ecn
            have hroom := hrow3.frozen c
            obtain ⟨v, hv⟩ : ∃ v : Nat, v = max (g c) (k - i) := ⟨_, rfl⟩
            have ev : max ((g c : Nat) : Int) ((k : Int) - (i : Int)) = (v : Int) := by omega
            have hset : Hid ((w3.setCell ⟨w.heap.size, c, none⟩ (.int .i64 (v : Int))).rowIs w.heap.size 3 m (fun j => .int .i64 ((if j = i + k then max (g j) (k - i) else g j : Nat) : Int))) := (hrow3.set c _).congr fun j _ => by
              by_cases e : j = i + k
              · rw [if_pos (by omega), if_pos e, hv, e, hc]
              · rw [if_neg (by omega), if_neg e]
            have hbs : Hid (Below w.heap.size w (w3.setCell ⟨w.heap.size, c, none⟩ (.int .i64 (v : Int)))) := HB3.out.setCell (Nat.le_refl _) _
            generalize hgc : g c = gc at *
            clear hrow3 HB3 hv hc hgc
            go_wp2
            go_roundw
            case measure => simp [intOf]; omega
            case rel => exact ⟨k + 1, by omega, by omega, by go_num, hid ⟨_, hset.out, HA.out⟩, hbs⟩
          · have hf : mirB (s.extract i k) = false := by
              rw [← Bool.not_eq_true, mir_ext hkn]; exact hp
            rw [hf]
            have HA := hid (harm.no hp)
            have HR3 := hid hrow3
            clear harm hp hrow3 hf
            go_wp2
            go_roundw
            case measure => simp [intOf]; omega
            case rel => exact ⟨k + 1, by omega, by omega, by go_num, hid ⟨_, HR3.out, HA.out⟩, HB3⟩
        · have hkn' : decide ((k : Int) ≤ (s.size : Int)) = false := decide_eq_false (by omega)
          have HR2 : Hid (∃ g : Nat → Nat, wr.rowIs w.heap.size 3 m (fun j => .int .i64 (g j : Int)) ∧ Mm.ArmAt (byt s) s.size (i + 1) (i + 1 + 1) g) := by
            obtain ⟨g, h1, h2⟩ := HR.out
            exact ⟨g, h1, h2.next (by omega)⟩
          clear HR
          go_wp2
          go_roundw
          case measure => simp [intOf]; omega
          case rel => exact ⟨i + 1, by omega, by go_num, HR2, HB⟩
    · have hdl : decide ((i : Int) < (s.size : Int)) = false := decide_eq_false (by omega)
      go_wp2
      go_ret
      refine ⟨rfl, ?_, HB.out⟩
      obtain ⟨g, h1, h2⟩ := HR.out
      intro k hk
      refine ⟨w.heap.size, 0, rfl, h1.lt, ?_⟩
      rw [Nat.zero_add, h1.cell hk]
      show some (Value.int .i64 ((g k : Nat) : Int)) = some (Value.int .i64 ((Mm.arm (byt s) s.size k : Nat) : Int))
      rw [h2.done (by omega) (by have := HM.out; omega)]
/-- The best one among the first j words. -/
def BestAt (s : List UInt8) (j : Nat) (t : List UInt8) : Prop :=
  (t = [] ∧ ∀ x ∈ (Sm.dl s).take j, x.reverse ≠ x) ∨ (t ∈ Mm.pl s ∧ ∀ x ∈ (Sm.dl s).take j, x.reverse = x → x.length < t.length ∨ (x.length = t.length ∧ Lib.index s t ≤ Lib.index s x))
theorem take_more {l : List (List UInt8)} {j : Nat} (h : j < l.length) : l.take (j + 1) = l.take j ++ [l.getD j []] := by
  rw [List.take_add_one, List.getElem?_eq_getElem h, List.getD_eq_getElem?_getD, List.getElem?_eq_getElem h]
  rfl
theorem BestAt.zero (s : List UInt8) : BestAt s 0 [] := .inl ⟨rfl, fun x hx => by cases hx⟩
theorem BestAt.no {s t x : List UInt8} {j : Nat} (h : BestAt s j t) (hj : j < (Sm.dl s).length) (hx : x = (Sm.dl s).getD j []) (hp : x.reverse ≠ x) : BestAt s (j + 1) t := by
  unfold BestAt at *
  rw [take_more hj, ← hx]
  rcases h with ⟨h1, h2⟩ | ⟨h1, h2⟩
  · refine .inl ⟨h1, fun y hy => ?_⟩
    rcases List.mem_append.1 hy with hy | hy
    · exact h2 y hy
    · rw [List.mem_singleton.1 hy]; exact hp
  · refine .inr ⟨h1, fun y hy hr => ?_⟩
    rcases List.mem_append.1 hy with hy | hy
    · exact h2 y hy hr
    · rw [List.mem_singleton.1 hy] at hr; exact absurd hr hp
theorem BestAt.stay {s t x : List UInt8} {j : Nat} (h : BestAt s j t) (hj : j < (Sm.dl s).length) (hx : x = (Sm.dl s).getD j []) (h0 : 0 < x.length) (hb : x.length < t.length ∨ (x.length = t.length ∧ ¬ Lib.index s x < Lib.index s t)) : BestAt s (j + 1) t := by
  unfold BestAt at *
  rw [take_more hj, ← hx]
  rcases h with ⟨h1, h2⟩ | ⟨h1, h2⟩
  · subst h1
    simp only [List.length_nil] at hb
    omega
  · refine .inr ⟨h1, fun y hy hr => ?_⟩
    rcases List.mem_append.1 hy with hy | hy
    · exact h2 y hy hr
    · rw [List.mem_singleton.1 hy]; omega
theorem BestAt.turn {s t x : List UInt8} {j : Nat} (h : BestAt s j t) (hj : j < (Sm.dl s).length) (hx : x = (Sm.dl s).getD j []) (hm : x ∈ Mm.pl s) (hb : t.length < x.length ∨ (x.length = t.length ∧ Lib.index s x < Lib.index s t)) : BestAt s (j + 1) x := by
  unfold BestAt at *
  rw [take_more hj, ← hx]
  refine .inr ⟨hm, fun y hy hr => ?_⟩
  rcases List.mem_append.1 hy with hy | hy
  · rcases h with ⟨_, h2⟩ | ⟨_, h2⟩
    · exact absurd hr (h2 y hy)
    · have := h2 y hy hr; omega
  · rw [List.mem_singleton.1 hy]; omega
theorem lst_inj' {a b : ByteArray} (h : lst a = lst b) : a = b := by
  unfold lst at h
  cases a; cases b
  simp at h
  rw [h]
/-- The best one of all is the first of the longest ones. -/
theorem BestAt.done {s t : ByteArray} {a b : Nat} (h : BestAt (lst s) (Sm.dl (lst s)).length (lst t)) (hL : Mm.IsLg (byt s) s.size a b) : t = s.extract a b := by
  obtain ⟨g1, g2, g3, g4⟩ := hL
  unfold BestAt at h
  rw [List.take_length] at h
  have hul : (lst (s.extract a b)).length = b - a := by rw [lst_len, size_ext]; omega
  by_cases h0 : s.size = 0
  · rcases h with ⟨h1, _⟩ | ⟨h1, _⟩
    · refine lst_inj' ?_
      rw [h1]
      exact (List.eq_nil_of_length_eq_zero (by omega)).symm
    · obtain ⟨a', b', ⟨h2, h3, _⟩, _⟩ := mem_pl_ext.1 h1
      omega
  · have hab : a < b := by
      have := g4 0 1 (by omega) (by omega) (Mm.Pal.one _ 0)
      omega
    have hu : lst (s.extract a b) ∈ Mm.pl (lst s) := mem_pl_ext.2 ⟨a, b, ⟨hab, g2, g3⟩, rfl⟩
    have hud : lst (s.extract a b) ∈ Sm.dl (lst s) := Sm.mem_dl'.2 (Mm.mem_pl.1 hu).1
    have hur := (Mm.mem_pl.1 hu).2
    rcases h with ⟨_, h2⟩ | ⟨h1, h2⟩
    · exact absurd hur (h2 _ hud)
    · have h3 := h2 _ hud hur
      obtain ⟨a', b', ⟨k1, k2, k3⟩, k4⟩ := mem_pl_ext.1 h1
      have htl : (lst t).length = b' - a' := by rw [k4, lst_len, size_ext]; omega
      have k5 := g4 a' b' (by omega) k2 k3
      rw [hul, htl] at h3
      obtain ⟨k6, k7⟩ : b' - a' = b - a ∧ Lib.index (lst s) (lst t) ≤ Lib.index (lst s) (lst (s.extract a b)) := by omega
      obtain ⟨p, e1, e2, e3, _⟩ := index_at (s := lst s) (t := lst t) a' (by rw [lst_len]; omega) (by rw [k4, lst_mid]; exact List.take_prefix _ _)
      obtain ⟨q, f1, f2, _, _⟩ := index_at (s := lst s) (t := lst (s.extract a b)) a (by rw [lst_len]; omega) (by rw [lst_mid]; exact List.take_prefix _ _)
      rw [e1, f1] at k7
      have hpe : lst t = lst (s.extract p (p + (b - a))) := by
        rw [lst_mid, Nat.add_sub_cancel_left, ← k6, ← htl]
        exact List.prefix_iff_eq_take.1 e3
      have hps : p + (b - a) ≤ s.size := by
        have := e3.length_le
        rw [htl, List.length_drop, lst_len] at this
        omega
      have hpp : Mm.Pal (byt s) p (p + (b - a)) := (pal_rev hps).2 (by rw [← hpe]; exact (Mm.mem_pl.1 h1).2)
      have k8 := g4 p (p + (b - a)) (by omega) hps hpp
      obtain rfl : p = a := by omega
      refine lst_inj' ?_
      rw [hpe, show p + (b - p) = b by omega]
set_option maxHeartbeats 1000000 in
theorem MirrorsOf_ok (s : ByteArray) (w : World) (hs : s.size ≤ 200) (hm : ∃ m, w.cell? ⟨0, 0, none⟩ = some (.int .i64 m)) (hw : 0 < w.heap.size) :
    Calls Try.prog 11 #[.string s] w fun e w' => (∃ t : ByteArray, e = .returned (.tuple #[.int .i64 ((Mm.pl (lst s)).length : Nat), .string t]) ∧ BestAt (lst s) (Sm.dl (lst s)).length (lst t)) ∧ Below w.heap.size w w' := by
  obtain ⟨m, hm⟩ := hm
  have HM := hid hm
  have HW := hid hw
  clear hm hw
  obtain ⟨D, hD⟩ : ∃ D, D = Sm.dl (lst s) := ⟨_, rfl⟩
  have hDl : D.length ≤ 1000000 := by
    rw [hD, ← fac_eq]
    have h1 : (Lib.compact (srt (facO s s.size))).length ≤ (srt (facO s s.size)).length := by
      unfold Lib.compact Lib.compactUpTo
      rw [List.length_map]
      exact Nat.le_trans (List.length_filter_le _ _) (by simp)
    have h2 := fac_bound (s := s) (i := s.size) (t := 0) hs (by omega) (by omega)
    rw [List.length_append] at h2
    rw [srt_len] at h1
    omega
  have HD := hid hD
  go_enter Try.func11, Try.ntmps11
  go_wp2_with fail
  with_reducible refine (Factors_row s _ hs).mono ?_
  rw [← hD]
  rintro e w1 ⟨⟨A, c, rfl, hrow⟩, hb1⟩
  have HR1 := hid hrow
  have HB1 := hid hb1
  clear hrow hb1 hD
  obtain ⟨L, hL⟩ : ∃ L, L = D.length := ⟨_, rfl⟩
  rw [← hL] at HR1 hDl ⊢
  have HL := hid hL
  clear hL
  go_wp2
  go_loopw [4, 5, 11] (fun x y z wr => ∃ (n j : Nat) (t : ByteArray), j ≤ L ∧ x = .int .i64 (n : Int) ∧ y = .string t ∧ z = .int .i64 (j : Int) ∧ n ≤ j ∧ t.size ≤ 200 ∧ Hid (n = ((D.take j).filter fun y => decide (y.reverse = y)).length) ∧ Hid (BestAt (lst s) j (lst t)) ∧ Hid (LRow wr A L (fun k => D.getD k [])) ∧ Hid (Below w.heap.size w wr)) (fun _ _ z _ => L - (intOf z).toNat)
  case atStart => exact ⟨0, 0, ⟨#[]⟩, by omega, rfl, rfl, rfl, by omega, Nat.zero_le _, rfl, BestAt.zero _, HR1, HB1⟩
  case round =>
    clear HR1 HB1
    obtain ⟨n, j, t, hj, rfl, rfl, rfl, hnj, ht, HN, HT, HR, HB⟩ := hrel
    by_cases hlt : j < L
    · have hlt' : (j : Int) < (L : Int) := by omega
      obtain ⟨b, o, rfl, hbl, hc⟩ := HR.out j hlt
      obtain ⟨x, hx⟩ : ∃ x, x = mkS (D.getD j []) := ⟨_, rfl⟩
      have hlx : lst x = D.getD j [] := by rw [hx, lst_mk]
      replace hc : wr.cell? ⟨b, o + j, none⟩ = some (.string x) := by rw [hx]; exact hc
      have hxm : lst x ∈ Sm.dl (lst s) := by
        rw [hlx, ← HD.out, List.getD_eq_getElem?_getD, List.getElem?_eq_getElem (by have := HL.out; omega)]
        exact List.getElem_mem _
      have hxz : x.size ≤ 200 ∧ 0 < x.size := by
        obtain ⟨h1, h2⟩ := Sm.mem_dl'.1 hxm
        have h3 := h2.length_le
        have h4 := List.length_pos_iff.2 h1
        rw [lst_len] at h3 h4
        rw [lst_len] at h3
        omega
      obtain ⟨hxz1, hxz0⟩ := hxz
      have hzm : x.size ≤ maxLen := by unfold maxLen; omega
      have hjl : j < (Sm.dl (lst s)).length := by rw [← HD.out, ← HL.out]; exact hlt
      have hlx2 : lst x = (Sm.dl (lst s)).getD j [] := by rw [hlx, HD.out]
      have HN2 : Hid (∀ v, (mirB x = true → v = n + 1) → (mirB x = false → v = n) → v = ((D.take (j + 1)).filter fun y => decide (y.reverse = y)).length) := by
        intro v h1 h2
        rw [take_more (by have := HL.out; omega), List.filter_append, List.length_append, ← HN.out, ← hlx]
        by_cases hp : (lst x).reverse = lst x
        · rw [h1 ((mir_iff x).2 hp), List.filter_cons_of_pos (by simpa using hp)]
          rfl
        · rw [h2 (by rw [← Bool.not_eq_true, mir_iff]; exact hp), List.filter_cons_of_neg (by simpa using hp)]
          rfl
      have HX := hid hxm
      have HJ := hid hjl
      have HX2 := hid hlx2
      clear hx hlx hxm hjl hlx2
      go_wp2_with fail
      with_reducible refine (refMirror_any x _ hzm).mono ?_
      rintro e w3 ⟨rfl, hb3⟩
      have HR3 := hid (HR.out.keep hb3)
      have HB3 := hid (bl_then HB.out hb3)
      have hm3 : w3.cell? ⟨0, 0, none⟩ = some (.int .i64 m) := (HB3.out.cell (p := ⟨0, 0, none⟩) HW.out).trans HM.out
      clear HR HB hb3 hc
      by_cases hp : mirB x = true
      · rw [hp]
        have HP : Hid (lst x ∈ Mm.pl (lst s)) := Mm.mem_pl.2 ⟨Sm.mem_dl'.1 HX.out, (mir_iff x).1 hp⟩
        have HN3 := hid (HN2.out (n + 1) (fun _ => rfl) (fun h => by rw [hp] at h; cases h))
        clear HN2 HN hp
        by_cases h1 : t.size < x.size
        · have h1' : (t.size : Int) < (x.size : Int) := by omega
          have HT2 := hid (HT.out.turn HJ.out HX2.out HP.out (.inl (by rw [lst_len, lst_len]; exact h1)))
          clear hm3 HT
          go_wp2
          go_roundw
          case measure => simp [intOf]; omega
          case rel => exact ⟨n + 1, j + 1, x, by omega, by go_num, rfl, by go_num, by omega, hxz1, HN3, HT2, HR3, HB3⟩
        · have h1' : decide ((t.size : Int) < (x.size : Int)) = false := decide_eq_false (by omega)
          by_cases h2 : x.size = t.size
          · have h2' : ((x.size : Int) == (t.size : Int)) = true := by rw [h2]; simp
            go_wp2_with fail
            with_reducible refine (Try.strings_Index s x m _ (by omega) hm3).mono ?_
            rintro e w4 ⟨rfl, rfl⟩
            go_wp2_with fail
            with_reducible refine (Try.strings_Index s t m _ (by omega) hm3).mono ?_
            rintro e w5 ⟨rfl, rfl⟩
            clear hm3
            by_cases h3 : Lib.index (lst s) (lst x) < Lib.index (lst s) (lst t)
            · have h3' : Lib.index s.data.toList x.data.toList < Lib.index s.data.toList t.data.toList := h3
              have HT2 := hid (HT.out.turn HJ.out HX2.out HP.out (.inr ⟨by rw [lst_len, lst_len]; exact h2, h3⟩))
              clear HT h3
              generalize Lib.index s.data.toList x.data.toList = q1 at h3'
              generalize Lib.index s.data.toList t.data.toList = q2 at h3'
              go_wp2
              go_roundw
              case measure => simp [intOf]; omega
              case rel => exact ⟨n + 1, j + 1, x, by omega, by go_num, rfl, by go_num, by omega, hxz1, HN3, HT2, HR3, HB3⟩
            · have h3' : decide (Lib.index s.data.toList x.data.toList < Lib.index s.data.toList t.data.toList) = false := decide_eq_false h3
              have HT2 := hid (HT.out.stay HJ.out HX2.out (by rw [lst_len]; exact hxz0) (.inr ⟨by rw [lst_len, lst_len]; exact h2, h3⟩))
              clear HT h3
              generalize Lib.index s.data.toList x.data.toList = q1 at h3'
              generalize Lib.index s.data.toList t.data.toList = q2 at h3'
              go_wp2
              go_roundw
              case measure => simp [intOf]; omega
              case rel => exact ⟨n + 1, j + 1, t, by omega, by go_num, rfl, by go_num, by omega, ht, HN3, HT2, HR3, HB3⟩
          · have h2' : ((x.size : Int) == (t.size : Int)) = false := beq_eq_false_iff_ne.2 (by omega)
            have HT2 := hid (HT.out.stay HJ.out HX2.out (by rw [lst_len]; exact hxz0) (.inl (by rw [lst_len, lst_len]; omega)))
            clear hm3 HT
            go_wp2
            go_roundw
            case measure => simp [intOf]; omega
            case rel => exact ⟨n + 1, j + 1, t, by omega, by go_num, rfl, by go_num, by omega, ht, HN3, HT2, HR3, HB3⟩
      · have hpf : mirB x = false := by rw [← Bool.not_eq_true]; exact hp
        rw [hpf]
        have HN3 := hid (HN2.out n (fun h => absurd h hp) (fun _ => rfl))
        have HT2 := hid (HT.out.no HJ.out HX2.out (fun h => hp ((mir_iff x).2 h)))
        clear HN2 HN hp hpf HT hm3
        go_wp2
        go_roundw
        case measure => simp [intOf]; omega
        case rel => exact ⟨n, j + 1, t, by omega, rfl, rfl, by go_num, by omega, ht, HN3, HT2, HR3, HB3⟩
    · have hdl : decide ((j : Int) < (L : Int)) = false := decide_eq_false (by omega)
      obtain rfl : L = j := by omega
      have hN := HN.out
      rw [HL.out, List.take_length, HD.out] at hN
      have hN2 : n = (Mm.pl (lst s)).length := hN
      have HT2 : Hid (BestAt (lst s) (Sm.dl (lst s)).length (lst t)) := by
        have := HT.out
        rw [HL.out, HD.out] at this
        exact this
      subst hN2
      clear hN HN HT
      go_wp2
      go_ret2
      exact ⟨⟨t, rfl, HT2.out⟩, HB.out⟩
end Go.Proofs.Ytgeikpfbgdgciaa
