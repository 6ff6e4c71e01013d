
/-
quilltop.TopUnlike: whatever word and byte: it answers true.
-/
import Derived.Test.YtapjodbaaejldaaUnlikeMath
import Derived.Test.YtapjodbaaejldaaUnlike
import Derived.Test.YtapjodbaaejldaaMirror
import Derived.Test.YtapjodbaaejldaaTopWorks
import Derived.Test.YtapjodbaaejldaaTopCut
import Derived.Laws.BytesArg
import Derived.Laws.Concat
import Derived.Deep.Cut
import Derived.Deep.CutRange
namespace Go.Proofs.Ytapjodbaaejldaa
open Go.RowKit

theorem fi_in {s p : ByteArray} (h0 : 0 < p.size) : 0 < (fiL s p).length ↔ lst p <:+: lst s := by
  constructor
  · intro h
    obtain ⟨x, _, h1, h2⟩ := fiL_get h
    have e : p = s.extract x (x + p.size) := by
      refine lst_inj_ (List.ext_getElem (by rw [lst_len, lst_len, size_ext]; omega) fun i i1 i2 => ?_)
      rw [lst_len] at i1
      have e1 := lst_get p i
      have e2 := lst_get (s.extract x (x + p.size)) i
      rw [List.getD_eq_getElem?_getD, List.getElem?_eq_getElem (by rw [lst_len]; exact i1), Option.getD_some] at e1
      rw [List.getD_eq_getElem?_getD, List.getElem?_eq_getElem i2, Option.getD_some] at e2
      rw [e1, e2, byt_ext (by omega), h2 i i1]
    rw [e, lst_mid]
    exact (List.take_prefix _ _).isInfix.trans (List.drop_suffix _ _).isInfix
  · rintro ⟨u, v, h⟩
    have hl := congrArg List.length h
    rw [List.length_append, List.length_append, lst_len, lst_len] at hl
    obtain ⟨k, hk, _⟩ := fiL_find (s := s) (p := p) (x := u.length) ⟨by omega, fun t ht => by
      rw [← lst_get, ← lst_get, ← h, List.getD_eq_getElem?_getD, List.getD_eq_getElem?_getD, List.append_assoc, List.getElem?_append_right (by omega), Nat.add_sub_cancel_left, List.getElem?_append_left (by rw [lst_len]; exact ht)]⟩
    omega
/-- The last bytes of a text. -/
theorem lst_sfx {w : ByteArray} {l a : Nat} (ha : a = w.size - l) : lst (w.extract a w.size) = Sm.sfx (lst w) l := by
  unfold Sm.sfx
  rw [lst_mid, lst_len, ha]
  refine List.take_of_length_le ?_
  rw [List.length_drop, lst_len]
  omega
theorem there_any (N : Nat) (s t : ByteArray) (W : World) (hc : W.cell? ⟨N, 0, none⟩ = some (.string s)) (hs : s.size ≤ 200) (ht : t.size ≤ 200) (h0 : 0 < t.size) :
    Calls Try.prog 56 #[.string t, .pointer (some ⟨N, 0, none⟩)] W fun e w' => e = .returned (.bool (decide (0 < (fiL s t).length))) ∧ Below W.heap.size W w' := by
  go_enter Try.func56, Try.ntmps56
  go_wp2_with fail
  with_reducible refine (Find_ok s t _ hs ht h0).mono ?_
  rintro e w1 ⟨A, c, rfl, _, hb⟩
  have HB := hid hb
  clear hb hc
  go_wp2
  go_ret
  exact ⟨rfl, HB.out⟩
theorem dl_few (s : List UInt8) (h : s.length ≤ 200) : (Sm.dl s).length ≤ 40200 := by
  have key : ∀ t : List UInt8, t.length ≤ 200 → (Sm.dl t.reverse).length ≤ t.length * 201 := by
    intro t
    induction t with
    | nil => intro _; decide +kernel
    | cons a t ih =>
      intro ht
      rw [List.length_cons] at ht ⊢
      rw [List.reverse_cons]
      have h1 := Sm.dl_app t.reverse a
      have h2 := ih (by omega)
      rw [List.length_reverse] at h1
      omega
  have := key s.reverse (by rw [List.length_reverse]; exact h)
  rw [List.reverse_reverse, List.length_reverse] at this
  omega
/-- The box N holds s; all below is as it was. -/
structure Bx (w W : World) (N : Nat) (s : ByteArray) : Prop where
  below : Below w.heap.size w W
  cell : W.cell? ⟨N, 0, none⟩ = some (.string s)
theorem Bx.next {w W W' : World} {N : Nat} {s : ByteArray} (h : Bx w W N s) (hb : Below W.heap.size W W') : Bx w W' N s :=
  ⟨bl_then h.below hb, (hb.cell (p := ⟨N, 0, none⟩) (World.block_lt_of_cell? W _ h.cell)).trans h.cell⟩
theorem byte_str_ (b : Int) : strOfNums [b] = ⟨#[b.toNat.toUInt8]⟩ := rfl
theorem box_new (w : World) (v : Value) (t : TypeId) : (w.alloc (.cells #[v] t)).cell? ⟨w.heap.size, 0, none⟩ = some v := by simp
set_option maxHeartbeats 4000000 in
set_option maxRecDepth 100000 in
theorem topUnlike_walk (s0 : ByteArray) (b : Int) (_ : s0.size ≤ maxLen) (_ : (Lit.int .u8 b).wf = true) (w : World) :
    Calls Try.prog 12 #[.string s0, .int .u8 b] w fun e w' => e = .returned (.bool true) ∧ Below w.heap.size w w' := by
  have HCU : Hid (∀ W : World, Calls Try.prog 42 #[.string s0, .int .i64 80] W fun e w' => e = .returned (.string (s0.extract 0 (min s0.size 80))) ∧ W = w') := fun W => topCut_any s0 80 W (by decide)
  go_enter Try.func12, Try.ntmps12
  go_wp2_with fail
  with_reducible refine (HCU.out _).mono ?_
  rintro e w1 ⟨rfl, rfl⟩
  obtain ⟨s, hs⟩ : ∃ s, s = s0.extract 0 (min s0.size 80) := ⟨_, rfl⟩
  rw [← hs]
  have hsz : s.size ≤ 80 := by rw [hs, size_ext]; omega
  clear HCU hs
  have hcx : ((w.alloc (.cells #[.string s] 9)).alloc (.cells #[.int .u8 b] 5)).cell? ⟨w.heap.size, 0, none⟩ = some (.string s) :=
    ((bl_new (w.alloc (.cells #[.string s] 9)) (.cells #[.int .u8 b] 5)).cell (p := ⟨w.heap.size, 0, none⟩) (by simp)).trans (box_new w (.string s) 9)
  have hbx := bl_then (bl_new w (.cells #[.string s] 9)) (bl_new (w.alloc (.cells #[.string s] 9)) (.cells #[.int .u8 b] 5))
  have hcv := run_convert_bytes_arg (P := Try.prog) ((w.alloc (.cells #[.string s] 9)).alloc (.cells #[.int .u8 b] 5)) 74 5 Try.underlying74 Try.underlying5 (w.heap.size + 1) 0 1 1 [b] rfl (fun i hi => by
    obtain rfl : i = 0 := by omega
    simp) 9 Try.underlying9
  rw [byte_str_] at hcv
  have HX := hid (show Bx w _ w.heap.size s from ⟨hbx, hcx⟩)
  generalize b.toNat.toUInt8 = ch at *
  have hone : (⟨#[ch]⟩ : ByteArray).size = 1 := rfl
  obtain ⟨x, hx⟩ : ∃ x, x = (s ++ ⟨#[ch]⟩ : ByteArray) := ⟨_, rfl⟩
  have hadd := fun W : World => run_string_add_sum (P := Try.prog) W s ⟨#[ch]⟩ (by rw [hone]; omega)
  rw [← hx] at hadd
  obtain ⟨z, hz⟩ : ∃ z, z = s.size + 1 := ⟨_, rfl⟩
  have hxz : x.size = z := by rw [hx, size_app, hone, hz]
  have hxl : lst x = lst s ++ [ch] := by rw [hx, lst_cat]; rfl
  have HXL := hid hxl
  have HZ := hid hz
  have hz81 : z ≤ 81 := by omega
  have hz1 : 1 ≤ z := by omega
  clear hx hxl hz hbx hone
  go_wp2_with fail
  with_reducible refine (Unlike_ok s _ (by omega)).mono ?_
  rintro e w2 ⟨rfl, hb⟩
  have HX := hid (HX.out.next hb)
  clear hb hcx hcv hadd
  obtain ⟨N, hN⟩ : ∃ N, N = w.heap.size := ⟨_, rfl⟩
  rw [← hN] at HX ⊢
  have HN := hid hN
  clear hN
  go_wp2_with fail
  with_reducible refine (Unlike_ok x _ (by omega)).mono ?_
  rintro e w3 ⟨rfl, hb⟩
  have HX := hid (HX.out.next hb)
  clear hb
  have hcx := HX.out.cell
  go_wp2_with fail
  with_reducible refine (MUnlike_ok s _ (by omega)).mono ?_
  rintro e w4 ⟨rfl, hb⟩
  have HX := hid (HX.out.next hb)
  clear hb hcx
  go_wp2_with fail
  with_reducible refine (MUnlike_ok x _ (by omega)).mono ?_
  rintro e w5 ⟨rfl, hb⟩
  have HX := hid (HX.out.next hb)
  clear hb
  obtain ⟨n, hn⟩ : ∃ n, n = (Sm.dl (lst s)).length := ⟨_, rfl⟩
  obtain ⟨m, hm⟩ : ∃ m, m = (Sm.dl (lst x)).length := ⟨_, rfl⟩
  obtain ⟨p, hp⟩ : ∃ p, p = (Mm.pl (lst s)).length := ⟨_, rfl⟩
  obtain ⟨q, hq⟩ : ∃ q, q = (Mm.pl (lst x)).length := ⟨_, rfl⟩
  rw [← hn, ← hm, ← hp, ← hq]
  have hn9 : n ≤ 40200 := by rw [hn]; exact dl_few _ (by rw [lst_len]; omega)
  have hm9 : m ≤ 40200 := by rw [hm]; exact dl_few _ (by rw [lst_len]; omega)
  have hp9 : p ≤ 80 := by rw [hp]; have := Mm.pl_le (lst s); rw [lst_len] at this; omega
  have hq9 : q ≤ 81 := by rw [hq]; have := Mm.pl_le (lst x); rw [lst_len] at this; omega
  have Hn := hid hn
  have Hm := hid hm
  have Hp := hid hp
  have Hq := hid hq
  clear hn hm hp hq
  go_wp2_with fail
  with_reducible refine (Arms_ok x _ (by omega)).mono ?_
  rintro e w6 ⟨A, c, rfl, hrow, hb⟩
  have HX := hid (HX.out.next hb)
  rw [hxz] at hrow ⊢
  have HROW := hid hrow
  clear hb hrow
  go_wp2_with fail
  with_reducible refine (works_ok _).mono ?_
  rintro e w7 ⟨rfl, hb⟩
  have HX := hid (HX.out.next hb)
  have HROW := hid (HROW.out.keep hb)
  clear hb
  have hzz : Hid (∀ j, j < 5 → (w7.alloc (.cells #[.int .i64 0, .int .i64 0, .int .i64 0, .int .i64 0, .int .i64 0] 23)).cell? ⟨w7.heap.size, j, none⟩ = some (.int .i64 0)) := zeros_new w7 23 5
  go_wp2_with fail
  with_reducible refine (topGood_ok w7.heap.size 5 5 _ (by decide) hzz.out).mono ?_
  rintro e w8 ⟨rfl, rfl⟩
  have hb2 := bl_new w7 (.cells #[.int .i64 0, .int .i64 0, .int .i64 0, .int .i64 0, .int .i64 0] 23)
  have HX := hid (HX.out.next hb2)
  have HROW := hid (HROW.out.keep hb2)
  clear hzz hb2
  generalize (w7.alloc (.cells #[.int .i64 0, .int .i64 0, .int .i64 0, .int .i64 0, .int .i64 0] 23)) = w8 at *
  obtain ⟨z2, hz2⟩ : ∃ z2, z2 = 2 * z + 1 := ⟨_, rfl⟩
  obtain ⟨z3, hz3⟩ : ∃ z3, z3 = 2 * z := ⟨_, rfl⟩
  have ez3 : (2 : Int) * (z : Int) = (z3 : Int) := by omega
  have ez2 : (z3 : Int) + 1 = (z2 : Int) := by omega
  have hwz3 : IntKind.i64.wrap (z3 : Int) = (z3 : Int) := IntWalk.i64_in _ (by omega)
  have hwz2 : IntKind.i64.wrap (z2 : Int) = (z2 : Int) := IntWalk.i64_in _ (by omega)
  rw [← hz2] at HROW ⊢
  have HZ2 := hid hz2
  have HZ3 := hid hz3
  have hz2b : z2 ≤ 163 := by omega
  clear hz2 hz3
  have HLS : Hid (∀ l, l ≤ z → 1 ≤ l → ∀ a, a = z - l → (0 < (fiL s (x.extract a z)).length ↔ Sm.sfx (lst x) l <:+: lst s)) := fun l h1 h2 a ha => by
    rw [fi_in (by rw [size_ext]; omega), ← hxz, lst_sfx (l := l) (by omega)]
  go_wp2
  go_loopw [17] (fun v W => ∃ l : Nat, l ≤ z ∧ v = .int .i64 (l : Int) ∧ Hid (∀ j, l < j → j ≤ z → ¬ Sm.sfx (lst x) j <:+: lst s) ∧ Hid (Bx w W N s) ∧ Hid (IRow W A z2 (ag x))) (fun v _ => (intOf v).toNat)
  case atStart => exact ⟨z, by omega, rfl, hid (fun j h1 h2 => by omega), HX, HROW⟩
  case round =>
    clear HX HROW
    obtain ⟨l, hl, rfl, HL, HX, HROW⟩ := hrel
    go_upto_region 12 with fail
    go_cut [90] from 78 to 92 (fun v W => ∃ c : Bool, v = .bool c ∧ Hid (c = true → 0 < l ∧ ¬ Sm.sfx (lst x) l <:+: lst s) ∧ Hid (c = false → l = 0 ∨ Sm.sfx (lst x) l <:+: lst s) ∧ Hid (Bx w W N s) ∧ Hid (IRow W A z2 (ag x)))
    case first =>
      by_cases h0 : l = 0
      · subst h0
        go_wp2
        go_meet
        exact ⟨false, rfl, hid (fun h => by cases h), hid (fun _ => .inl (by trivial)), HX, HROW⟩
      · have hlp : 0 < l := by omega
        have hd : decide ((0 : Int) < (l : Int)) = true := decide_eq_true (by omega)
        have hd2 : decide (0 < l) = true := decide_eq_true hlp
        have H0 := hid h0
        obtain ⟨a, ha⟩ : ∃ a, a = z - l := ⟨_, rfl⟩
        have ea : (z : Int) - (l : Int) = (a : Int) := by omega
        have hwa : IntKind.i64.wrap (a : Int) = (a : Int) := IntWalk.i64_in _ (by omega)
        have ha0 : (0 : Int) ≤ (a : Int) := by omega
        have ha1 : (a : Int) ≤ (z : Int) := by omega
        have hiff := hid (HLS.out l hl (by omega) a ha)
        have htz : (x.extract a z).size ≤ 200 := by rw [size_ext]; omega
        have ht0 : 0 < (x.extract a z).size := by rw [size_ext]; omega
        obtain ⟨t, ht⟩ : ∃ t, t = x.extract a z := ⟨_, rfl⟩
        rw [← ht] at hiff htz ht0
        have ht' : x.extract a z = t := ht.symm
        have HTA := hid (there_any N s t wr HX.out.cell (by omega) htz ht0)
        clear h0 ha ht htz ht0
        go_wp2_with fail
        with_reducible refine HTA.out.mono ?_
        rintro e w9 ⟨rfl, hb⟩
        have HX := hid (HX.out.next hb)
        have HROW := hid (HROW.out.keep hb)
        clear hb HTA
        by_cases hin : 0 < (fiL s t).length
        · rw [decide_eq_true hin]
          have HIN := hid (hiff.out.1 hin)
          clear hin
          go_wp2
          go_meet
          exact ⟨false, rfl, hid (fun h => by cases h), hid (fun _ => .inr HIN.out), HX, HROW⟩
        · rw [decide_eq_false hin]
          have HIN := hid (fun h => hin (hiff.out.2 h))
          clear hin
          go_wp2
          go_meet
          exact ⟨true, rfl, hid (fun _ => ⟨by have := H0.out; omega, HIN.out⟩), hid (fun h => by cases h), HX, HROW⟩
    case rest =>
      clear HX HROW
      obtain ⟨c, rfl, HC1, HC2, HX, HROW⟩ := hcut
      cases c
      case true =>
        have hl1 : 1 ≤ l := (HC1.out rfl).1
        obtain ⟨l1, hl1'⟩ : ∃ l1, l1 = l - 1 := ⟨_, rfl⟩
        have el : (l : Int) - 1 = (l1 : Int) := by omega
        have hwl : IntKind.i64.wrap (l1 : Int) = (l1 : Int) := IntWalk.i64_in _ (by omega)
        have HL1 := hid hl1'
        clear hl1'
        go_wp2
        go_roundw
        case measure => have := HL1.out; simp [intOf]; omega
        case rel =>
          refine ⟨l1, by omega, by trivial, hid (fun j h1 h2 => ?_), HX, HROW⟩
          rcases Nat.lt_or_ge l j with h | h
          · exact HL.out j h h2
          · obtain rfl : j = l := by have := HL1.out; omega
            exact (HC1.out rfl).2
      case false =>
        have HD := hid (Sm.dl_more (s := lst s) (b := ch) (L := l) (by rw [lst_len, ← HZ.out]; exact hl) (by rw [← HXL.out]; exact HC2.out rfl) (fun j h1 h2 => by rw [← HXL.out]; exact HL.out j h1 (by rw [HZ.out, ← lst_len]; exact h2)))
        rw [← HXL.out, ← Hm.out, ← Hn.out, lst_len, ← HZ.out] at HD
        clear HC1 HC2 HL Hm Hn
        obtain ⟨d, hd⟩ : ∃ d, d = z - l := ⟨_, rfl⟩
        rw [← hd] at HD
        have ed1 : (m : Int) - (n : Int) = (d : Int) := by have := HD.out; omega
        have ed2 : (z : Int) - (l : Int) = (d : Int) := by omega
        have hwd : IntKind.i64.wrap (d : Int) = (d : Int) := IntWalk.i64_in _ (by omega)
        clear hd HD
        go_wp2
        go_loopw [18, 95] (fun v y W => ∃ i mm : Nat, i ≤ z2 ∧ mm ≤ 200 ∧ v = .int .i64 (mm : Int) ∧ y = .int .i64 (i : Int) ∧ Hid (Mm.Lt_ (byt x) z i mm) ∧ Hid (Bx w W N s) ∧ Hid (IRow W A z2 (ag x))) (fun _ y _ => z2 - (intOf y).toNat)
        case atStart => exact ⟨0, 0, by omega, by omega, rfl, rfl, hid (Mm.Lt_.zero _ _), HX, HROW⟩
        case round =>
          clear HX HROW
          obtain ⟨i, mm, hi, hmm, rfl, rfl, HLT, HX, HROW⟩ := hrel
          by_cases hiz : i < z2
          · obtain ⟨bl, o, rfl, _, hc⟩ := HROW.out.at_ hiz
            obtain ⟨r, hr⟩ : ∃ r, r = Mm.arm (byt x) z i := ⟨_, rfl⟩
            have hag : ag x i = (r : Int) := by unfold ag; rw [hxz, hr]
            rw [hag] at hc
            have hi2 : i ≤ 2 * z := by have := HZ2.out; omega
            have hra := Mm.arm_le (f := byt x) (N := z) (c := i) hi2
            rw [← hr] at hra
            have hizI : (i : Int) < (z2 : Int) := by omega
            obtain ⟨j, hj⟩ : ∃ j, j = i + r := ⟨_, rfl⟩
            have ej : (i : Int) + (r : Int) = (j : Int) := by omega
            have hwj : IntKind.i64.wrap (j : Int) = (j : Int) := IntWalk.i64_in _ (by omega)
            by_cases hjz : j = z3
            · have HL2 := hid (HLT.out.yes hi2 (by rw [← hr, ← HZ3.out, ← hjz, hj]))
              rw [← hr] at HL2
              obtain ⟨M, hM⟩ : ∃ M, M = Max.max mm r := ⟨_, rfl⟩
              rw [← hM] at HL2
              have hMb : M ≤ 200 := by omega
              have eM1 : max (mm : Int) (r : Int) = (M : Int) := by omega
              have eM2 : (if mm < r then (r : Int) else (mm : Int)) = (M : Int) := by split <;> omega
              have eM3 : (if r < mm then (mm : Int) else (r : Int)) = (M : Int) := by split <;> omega
              have heq : ((j : Int) == (z3 : Int)) = true := by rw [hjz]; simp
              clear hM hr hra hag hj hjz HLT
              go_wp2
              go_roundw
              case measure => simp [intOf]; omega
              case rel => exact ⟨i + 1, M, by omega, by omega, by trivial, by go_num, HL2, HX, HROW⟩
            · have HL2 := hid (HLT.out.no (by rw [← hr, ← HZ3.out, ← hj]; exact hjz))
              have heq : ((j : Int) == (z3 : Int)) = false := beq_eq_false_iff_ne.2 (by omega)
              clear hr hra hag hj hjz HLT
              go_wp2
              go_roundw
              case measure => simp [intOf]; omega
              case rel => exact ⟨i + 1, mm, by omega, by omega, by trivial, by go_num, HL2, HX, HROW⟩
          · have hizI : ¬ (i : Int) < (z2 : Int) := by omega
            obtain rfl : i = z2 := by omega
            have hlt := HLT.out
            rw [HZ2.out] at hlt
            obtain ⟨g1, g2, g3, g4⟩ := hlt.done (by omega)
            have hpal : ∀ l, l ≤ z → (Mm.Pal (byt x) (z - l) z ↔ (Sm.sfx (lst x) l).reverse = Sm.sfx (lst x) l) := fun l hl => by
              have h1 := pal_rev (s := x) (a := z - l) (b := z) (by omega)
              rw [h1, ← hxz, lst_sfx (l := l) rfl]
            have q1 := (hpal mm g2).1 g3
            have q2 : ∀ l, mm < l → l ≤ z → ¬ (Sm.sfx (lst x) l).reverse = Sm.sfx (lst x) l := fun l h1 h2 h3 => g4 l h1 h2 ((hpal l h2).2 h3)
            have hzl : z = (lst s).length + 1 := by rw [lst_len]; exact HZ.out
            have hold : Sm.sfx (lst x) mm <:+: lst s → q = p := fun h => by
              rw [Hp.out, Hq.out, HXL.out]
              rw [HXL.out] at h q1 q2
              exact Mm.pl_old (by omega) q1 (fun l h1 h2 => q2 l h1 (by omega)) h
            have hnew : ¬ Sm.sfx (lst x) mm <:+: lst s → q = p + 1 := fun h => by
              rw [Hp.out, Hq.out, HXL.out]
              rw [HXL.out] at h q1 q2
              exact Mm.pl_new g1 (by omega) q1 h
            have HO := hid hold
            have HNW := hid hnew
            obtain ⟨a, ha⟩ : ∃ a, a = z - mm := ⟨_, rfl⟩
            have ea : (z : Int) - (mm : Int) = (a : Int) := by omega
            have hwa : IntKind.i64.wrap (a : Int) = (a : Int) := IntWalk.i64_in _ (by omega)
            have ha0 : (0 : Int) ≤ (a : Int) := by omega
            have ha1 : (a : Int) ≤ (z : Int) := by omega
            have hiff := hid (HLS.out mm g2 g1 a ha)
            have htz : (x.extract a z).size ≤ 200 := by rw [size_ext]; omega
            have ht0 : 0 < (x.extract a z).size := by rw [size_ext]; omega
            obtain ⟨t, ht⟩ : ∃ t, t = x.extract a z := ⟨_, rfl⟩
            rw [← ht] at hiff htz ht0
            have ht' : x.extract a z = t := ht.symm
            have HTA := hid (there_any N s t wr HX.out.cell (by omega) htz ht0)
            have d1 : decide ((mm : Int) < 1) = false := decide_eq_false (by omega)
            have d2 : decide (mm < 1) = false := decide_eq_false (by omega)
            have d3 : decide (mm = 0) = false := decide_eq_false (by omega)
            clear hlt g3 g4 hpal q1 q2 hzl hold hnew ha ht htz ht0 HLT
            go_wp2_with fail
            with_reducible refine HTA.out.mono ?_
            rintro e w9 ⟨rfl, hb⟩
            have HX := hid (HX.out.next hb)
            clear hb HTA
            by_cases hin : 0 < (fiL s t).length
            · rw [decide_eq_true hin]
              have hqp := HO.out (hiff.out.1 hin)
              have eqp : (q : Int) - (p : Int) = 0 := by omega
              clear hin hqp
              go_wp2
              go_ret
              exact ⟨rfl, HX.out.below⟩
            · rw [decide_eq_false hin]
              have hqp := HNW.out (fun h => hin (hiff.out.2 h))
              have eqp : (q : Int) - (p : Int) = 1 := by omega
              clear hin hqp
              go_wp2
              go_ret
              exact ⟨rfl, HX.out.below⟩
end Go.Proofs.Ytapjodbaaejldaa
