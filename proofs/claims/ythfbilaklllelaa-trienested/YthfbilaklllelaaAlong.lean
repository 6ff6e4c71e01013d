/-
The contracts of the trie's along and all, at nodes in memory.
-/
import Derived.Test.YthfbilaklllelaaTrieBuild
namespace Go.Proofs.Ythfbilaklllelaa
open Go.RowKit

/-- The indices at the prefixes of l that are not empty, as far as i bytes. -/
def alongL (W : (List UInt8) → Int) (l : (List UInt8)) (i : Nat) : List Int := ((List.range i).map fun t => W (l.take (t + 1))).filter fun x => decide (x ≠ -1)
theorem alongL_next (W : (List UInt8) → Int) (l : (List UInt8)) (i : Nat) : alongL W l (i + 1) = alongL W l i ++ if W (l.take (i + 1)) = -1 then [] else [W (l.take (i + 1))] := by
  unfold alongL
  rw [List.range_succ, List.map_append, List.filter_append]
  congr 1
  by_cases h : W (l.take (i + 1)) = -1 <;> simp [h]
theorem alongL_len (W : (List UInt8) → Int) (l : (List UInt8)) (i : Nat) : (alongL W l i).length ≤ i := by
  unfold alongL
  refine Nat.le_trans (List.length_filter_le _ _) (by simp)
theorem alongL_stop (W : (List UInt8) → Int) (l : (List UInt8)) (k : Nat) (h : ∀ t, k ≤ t → W (l.take (t + 1)) = -1) : ∀ m, k ≤ m → alongL W l m = alongL W l k := by
  intro m hm
  obtain ⟨d, rfl⟩ : ∃ d, m = k + d := ⟨m - k, by omega⟩
  clear hm
  induction d with
  | zero => rfl
  | succ d ih => rw [← Nat.add_assoc, alongL_next, if_pos (h _ (by omega)), List.append_nil, ih]

section
variable {w : World} {B : Nat} {D : (List UInt8) → Prop} {W : (List UInt8) → Int} {ad : (List UInt8) → Nat} {ch : (List UInt8) → (List UInt8)} {bl : (List UInt8) → Value}

theorem TrieIn.pre (h : TrieIn w B D W ad ch bl) {p q : (List UInt8)} (hq : D q) (hp : p <+: q) : D p := by
  obtain ⟨t, rfl⟩ := hp
  have key : ∀ (n : Nat) (t : (List UInt8)), t.length = n → D (p ++ t) → D p := by
    intro n
    induction n with
    | zero =>
      intro t ht hd
      rw [List.eq_nil_of_length_eq_zero ht, List.append_nil] at hd
      exact hd
    | succ n ih =>
      intro t ht hd
      rcases List.eq_nil_or_concat t with rfl | ⟨t', c, rfl⟩
      · simp at ht
      · rw [List.concat_eq_append, ← List.append_assoc] at hd
        exact ih t' (by simpa using ht) (h.down _ _ hd)
  exact key _ t rfl hq

/-- A row of numbers of the call's own, returned. -/
def RetOwn (w : World) (base : Nat) (L : List Int) (e : Ending) (w' : World) : Prop := ∃ v, e = .returned v ∧ OwnI w' base v L ∧ Below base w w'

theorem along_in (h : TrieIn w B D W ad ch bl) (s : ByteArray) (hs : s.size ≤ 200) (hW : ∀ q, ¬ D q → W q = -1) :
    Calls Try.prog 31 #[ptrTo (ad []), .string s] w (RetOwn w w.heap.size (alongL W (wd s) s.size)) := by
  have H := hid h
  have HW := hid hW
  clear h hW
  go_enter Try.func31, Try.ntmps31
  go_wp2
  go_loopw [0, 5, 9] (fun n f i wr => ∃ k : Nat, k ≤ s.size ∧ i = .int .i64 k ∧ n = ptrTo (ad ((wd s).take k)) ∧ Hid (D ((wd s).take k)) ∧ Hid (OwnI wr w.heap.size f (alongL W (wd s) k)) ∧ Below w.heap.size w wr) (fun _ _ i _ => s.size - (intOf i).toNat)
  case atStart =>
    exact ⟨0, by omega, rfl, by rw [List.take_zero], hid (by rw [List.take_zero]; exact H.out.root), hid (OwnI.zero _ _), Below.refl _ _⟩
  case round =>
    obtain ⟨k, hk, rfl, rfl, HD, HO, hbel⟩ := hrel
    by_cases h : k < s.size
    · have HC := hid (wd_at h)
      have HT := hid (H.out.below hbel)
      by_cases hd : D ((wd s).take (k + 1))
      · have hd' : D ((wd s).take k ++ [s[k]]) := by rw [← take_next HC.out]; exact hd
        have HD2 := hid hd'
        have hwh := HT.out.whichAt HD2.out
        have hsz : w.heap.size ≤ wr.heap.size := hbel.size
        have hln := alongL_len W (wd s) k
        clear hd hd'
        go_wp2_with fail
        with_reducible refine (step_there HT.out HD.out s[k] HD2.out).mono ?_
        rintro e w1 ⟨rfl, rfl⟩
        unfold ptrTo
        by_cases hx : W ((wd s).take k ++ [s[k]]) = -1
        · rw [hx] at hwh
          have HX := hid hx
          clear hx
          go_wp2
          go_round
          case measure => simp [intOf]; omega
          case rel =>
            refine ⟨k + 1, by omega, by go_num, by rw [take_next HC.out]; rfl, by rw [take_next HC.out]; exact HD2, ?_, hbel⟩
            rw [alongL_next, take_next HC.out, if_pos HX.out, List.append_nil]
            exact HO
        · obtain ⟨y, hy⟩ : ∃ y, y = W ((wd s).take k ++ [s[k]]) := ⟨_, rfl⟩
          rw [← hy] at hwh hx
          have HY := hid hy
          have hx' : (y != -1) = true := bne_iff_ne.2 hx
          have HX := hid hx
          clear hy hx
          go_wp2_with (at_builtin; with_reducible refine app_int rfl _ _ rfl rfl HO.out _ rfl rfl hsz (by omega) ?_)
          intro v' w' hown hb
          have HO2 := hid hown
          have HB2 := hid hb
          clear hown hb
          go_wp2
          go_round
          case measure => simp [intOf]; omega
          case rel =>
            refine ⟨k + 1, by omega, by go_num, by rw [take_next HC.out]; rfl, by rw [take_next HC.out]; exact HD2, ?_, hbel.trans HB2.out⟩
            rw [alongL_next, take_next HC.out, ← HY.out, if_neg HX.out]
            exact HO2
      · have hd' : ¬ D ((wd s).take k ++ [s[k]]) := by rw [← take_next HC.out]; exact hd
        have HD2 := hid hd'
        have HL : Hid (alongL W (wd s) s.size = alongL W (wd s) k) := by
          refine alongL_stop W _ k (fun t ht => HW.out _ (fun hD => hd (HT.out.pre hD ?_))) _ hk
          have e : (wd s).take (k + 1) = ((wd s).take (t + 1)).take (k + 1) := by rw [List.take_take, Nat.min_eq_left (by omega)]
          rw [e]
          exact List.take_prefix _ _
        clear hd hd'
        go_wp2_with fail
        with_reducible refine (step_not HT.out HD.out s[k] HD2.out).mono ?_
        rintro e w1 ⟨rfl, rfl⟩
        go_wp2
        go_ret
        exact ⟨_, rfl, by rw [HL.out]; exact HO.out, hbel⟩
    · obtain rfl : k = s.size := by omega
      go_wp2
      go_ret
      exact ⟨_, rfl, HO.out, hbel⟩

/-- The patterns at p and below, as far as m bytes down. -/
def allQ (W : (List UInt8) → Int) (ch : (List UInt8) → (List UInt8)) : Nat → (List UInt8) → List (List UInt8)
  | 0, _ => []
  | m + 1, p => (if W p = -1 then [] else [p]) ++ (ch p).flatMap fun c => allQ W ch m (p ++ [c])

theorem allQ_succ (W : (List UInt8) → Int) (ch : (List UInt8) → (List UInt8)) (m : Nat) (p : (List UInt8)) : allQ W ch (m + 1) p = (if W p = -1 then [] else [p]) ++ (ch p).flatMap fun c => allQ W ch m (p ++ [c]) := rfl

theorem flat_take {α β : Type} (l : List α) (f : α → List β) (i : Nat) : ((l.take i).flatMap f).length ≤ (l.flatMap f).length := by
  have e : l.flatMap f = (l.take i).flatMap f ++ (l.drop i).flatMap f := by rw [← List.flatMap_append, List.take_append_drop]
  rw [e, List.length_append]
  omega
theorem flat_next {α β : Type} (l : List α) (f : α → List β) (i : Nat) (x : α) (h : l[i]? = some x) : (l.take (i + 1)).flatMap f = (l.take i).flatMap f ++ f x := by
  rw [List.take_add_one, h, List.flatMap_append]
  simp

theorem all_in (h : TrieIn w B D W ad ch bl) (hlen : ∀ q, D q → q.length ≤ 20) : ∀ (m : Nat) (p : (List UInt8)), D p → p.length + m = 21 → ∀ (wr : World) (v : Value) (L : List Int), Below w.heap.size w wr → OwnI wr w.heap.size v L → L.length + (allQ W ch m p).length < 1000000 →
    Calls Try.prog 34 #[ptrTo (ad p), v] wr (RetOwn wr w.heap.size (L ++ (allQ W ch m p).map W)) := by
  intro m
  induction m with
  | zero =>
    intro p hp hl
    have := hlen p hp
    omega
  | succ m ih =>
    intro p hp hl wr v L hb hown hbig
    have hT := h.below hb
    obtain ⟨A, cap, _, hcellw, hrow⟩ := h.slice hp
    have halt : ad p < w.heap.size := h.lt hp
    have hcell := (hb.cell (p := ⟨ad p, 2, none⟩) halt).trans hcellw
    have hwh := hT.whichAt hp
    have hsz := hb.size
    have hs := hT.short hp
    have HIH := hid ih
    have H := hid h
    have HP := hid hp
    have HO := hid hown
    have HR := hid hrow
    have HB := hid hb
    have HBig := hid hbig
    have HLn := hid hl
    have HCW := hid hcellw
    have hL : L.length < 1000000 := by omega
    clear ih h hp hown hrow hlen hT hb hbig hl hcellw
    unfold ptrTo
    by_cases hx : W p = -1
    · rw [hx] at hwh
      have HX := hid hx
      clear hx
      have HBig2 : Hid (L.length + ((ch p).flatMap fun c => allQ W ch m (p ++ [c])).length < 1000000) := by
        have h1 := HBig.out
        rw [allQ_succ, if_pos HX.out] at h1
        exact h1
      have HEnd : Hid (L ++ (allQ W ch (m + 1) p).map W = L ++ ((ch p).flatMap fun c => allQ W ch m (p ++ [c])).map W) := by
        show _ = _
        rw [allQ_succ, if_pos HX.out, List.nil_append]
      go_enter Try.func34, Try.ntmps34
      go_wp2
      go_loopw [1, 24] (fun f i w2 => ∃ k : Nat, k ≤ (ch p).length ∧ i = .int .i64 k ∧ Hid (OwnI w2 w.heap.size f (L ++ ((((ch p).take k).flatMap fun c => allQ W ch m (p ++ [c])).map W))) ∧ Hid (Below w.heap.size wr w2)) (fun _ i _ => (ch p).length - (intOf i).toNat)
      case atStart => exact ⟨0, by omega, rfl, by simpa using HO, hid (Below.refl _ _)⟩
      case round =>
        obtain ⟨k, hk, rfl, HO2, HB2⟩ := hrel
        by_cases h : k < (ch p).length
        · obtain ⟨b, o, rfl, hlt, hc⟩ := HR.out k h
          have HBW := hid (HB.out.trans HB2.out)
          have hc' := (HBW.out.cell (p := ⟨b, o + k, none⟩) hlt).trans hc
          obtain ⟨c, hcd⟩ : ∃ c, c = (ch p).getD k 0 := ⟨_, rfl⟩
          have HC : Hid ((ch p)[k]? = some c) := by
            rw [hcd, getD_lt h]
            exact List.getElem?_eq_getElem h
          rw [← hcd] at hc'
          have HDC : Hid (D (p ++ [c])) := (H.out.kids p c HP.out).1 (List.mem_of_getElem? HC.out)
          have HN : Hid (((L ++ ((((ch p).take k).flatMap fun c => allQ W ch m (p ++ [c])).map W))).length + (allQ W ch m (p ++ [c])).length < 1000000) := by
            have h1 := flat_take (ch p) (fun c => allQ W ch m (p ++ [c])) (k + 1)
            rw [flat_next _ _ _ _ HC.out, List.length_append] at h1
            have h2 := HBig2.out
            show _ < _
            simp only [List.length_append, List.length_map] at h2 ⊢
            omega
          unfold ptrTo at hc'
          clear hc hcd
          go_wp2_with fail
          rw [show (Value.pointer (some ⟨ad (p ++ [c]), 0, none⟩)) = ptrTo (ad (p ++ [c])) by rfl]
          with_reducible refine (HIH.out (p ++ [c]) HDC.out (by have := HLn.out; simp; omega) _ _ _ HBW.out HO2.out HN.out).mono ?_
          rintro e w3 ⟨v3, rfl, ho3, hb3⟩
          have HO3 := hid ho3
          have HB3 := hid hb3
          clear ho3 hb3 hc'
          go_wp2
          go_round
          case measure => simp [intOf]; omega
          case rel =>
            refine ⟨k + 1, by omega, by go_num, ?_, hid (HB2.out.trans HB3.out)⟩
            rw [flat_next _ _ _ _ HC.out, List.map_append, ← List.append_assoc]
            exact HO3
        · obtain rfl : k = (ch p).length := by omega
          go_wp2
          go_ret
          refine ⟨_, rfl, ?_, HB2.out⟩
          have := HO2.out
          rw [List.take_length] at this
          rw [HEnd.out]
          exact this
    · obtain ⟨y, hy⟩ : ∃ y, y = W p := ⟨_, rfl⟩
      rw [← hy] at hwh hx
      have HY := hid hy
      have hx' : (y != -1) = true := bne_iff_ne.2 hx
      have HX := hid hx
      clear hy hx
      have HBig2 : Hid ((L ++ [y]).length + ((ch p).flatMap fun c => allQ W ch m (p ++ [c])).length < 1000000) := by
        have h1 := HBig.out
        rw [allQ_succ, ← HY.out, if_neg HX.out] at h1
        show _ < _
        simp only [List.length_append, List.length_singleton] at h1 ⊢
        omega
      have HEnd : Hid (L ++ (allQ W ch (m + 1) p).map W = (L ++ [y]) ++ ((ch p).flatMap fun c => allQ W ch m (p ++ [c])).map W) := by
        show _ = _
        rw [allQ_succ, ← HY.out, if_neg HX.out, List.map_append, List.append_assoc, HY.out]
        rfl
      go_enter Try.func34, Try.ntmps34
      go_wp2_with (at_builtin; with_reducible refine app_int rfl _ _ rfl rfl HO.out _ rfl rfl hsz (by omega) ?_)
      intro v' w' hown hb
      have HO1 := hid hown
      have HB1 := hid hb
      have hcell1 := ((HB.out.trans HB1.out).cell (p := ⟨ad p, 2, none⟩) halt).trans HCW.out
      clear hown hb hcell hwh
      go_wp2
      go_loopw [1, 24] (fun f i w2 => ∃ k : Nat, k ≤ (ch p).length ∧ i = .int .i64 k ∧ Hid (OwnI w2 w.heap.size f ((L ++ [y]) ++ ((((ch p).take k).flatMap fun c => allQ W ch m (p ++ [c])).map W))) ∧ Hid (Below w.heap.size wr w2)) (fun _ i _ => (ch p).length - (intOf i).toNat)
      case atStart => exact ⟨0, by omega, rfl, by simpa using HO1, HB1⟩
      case round =>
        obtain ⟨k, hk, rfl, HO2, HB2⟩ := hrel
        by_cases h : k < (ch p).length
        · obtain ⟨b, o, rfl, hlt, hc⟩ := HR.out k h
          have HBW := hid (HB.out.trans HB2.out)
          have hc' := (HBW.out.cell (p := ⟨b, o + k, none⟩) hlt).trans hc
          obtain ⟨c, hcd⟩ : ∃ c, c = (ch p).getD k 0 := ⟨_, rfl⟩
          have HC : Hid ((ch p)[k]? = some c) := by
            rw [hcd, getD_lt h]
            exact List.getElem?_eq_getElem h
          rw [← hcd] at hc'
          have HDC : Hid (D (p ++ [c])) := (H.out.kids p c HP.out).1 (List.mem_of_getElem? HC.out)
          have HN : Hid ((((L ++ [y]) ++ ((((ch p).take k).flatMap fun c => allQ W ch m (p ++ [c])).map W))).length + (allQ W ch m (p ++ [c])).length < 1000000) := by
            have h1 := flat_take (ch p) (fun c => allQ W ch m (p ++ [c])) (k + 1)
            rw [flat_next _ _ _ _ HC.out, List.length_append] at h1
            have h2 := HBig2.out
            show _ < _
            simp only [List.length_append, List.length_map] at h2 ⊢
            omega
          unfold ptrTo at hc'
          clear hc hcd
          go_wp2_with fail
          rw [show (Value.pointer (some ⟨ad (p ++ [c]), 0, none⟩)) = ptrTo (ad (p ++ [c])) by rfl]
          with_reducible refine (HIH.out (p ++ [c]) HDC.out (by have := HLn.out; simp; omega) _ _ _ HBW.out HO2.out HN.out).mono ?_
          rintro e w3 ⟨v3, rfl, ho3, hb3⟩
          have HO3 := hid ho3
          have HB3 := hid hb3
          clear ho3 hb3 hc'
          go_wp2
          go_round
          case measure => simp [intOf]; omega
          case rel =>
            refine ⟨k + 1, by omega, by go_num, ?_, hid (HB2.out.trans HB3.out)⟩
            rw [flat_next _ _ _ _ HC.out, List.map_append, ← List.append_assoc]
            exact HO3
        · obtain rfl : k = (ch p).length := by omega
          go_wp2
          go_ret
          refine ⟨_, rfl, ?_, HB2.out⟩
          have := HO2.out
          rw [List.take_length] at this
          rw [HEnd.out]
          exact this
end
end Go.Proofs.Ythfbilaklllelaa
