/-
The contracts of the trie's along and all, at nodes in memory.
-/
import Derived.Test.YtcnfdmpggnhlgaaTrieBuild
namespace Go.Proofs.Ytcnfdmpggnhlgaa
open Go.RowKit

/-- The indices at the prefixes of l that are not empty, as far as i bytes. -/
def alongL (W : (List UInt8) → Int) (l : (List UInt8)) (i : Nat) : List Int := ((List.range i).map fun t => W (l.take (t + 1))).filter fun x => decide (x ≠ -1)
theorem alongL_next (W : (List UInt8) → Int) (l : (List UInt8)) (i : Nat) : alongL W l (i + 1) = alongL W l i ++ if W (l.take (i + 1)) = -1 then [] else [W (l.take (i + 1))] := by
  unfold alongL
  rw [List.range_succ, List.map_append, List.filter_append]
  congr 1
  by_cases h : W (l.take (i + 1)) = -1 <;> simp [h]
theorem alongL_len (W : (List UInt8) → Int) (l : (List UInt8)) (i : Nat) : (alongL W l i).length ≤ i := by
  unfold alongL
  refine Nat.le_trans (List.length_filter_le _ _) (by simp)
theorem alongL_stop (W : (List UInt8) → Int) (l : (List UInt8)) (k : Nat) (h : ∀ t, k ≤ t → W (l.take (t + 1)) = -1) : ∀ m, k ≤ m → alongL W l m = alongL W l k := by
  intro m hm
  obtain ⟨d, rfl⟩ : ∃ d, m = k + d := ⟨m - k, by omega⟩
  clear hm
  induction d with
  | zero => rfl
  | succ d ih => rw [← Nat.add_assoc, alongL_next, if_pos (h _ (by omega)), List.append_nil, ih]

section
variable {w : World} {B : Nat} {D : (List UInt8) → Prop} {W : (List UInt8) → Int} {ad : (List UInt8) → Nat} {ch : (List UInt8) → (List UInt8)} {bl : (List UInt8) → Value}

theorem TrieIn.pre (h : TrieIn w B D W ad ch bl) {p q : (List UInt8)} (hq : D q) (hp : p <+: q) : D p := by
  obtain ⟨t, rfl⟩ := hp
  have key : ∀ (n : Nat) (t : (List UInt8)), t.length = n → D (p ++ t) → D p := by
    intro n
    induction n with
    | zero =>
      intro t ht hd
      rw [List.eq_nil_of_length_eq_zero ht, List.append_nil] at hd
      exact hd
    | succ n ih =>
      intro t ht hd
      rcases List.eq_nil_or_concat t with rfl | ⟨t', c, rfl⟩
      · simp at ht
      · rw [List.concat_eq_append, ← List.append_assoc] at hd
        exact ih t' (by simpa using ht) (h.down _ _ hd)
  exact key _ t rfl hq

/-- A row of numbers of the call's own, returned. -/
def RetOwn (w : World) (base : Nat) (L : List Int) (e : Ending) (w' : World) : Prop := ∃ v, e = .returned v ∧ OwnI w' base v L ∧ Below base w w'

theorem along_in (h : TrieIn w B D W ad ch bl) (s : ByteArray) (hs : s.size ≤ 200) (hW : ∀ q, ¬ D q → W q = -1) :
    Calls Try.prog 69 #[ptrTo (ad []), .string s] w (RetOwn w w.heap.size (alongL W (wd s) s.size)) := by
  have H := hid h
  have HW := hid hW
  clear h hW
  go_enter Try.func69, Try.ntmps69
  go_wp2
  go_loopw [0, 5, 9] (fun n f i wr => ∃ k : Nat, k ≤ s.size ∧ i = .int .i64 k ∧ n = ptrTo (ad ((wd s).take k)) ∧ Hid (D ((wd s).take k)) ∧ Hid (OwnI wr w.heap.size f (alongL W (wd s) k)) ∧ Below w.heap.size w wr) (fun _ _ i _ => s.size - (intOf i).toNat)
  case atStart =>
    exact ⟨0, by omega, rfl, by rw [List.take_zero], hid (by rw [List.take_zero]; exact H.out.root), hid (OwnI.zero _ _), Below.refl _ _⟩
  case round =>
    obtain ⟨k, hk, rfl, rfl, HD, HO, hbel⟩ := hrel
    by_cases h : k < s.size
    · have HC := hid (wd_at h)
      have HT := hid (H.out.below hbel)
      by_cases hd : D ((wd s).take (k + 1))
      · have hd' : D ((wd s).take k ++ [s[k]]) := by rw [← take_next HC.out]; exact hd
        have HD2 := hid hd'
        have hwh := HT.out.whichAt HD2.out
        have hsz : w.heap.size ≤ wr.heap.size := hbel.size
        have hln := alongL_len W (wd s) k
        clear hd hd'
        go_wp2_with fail
        with_reducible refine (step_there HT.out HD.out s[k] HD2.out).mono ?_
        rintro e w1 ⟨rfl, rfl⟩
        unfold ptrTo
        by_cases hx : W ((wd s).take k ++ [s[k]]) = -1
        · rw [hx] at hwh
          have HX := hid hx
          clear hx
          go_wp2
          go_round
          case measure => simp [intOf]; omega
          case rel =>
            refine ⟨k + 1, by omega, by go_num, by rw [take_next HC.out]; rfl, by rw [take_next HC.out]; exact HD2, ?_, hbel⟩
            rw [alongL_next, take_next HC.out, if_pos HX.out, List.append_nil]
            exact HO
        · obtain ⟨y, hy⟩ : ∃ y, y = W ((wd s).take k ++ [s[k]]) := ⟨_, rfl⟩
          rw [← hy] at hwh hx
          have HY := hid hy
          have hx' : (y != -1) = true := bne_iff_ne.2 hx
          have HX := hid hx
          clear hy hx
          go_wp2_with (at_builtin; with_reducible refine app_int rfl _ _ rfl rfl HO.out _ rfl rfl hsz (by omega) ?_)
          intro v' w' hown hb
          have HO2 := hid hown
          have HB2 := hid hb
          clear hown hb
          go_wp2
          go_round
          case measure => simp [intOf]; omega
          case rel =>
            refine ⟨k + 1, by omega, by go_num, by rw [take_next HC.out]; rfl, by rw [take_next HC.out]; exact HD2, ?_, hbel.trans HB2.out⟩
            rw [alongL_next, take_next HC.out, ← HY.out, if_neg HX.out]
            exact HO2
      · have hd' : ¬ D ((wd s).take k ++ [s[k]]) := by rw [← take_next HC.out]; exact hd
        have HD2 := hid hd'
        have HL : Hid (alongL W (wd s) s.size = alongL W (wd s) k) := by
          refine alongL_stop W _ k (fun t ht => HW.out _ (fun hD => hd (HT.out.pre hD ?_))) _ hk
          have e : (wd s).take (k + 1) = ((wd s).take (t + 1)).take (k + 1) := by rw [List.take_take, Nat.min_eq_left (by omega)]
          rw [e]
          exact List.take_prefix _ _
        clear hd hd'
        go_wp2_with fail
        with_reducible refine (step_not HT.out HD.out s[k] HD2.out).mono ?_
        rintro e w1 ⟨rfl, rfl⟩
        go_wp2
        go_ret
        exact ⟨_, rfl, by rw [HL.out]; exact HO.out, hbel⟩
    · obtain rfl : k = s.size := by omega
      go_wp2
      go_ret
      exact ⟨_, rfl, HO.out, hbel⟩

/-- The patterns at p and below, as far as m bytes down. -/
def allQ (W : (List UInt8) → Int) (ch : (List UInt8) → (List UInt8)) : Nat → (List UInt8) → List (List UInt8)
  | 0, _ => []
  | m + 1, p => (if W p = -1 then [] else [p]) ++ (ch p).flatMap fun c => allQ W ch m (p ++ [c])

theorem allQ_succ (W : (List UInt8) → Int) (ch : (List UInt8) → (List UInt8)) (m : Nat) (p : (List UInt8)) : allQ W ch (m + 1) p = (if W p = -1 then [] else [p]) ++ (ch p).flatMap fun c => allQ W ch m (p ++ [c]) := rfl

theorem flat_take {α β : Type} (l : List α) (f : α → List β) (i : Nat) : ((l.take i).flatMap f).length ≤ (l.flatMap f).length := by
  have e : l.flatMap f = (l.take i).flatMap f ++ (l.drop i).flatMap f := by rw [← List.flatMap_append, List.take_append_drop]
  rw [e, List.length_append]
  omega
theorem flat_next {α β : Type} (l : List α) (f : α → List β) (i : Nat) (x : α) (h : l[i]? = some x) : (l.take (i + 1)).flatMap f = (l.take i).flatMap f ++ f x := by
  rw [List.take_add_one, h, List.flatMap_append]
  simp

end
end Go.Proofs.Ytcnfdmpggnhlgaa
