/-
The walk of quillkeep.TrieMore: it returns true for all strings and lists of patterns.
-/
import Derived.Test.YthfbilaklllelaaDelF
import Derived.Test.YthfbilaklllelaaTries
namespace Go.Proofs.Ythfbilaklllelaa
open Go.RowKit

theorem Try.infoS : (Try.prog.info? 9).map (fun i => (i.zero, i.size, i.bytes)) = some (some (.string ⟨#[]⟩), 1, 16) := by kernel_rfl
theorem app_s {ops : Array Oper} {rest : List Oper} {o : Oper} {a : Act} {Q : Exit → Act → World → Prop} {wr : World} {n : Nat} {xs : List Value} {x : ByteArray} {v : Value} {base : Nat} (hgd : o.guard = none) (s z : Operand)
    (ho : o.op = .call { callee := .builtin .append, args := #[s, z], argTypes := #[22, 22] })
    (hs : a.eval s = v) (hown : wr.ownsRow base 9 1 v n xs) (M : Nat) (hM : wr.heap.size = M) (hx : a.eval z = .slice (some ⟨M, 0, none⟩) 1 1)
    (hbase : base ≤ M) (hbig : (n + 1) * 16 ≤ 140737488355328)
    (h : ∀ v' w', w'.ownsRow base 9 1 v' (n + 1) (xs ++ [.string x]) → Below base wr w' → wpList Try.prog ops Q rest (a.put o.dst v') w') :
    wpList Try.prog ops Q (o :: rest) a (wr.alloc (.cells #[.string x] 9)) := by
  subst hM
  obtain ⟨i0, hi, hz0, hz1, hz2⟩ := info_parts Try.infoS
  refine wpList_append_own _ hgd s z 22 ho base 9 i0 (.string ⟨#[]⟩) 1 16 Try.underlying22 hi hz0 hz1 hz2 rfl (by decide) v _ _ hs (World.ownsRow.alloc hown _) ⟨wr.heap.size, 0, none⟩ 1 1 [.string x] hx rfl ?_ ?_ ?_ ?_ ?_ ?_
  · intro j u hj
    match j, hj with
    | 0, hj => simp at hj; subst hj; simp [Addr.add]
  · intro u hu; simp at hu; subst hu; rfl
  · unfold maxLen; omega
  · omega
  · simp; omega
  · intro v' w' h1 h2 _
    refine h v' w' h1 ?_
    have hb : Below base wr (wr.alloc (.cells #[.string x] 9)) := (Below.refl _ _).alloc hbase _
    exact hb.grown h2 (by simp; omega) fun k hk => ((World.ownsRow.lt hown k hk).1)

/-- The patterns with one more. -/
def plus (g : Nat → ByteArray) (n : Nat) (p : ByteArray) (k : Nat) : ByteArray := if k < n then g k else p
theorem own_srow {w : World} {base n : Nat} {v : Value} {g : Nat → ByteArray} {p : ByteArray} (h : w.ownsRow base 9 1 v (n + 1) (((List.range n).map fun k => Value.string (g k)) ++ [.string p])) :
    ∃ A c, v = .slice A (n + 1) c ∧ n + 1 ≤ c ∧ SRow w A (n + 1) (plus g n p) := by
  have hcell := fun g' cap (e : v = .slice (some ⟨g', 0, none⟩) (n + 1) cap) (k : Nat) (hk : k < n + 1) => World.ownsRow.cellAt (e ▸ h) k (by omega)
  have hlt := World.ownsRow.lt h
  rcases h.2 with ⟨rfl, h0⟩ | ⟨b, cap, cur, rfl, h1, h2, h3, _⟩
  · omega
  · refine ⟨_, cap, rfl, h3, fun k hk => ⟨b, 0, rfl, (hlt b rfl).2, ?_⟩⟩
    rw [Nat.zero_add, hcell b cap rfl k hk]
    unfold plus
    by_cases hkn : k < n
    · rw [if_pos hkn, List.getElem?_append_left (by simpa using hkn)]
      simp [hkn]
    · obtain rfl : k = n := by omega
      rw [if_neg hkn, List.getElem?_append_right (by simp)]
      simp

theorem plus_lt (g : Nat → ByteArray) (n : Nat) (p : ByteArray) {k : Nat} (hk : k < n) : plus g n p k = g k := if_pos hk
theorem patErr_congr {g h : Nat → ByteArray} {k : Nat} (e : ∀ j, j ≤ k → g j = h j) : patErr g k = patErr h k := by
  unfold patErr
  have hd : dup g k = dup h k := by
    rw [Bool.eq_iff_iff, dup_iff, dup_iff, e k (Nat.le_refl _)]
    constructor
    · rintro ⟨j, hj, h1⟩
      exact ⟨j, hj, by rw [← e j (by omega)]; exact h1⟩
    · rintro ⟨j, hj, h1⟩
      exact ⟨j, hj, by rw [e j (by omega)]; exact h1⟩
  rw [hd, e k (Nat.le_refl _)]
/-- What is wrong stays wrong with one more. -/
theorem plus_err {g : Nat → ByteArray} {n : Nat} {p : ByteArray} (h : patsErr g n ≠ 0) : patsErr (plus g n p) (n + 1) ≠ 0 := by
  intro h0
  obtain ⟨h1, h2⟩ := patsErr_zero h0
  refine h (patsErr_ok (by omega) fun j hj => ?_)
  rw [← patErr_congr (g := plus g n p) (fun i hi => plus_lt g n p (by omega))]
  exact h2 j (by omega)

theorem begins_congr {g h : Nat → ByteArray} {n : Nat} (e : ∀ k, k < n → g k = h k) (l : (List UInt8)) : begins g n l = begins h n l := by
  unfold begins
  refine List.filter_congr fun k hk => ?_
  rw [e k (List.mem_range.1 hk)]
theorem begins_plus (g : Nat → ByteArray) (n : Nat) (p : ByteArray) (l : (List UInt8)) : (begins (plus g n p) (n + 1) l).filter (fun k => decide (k ≠ n)) = begins g n l := by
  unfold begins
  rw [List.range_succ, List.filter_append, List.filter_append]
  have h1 : ([n].filter fun k => decide (wd (plus g n p k) <+: l)).filter (fun k => decide (k ≠ n)) = [] := by
    rw [List.filter_eq_nil_iff]
    intro a ha
    have := (List.mem_filter.1 ha).1
    simp at this
    simp [this]
  rw [h1, List.append_nil, List.filter_filter]
  refine List.filter_congr fun k hk => ?_
  have hk' := List.mem_range.1 hk
  rw [plus_lt g n p hk']
  have : decide (k ≠ n) = true := decide_eq_true (by omega)
  rw [this, Bool.true_and]
theorem kept_hits (g : Nat → ByteArray) (n : Nat) (p : ByteArray) (l : (List UInt8)) (K : Nat) : kept n (hitsL (plus g n p) (n + 1) l K) (hitsL (plus g n p) (n + 1) l K).length = hitsL g n l K := by
  unfold kept
  rw [List.take_length]
  unfold hitsL
  rw [List.filter_flatMap]
  congr 1
  funext a
  show List.filter _ _ = _
  rw [List.filter_map]
  show ((begins (plus g n p) (n + 1) (l.drop a)).filter (fun k => decide (k ≠ n))).map _ = _
  rw [begins_plus]

theorem HRow.none_ (w : World) (A : Option Addr) (h : Nat → Nat × Nat) : HRow w A 0 h := fun k hk => by omega
theorem more_del_nil (N : Nat) (A1 : Option Addr) (n c1 c : Nat) (w : World) (hN : w.cell? ⟨N, 0, none⟩ = some (.slice A1 n c1)) (hl : N < w.heap.size) :
    Calls Try.prog 21 #[.slice none 0 c, .func (.func 23) #[] #[.pointer (some ⟨N, 0, none⟩)]] w fun e w' => e = .returned (.slice none 0 c) ∧ Below w.heap.size w w' := by
  have HN := hid hN
  clear hN
  go_enter Try.func21, Try.ntmps21
  go_wp2_with fail
  with_reducible refine (more_idx _ _ _ _ _ 0 _ (fun _ => (0, 0)) _ HN.out hl (HRow.none_ _ _ _) (by omega)).mono ?_
  rintro e w1 ⟨hb, ⟨rfl, _⟩ | ⟨i0, hi0, _⟩⟩
  · go_wp2
    go_ret
    exact ⟨rfl, hb⟩
  · omega
theorem clone_h_zero (a : Addr) (c : Nat) (w : World) :
    Calls Try.prog 22 #[.slice (some a) 0 c] w fun e w' => e = .returned (.slice (some ⟨w.heap.size, 0, none⟩) 0 0) ∧ w' = w.alloc (.cells #[] 36) := by
  have hq := fun W : World => Lib.run_eql_slice_nil (P := Try.prog) W 23 36 (some a) 0 c 0 0 Try.underlying23
  go_enter Try.func22, Try.ntmps22
  go_wp2
  go_ret
  exact ⟨rfl, rfl⟩
theorem clone_h_any (a : Addr) (n c : Nat) (H : List (Nat × Nat)) (w : World) (hn : n = H.length) (hr : HRow w (some a) n (fun k => H.getD k (0, 0))) (hl : n ≤ 1000000) :
    Calls Try.prog 22 #[.slice (some a) n c] w fun e w' => ∃ g cap, e = .returned (.slice (some ⟨g, 0, none⟩) n cap) ∧ RowH w' g n (fun k => H.getD k (0, 0)) ∧ n ≤ cap ∧ w.heap.size ≤ g ∧ Below w.heap.size w w' := by
  by_cases h0 : n = 0
  · subst h0
    refine (clone_h_zero a c w).mono ?_
    rintro e w1 ⟨rfl, rfl⟩
    exact ⟨_, 0, rfl, ⟨0, fun _ => .bool false, World.rowIs_alloc w #[] 36 _ (fun i hi => by simp at hi), by omega, fun k hk => by omega⟩, by omega, Nat.le_refl _, bl_new w _⟩
  · obtain ⟨b, o, e, _⟩ := hr 0 (by omega)
    cases e
    refine (clone_h_some b o n c H w hn hr hl (by omega)).mono ?_
    rintro e w1 ⟨g, cap, rfl, ho, hb⟩
    have hcap : n ≤ cap ∧ w.heap.size ≤ g := by
      rcases ho.2 with ⟨h1, _⟩ | ⟨g', cap', cur, e, h1, h2, h3, _⟩
      · cases h1
      · cases e
        exact ⟨by omega, h1⟩
    exact ⟨g, cap, rfl, ho.rowH hn, hcap.1, hcap.2, hb⟩

set_option maxHeartbeats 2000000 in
set_option maxRecDepth 100000 in
theorem more_large (s : ByteArray) (A : Option Addr) (n c : Nat) (g : Nat → ByteArray) (p : ByteArray) (w : World) (hs : 200 < s.size) (hrow : SRow w A n g) (_ : n ≤ c) (hbig : n * 16 ≤ 140737488351232) :
    Calls Try.prog 5 #[.string s, .slice A n c, .string p] w fun e w' => e = .returned (.bool true) ∧ Below w.heap.size w w' := by
  have hA : A = none → n = 0 := by
    rintro rfl
    rcases Nat.eq_zero_or_pos n with h | h
    · exact h
    · obtain ⟨b, o, e, _⟩ := hrow 0 h
      cases e
  have HR := hid (hrow.keep (bl_new w (.cells #[.slice A n c] 22)))
  have HN0 : Hid ((w.alloc (.cells #[.slice A n c] 22)).cell? ⟨w.heap.size, 0, none⟩ = some (.slice A n c)) := by show _ = _; simp
  have HL0 : Hid (w.heap.size < (w.alloc (.cells #[.slice A n c] 22)).heap.size) := by show _ < _; simp
  have HB0 := hid (bl_new w (.cells #[.slice A n c] 22))
  clear hrow
  go_enter Try.func5, Try.ntmps5
  go_wp2_with fail
  generalize w.alloc (.cells #[.slice A n c] 22) = w0 at *
  with_reducible refine (tries_true _).mono ?_
  rintro e w1 ⟨rfl, hb1⟩
  have HR1 := hid (HR.out.keep hb1)
  have hN1 := (hb1.cell (p := ⟨w.heap.size, 0, none⟩) HL0.out).trans HN0.out
  have hL1 : w.heap.size < w1.heap.size := Nat.lt_of_lt_of_le HL0.out hb1.size
  have HB1 := hid (HB0.out.trans (hb1.mono (Nat.le_of_lt HL0.out)))
  clear HR HN0 HL0 HB0 hb1
  go_wp2_with fail
  with_reducible refine (TFind_large _ _ _ _ s hs).mono ?_
  rintro e w2 ⟨rfl, rfl⟩
  obtain ⟨w2, hw2⟩ : ∃ w2, w2 = w1 := ⟨_, rfl⟩
  subst hw2
  have HR2 := HR1
  have hN2 := hN1
  have hL2 := hL1
  have HB2 := HB1
  go_wp2_with fail
  with_reducible refine (clone_s _ _ _ _ g HR2.out hbig hA).mono ?_
  rintro e w3 ⟨v3, rfl, ho3, hb3⟩
  have HO3 := hid ho3
  have HB3 := hid hb3
  have hsz3 : w2.heap.size ≤ w3.heap.size := hb3.size
  clear ho3 hb3
  go_wp2_with (at_builtin; with_reducible refine app_s rfl _ _ rfl rfl HO3.out _ rfl rfl hsz3 (by omega) ?_)
  intro v4 w4 ho4 hb4
  obtain ⟨A4, c4, rfl, hc4, hr4⟩ := own_srow ho4
  have HR4 := hid hr4
  have HB4 := hid (HB3.out.trans hb4)
  clear ho4 hr4 hb4 HO3 HB3
  go_wp2_with fail
  with_reducible refine (TFind_large _ _ _ _ s hs).mono ?_
  rintro e w5 ⟨rfl, rfl⟩
  go_wp2
  go_ret
  exact ⟨rfl, HB2.out.trans (HB4.out.mono (Nat.le_of_lt hL2))⟩
set_option maxHeartbeats 2000000 in
set_option maxRecDepth 100000 in
theorem more_bad (s : ByteArray) (A : Option Addr) (n c : Nat) (g : Nat → ByteArray) (p : ByteArray) (w : World) (hs : s.size ≤ 200) (hrow : SRow w A n g) (hc : n ≤ c) (hbig : n * 16 ≤ 140737488351232) (hx : patsErr g n ≠ 0) (hy : patsErr (plus g n p) (n + 1) ≠ 0) :
    Calls Try.prog 5 #[.string s, .slice A n c, .string p] w fun e w' => e = .returned (.bool true) ∧ Below w.heap.size w w' := by
  have hA : A = none → n = 0 := by
    rintro rfl
    rcases Nat.eq_zero_or_pos n with h | h
    · exact h
    · obtain ⟨b, o, e, _⟩ := hrow 0 h
      cases e
  have HR := hid (hrow.keep (bl_new w (.cells #[.slice A n c] 22)))
  have HN0 : Hid ((w.alloc (.cells #[.slice A n c] 22)).cell? ⟨w.heap.size, 0, none⟩ = some (.slice A n c)) := by show _ = _; simp
  have HL0 : Hid (w.heap.size < (w.alloc (.cells #[.slice A n c] 22)).heap.size) := by show _ < _; simp
  have HB0 := hid (bl_new w (.cells #[.slice A n c] 22))
  clear hrow
  go_enter Try.func5, Try.ntmps5
  go_wp2_with fail
  generalize w.alloc (.cells #[.slice A n c] 22) = w0 at *
  with_reducible refine (tries_true _).mono ?_
  rintro e w1 ⟨rfl, hb1⟩
  have HR1 := hid (HR.out.keep hb1)
  have hN1 := (hb1.cell (p := ⟨w.heap.size, 0, none⟩) HL0.out).trans HN0.out
  have hL1 : w.heap.size < w1.heap.size := Nat.lt_of_lt_of_le HL0.out hb1.size
  have HB1 := hid (HB0.out.trans (hb1.mono (Nat.le_of_lt HL0.out)))
  clear HR HN0 HL0 HB0 hb1
  go_wp2_with fail
  with_reducible refine (TFind_err _ _ _ _ g s hs HR1.out hc hx).mono ?_
  rintro e w2 ⟨rfl, rfl⟩
  obtain ⟨w2, hw2⟩ : ∃ w2, w2 = w1 := ⟨_, rfl⟩
  subst hw2
  have HR2 := HR1
  have hN2 := hN1
  have hL2 := hL1
  have HB2 := HB1
  go_wp2_with fail
  with_reducible refine (clone_s _ _ _ _ g HR2.out hbig hA).mono ?_
  rintro e w3 ⟨v3, rfl, ho3, hb3⟩
  have HO3 := hid ho3
  have HB3 := hid hb3
  have hsz3 : w2.heap.size ≤ w3.heap.size := hb3.size
  clear ho3 hb3
  go_wp2_with (at_builtin; with_reducible refine app_s rfl _ _ rfl rfl HO3.out _ rfl rfl hsz3 (by omega) ?_)
  intro v4 w4 ho4 hb4
  obtain ⟨A4, c4, rfl, hc4, hr4⟩ := own_srow ho4
  have HR4 := hid hr4
  have HB4 := hid (HB3.out.trans hb4)
  clear ho4 hr4 hb4 HO3 HB3
  go_wp2_with fail
  with_reducible refine (TFind_err _ _ _ _ (plus g n p) s hs HR4.out hc4 hy).mono ?_
  rintro e w5 ⟨rfl, rfl⟩
  have hy1 : (patsErr (plus g n p) (n + 1) != 0) = true := bne_iff_ne.2 hy
  have hx1 : (patsErr g n != 0) = true := bne_iff_ne.2 hx
  go_wp2
  go_ret
  exact ⟨rfl, HB2.out.trans (HB4.out.mono (Nat.le_of_lt hL2))⟩
set_option maxHeartbeats 2000000 in
set_option maxRecDepth 100000 in
theorem more_err (s : ByteArray) (A : Option Addr) (n c : Nat) (g : Nat → ByteArray) (p : ByteArray) (w : World) (hs : s.size ≤ 200) (hrow : SRow w A n g) (hc : n ≤ c) (hbig : n * 16 ≤ 140737488351232) (hx : patsErr g n = 0) (hy : patsErr (plus g n p) (n + 1) ≠ 0) :
    Calls Try.prog 5 #[.string s, .slice A n c, .string p] w fun e w' => e = .returned (.bool true) ∧ Below w.heap.size w w' := by
  have hA : A = none → n = 0 := by
    rintro rfl
    rcases Nat.eq_zero_or_pos n with h | h
    · exact h
    · obtain ⟨b, o, e, _⟩ := hrow 0 h
      cases e
  have HR := hid (hrow.keep (bl_new w (.cells #[.slice A n c] 22)))
  have HN0 : Hid ((w.alloc (.cells #[.slice A n c] 22)).cell? ⟨w.heap.size, 0, none⟩ = some (.slice A n c)) := by show _ = _; simp
  have HL0 : Hid (w.heap.size < (w.alloc (.cells #[.slice A n c] 22)).heap.size) := by show _ < _; simp
  have HB0 := hid (bl_new w (.cells #[.slice A n c] 22))
  clear hrow
  go_enter Try.func5, Try.ntmps5
  go_wp2_with fail
  generalize w.alloc (.cells #[.slice A n c] 22) = w0 at *
  with_reducible refine (tries_true _).mono ?_
  rintro e w1 ⟨rfl, hb1⟩
  have HR1 := hid (HR.out.keep hb1)
  have hN1 := (hb1.cell (p := ⟨w.heap.size, 0, none⟩) HL0.out).trans HN0.out
  have hL1 : w.heap.size < w1.heap.size := Nat.lt_of_lt_of_le HL0.out hb1.size
  have HB1 := hid (HB0.out.trans (hb1.mono (Nat.le_of_lt HL0.out)))
  clear HR HN0 HL0 HB0 hb1
  go_wp2_with fail
  with_reducible refine (TFind_ok _ _ _ _ g s hs HR1.out hc hx).mono ?_
  rintro e w2 ⟨v, rfl, ho, hb2⟩
  obtain ⟨A2, c2, rfl, hc2, hrow2⟩ := ho.row
  obtain ⟨m1, hm1⟩ : ∃ m1, m1 = (hitsL g n (wd s) s.size).length := ⟨_, rfl⟩
  obtain ⟨hf, hhf⟩ : ∃ hf, hf = fun k => (hitsL g n (wd s) s.size).getD k (0, 0) := ⟨_, rfl⟩
  have hn10 := (good_of hx).few
  have hln := hitsL_len g n (wd s) s.size
  have hmul : s.size * n ≤ 2000 := Nat.le_trans (Nat.mul_le_mul hs hn10) (by omega)
  have hm12 : m1 ≤ 2000 := by omega
  rw [← hm1] at hrow2 hc2 ⊢
  rw [← hhf] at hrow2
  have HH2 := hid hrow2
  have HM1 := hid hm1
  have HHF := hid hhf
  have HR2 := hid (HR1.out.keep hb2)
  have hN2 := (hb2.cell (p := ⟨w.heap.size, 0, none⟩) hL1).trans hN1
  have hL2 : w.heap.size < w2.heap.size := Nat.lt_of_lt_of_le hL1 hb2.size
  have HB2 := hid (HB1.out.trans (hb2.mono (Nat.le_of_lt hL1)))
  clear ho hb2 hrow2 hm1 hhf hln hmul hc2
  go_wp2_with fail
  with_reducible refine (clone_s _ _ _ _ g HR2.out hbig hA).mono ?_
  rintro e w3 ⟨v3, rfl, ho3, hb3⟩
  have HO3 := hid ho3
  have HB3 := hid hb3
  have hsz3 : w2.heap.size ≤ w3.heap.size := hb3.size
  clear ho3 hb3
  go_wp2_with (at_builtin; with_reducible refine app_s rfl _ _ rfl rfl HO3.out _ rfl rfl hsz3 (by omega) ?_)
  intro v4 w4 ho4 hb4
  obtain ⟨A4, c4, rfl, hc4, hr4⟩ := own_srow ho4
  have HR4 := hid hr4
  have HB4 := hid (HB3.out.trans hb4)
  clear ho4 hr4 hb4 HO3 HB3
  go_wp2_with fail
  with_reducible refine (TFind_err _ _ _ _ (plus g n p) s hs HR4.out hc4 hy).mono ?_
  rintro e w5 ⟨rfl, rfl⟩
  have hy1 : (patsErr (plus g n p) (n + 1) != 0) = true := bne_iff_ne.2 hy
  go_wp2
  go_ret
  exact ⟨rfl, HB2.out.trans (HB4.out.mono (Nat.le_of_lt hL2))⟩
set_option maxHeartbeats 2000000 in
set_option maxRecDepth 100000 in
theorem more_ok (s : ByteArray) (A : Option Addr) (n c : Nat) (g : Nat → ByteArray) (p : ByteArray) (w : World) (hs : s.size ≤ 200) (hrow : SRow w A n g) (hc : n ≤ c) (hbig : n * 16 ≤ 140737488351232) (hx : patsErr g n = 0) (hy : patsErr (plus g n p) (n + 1) = 0) :
    Calls Try.prog 5 #[.string s, .slice A n c, .string p] w fun e w' => e = .returned (.bool true) ∧ Below w.heap.size w w' := by
  have hA : A = none → n = 0 := by
    rintro rfl
    rcases Nat.eq_zero_or_pos n with h | h
    · exact h
    · obtain ⟨b, o, e, _⟩ := hrow 0 h
      cases e
  have HR := hid (hrow.keep (bl_new w (.cells #[.slice A n c] 22)))
  have HN0 : Hid ((w.alloc (.cells #[.slice A n c] 22)).cell? ⟨w.heap.size, 0, none⟩ = some (.slice A n c)) := by show _ = _; simp
  have HL0 : Hid (w.heap.size < (w.alloc (.cells #[.slice A n c] 22)).heap.size) := by show _ < _; simp
  have HB0 := hid (bl_new w (.cells #[.slice A n c] 22))
  clear hrow
  go_enter Try.func5, Try.ntmps5
  go_wp2_with fail
  generalize w.alloc (.cells #[.slice A n c] 22) = w0 at *
  with_reducible refine (tries_true _).mono ?_
  rintro e w1 ⟨rfl, hb1⟩
  have HR1 := hid (HR.out.keep hb1)
  have hN1 := (hb1.cell (p := ⟨w.heap.size, 0, none⟩) HL0.out).trans HN0.out
  have hL1 : w.heap.size < w1.heap.size := Nat.lt_of_lt_of_le HL0.out hb1.size
  have HB1 := hid (HB0.out.trans (hb1.mono (Nat.le_of_lt HL0.out)))
  clear HR HN0 HL0 HB0 hb1
  go_wp2_with fail
  with_reducible refine (TFind_ok _ _ _ _ g s hs HR1.out hc hx).mono ?_
  rintro e w2 ⟨v, rfl, ho, hb2⟩
  obtain ⟨A2, c2, rfl, hc2, hrow2⟩ := ho.row
  obtain ⟨m1, hm1⟩ : ∃ m1, m1 = (hitsL g n (wd s) s.size).length := ⟨_, rfl⟩
  obtain ⟨hf, hhf⟩ : ∃ hf, hf = fun k => (hitsL g n (wd s) s.size).getD k (0, 0) := ⟨_, rfl⟩
  have hn10 := (good_of hx).few
  have hln := hitsL_len g n (wd s) s.size
  have hmul : s.size * n ≤ 2000 := Nat.le_trans (Nat.mul_le_mul hs hn10) (by omega)
  have hm12 : m1 ≤ 2000 := by omega
  rw [← hm1] at hrow2 hc2 ⊢
  rw [← hhf] at hrow2
  have HH2 := hid hrow2
  have HM1 := hid hm1
  have HHF := hid hhf
  have HR2 := hid (HR1.out.keep hb2)
  have hN2 := (hb2.cell (p := ⟨w.heap.size, 0, none⟩) hL1).trans hN1
  have hL2 : w.heap.size < w2.heap.size := Nat.lt_of_lt_of_le hL1 hb2.size
  have HB2 := hid (HB1.out.trans (hb2.mono (Nat.le_of_lt hL1)))
  clear ho hb2 hrow2 hm1 hhf hln hmul hc2
  go_wp2_with fail
  with_reducible refine (clone_s _ _ _ _ g HR2.out hbig hA).mono ?_
  rintro e w3 ⟨v3, rfl, ho3, hb3⟩
  have HO3 := hid ho3
  have HB3 := hid hb3
  have hsz3 : w2.heap.size ≤ w3.heap.size := hb3.size
  clear ho3 hb3
  go_wp2_with (at_builtin; with_reducible refine app_s rfl _ _ rfl rfl HO3.out _ rfl rfl hsz3 (by omega) ?_)
  intro v4 w4 ho4 hb4
  obtain ⟨A4, c4, rfl, hc4, hr4⟩ := own_srow ho4
  have HR4 := hid hr4
  have HB4 := hid (HB3.out.trans hb4)
  clear ho4 hr4 hb4 HO3 HB3
  go_wp2_with fail
  with_reducible refine (TFind_ok _ _ _ _ (plus g n p) s hs HR4.out hc4 hy).mono ?_
  rintro e w5 ⟨v5, rfl, ho5, hb5⟩
  obtain ⟨A5, c5, rfl, hc5, hrow5⟩ := ho5.row
  obtain ⟨H, hH⟩ : ∃ H, H = hitsL (plus g n p) (n + 1) (wd s) s.size := ⟨_, rfl⟩
  have HKept : Hid (kept n H H.length = hitsL g n (wd s) s.size) := by
    rw [hH]
    exact kept_hits g n p (wd s) s.size
  have hn11 := (good_of hy).few
  have hln := hitsL_len (plus g n p) (n + 1) (wd s) s.size
  have hmul : s.size * (n + 1) ≤ 2000 := Nat.le_trans (Nat.mul_le_mul hs hn11) (by omega)
  rw [← hH] at hrow5 hc5 hln ⊢
  obtain ⟨m, hm⟩ : ∃ m, m = H.length := ⟨_, rfl⟩
  have hm2 : m ≤ 2000 := by omega
  rw [← hm] at hrow5 hc5 ⊢
  have HH5 := hid hrow5
  have HM := hid hm
  have HB45 := hid (HB4.out.trans (hb5.mono (by have := HB4.out.size; omega)))
  have hN5 := (HB45.out.cell (p := ⟨w.heap.size, 0, none⟩) hL2).trans hN2
  have hL5 : w.heap.size < w5.heap.size := Nat.lt_of_lt_of_le hL2 HB45.out.size
  have HB5 := hid (HB2.out.trans (HB45.out.mono (Nat.le_of_lt hL2)))
  have HHl := hid (HH2.out.keep HB45.out)
  clear ho5 hb5 hrow5 hln hmul hH hm HH2
  cases A5 with
  | none =>
    have hm0 : m = 0 := by
      rcases Nat.eq_zero_or_pos m with h | h
      · exact h
      · obtain ⟨b, o, e, _⟩ := HH5.out 0 h
        cases e
    subst hm0
    have HK0 : Hid (m1 = 0) := by
      rw [HM1.out, ← HKept.out]
      have : H = [] := List.eq_nil_of_length_eq_zero HM.out.symm
      rw [this]
      rfl
    go_wp2_with fail
    with_reducible refine (clone_h_nil _ _ _).mono ?_
    rintro e w6 ⟨rfl, rfl⟩
    go_wp2_with fail
    with_reducible refine (more_del_nil _ _ _ _ _ _ hN5 hL5).mono ?_
    rintro e w7 ⟨rfl, hb7⟩
    have HHl7 := hid (HHl.out.keep hb7)
    have HB7 := hid (HB5.out.trans (hb7.mono (Nat.le_of_lt hL5)))
    clear hb7
    go_wp2_with fail
    with_reducible refine (hequal_any (m := 0) (g2 := hf) HHl7.out (HRow.none_ _ _ _) (by unfold maxLen; omega) (by decide)).mono ?_
    rw [show eqH m1 0 hf hf = true from eqH_true.2 ⟨HK0.out, fun _ _ => rfl⟩]
    rintro e w8 ⟨rfl, hd8⟩
    have HD8 := hid hd8
    clear hd8
    go_wp2
    go_ret
    exact ⟨rfl, HB7.out.trans (HD8.out.below _)⟩
  | some a5 =>
    go_wp2_with fail
    with_reducible refine (clone_h_any a5 m c5 H _ HM.out HH5.out (by omega)).mono ?_
    rintro e w6 ⟨g6, c6, rfl, hr6, hc6, hg6, hb6⟩
    have HR6 := hid hr6
    have hN6 := (hb6.cell (p := ⟨w.heap.size, 0, none⟩) hL5).trans hN5
    have hL6 : w.heap.size < w6.heap.size := Nat.lt_of_lt_of_le hL5 hb6.size
    have HB6 := hid (HB5.out.trans (hb6.mono (Nat.le_of_lt hL5)))
    have HHl6 := hid (HHl.out.keep hb6)
    have hNg : w.heap.size ≠ g6 := by omega
    have HLo : Hid (∀ k, k < m1 → ∃ b o, A2 = some ⟨b, o, none⟩ ∧ b ≠ g6) := by
      intro k hk
      obtain ⟨b, o, e, hlt, _⟩ := HHl.out k hk
      exact ⟨b, o, e, by omega⟩
    clear hr6 hb6
    go_wp2_with fail
    with_reducible refine (more_del _ _ _ _ g6 m c6 H _ hN6 hL6 hNg HM.out HR6.out hc6 (by omega)).mono ?_
    rintro e w7 ⟨c7, rfl, hr7, hg7⟩
    rw [HKept.out, ← HM1.out, ← HHF.out] at hr7
    rw [HKept.out, ← HM1.out]
    have HR7 := hid hr7
    have HB7 : Hid (Below w.heap.size w w7) := HB6.out.grown hg7 (by omega) (fun k hk => by injection hk with hk; omega)
    have HHl7 : Hid (HRow w7 A2 m1 hf) := by
      intro k hk
      obtain ⟨b, o, e, hlt, h1, h2⟩ := HHl6.out k hk
      obtain ⟨b', o', e', hne⟩ := HLo.out k hk
      rw [e] at e'
      cases e'
      have hne' : some b ≠ some g6 := fun x => hne (by injection x)
      exact ⟨b, o, e, Nat.lt_of_lt_of_le hlt hg7.size, hg7.cell h1 hne', hg7.cell h2 hne'⟩
    clear hr7 hg7
    go_wp2_with fail
    with_reducible refine (hequal_any HHl7.out HR7.out.row (by unfold maxLen; omega) (by unfold maxLen; omega)).mono ?_
    rw [show eqH m1 m1 hf hf = true from eqH_true.2 ⟨rfl, fun _ _ => rfl⟩]
    rintro e w8 ⟨rfl, hd8⟩
    have HD8 := hid hd8
    clear hd8
    go_wp2
    go_ret
    exact ⟨rfl, HB7.out.trans (HD8.out.below _)⟩

theorem trieMore_walk (s : ByteArray) (A : Option Addr) (n c : Nat) (g : Nat → ByteArray) (p : ByteArray) (w : World) (_ : s.size ≤ 140737488351232) (hrow : SRow w A n g) (hc : n ≤ c) (hbig : n * 16 ≤ 140737488351232) (_ : p.size ≤ 140737488351232) :
    Calls Try.prog 5 #[.string s, .slice A n c, .string p] w fun e w' => e = .returned (.bool true) ∧ Below w.heap.size w w' := by
  by_cases hs : s.size ≤ 200
  · by_cases hx : patsErr g n = 0
    · by_cases hy : patsErr (plus g n p) (n + 1) = 0
      · exact more_ok s A n c g p w hs hrow hc hbig hx hy
      · exact more_err s A n c g p w hs hrow hc hbig hx hy
    · exact more_bad s A n c g p w hs hrow hc hbig hx (plus_err hx)
  · exact more_large s A n c g p w (by omega) hrow hc hbig
end Go.Proofs.Ythfbilaklllelaa
