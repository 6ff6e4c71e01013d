
/-
Edit scripts: what a check of one answers; a text as segments (kept, deleted, inserted) with a tail, so that a script and what undoes it are the same segments; where bytes go; the one edit between two texts. No program is named here.
-/
import Derived.Test.YtgkagigagcamoaaLst
namespace Go.Proofs.Ytgkagigagcamoaa.Es

/-- An edit. -/
structure Ev where
  a : Int
  d : Int
  s : ByteArray
theorem Ev.eq {x y : Ev} (h1 : x.a = y.a) (h2 : x.d = y.d) (h3 : x.s = y.s) : x = y := by cases x; cases y; simp_all
def none_ : Ev := ⟨0, 0, ByteArray.empty⟩
/-- What is wrong with one edit; e: where the one ahead of it ends. -/
def one (n e : Int) (x : Ev) : Int :=
  if x.a < 0 ∨ n < x.a ∨ x.d < 0 ∨ n < x.d ∨ n < x.a + x.d then 1
  else if 40 < x.s.size then 2
  else if x.d = 0 ∧ x.s.size = 0 then 5
  else if x.a ≤ e then 6 else 0
def rowErr (n : Int) : Int → List Ev → Int
  | _, [] => 0
  | e, x :: L => if one n e x = 0 then rowErr n (x.a + x.d) L else one n e x
/-- By how much edits make a text longer. -/
def gro : List Ev → Int
  | [] => 0
  | x :: L => (x.s.size : Int) - x.d + gro L
theorem gro_app (L M : List Ev) : gro (L ++ M) = gro L + gro M := by
  induction L with
  | nil => simp [gro]
  | cons x L ih => rw [List.cons_append]; simp only [gro]; omega
def eErr (n : Int) (L : List Ev) : Int :=
  if n < 0 ∨ 200 < n then 1 else if 20 < L.length then 2 else if rowErr n (-1) L = 0 then (if 200 < n + gro L then 11 else 0) else rowErr n (-1) L
/-- Edits that may follow an end e. -/
def Ch (n : Nat) : Int → List Ev → Prop
  | _, [] => True
  | e, x :: L => (0 ≤ x.a ∧ e < x.a ∧ 0 ≤ x.d ∧ x.a + x.d ≤ (n : Int) ∧ x.s.size ≤ 40 ∧ (0 < x.d ∨ 0 < x.s.size)) ∧ Ch n (x.a + x.d) L
theorem one_zero {n : Nat} {e : Int} {x : Ev} : one n e x = 0 ↔ (0 ≤ x.a ∧ e < x.a ∧ 0 ≤ x.d ∧ x.a + x.d ≤ (n : Int) ∧ x.s.size ≤ 40 ∧ (0 < x.d ∨ 0 < x.s.size)) := by
  unfold one
  split
  · constructor
    · intro h; exact absurd h (by decide)
    · intro h; omega
  · split
    · constructor
      · intro h; exact absurd h (by decide)
      · intro h; omega
    · split
      · constructor
        · intro h; exact absurd h (by decide)
        · intro h; omega
      · split
        · constructor
          · intro h; exact absurd h (by decide)
          · intro h; omega
        · constructor
          · intro _; omega
          · intro _; rfl
theorem row_zero {n : Nat} : ∀ {e : Int} {L : List Ev}, rowErr n e L = 0 ↔ Ch n e L
  | _, [] => by simp [rowErr, Ch]
  | e, x :: L => by
    simp only [rowErr, Ch]
    rw [← one_zero, ← row_zero (L := L)]
    by_cases h : one n e x = 0
    · rw [if_pos h]; exact ⟨fun k => ⟨h, k⟩, fun k => k.2⟩
    · rw [if_neg h]; exact ⟨fun k => absurd k h, fun k => absurd k.1 h⟩
theorem one_few (n e : Int) (x : Ev) : one n e x ≠ 11 ∧ 0 ≤ one n e x := by
  unfold one
  repeat' split
  all_goals decide
theorem row_few (n : Int) : ∀ (e : Int) (L : List Ev), rowErr n e L ≠ 11
  | _, [] => by show (0 : Int) ≠ 11; decide
  | e, x :: L => by
    simp only [rowErr]
    split
    · exact row_few n _ L
    · exact (one_few n e x).1
/-- A row of edits and one more. -/
theorem row_snoc (n : Int) (x : Ev) : ∀ (e : Int) (L : List Ev), rowErr n e (L ++ [x]) = if rowErr n e L = 0 then one n ((L.getLast?.map fun y => y.a + y.d).getD e) x else rowErr n e L
  | e, [] => by
    simp only [List.nil_append, rowErr, List.getLast?_nil, Option.map_none, Option.getD_none]
    split
    · rename_i h; rw [if_pos trivial, h]
    · rfl
  | e, y :: L => by
    rw [List.cons_append]
    have c : ∀ M, rowErr n e (y :: M) = if one n e y = 0 then rowErr n (y.a + y.d) M else one n e y := fun _ => rfl
    by_cases h : one n e y = 0
    · have r1 := c (L ++ [x])
      have r2 := c L
      rw [if_pos h] at r1 r2
      rw [r1, r2, row_snoc n x (y.a + y.d) L]
      congr 2
      cases L with
      | nil => rfl
      | cons z L =>
        rw [List.getLast?_cons_cons]
        obtain ⟨u, hu⟩ : ∃ u, (z :: L).getLast? = some u := ⟨_, List.getLast?_eq_some_getLast (by simp)⟩
        rw [hu]; rfl
    · have r1 := c (L ++ [x])
      have r2 := c L
      rw [if_neg h] at r1 r2
      rw [r1, r2, if_neg h]

/-- A stretch that is kept, one that is deleted, one that is inserted. -/
structure Sg where
  p : List UInt8
  d : List UInt8
  i : List UInt8
def src : List Sg → List UInt8 → List UInt8
  | [], q => q
  | g :: G, q => g.p ++ (g.d ++ src G q)
def dst : List Sg → List UInt8 → List UInt8
  | [], q => q
  | g :: G, q => g.p ++ (g.i ++ dst G q)
/-- The script of the segments, from the place k on. -/
def evs : Nat → List Sg → List Ev
  | _, [] => []
  | k, g :: G => ⟨(k + g.p.length : Nat), (g.d.length : Nat), mkS g.i⟩ :: evs (k + g.p.length + g.d.length) G
def swp (g : Sg) : Sg := ⟨g.p, g.i, g.d⟩
theorem swp_swp (G : List Sg) : (G.map swp).map swp = G := by
  rw [List.map_map]
  have : swp ∘ swp = id := by funext g; cases g; rfl
  rw [this, List.map_id]
theorem src_swp : ∀ (G : List Sg) (q : List UInt8), src (G.map swp) q = dst G q
  | [], q => rfl
  | g :: G, q => by simp only [List.map_cons, src, dst, src_swp G q]; rfl
theorem dst_swp : ∀ (G : List Sg) (q : List UInt8), dst (G.map swp) q = src G q
  | [], q => rfl
  | g :: G, q => by simp only [List.map_cons, src, dst, dst_swp G q]; rfl
theorem evs_len : ∀ (k : Nat) (G : List Sg), (evs k G).length = G.length
  | _, [] => rfl
  | k, g :: G => by simp only [evs, List.length_cons, evs_len _ G]
/-- Segments of a good script. -/
def Gd : Bool → List Sg → Prop
  | _, [] => True
  | f, g :: G => (f = true ∨ 0 < g.p.length) ∧ g.i.length ≤ 40 ∧ (0 < g.d.length ∨ 0 < g.i.length) ∧ Gd false G
theorem Gd.loose : ∀ {f : Bool} {G : List Sg}, Gd f G → Gd true G
  | _, [], _ => trivial
  | _, _ :: _, h => ⟨.inl rfl, h.2⟩
theorem seg_of {s : List UInt8} : ∀ (L : List Ev) (k : Nat) (e : Int) (f : Bool), k ≤ s.length → Ch s.length e L → ((f = false ∧ e = (k : Int)) ∨ (f = true ∧ k = 0 ∧ e = -1)) → ∃ G q, s.drop k = src G q ∧ L = evs k G ∧ Gd f G
  | [], k, _, _, _, _, _ => ⟨[], s.drop k, rfl, rfl, trivial⟩
  | x :: L, k, e, f, hk, h, he => by
    obtain ⟨⟨h1, h2, h3, h4, h5, h6⟩, h7⟩ := h
    obtain ⟨a, ha⟩ := Int.eq_ofNat_of_zero_le h1
    obtain ⟨d, hd⟩ := Int.eq_ofNat_of_zero_le h3
    rw [ha, hd] at h7
    have hka : k ≤ a := by omega
    obtain ⟨G, q, g1, g2, g3⟩ := seg_of L (a + d) ((a : Int) + (d : Int)) false (by omega) h7 (.inl ⟨rfl, by omega⟩)
    refine ⟨⟨(s.drop k).take (a - k), (s.drop a).take d, lst x.s⟩ :: G, q, ?_, ?_, ?_⟩
    · simp only [src]
      rw [← g1]
      have e1 : s.drop (a + d) = (s.drop a).drop d := by rw [List.drop_drop]
      have e2 : s.drop a = (s.drop k).drop (a - k) := by rw [List.drop_drop]; congr 1; omega
      rw [e1, List.take_append_drop, e2, List.take_append_drop]
    · simp only [evs]
      have l1 : ((s.drop k).take (a - k)).length = a - k := by rw [List.length_take, List.length_drop]; omega
      have l2 : ((s.drop a).take d).length = d := by rw [List.length_take, List.length_drop]; omega
      rw [l1, l2, show k + (a - k) = a by omega, mk_lst, ← g2]
      congr 1
      exact Ev.eq ha hd rfl
    · refine ⟨?_, by rw [lst_len]; exact h5, ?_, g3⟩
      · rcases he with ⟨rfl, he⟩ | ⟨rfl, _⟩
        · right; rw [List.length_take, List.length_drop]; omega
        · exact .inl rfl
      · rw [lst_len, List.length_take, List.length_drop]; omega
theorem ch_of (q : List UInt8) : ∀ (G : List Sg) (k N : Nat) (e : Int) (f : Bool), Gd f G → N = k + (src G q).length → e ≤ (k : Int) → (f = true → e < (k : Int)) → Ch N e (evs k G)
  | [], _, _, _, _, _, _, _, _ => trivial
  | g :: G, k, N, e, f, h, hN, he, hf => by
    obtain ⟨h1, h2, h3, h4⟩ := h
    simp only [src, List.length_append] at hN
    have hz : (mkS g.i).size = g.i.length := mk_size _
    refine ⟨⟨by simp only []; omega, ?_, by simp only []; omega, by simp only []; omega, by simp only [hz]; exact h2, by simp only [hz]; omega⟩, ?_⟩
    · rcases h1 with h1 | h1
      · have := hf h1; simp only []; omega
      · simp only []; omega
    · refine ch_of q G (k + g.p.length + g.d.length) N _ false h4 (by omega) (by simp only []; omega) (fun h => by cases h)
theorem gro_evs (q : List UInt8) : ∀ (k : Nat) (G : List Sg), gro (evs k G) = ((dst G q).length : Int) - ((src G q).length : Int)
  | _, [] => by simp [evs, gro, src, dst]
  | k, g :: G => by
    simp only [evs, gro, src, dst, List.length_append]
    rw [gro_evs q _ G, mk_size]
    omega
/-- L is a good script for s, of the segments G with the tail q. -/
structure Scr (s : List UInt8) (L : List Ev) (G : List Sg) (q : List UInt8) : Prop where
  src_ : src G q = s
  evs_ : evs 0 G = L
  good : Gd true G
  few : G.length ≤ 20
  from_ : s.length ≤ 200
  to_ : (dst G q).length ≤ 200
theorem scr_of {s : List UInt8} {L : List Ev} (h : eErr s.length L = 0) : ∃ G q, Scr s L G q := by
  unfold eErr at h
  by_cases h1 : (s.length : Int) < 0 ∨ 200 < (s.length : Int)
  · rw [if_pos h1] at h; exact absurd h (by decide)
  · rw [if_neg h1] at h
    by_cases h2 : 20 < L.length
    · rw [if_pos h2] at h; exact absurd h (by decide)
    · rw [if_neg h2] at h
      by_cases h3 : rowErr s.length (-1) L = 0
      · rw [if_pos h3] at h
        by_cases h4 : 200 < (s.length : Int) + gro L
        · rw [if_pos h4] at h; exact absurd h (by decide)
        · obtain ⟨G, q, g1, g2, g3⟩ := seg_of (s := s) L 0 (-1) true (Nat.zero_le _) (row_zero.1 h3) (.inr ⟨rfl, rfl, rfl⟩)
          rw [List.drop_zero] at g1
          have e := gro_evs q 0 G
          rw [← g2, ← g1] at e
          have e2 := evs_len 0 G
          rw [← g2] at e2
          exact ⟨G, q, g1.symm, g2.symm, g3, by omega, by omega, by omega⟩
      · rw [if_neg h3] at h; exact absurd h h3
theorem Scr.err {s : List UInt8} {L : List Ev} {G : List Sg} {q : List UInt8} (h : Scr s L G q) : eErr s.length L = 0 := by
  have h1 := h.from_
  have h2 := h.to_
  have h3 := h.few
  have e := gro_evs q 0 G
  have e2 := evs_len 0 G
  rw [h.evs_] at e e2
  rw [h.src_] at e
  have hr : rowErr s.length (-1) L = 0 := by
    rw [row_zero, ← h.evs_]
    exact ch_of q G 0 s.length (-1) true h.good (by rw [h.src_, Nat.zero_add]) (by decide) (fun _ => by decide)
  unfold eErr
  rw [if_neg (by omega), if_neg (by omega), if_pos hr, if_neg (by omega)]
/-- All that is deleted is small enough to be put back. -/
def Few (L : List Ev) : Prop := ∀ x, x ∈ L → x.d ≤ 40
theorem few_iff : ∀ (k : Nat) (G : List Sg), Few (evs k G) ↔ ∀ g, g ∈ G → g.d.length ≤ 40
  | _, [] => by simp [Few, evs]
  | k, g :: G => by
    have ih := few_iff (k + g.p.length + g.d.length) G
    unfold Few at ih ⊢
    simp only [evs, List.mem_cons, forall_eq_or_imp]
    rw [ih]
    constructor
    · rintro ⟨h1, h2⟩; exact ⟨by omega, h2⟩
    · rintro ⟨h1, h2⟩; exact ⟨by omega, h2⟩
theorem gd_swp : ∀ {f : Bool} {G : List Sg}, Gd f G → (∀ g, g ∈ G → g.d.length ≤ 40) → Gd f (G.map swp)
  | _, [], _, _ => trivial
  | _, g :: G, h, hd => ⟨h.1, hd g (by simp), h.2.2.1.symm, gd_swp h.2.2.2 fun x hx => hd x (by simp [hx])⟩
theorem few_back : ∀ {f : Bool} {G : List Sg}, Gd f G → ∀ g, g ∈ G.map swp → g.d.length ≤ 40
  | _, [], _, g, hg => by simp at hg
  | _, x :: G, h, g, hg => by
    simp only [List.map_cons, List.mem_cons] at hg
    rcases hg with rfl | hg
    · exact h.2.1
    · exact few_back h.2.2.2 g hg
/-- What undoes a script is a script. -/
theorem Scr.undo {s : List UInt8} {L : List Ev} {G : List Sg} {q : List UInt8} (h : Scr s L G q) (hf : Few L) : Scr (dst G q) (evs 0 (G.map swp)) (G.map swp) q := by
  have hd := (few_iff 0 G).1 (by rw [h.evs_]; exact hf)
  exact ⟨src_swp G q, rfl, gd_swp h.good hd, by rw [List.length_map]; exact h.few, h.to_, by rw [dst_swp, h.src_]; exact h.from_⟩

/-- All edits, the last one first. -/
def doneL (s : List UInt8) : List Ev → List UInt8
  | [] => s
  | x :: L => (doneL s L).take x.a.toNat ++ lst x.s ++ (doneL s L).drop (x.a + x.d).toNat
theorem done_is (q : List UInt8) : ∀ (G : List Sg) (P : List UInt8), doneL (P ++ src G q) (evs P.length G) = P ++ dst G q
  | [], P => rfl
  | g :: G, P => by
    simp only [evs, doneL, src, dst]
    have ih := done_is q G (P ++ g.p ++ g.d)
    rw [List.length_append, List.length_append] at ih
    simp only [List.append_assoc] at ih
    rw [ih, lst_mk]
    have e1 : ((P.length + g.p.length : Nat) : Int).toNat = (P ++ g.p).length := by rw [List.length_append]; omega
    have e2 : (((P.length + g.p.length : Nat) : Int) + (g.d.length : Int)).toNat = (P ++ (g.p ++ g.d)).length := by rw [List.length_append, List.length_append]; omega
    rw [e1, e2]
    have f1 : (P ++ (g.p ++ (g.d ++ dst G q))).take (P ++ g.p).length = P ++ g.p := by
      rw [show P ++ (g.p ++ (g.d ++ dst G q)) = (P ++ g.p) ++ (g.d ++ dst G q) by simp only [List.append_assoc], List.take_left]
    have f2 : (P ++ (g.p ++ (g.d ++ dst G q))).drop (P ++ (g.p ++ g.d)).length = dst G q := by
      rw [show P ++ (g.p ++ (g.d ++ dst G q)) = (P ++ (g.p ++ g.d)) ++ dst G q by simp only [List.append_assoc], List.drop_left]
    rw [f1, f2]
    simp only [List.append_assoc]
theorem Scr.done {s : List UInt8} {L : List Ev} {G : List Sg} {q : List UInt8} (h : Scr s L G q) : doneL s L = dst G q := by
  have := done_is q G []
  rw [List.nil_append, List.nil_append, List.length_nil, h.src_, h.evs_] at this
  exact this
/-- Step by step from the front: what is done when k bytes are used up. -/
def fwd (s : List UInt8) : Nat → List Ev → List UInt8
  | k, [] => s.drop k
  | k, x :: L => (s.drop k).take (x.a.toNat - k) ++ (lst x.s ++ fwd s (x.a + x.d).toNat L)
theorem fwd_is (q : List UInt8) : ∀ (G : List Sg) (P : List UInt8), fwd (P ++ src G q) P.length (evs P.length G) = dst G q
  | [], P => by simp only [evs, fwd, src, dst, List.drop_left]
  | g :: G, P => by
    simp only [evs, fwd, src, dst]
    have ih := fwd_is q G (P ++ g.p ++ g.d)
    rw [List.length_append, List.length_append] at ih
    simp only [List.append_assoc] at ih
    have e2 : (((P.length + g.p.length : Nat) : Int) + (g.d.length : Int)).toNat = P.length + g.p.length + g.d.length := by omega
    have e1 : ((P.length + g.p.length : Nat) : Int).toNat - P.length = g.p.length := by omega
    rw [e2, ih, e1, List.drop_left, List.take_left, lst_mk]
theorem Scr.fwd {s : List UInt8} {L : List Ev} {G : List Sg} {q : List UInt8} (h : Scr s L G q) : fwd s 0 L = dst G q := by
  have := fwd_is q G []
  rw [List.nil_append, List.length_nil, h.src_, h.evs_] at this
  exact this
/-- What undoes each edit; m: by how much the text has grown so far. -/
def undL (s : List UInt8) : Int → List Ev → List Ev
  | _, [] => []
  | m, x :: L => ⟨x.a + m, (x.s.size : Int), mkS ((s.drop x.a.toNat).take x.d.toNat)⟩ :: undL s (m + ((x.s.size : Int) - x.d)) L
theorem und_is (q : List UInt8) : ∀ (G : List Sg) (P : List UInt8) (m : Int) (k : Nat), (k : Int) = (P.length : Int) + m → undL (P ++ src G q) m (evs P.length G) = evs k (G.map swp)
  | [], _, _, _, _ => rfl
  | g :: G, P, m, k, hk => by
    simp only [evs, undL, src, List.map_cons]
    have ih := und_is q G (P ++ g.p ++ g.d) (m + ((g.i.length : Int) - (g.d.length : Int))) (k + g.p.length + g.i.length) (by rw [List.length_append, List.length_append]; omega)
    rw [List.length_append, List.length_append] at ih
    simp only [List.append_assoc] at ih
    rw [mk_size, ih]
    congr 1
    refine Ev.eq ?_ rfl ?_
    · show ((P.length + g.p.length : Nat) : Int) + m = ((k + g.p.length : Nat) : Int); omega
    · show mkS _ = mkS g.d
      rw [Int.toNat_natCast, Int.toNat_natCast]
      rw [show P ++ (g.p ++ (g.d ++ src G q)) = (P ++ g.p) ++ (g.d ++ src G q) by simp only [List.append_assoc], show P.length + g.p.length = (P ++ g.p).length by rw [List.length_append], List.drop_left, List.take_left]
theorem Scr.und {s : List UInt8} {L : List Ev} {G : List Sg} {q : List UInt8} (h : Scr s L G q) : undL s 0 L = evs 0 (G.map swp) := by
  have := und_is q G [] 0 0 (by simp)
  rw [List.nil_append, List.length_nil, h.src_, h.evs_] at this
  exact this

/-- Where a byte goes; m: by how much the text has grown so far. -/
def plc (t : Int) : Int → List Ev → Int × Bool
  | m, [] => (t + m, true)
  | m, x :: L => if t < x.a then (t + m, true) else if t < x.a + x.d then (x.a + m, false) else plc t (m + ((x.s.size : Int) - x.d)) L
theorem plc_is (q : List UInt8) : ∀ (G : List Sg) (k j : Nat) (m : Int), j ≤ (src G q).length →
    ∃ j' : Nat, (plc ((k + j : Nat) : Int) m (evs k G)).1 = ((k + j' : Nat) : Int) + m ∧ j' ≤ (dst G q).length ∧
      ((plc ((k + j : Nat) : Int) m (evs k G)).2 = true → (j = (src G q).length ∧ j' = (dst G q).length) ∨ (j < (src G q).length ∧ j' < (dst G q).length ∧ (dst G q).getD j' 0 = (src G q).getD j 0))
  | [], k, j, m, hj => by
    refine ⟨j, rfl, hj, fun _ => ?_⟩
    simp only [src, dst] at hj ⊢
    by_cases h : j = q.length
    · exact .inl ⟨h, h⟩
    · exact .inr ⟨by omega, by omega, trivial⟩
  | g :: G, k, j, m, hj => by
    simp only [src, List.length_append] at hj
    by_cases h1 : j < g.p.length
    · have e : plc ((k + j : Nat) : Int) m (evs k (g :: G)) = (((k + j : Nat) : Int) + m, true) := by
        simp only [evs, plc]
        exact if_pos (by omega)
      rw [e]
      refine ⟨j, rfl, by simp only [dst, List.length_append]; omega, fun _ => .inr ⟨by simp only [src, List.length_append]; omega, by simp only [dst, List.length_append]; omega, ?_⟩⟩
      simp only [src, dst, List.getD_eq_getElem?_getD]
      rw [List.getElem?_append_left h1, List.getElem?_append_left h1]
    · by_cases h2 : j < g.p.length + g.d.length
      · have e : plc ((k + j : Nat) : Int) m (evs k (g :: G)) = (((k + g.p.length : Nat) : Int) + m, false) := by
          simp only [evs, plc]
          rw [if_neg (by omega)]
          exact if_pos (by omega)
        rw [e]
        exact ⟨g.p.length, rfl, by simp only [dst, List.length_append]; omega, fun h => by cases h⟩
      · obtain ⟨j2, rfl⟩ : ∃ j2, j = g.p.length + g.d.length + j2 := ⟨j - (g.p.length + g.d.length), by omega⟩
        have e : plc ((k + (g.p.length + g.d.length + j2) : Nat) : Int) m (evs k (g :: G)) = plc ((k + g.p.length + g.d.length + j2 : Nat) : Int) (m + ((g.i.length : Int) - (g.d.length : Int))) (evs (k + g.p.length + g.d.length) G) := by
          simp only [evs, plc, mk_size]
          rw [if_neg (by omega), if_neg (by omega)]
          congr 1; omega
        obtain ⟨j', i1, i2, i3⟩ := plc_is q G (k + g.p.length + g.d.length) j2 (m + ((g.i.length : Int) - (g.d.length : Int))) (by omega)
        rw [e]
        refine ⟨g.p.length + g.i.length + j', by rw [i1]; omega, by simp only [dst, List.length_append]; omega, fun h => ?_⟩
        simp only [src, dst, List.length_append]
        rcases i3 h with ⟨a1, a2⟩ | ⟨a1, a2, a3⟩
        · exact .inl ⟨by omega, by omega⟩
        · refine .inr ⟨by omega, by omega, ?_⟩
          rw [List.getD_eq_getElem?_getD, List.getD_eq_getElem?_getD, List.getElem?_append_right (by omega), List.getElem?_append_right (by omega), List.getElem?_append_right (by omega), List.getElem?_append_right (by omega), ← List.getD_eq_getElem?_getD, ← List.getD_eq_getElem?_getD]
          have e1 : g.p.length + g.i.length + j' - g.p.length - g.i.length = j' := by omega
          have e2 : g.p.length + g.d.length + j2 - g.p.length - g.d.length = j2 := by omega
          rw [e1, e2]
          exact a3
/-- Bytes keep their order. -/
theorem plc_mono (q : List UInt8) : ∀ (G : List Sg) (k i j : Nat) (m : Int), i ≤ j → j ≤ (src G q).length →
    (plc ((k + i : Nat) : Int) m (evs k G)).1 ≤ (plc ((k + j : Nat) : Int) m (evs k G)).1 ∧
      ((plc ((k + i : Nat) : Int) m (evs k G)).2 = true → (plc ((k + j : Nat) : Int) m (evs k G)).2 = true → i < j → (plc ((k + i : Nat) : Int) m (evs k G)).1 < (plc ((k + j : Nat) : Int) m (evs k G)).1)
  | [], k, i, j, m, hij, _ => by
    simp only [evs, plc]
    exact ⟨by omega, fun _ _ h => by omega⟩
  | g :: G, k, i, j, m, hij, hj => by
    simp only [src, List.length_append] at hj
    have start : ∀ j2 : Nat, j2 ≤ (src G q).length → ((k + g.p.length + g.i.length : Nat) : Int) + m ≤ (plc ((k + g.p.length + g.d.length + j2 : Nat) : Int) (m + ((g.i.length : Int) - (g.d.length : Int))) (evs (k + g.p.length + g.d.length) G)).1 := by
      intro j2 h2
      obtain ⟨j', i1, _, _⟩ := plc_is q G (k + g.p.length + g.d.length) j2 (m + ((g.i.length : Int) - (g.d.length : Int))) h2
      rw [i1]; omega
    have below : ∀ j : Nat, j < g.p.length → plc ((k + j : Nat) : Int) m (evs k (g :: G)) = (((k + j : Nat) : Int) + m, true) := by
      intro j h
      simp only [evs, plc]
      exact if_pos (by omega)
    have mid : ∀ j : Nat, ¬ j < g.p.length → j < g.p.length + g.d.length → plc ((k + j : Nat) : Int) m (evs k (g :: G)) = (((k + g.p.length : Nat) : Int) + m, false) := by
      intro j h1 h2
      simp only [evs, plc]
      rw [if_neg (by omega)]
      exact if_pos (by omega)
    have far : ∀ j2 : Nat, plc ((k + (g.p.length + g.d.length + j2) : Nat) : Int) m (evs k (g :: G)) = plc ((k + g.p.length + g.d.length + j2 : Nat) : Int) (m + ((g.i.length : Int) - (g.d.length : Int))) (evs (k + g.p.length + g.d.length) G) := by
      intro j2
      simp only [evs, plc, mk_size]
      rw [if_neg (by omega), if_neg (by omega)]
      congr 1; omega
    by_cases h2 : j < g.p.length + g.d.length
    · by_cases h1 : j < g.p.length
      · rw [below i (by omega), below j h1]
        exact ⟨by simp only []; omega, fun _ _ h => by simp only []; omega⟩
      · rw [mid j h1 h2]
        by_cases h3 : i < g.p.length
        · rw [below i h3]
          exact ⟨by simp only []; omega, fun _ h => by cases h⟩
        · rw [mid i h3 (by omega)]
          exact ⟨Int.le_refl _, fun h => by cases h⟩
    · obtain ⟨j2, rfl⟩ : ∃ j2, j = g.p.length + g.d.length + j2 := ⟨j - (g.p.length + g.d.length), by omega⟩
      rw [far]
      have hs := start j2 (by omega)
      by_cases h3 : i < g.p.length + g.d.length
      · by_cases h1 : i < g.p.length
        · rw [below i h1]
          exact ⟨by simp only []; omega, fun _ _ _ => by simp only []; omega⟩
        · rw [mid i h1 h3]
          exact ⟨by simp only []; omega, fun h => by cases h⟩
      · obtain ⟨i2, rfl⟩ : ∃ i2, i = g.p.length + g.d.length + i2 := ⟨i - (g.p.length + g.d.length), by omega⟩
        rw [far]
        have := plc_mono q G (k + g.p.length + g.d.length) i2 j2 (m + ((g.i.length : Int) - (g.d.length : Int))) (by omega) (by omega)
        exact ⟨this.1, fun a b c => this.2 a b (by omega)⟩
theorem dst_len (q : List UInt8) : ∀ {f : Bool} {G : List Sg}, Gd f G → (dst G q).length ≤ (src G q).length + 40 * G.length
  | _, [], _ => by simp [dst, src]
  | _, g :: G, h => by
    have := dst_len q h.2.2.2
    have := h.2.1
    simp only [dst, src, List.length_append, List.length_cons]
    omega
theorem gd_drop : ∀ {f : Bool} {G : List Sg} (j : Nat), Gd f G → Gd true (G.drop j)
  | _, [], j, _ => by rw [List.drop_nil]; trivial
  | _, _ :: _, 0, h => h.loose
  | _, g :: G, j + 1, h => by rw [List.drop_succ_cons]; exact gd_drop j h.2.2.2
/-- A good script, cut at its j-th edit. -/
theorem Scr.at_ {s : List UInt8} {L : List Ev} {G : List Sg} {q : List UInt8} (h : Scr s L G q) : ∀ j, j ≤ G.length → ∃ P, s = P ++ src (G.drop j) q ∧ L.drop j = evs P.length (G.drop j) ∧ (0 < j → (L.getD (j - 1) none_).a + (L.getD (j - 1) none_).d = (P.length : Nat)) := by
  intro j
  induction j with
  | zero => exact fun _ => ⟨[], by rw [List.nil_append, List.drop_zero, h.src_], by rw [List.drop_zero, List.drop_zero, List.length_nil, h.evs_], fun h => absurd h (Nat.lt_irrefl _)⟩
  | succ j ih =>
    intro hj
    obtain ⟨P, h1, h2, _⟩ := ih (by omega)
    have hG : G.drop j = G[j] :: G.drop (j + 1) := List.drop_eq_getElem_cons (by omega)
    rw [hG] at h1 h2
    simp only [src, evs] at h1 h2
    have hl : j < L.length := by
      have : (L.drop j).length = L.length - j := List.length_drop
      rw [h2, List.length_cons] at this
      omega
    have hL : L.drop j = L[j] :: L.drop (j + 1) := List.drop_eq_getElem_cons hl
    rw [hL] at h2
    injection h2 with e1 e2
    refine ⟨P ++ G[j].p ++ G[j].d, ?_, ?_, fun _ => ?_⟩
    · rw [h1]; simp only [List.append_assoc]
    · rw [e2, List.length_append, List.length_append]
    · rw [Nat.add_sub_cancel, List.getD_eq_getElem?_getD, List.getElem?_eq_getElem hl, Option.getD_some, e1, List.length_append, List.length_append]
      simp only []
      omega
/-- What the edits from the j-th on make. -/
theorem Scr.done_at {s : List UInt8} {L : List Ev} {G : List Sg} {q : List UInt8} (h : Scr s L G q) {j : Nat} (hj : j ≤ G.length) : (doneL s (L.drop j)).length ≤ 1000 ∧ (0 < j → (L.getD (j - 1) none_).a + (L.getD (j - 1) none_).d ≤ (doneL s (L.drop j)).length) := by
  obtain ⟨P, h1, h2, h3⟩ := h.at_ j hj
  have e : doneL s (L.drop j) = P ++ dst (G.drop j) q := by
    rw [h2]
    conv => lhs; rw [h1]
    exact done_is q _ P
  have hl := dst_len q (gd_drop j h.good)
  have h5 := congrArg List.length h1
  have h6 := h.from_
  have h7 := h.few
  rw [List.length_append] at h5
  rw [List.length_drop] at hl
  rw [e, List.length_append]
  refine ⟨by omega, fun h0 => ?_⟩
  rw [h3 h0]; omega
/-- Each edit of a good script is in its bounds, and behind the ones ahead of it. -/
theorem ch_at {n : Nat} : ∀ {e : Int} {L : List Ev} (j : Nat), Ch n e L → j < L.length → 0 ≤ (L.getD j none_).a ∧ e < (L.getD j none_).a ∧ 0 ≤ (L.getD j none_).d ∧ (L.getD j none_).a + (L.getD j none_).d ≤ (n : Int) ∧ (L.getD j none_).s.size ≤ 40
  | _, [], j, _, h => by simp at h
  | _, x :: L, 0, h, _ => by
    obtain ⟨⟨h1, h2, h3, h4, h5, _⟩, _⟩ := h
    exact ⟨h1, h2, h3, h4, h5⟩
  | e, x :: L, j + 1, h, hj => by
    have h' := h
    obtain ⟨⟨h1, h2, h3, h4, h5, _⟩, h7⟩ := h'
    have := ch_at (e := x.a + x.d) j h7 (by simpa using hj)
    obtain ⟨a1, a2, a3, a4, a5⟩ := this
    have e1 : (x :: L).getD (j + 1) none_ = L.getD j none_ := rfl
    rw [e1]
    exact ⟨a1, by omega, a3, a4, a5⟩
theorem ch_pair {n : Nat} : ∀ {e : Int} {L : List Ev} (i j : Nat), Ch n e L → i < j → j < L.length → (L.getD i none_).a + (L.getD i none_).d < (L.getD j none_).a
  | _, [], _, j, _, _, h => by simp at h
  | _, x :: L, 0, j + 1, h, _, hj => (ch_at (e := x.a + x.d) j h.2 (by simpa using hj)).2.1
  | _, x :: L, i + 1, j + 1, h, hij, hj => ch_pair (e := x.a + x.d) i j h.2 (by omega) (by simpa using hj)
theorem Scr.ch {s : List UInt8} {L : List Ev} {G : List Sg} {q : List UInt8} (h : Scr s L G q) : Ch s.length (-1) L := by
  rw [← h.evs_]
  exact ch_of q G 0 s.length (-1) true h.good (by rw [h.src_, Nat.zero_add]) (by decide) (fun _ => by decide)
theorem Scr.len {s : List UInt8} {L : List Ev} {G : List Sg} {q : List UInt8} (h : Scr s L G q) : L.length = G.length := by rw [← h.evs_, evs_len]
/-- Edits that end ahead of t are passed. -/
theorem plc_pass (t : Int) : ∀ (L : List Ev) (m : Int) (k : Nat), k ≤ L.length → (∀ j, j < k → (L.getD j none_).a + (L.getD j none_).d ≤ t ∧ 0 ≤ (L.getD j none_).d) → plc t m L = plc t (m + gro (L.take k)) (L.drop k)
  | L, m, 0, _, _ => by rw [List.take_zero, List.drop_zero]; simp [gro]
  | [], m, k + 1, h, _ => by simp at h
  | x :: L, m, k + 1, h, hp => by
    have h0 := hp 0 (by omega)
    have e0 : (x :: L).getD 0 none_ = x := rfl
    rw [e0] at h0
    have ih := plc_pass t L (m + ((x.s.size : Int) - x.d)) k (by simpa using h) (fun j hj => hp (j + 1) (by omega))
    rw [List.take_succ_cons, List.drop_succ_cons]
    simp only [plc, gro]
    rw [if_neg (by omega), if_neg (by omega), ih]
    congr 1; omega
theorem plc_hit {n : Nat} {L : List Ev} {t : Int} {e : Int} (hc : Ch n e L) {i : Nat} (hi : i < L.length) (h1 : (L.getD i none_).a ≤ t) (h2 : t < (L.getD i none_).a + (L.getD i none_).d) : plc t 0 L = ((L.getD i none_).a + gro (L.take i), false) := by
  rw [plc_pass t L 0 i (by omega) (fun j hj => ⟨by have := ch_pair j i hc hj hi; omega, (ch_at j hc (by omega)).2.2.1⟩)]
  have hd : L.drop i = L[i] :: L.drop (i + 1) := List.drop_eq_getElem_cons hi
  have hg : L.getD i none_ = L[i] := by rw [List.getD_eq_getElem?_getD, List.getElem?_eq_getElem hi]; rfl
  rw [hg] at h1 h2 ⊢
  rw [hd]
  simp only [plc]
  rw [if_neg (by omega), if_pos (by omega), Int.zero_add]
theorem plc_miss {n : Nat} {L : List Ev} {t : Int} {e : Int} (hc : Ch n e L) {i : Nat} (hi : i ≤ L.length) (h1 : ∀ j, j < i → (L.getD j none_).a + (L.getD j none_).d ≤ t) (h2 : i < L.length → t < (L.getD i none_).a) : plc t 0 L = (t + gro (L.take i), true) := by
  rw [plc_pass t L 0 i hi (fun j hj => ⟨h1 j hj, (ch_at j hc (by omega)).2.2.1⟩), Int.zero_add]
  by_cases h : i < L.length
  · have hd : L.drop i = L[i] :: L.drop (i + 1) := List.drop_eq_getElem_cons h
    have hg : L.getD i none_ = L[i] := by rw [List.getD_eq_getElem?_getD, List.getElem?_eq_getElem h]; rfl
    have := h2 h
    rw [hg] at this
    rw [hd]
    simp only [plc]
    rw [if_pos this]
  · rw [List.drop_eq_nil_of_le (by omega)]; rfl
end Go.Proofs.Ytgkagigagcamoaa.Es
