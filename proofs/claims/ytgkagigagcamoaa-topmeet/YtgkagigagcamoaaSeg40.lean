/-
Several texts of this proof, one behind the other.
-/
import Derived.Test.YtgkagigagcamoaaShMath
import Derived.Test.YtgkagigagcamoaaMgMath

/-
A script byte by byte: its edits, the last one first, as takes and puts of one byte. What they make of a text is what the script makes of it; and of two scripts that don't touch, the one's ops past the other's are the ops of what is left of it behind the other. No program is named here.
-/
namespace Go.Proofs.Ytgkagigagcamoaa.Tm
open Es (Ev gro Ch doneL upTo behL has)

def puts : Int → List UInt8 → List Sh.Op
  | _, [] => []
  | a, c :: t => ⟨1, a, c⟩ :: puts (a + 1) t
def take_ (a : Int) : Sh.Op := ⟨2, a, 0⟩
def eops (x : Ev) : List Sh.Op := List.replicate x.d.toNat (take_ x.a) ++ puts x.a (lst x.s)
def oops : List Ev → List Sh.Op
  | [] => []
  | x :: L => oops L ++ eops x
theorem oops_app (A B : List Ev) : oops (A ++ B) = oops B ++ oops A := by
  induction A with
  | nil => simp [oops]
  | cons x A ih => rw [List.cons_append]; simp only [oops]; rw [ih, List.append_assoc]
/-- An op at a place by d further on. -/
def mv (d : Int) (x : Sh.Op) : Sh.Op := ⟨x.k, x.a + d, x.b⟩
theorem mv_mv (d e : Int) (x : Sh.Op) : mv e (mv d x) = mv (d + e) x := by
  unfold mv; simp only [Sh.Op.mk.injEq, true_and, and_true]; omega
theorem mv_zero (x : Sh.Op) : mv 0 x = x := by unfold mv; rw [Int.add_zero]
def sh (d : Int) (L : List Sh.Op) : List Sh.Op := L.map (mv d)
theorem sh_sh (d e : Int) (L : List Sh.Op) : sh e (sh d L) = sh (d + e) L := by
  unfold sh; rw [List.map_map]; exact List.map_congr_left fun x _ => mv_mv d e x
theorem sh_zero (L : List Sh.Op) : sh 0 L = L := by
  unfold sh; rw [List.map_congr_left (g := id) fun x _ => mv_zero x, List.map_id]
theorem sh_app (d : Int) (L M : List Sh.Op) : sh d (L ++ M) = sh d L ++ sh d M := List.map_append
def K2 (x : Sh.Op) : Prop := x.k = 1 ∨ x.k = 2
theorem past_lo {x y : Sh.Op} (f : Bool) (hx : K2 x) (hy : K2 y) (h : x.a < y.a) : Sh.past x y f = x := by
  unfold Sh.past
  unfold K2 at hx hy
  rw [if_neg (by omega), if_neg (by omega)]
  split
  · rw [if_neg (by omega)]
  · rw [if_neg (by omega)]
theorem past_hi {x y : Sh.Op} (f : Bool) (hx : K2 x) (hy : K2 y) (h : y.a < x.a) : Sh.past x y f = mv (Sh.lon y) x := by
  unfold Sh.past Sh.lon mv
  unfold K2 at hx hy
  rw [if_neg (by omega), if_neg (by omega)]
  by_cases h1 : y.k = 1
  · rw [if_pos h1, if_pos (.inl h), if_pos h1]
  · rw [if_neg h1, if_pos h, if_neg h1, if_pos (by omega)]
    rfl
theorem thru_app (x : Sh.Op) (B C : List Sh.Op) : Sh.thru x (B ++ C) = ((Sh.thru (Sh.thru x B).1 C).1, (Sh.thru x B).2 ++ (Sh.thru (Sh.thru x B).1 C).2) := by
  induction B generalizing x with
  | nil => rfl
  | cons y B ih => rw [List.cons_append]; simp only [Sh.thru]; rw [ih]; rfl
theorem allA_app (A C B : List Sh.Op) : (Sh.allA (A ++ C) B).2 = (Sh.allA C (Sh.allA A B).2).2 := by
  induction A generalizing B with
  | nil => rfl
  | cons x A ih => rw [List.cons_append]; simp only [Sh.allA]; rw [ih]
theorem thru_hi : ∀ {B : List Sh.Op} {x : Sh.Op}, K2 x → (∀ y, y ∈ B → K2 y ∧ x.a < y.a) → Sh.thru x B = (x, sh (Sh.lon x) B)
  | [], _, _, _ => rfl
  | y :: B, x, hx, h => by
    obtain ⟨hy, hl⟩ := h y (by simp)
    simp only [Sh.thru]
    rw [past_lo true hx hy hl, past_hi false hy hx hl, thru_hi hx fun z hz => h z (by simp [hz])]
    rfl
theorem thru_takes : ∀ (m : Nat) {a : Int} {x : Sh.Op}, K2 x → a + (m : Int) < x.a → Sh.thru x (List.replicate m (take_ a)) = (mv (-(m : Int)) x, List.replicate m (take_ a))
  | 0, a, x, _, _ => by
    show (x, []) = _
    rw [show (-((0 : Nat) : Int)) = 0 by omega, mv_zero]
    rfl
  | m + 1, a, x, hx, h => by
    have hk : K2 (take_ a) := .inr rfl
    have hl : (take_ a).a < x.a := by show a < x.a; omega
    have e : Sh.lon (take_ a) = -1 := rfl
    rw [List.replicate_succ]
    simp only [Sh.thru]
    rw [past_hi true hx hk hl, past_lo false hk hx hl, e, thru_takes m (x := mv (-1) x) hx (by show _ < x.a + -1; omega), mv_mv]
    rw [show (-1 + -(m : Int)) = -((m + 1 : Nat) : Int) by omega]
theorem thru_puts : ∀ (l : List UInt8) {a : Int} {x : Sh.Op}, K2 x → a < x.a → Sh.thru x (puts a l) = (mv (l.length : Int) x, puts a l)
  | [], a, x, _, _ => by
    show (x, []) = _
    rw [List.length_nil, show ((0 : Nat) : Int) = 0 by rfl, mv_zero]
    rfl
  | c :: l, a, x, hx, h => by
    have hk : K2 ⟨1, a, c⟩ := .inl rfl
    simp only [puts, Sh.thru]
    have e : Sh.lon ⟨1, a, c⟩ = 1 := rfl
    rw [past_hi true hx hk h, past_lo false hk hx h, e, thru_puts l (x := mv 1 x) hx (by show _ < x.a + 1; omega), mv_mv]
    rw [List.length_cons, show (1 + (l.length : Int)) = ((l.length + 1 : Nat) : Int) by omega]
/-- By how much one edit makes a text longer. -/
def gr (x : Ev) : Int := (x.s.size : Int) - x.d
theorem thru_eops {f : Ev} {x : Sh.Op} (hx : K2 x) (hd : 0 ≤ f.d) (h : f.a + f.d < x.a) : Sh.thru x (eops f) = (mv (gr f) x, eops f) := by
  unfold eops
  rw [thru_app, thru_takes _ hx (by omega)]
  simp only
  rw [thru_puts _ (x := mv (-((f.d.toNat : Nat) : Int)) x) hx (by show _ < x.a + _; omega), mv_mv, lst_len]
  simp only
  rw [show (-((f.d.toNat : Nat) : Int) + (f.s.size : Int)) = gr f by unfold gr; omega]
/-- Edits one behind the other, that don't touch. -/
def Apart (L : List Ev) : Prop := L.Pairwise fun x y => x.a + x.d < y.a
theorem room : ∀ {B : List Ev} {e X : Int}, Apart B → (∀ f, f ∈ B → 0 ≤ f.d ∧ e < f.a ∧ f.a + f.d < X) → e < X → e < X + gro B
  | [], e, X, _, _, h => by simp only [gro]; omega
  | g :: B, e, X, ha, hf, h => by
    obtain ⟨h1, h2⟩ := List.pairwise_cons.1 ha
    obtain ⟨g1, g2, g3⟩ := hf g (by simp)
    have ih := room (e := g.a + g.d) (X := X) h2 (fun f hm => ⟨(hf f (by simp [hm])).1, h1 f hm, (hf f (by simp [hm])).2.2⟩) g3
    simp only [gro]
    omega
theorem thru_oops : ∀ {B : List Ev} {x : Sh.Op}, K2 x → Apart B → (∀ f, f ∈ B → 0 ≤ f.d ∧ f.a + f.d < x.a) → Sh.thru x (oops B) = (mv (gro B) x, oops B)
  | [], x, _, _, _ => by
    show (x, []) = _
    simp only [gro, oops]
    rw [mv_zero]
  | f :: B, x, hx, ha, h => by
    obtain ⟨h1, h2⟩ := List.pairwise_cons.1 ha
    obtain ⟨f1, f2⟩ := h f (by simp)
    have hr := room (e := f.a + f.d) (X := x.a) h2 (fun g hg => ⟨(h g (by simp [hg])).1, h1 g hg, (h g (by simp [hg])).2⟩) f2
    simp only [oops]
    rw [thru_app, thru_oops hx h2 fun g hg => h g (by simp [hg])]
    simp only
    rw [thru_eops (x := mv (gro B) x) hx f1 hr, mv_mv]
    simp only [gro]
    rw [show gro B + gr f = (f.s.size : Int) - f.d + gro B by unfold gr; omega]
theorem thru_mid {Hi : List Sh.Op} {B : List Ev} {x : Sh.Op} (hx : K2 x) (hh : ∀ y, y ∈ Hi → K2 y ∧ x.a < y.a) (ha : Apart B) (hb : ∀ f, f ∈ B → 0 ≤ f.d ∧ f.a + f.d < x.a) :
    (Sh.thru x (Hi ++ oops B)).2 = sh (Sh.lon x) Hi ++ oops B := by
  rw [thru_app, thru_hi hx hh]
  simp only
  rw [thru_oops hx ha hb]
theorem sh_in {d : Int} {L : List Sh.Op} {y : Sh.Op} (h : y ∈ sh d L) : ∃ z, z ∈ L ∧ y = mv d z := by
  obtain ⟨z, hz, rfl⟩ := List.mem_map.1 h
  exact ⟨z, hz, rfl⟩
theorem all_takes : ∀ (m : Nat) {a : Int} {Hi : List Sh.Op} {B : List Ev}, (∀ y, y ∈ Hi → K2 y ∧ a + (m : Int) < y.a) → Apart B → (∀ f, f ∈ B → 0 ≤ f.d ∧ f.a + f.d < a) →
    (Sh.allA (List.replicate m (take_ a)) (Hi ++ oops B)).2 = sh (-(m : Int)) Hi ++ oops B
  | 0, a, Hi, B, _, _, _ => by
    rw [show (-((0 : Nat) : Int)) = 0 by omega, sh_zero]; rfl
  | m + 1, a, Hi, B, h, ha, hb => by
    rw [List.replicate_succ]
    simp only [Sh.allA]
    rw [thru_mid (.inr rfl) (fun y hy => ⟨(h y hy).1, by have := (h y hy).2; show a < y.a; omega⟩) ha hb, show Sh.lon (take_ a) = -1 from rfl]
    rw [all_takes m (fun y hy => by
      obtain ⟨z, hz, rfl⟩ := sh_in hy
      exact ⟨(h z hz).1, by have := (h z hz).2; show _ < z.a + -1; omega⟩) ha hb, sh_sh]
    rw [show (-1 + -(m : Int)) = -((m + 1 : Nat) : Int) by omega]
theorem all_puts : ∀ (l : List UInt8) {a : Int} {Hi : List Sh.Op} {B : List Ev}, (∀ y, y ∈ Hi → K2 y ∧ a < y.a) → Apart B → (∀ f, f ∈ B → 0 ≤ f.d ∧ f.a + f.d < a) →
    (Sh.allA (puts a l) (Hi ++ oops B)).2 = sh (l.length : Int) Hi ++ oops B
  | [], a, Hi, B, _, _, _ => by
    rw [List.length_nil, show ((0 : Nat) : Int) = 0 from rfl, sh_zero]; rfl
  | c :: l, a, Hi, B, h, ha, hb => by
    simp only [puts, Sh.allA]
    rw [thru_mid (.inl rfl) (fun y hy => h y hy) ha hb, show Sh.lon ⟨1, a, c⟩ = 1 from rfl]
    rw [all_puts l (fun y hy => by
      obtain ⟨z, hz, rfl⟩ := sh_in hy
      exact ⟨(h z hz).1, by have := (h z hz).2; show _ < z.a + 1; omega⟩) ha (fun f hf => ⟨(hb f hf).1, by have := (hb f hf).2; omega⟩), sh_sh]
    rw [List.length_cons, show (1 + (l.length : Int)) = ((l.length + 1 : Nat) : Int) by omega]
theorem all_eops {e : Ev} {Hi : List Sh.Op} {B : List Ev} (hd : 0 ≤ e.d) (h : ∀ y, y ∈ Hi → K2 y ∧ e.a + e.d < y.a) (ha : Apart B) (hb : ∀ f, f ∈ B → 0 ≤ f.d ∧ f.a + f.d < e.a) :
    (Sh.allA (eops e) (Hi ++ oops B)).2 = sh (gr e) Hi ++ oops B := by
  unfold eops
  rw [allA_app, all_takes _ (fun y hy => ⟨(h y hy).1, by have := (h y hy).2; omega⟩) ha hb, all_puts _ (fun y hy => by
    obtain ⟨z, hz, rfl⟩ := sh_in hy
    exact ⟨(h z hz).1, by have := (h z hz).2; show _ < z.a + -_; omega⟩) ha hb, sh_sh, lst_len]
  rw [show (-((e.d.toNat : Nat) : Int) + (e.s.size : Int)) = gr e by unfold gr; omega]
theorem puts_in : ∀ {l : List UInt8} {a : Int} {y : Sh.Op}, y ∈ puts a l → y.k = 1 ∧ a ≤ y.a ∧ y.a < a + l.length
  | [], _, _, h => by simp [puts] at h
  | c :: l, a, y, h => by
    simp only [puts, List.mem_cons] at h
    rcases h with rfl | h
    · exact ⟨rfl, Int.le_refl _, by simp only [List.length_cons]; omega⟩
    · have := puts_in h
      simp only [List.length_cons]
      exact ⟨this.1, by omega, by omega⟩
theorem eops_in {e : Ev} {y : Sh.Op} (h : y ∈ eops e) : K2 y ∧ e.a ≤ y.a := by
  unfold eops at h
  rcases List.mem_append.1 h with h | h
  · obtain ⟨-, rfl⟩ := List.mem_replicate.1 h
    exact ⟨.inr rfl, Int.le_refl _⟩
  · have := puts_in h
    exact ⟨.inl this.1, this.2.1⟩
theorem oops_in : ∀ {L : List Ev} {y : Sh.Op}, y ∈ oops L → ∃ e, e ∈ L ∧ y ∈ eops e
  | [], _, h => by simp [oops] at h
  | x :: L, y, h => by
    simp only [oops, List.mem_append] at h
    rcases h with h | h
    · obtain ⟨e, he, hy⟩ := oops_in h
      exact ⟨e, by simp [he], hy⟩
    · exact ⟨x, by simp, h⟩
/-- An edit at a place by d further on. -/
def mvE (d : Int) (x : Ev) : Ev := ⟨x.a + d, x.d, x.s⟩
theorem sh_puts (d : Int) : ∀ (l : List UInt8) (a : Int), sh d (puts a l) = puts (a + d) l
  | [], _ => rfl
  | c :: l, a => by
    have ih := sh_puts d l (a + 1)
    unfold sh at ih ⊢
    simp only [puts, List.map_cons]
    rw [ih, show a + 1 + d = a + d + 1 by omega]
    rfl
theorem sh_eops (d : Int) (x : Ev) : sh d (eops x) = eops (mvE d x) := by
  unfold eops
  rw [sh_app, sh_puts]
  unfold sh
  rw [List.map_replicate]
  rfl
theorem sh_oops (d : Int) : ∀ L : List Ev, sh d (oops L) = oops (L.map (mvE d))
  | [] => rfl
  | x :: L => by
    simp only [oops, List.map_cons]
    rw [sh_app, sh_oops d L, sh_eops]
/-- The edits of B moved by those of A ahead of them. -/
def mvB (A B : List Ev) : List Ev := B.map fun f => mvE (upTo A f.a) f
theorem gro_one (x : Ev) : gro [x] = gr x := by simp only [gro]; unfold gr; omega
theorem upTo_all {A : List Ev} {t : Int} (h : ∀ x, x ∈ A → x.a + x.d < t) : upTo A t = gro A := by
  unfold upTo
  rw [List.filter_eq_self.2 fun x hx => decide_eq_true (h x hx)]
theorem upTo_no {A : List Ev} {e : Ev} {t : Int} (h : ¬ e.a + e.d < t) : upTo (A ++ [e]) t = upTo A t := by
  unfold upTo
  rw [List.filter_append, List.filter_cons_of_neg (by simpa using h), List.filter_nil, List.append_nil]
theorem apart_split {e : Ev} : ∀ {B : List Ev}, Apart B → 0 ≤ e.d → (∀ f, f ∈ B → 0 ≤ f.d ∧ (f.a + f.d < e.a ∨ e.a + e.d < f.a)) → ∃ B1 B2, B = B1 ++ B2 ∧ (∀ f, f ∈ B1 → f.a + f.d < e.a) ∧ (∀ f, f ∈ B2 → e.a + e.d < f.a)
  | [], _, _, _ => ⟨[], [], rfl, fun f h => by simp at h, fun f h => by simp at h⟩
  | g :: B, ha, he, h => by
    obtain ⟨h1, h2⟩ := List.pairwise_cons.1 ha
    obtain ⟨g0, g1⟩ := h g (by simp)
    rcases g1 with g1 | g1
    · obtain ⟨B1, B2, rfl, b1, b2⟩ := apart_split h2 he fun f hf => h f (by simp [hf])
      refine ⟨g :: B1, B2, rfl, fun f hf => ?_, b2⟩
      rcases List.mem_cons.1 hf with rfl | hf
      · exact g1
      · exact b1 f hf
    · refine ⟨[], g :: B, rfl, fun f h => by simp at h, fun f hf => ?_⟩
      rcases List.mem_cons.1 hf with rfl | hf
      · exact g1
      · have := h1 f hf
        omega
theorem all_oops : ∀ (R : List Ev) {Hi : List Sh.Op} {B : List Ev}, Apart R.reverse → Apart B → (∀ x, x ∈ R → 0 ≤ x.d) → (∀ f, f ∈ B → 0 ≤ f.d) → (∀ x, x ∈ R → ∀ f, f ∈ B → f.a + f.d < x.a ∨ x.a + x.d < f.a) →
    (∀ y, y ∈ Hi → K2 y ∧ ∀ x, x ∈ R → x.a + x.d < y.a) → (Sh.allA (oops R.reverse) (Hi ++ oops B)).2 = sh (gro R.reverse) Hi ++ oops (mvB R.reverse B)
  | [], Hi, B, _, _, _, _, _, _ => by
    show Hi ++ oops B = _
    have e : mvB [] B = B := by
      unfold mvB mvE upTo
      simp [gro]
    rw [List.reverse_nil, e]
    simp only [gro]
    rw [sh_zero]
  | e :: R, Hi, B, hA, hB, hd, hf, hc, hh => by
    rw [List.reverse_cons] at hA ⊢
    obtain ⟨a1, _, a3⟩ := List.pairwise_append.1 hA
    have he := hd e (by simp)
    obtain ⟨B1, B2, rfl, b1, b2⟩ := apart_split (e := e) hB he fun f hm => ⟨hf f hm, hc e (by simp) f hm⟩
    obtain ⟨p1, p2, p3⟩ := List.pairwise_append.1 hB
    have a3' : ∀ x, x ∈ R → x.a + x.d < e.a := fun x hx => a3 x (by simpa using hx) e (by simp)
    rw [oops_app, oops_app, ← List.append_assoc]
    simp only [oops, List.nil_append]
    rw [allA_app, all_eops he (fun y hy => by
      rcases List.mem_append.1 hy with hy | hy
      · exact ⟨(hh y hy).1, (hh y hy).2 e (by simp)⟩
      · obtain ⟨f, hm, hy⟩ := oops_in hy
        have h1 := eops_in hy
        have h2 := b2 f hm
        exact ⟨h1.1, by omega⟩) p1 (fun f hm => ⟨hf f (by simp [hm]), b1 f hm⟩)]
    rw [all_oops R a1 p1 (fun x hx => hd x (by simp [hx])) (fun f hm => hf f (by simp [hm])) (fun x hx f hm => hc x (by simp [hx]) f (by simp [hm])) (fun y hy => by
      obtain ⟨z, hz, rfl⟩ := sh_in hy
      rcases List.mem_append.1 hz with hz | hz
      · refine ⟨(hh z hz).1, fun x hx => ?_⟩
        have h1 := (hh z hz).2 e (by simp)
        have h2 := a3' x hx
        show _ < z.a + gr e
        unfold gr
        omega
      · obtain ⟨f, hm, hy⟩ := oops_in hz
        have h1 := eops_in hy
        have h2 := b2 f hm
        refine ⟨h1.1, fun x hx => ?_⟩
        have h3 := a3' x hx
        show _ < z.a + gr e
        unfold gr
        omega)]
    have e1 : mvB (R.reverse ++ [e]) (B1 ++ B2) = mvB R.reverse B1 ++ B2.map (mvE (gro (R.reverse ++ [e]))) := by
      unfold mvB
      rw [List.map_append]
      congr 1
      · refine List.map_congr_left fun f hm => ?_
        rw [upTo_no (by have := b1 f hm; have := hf f (by simp [hm]); omega)]
      · refine List.map_congr_left fun f hm => ?_
        rw [upTo_all fun x hx => by
          have h1 := b2 f hm
          rcases List.mem_append.1 hx with hx | hx
          · have := a3' x (by simpa using hx); omega
          · simp at hx; subst hx; exact h1]
    rw [e1, oops_app, sh_sh, sh_app, sh_oops, Es.gro_app, gro_one, List.append_assoc, show gr e + gro R.reverse = gro R.reverse + gr e by omega]
/-- ELLIS, GIBBS: two scripts that don't touch: the ops of the one past the other's are the ops of what is left of it behind the other. -/
theorem all_behind {n : Nat} {A B : List Ev} (hA : Ch n (-1) A) (hB : Ch n (-1) B) (hc : ¬ Es.Cls A B) (hn : ∀ x, x ∈ A → x ∉ B) : (Sh.allA (oops A) (oops B)).2 = oops (behL A B) := by
  have h := all_oops A.reverse (Hi := []) (B := B) (by rw [List.reverse_reverse]; exact Es.ch_apart hA) (Es.ch_apart hB)
    (fun x hx => (Es.ch_mem hA (by simpa using hx)).2.2.1) (fun f hf => (Es.ch_mem hB hf).2.2.1)
    (fun x hx f hf => by
      have hx : x ∈ A := by simpa using hx
      rcases Int.lt_or_le (f.a + f.d) x.a with h | h
      · exact .inl h
      · rcases Int.lt_or_le (x.a + x.d) f.a with h' | h'
        · exact .inr h'
        · exact absurd ⟨x, hx, f, hf, fun e => hn x hx (e ▸ hf), h, h'⟩ hc)
    (fun y hy => by simp at hy)
  rw [List.reverse_reverse] at h
  simp only [List.nil_append, sh, List.map_nil] at h
  rw [h]
  congr 1
  unfold behL mvB mvE
  rw [List.filter_eq_self.2 fun f hf => by
    simp only [Bool.not_eq_true', Es.has_no]
    exact fun h => hn f h hf]
theorem run_takes : ∀ (m : Nat) {s : List UInt8} {a : Nat}, a + m ≤ s.length → Sh.run s (List.replicate m (take_ (a : Int))) = s.take a ++ s.drop (a + m)
  | 0, s, a, _ => by
    show s = _
    rw [Nat.add_zero, List.take_append_drop]
  | m + 1, s, a, h => by
    rw [List.replicate_succ]
    simp only [Sh.run]
    rw [Sh.do_tak rfl]
    have e : (take_ (a : Int)).a.toNat = a := by show (a : Int).toNat = a; omega
    rw [e]
    have hl : (Sh.tak s a).length = s.length - 1 := Sh.tak_len (by omega)
    rw [run_takes m (by omega)]
    unfold Sh.tak
    have h1 : (s.take a).length = a := by rw [List.length_take]; omega
    rw [List.take_append_of_le_length (by omega), List.take_of_length_le (by omega), List.drop_append, List.drop_eq_nil_of_le (by omega), List.nil_append, List.drop_drop, h1]
    congr 2
    omega
theorem run_puts : ∀ (l P Q : List UInt8), Sh.run (P ++ Q) (puts (P.length : Int) l) = P ++ l ++ Q
  | [], P, Q => by simp [puts, Sh.run]
  | c :: l, P, Q => by
    simp only [puts, Sh.run]
    rw [Sh.do_put rfl]
    have e : (P.length : Int).toNat = P.length := by omega
    simp only [e]
    unfold Sh.put
    rw [List.take_left', List.drop_left' rfl]
    · have ih := run_puts l (P ++ [c]) Q
      rw [List.length_append, List.length_singleton, List.append_assoc, List.singleton_append] at ih
      rw [show (P.length : Int) + 1 = ((P.length + 1 : Nat) : Int) by omega, ih]
      simp
    · rfl
theorem run_eops {s : List UInt8} {x : Ev} (h0 : 0 ≤ x.a) (h1 : 0 ≤ x.d) (h2 : x.a + x.d ≤ (s.length : Int)) : Sh.run s (eops x) = s.take x.a.toNat ++ lst x.s ++ s.drop (x.a + x.d).toNat := by
  obtain ⟨a, ha⟩ : ∃ a : Nat, x.a = (a : Int) := ⟨x.a.toNat, by omega⟩
  obtain ⟨d, hd⟩ : ∃ d : Nat, x.d = (d : Int) := ⟨x.d.toNat, by omega⟩
  unfold eops
  rw [Sh.run_app, ha, hd, show ((d : Int)).toNat = d by omega, run_takes d (by omega)]
  have hl : (s.take a).length = a := by rw [List.length_take]; omega
  have := run_puts (lst x.s) (s.take a) (s.drop (a + d))
  rw [hl] at this
  rw [this, show ((a : Int)).toNat = a by omega, show ((a : Int) + (d : Int)).toNat = a + d by omega]
theorem done_len {n : Nat} : ∀ {L : List Ev} {e : Int} {s : List UInt8}, s.length = n → Ch n e L → ((doneL s L).length : Int) = (s.length : Int) + gro L ∧ ∀ p : Nat, (∀ x, x ∈ L → (p : Int) ≤ x.a) → p ≤ s.length → p ≤ (doneL s L).length
  | [], _, s, _, _ => ⟨by simp [doneL, gro], fun p _ h => h⟩
  | x :: L, e, s, hs, h => by
    obtain ⟨⟨h0, h1, h2, h3, h4, h5⟩, h6⟩ := h
    obtain ⟨i1, i2⟩ := done_len hs h6
    have hb := i2 (x.a + x.d).toNat (fun y hy => by
      have := List.rel_of_pairwise_cons (Es.ch_apart (e := e) (L := x :: L) ⟨⟨h0, h1, h2, h3, h4, h5⟩, h6⟩) hy
      omega) (by omega)
    have hl : ((doneL s (x :: L)).length : Int) = (doneL s L).length - x.d + x.s.size := by
      simp only [doneL, List.length_append, List.length_take, List.length_drop, lst_len]
      omega
    refine ⟨by rw [hl, i1]; simp only [gro]; omega, fun p hp _ => ?_⟩
    have := hp x (by simp)
    omega
theorem run_oops {n : Nat} : ∀ {L : List Ev} {e : Int} {s : List UInt8}, s.length = n → Ch n e L → Sh.run s (oops L) = doneL s L
  | [], _, _, _, _ => rfl
  | x :: L, e, s, hs, h => by
    have h' := h
    obtain ⟨⟨h0, h1, h2, h3, h4, h5⟩, h6⟩ := h
    have hb := (done_len hs h6).2 (x.a + x.d).toNat (fun y hy => by
      have := List.rel_of_pairwise_cons (Es.ch_apart h') hy
      omega) (by omega)
    simp only [oops, doneL]
    rw [Sh.run_app, run_oops hs h6, run_eops h0 h2 (by omega)]
end Go.Proofs.Ytgkagigagcamoaa.Tm


/-
A good script byte by byte: each op stands where it may; so all that can be wrong with its ops is that there are too many of them, or that a text gets too long.
-/
namespace Go.Proofs.Ytgkagigagcamoaa.Tm
open Es (Ev gro Ch doneL behL)

theorem op_few {n : Int} {x : Sh.Op} (h : Sh.Ok n x) (hn : n ≤ 200) : Sh.opErr n x = 0 ∨ Sh.opErr n x = 11 := by
  obtain ⟨h0, h1⟩ := h
  unfold Sh.opErr
  rw [if_neg (by omega)]
  rcases h1 with ⟨k, a1, a2⟩ | ⟨k, a1, a2, a3⟩ | ⟨k, a1, a2⟩
  · rw [if_pos k, if_neg (by omega)]
    split
    · exact .inr rfl
    · exact .inl rfl
  · rw [if_neg (by omega), if_pos k, if_neg (by omega), if_pos a3]
    exact .inl rfl
  · rw [if_neg (by omega), if_neg (by omega), if_pos k, if_neg (by omega), if_pos a2]
    exact .inl rfl
theorem serr_few {c : Int} : ∀ {L : List Sh.Op} {n : Int}, Sh.OkL n L → n ≤ 200 → Sh.sErr c n L = 0 ∨ Sh.sErr c n L = 11
  | [], n, _, _ => by
    simp only [Sh.sErr]
    split
    · exact .inr rfl
    · exact .inl rfl
  | x :: L, n, h, hn => by
    simp only [Sh.sErr]
    rcases op_few h.1 hn with h1 | h1
    · rw [if_pos h1]
      obtain ⟨_, _, h3⟩ := Sh.err_zero.1 h1
      refine serr_few h.2 ?_
      unfold Sh.lon
      split
      · rename_i hk
        have := h3 hk
        omega
      · split <;> omega
    · rw [if_neg (by rw [h1]; decide), h1]
      exact .inr rfl
theorem okL_app : ∀ {L M : List Sh.Op} {n : Int}, Sh.OkL n (L ++ M) ↔ Sh.OkL n L ∧ Sh.OkL (n + Sh.tot L) M
  | [], M, n => by simp [Sh.OkL, Sh.tot]
  | x :: L, M, n => by
    rw [List.cons_append]
    simp only [Sh.OkL, Sh.tot]
    rw [okL_app (L := L), and_assoc, show n + Sh.lon x + Sh.tot L = n + (Sh.lon x + Sh.tot L) by omega]
theorem rowOk_app : ∀ {L M : List Sh.Op} {n : Int}, Sh.RowOk n (L ++ M) ↔ Sh.RowOk n L ∧ Sh.RowOk (n + Sh.tot L) M
  | [], M, n => by simp [Sh.RowOk, Sh.tot]
  | x :: L, M, n => by
    rw [List.cons_append]
    simp only [Sh.RowOk, Sh.tot]
    rw [rowOk_app (L := L), and_assoc, show n + Sh.lon x + Sh.tot L = n + (Sh.lon x + Sh.tot L) by omega]
theorem tot_takes (a : Int) : ∀ m : Nat, Sh.tot (List.replicate m (take_ a)) = -(m : Int)
  | 0 => rfl
  | m + 1 => by
    rw [List.replicate_succ]
    simp only [Sh.tot]
    rw [tot_takes a m, show Sh.lon (take_ a) = -1 from rfl]
    omega
theorem tot_puts : ∀ (l : List UInt8) (a : Int), Sh.tot (puts a l) = (l.length : Int)
  | [], _ => rfl
  | c :: l, a => by
    simp only [puts, Sh.tot]
    rw [tot_puts l, show Sh.lon ⟨1, a, c⟩ = 1 from rfl, List.length_cons]
    omega
theorem tot_eops {x : Ev} (h : 0 ≤ x.d) : Sh.tot (eops x) = gr x := by
  unfold eops gr
  rw [Sh.tot_app, tot_takes, tot_puts, lst_len]
  omega
theorem tot_oops : ∀ {L : List Ev}, (∀ x, x ∈ L → 0 ≤ x.d) → Sh.tot (oops L) = gro L
  | [], _ => rfl
  | x :: L, h => by
    simp only [oops, gro]
    rw [Sh.tot_app, tot_oops fun y hy => h y (by simp [hy]), tot_eops (h x (by simp))]
    unfold gr
    omega
theorem ok_takes : ∀ (m : Nat) {a n : Int}, 0 ≤ a → a + (m : Int) ≤ n → Sh.OkL n (List.replicate m (take_ a))
  | 0, _, _, _, _ => trivial
  | m + 1, a, n, h0, h => by
    rw [List.replicate_succ]
    refine ⟨⟨by omega, .inr (.inl ⟨rfl, h0, by show a < n; omega, rfl⟩)⟩, ?_⟩
    rw [show Sh.lon (take_ a) = -1 from rfl]
    exact ok_takes m h0 (by omega)
theorem ok_puts : ∀ (l : List UInt8) {a n : Int}, 0 ≤ a → a ≤ n → Sh.OkL n (puts a l)
  | [], _, _, _, _ => trivial
  | c :: l, a, n, h0, h => by
    refine ⟨⟨by omega, .inl ⟨rfl, h0, h⟩⟩, ?_⟩
    rw [show Sh.lon ⟨1, a, c⟩ = 1 from rfl]
    exact ok_puts l (by omega) (by omega)
theorem ok_eops {x : Ev} {n : Int} (h0 : 0 ≤ x.a) (h1 : 0 ≤ x.d) (h2 : x.a + x.d ≤ n) : Sh.OkL n (eops x) := by
  unfold eops
  refine okL_app.2 ⟨ok_takes _ h0 (by omega), ok_puts _ h0 ?_⟩
  rw [tot_takes]
  omega
theorem ch_room {n : Nat} : ∀ {L : List Ev} {e : Int}, Ch n e L → e ≤ (n : Int) → e ≤ (n : Int) + gro L
  | [], _, _, h => by simp only [gro]; omega
  | y :: L, e, ⟨⟨h0, h1, h2, h3, h4, h5⟩, h6⟩, h => by
    have ih := ch_room h6 h3
    simp only [gro]
    omega
theorem ok_oops {n : Nat} : ∀ {L : List Ev} {e : Int}, Ch n e L → Sh.OkL (n : Int) (oops L)
  | [], _, _ => trivial
  | x :: L, e, h => by
    have hm := fun y hy => (Es.ch_mem h (x := y) hy).2.2.1
    obtain ⟨⟨h0, h1, h2, h3, h4, h5⟩, h6⟩ := h
    have := ch_room h6 h3
    refine okL_app.2 ⟨ok_oops h6, ok_eops h0 h2 ?_⟩
    rw [tot_oops fun y hy => hm y (by simp [hy])]
    omega
theorem all_few {n : Nat} {A B : List Ev} (hA : Ch n (-1) A) (hB : Ch n (-1) B) (hn : n ≤ 200) : Sh.allErr (n : Int) (oops A) (oops B) = 0 ∨ Sh.allErr (n : Int) (oops A) (oops B) = 2 ∨ Sh.allErr (n : Int) (oops A) (oops B) = 11 := by
  unfold Sh.allErr
  split
  · exact .inr (.inl rfl)
  · split
    · rcases serr_few (c := (oops A).length + (oops B).length) (ok_oops hB) (by omega) with h | h
      · exact .inl h
      · exact .inr (.inr h)
    · rcases serr_few (c := (oops A).length + (oops B).length) (ok_oops hA) (by omega) with h | h
      · exact .inl h
      · exact .inr (.inr h)
end Go.Proofs.Ytgkagigagcamoaa.Tm

