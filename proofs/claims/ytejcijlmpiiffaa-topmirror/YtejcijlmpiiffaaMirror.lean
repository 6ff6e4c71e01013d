
/-
The contracts of package mirror: Arms, Longest, Unlike.
-/
import Derived.Test.YtejcijlmpiiffaaReach
import Derived.Maps.OwnSet
namespace Go.Proofs.Ytejcijlmpiiffaa
open Go.RowKit Go.Maps Go.WideMaps

theorem arms_row {s : ByteArray} {w' : World} {b : Nat} (h : w'.rowIs b 3 (2 * s.size + 1) (fun k => .int .i64 (ag s k))) : IRow w' (some ⟨b, 0, none⟩) (2 * s.size + 1) (ag s) := by
  intro k hk
  refine ⟨b, 0, rfl, h.lt, ?_⟩
  rw [Nat.zero_add]
  exact h.cell hk
theorem Longest_large (s : ByteArray) (w : World) (hs : 200 < s.size) : Calls Try.prog 20 #[.string s] w fun e w' => e = .returned (.tuple #[.string ⟨#[]⟩, .int .i64 2]) ∧ w = w' := by
  go_enter Try.func20, Try.ntmps20
  go_wp2_with fail
  with_reducible refine (check_large s _ hs).mono ?_
  rintro e w1 ⟨rfl, rfl⟩
  go_wp2
  go_ret2
  exact ⟨rfl, rfl⟩
theorem arms_m (s : ByteArray) (m : Nat) (w : World) (hs : s.size ≤ 200) (hm : m = 2 * s.size + 1) :
    Calls Try.prog 37 #[.string s] w fun e w' => e = .returned (.slice (some ⟨w.heap.size, 0, none⟩) m m) ∧ (∀ k, k < m → w'.cell? ⟨w.heap.size, k, none⟩ = some (.int .i64 (ag s k))) ∧ Below w.heap.size w w' ∧ w.heap.size < w'.heap.size := by
  subst hm
  refine (arms_any s w hs).mono ?_
  rintro e w1 ⟨rfl, hrow, hbel⟩
  exact ⟨rfl, fun k hk => hrow.cell hk, hbel, hrow.lt⟩
theorem ext_none (s : ByteArray) : s.extract 0 0 = ⟨#[]⟩ := str_eq'.2 ⟨by rw [size_ext]; rfl, fun i hi => by rw [size_ext] at hi; omega⟩
theorem Longest_ok (s : ByteArray) (w : World) (hs : s.size ≤ 200) : Calls Try.prog 20 #[.string s] w fun e w' => (∃ a b, e = .returned (.tuple #[.string (s.extract a b), .int .i64 0]) ∧ Mm.IsLg (byt s) s.size a b) ∧ Below w.heap.size w w' := by
  obtain ⟨m, hm⟩ : ∃ m, m = 2 * s.size + 1 := ⟨_, rfl⟩
  have hm1 : m ≤ 401 := by omega
  have HM := hid hm
  go_enter Try.func20, Try.ntmps20
  go_wp2_with fail
  with_reducible refine (check_ok s _ hs).mono ?_
  rintro e w1 ⟨rfl, rfl⟩
  go_wp2_with fail
  with_reducible refine (arms_m s m _ hs hm).mono ?_
  rintro e w1 ⟨rfl, hrow, hbel, _⟩
  have HR := hid hrow
  clear hrow hm
  go_wp2
  go_loopw [5, 16] (fun x y wr => ∃ (i : Nat) (t : ByteArray), i ≤ m ∧ x = .string t ∧ y = .int .i64 (i : Int) ∧ t.size ≤ 200 ∧ Hid (∃ a b, t = s.extract a b ∧ t.size = b - a ∧ Mm.LgAt (byt s) s.size i a b) ∧ wr = w1) (fun _ y _ => m - (intOf y).toNat)
  case atStart => exact ⟨0, ⟨#[]⟩, by omega, rfl, rfl, Nat.zero_le _, hid ⟨0, 0, (ext_none s).symm, rfl, Mm.LgAt.zero _ _⟩, rfl⟩
  case round =>
    obtain ⟨i, t, hi, rfl, rfl, hts, HL, rfl⟩ := hrel
    by_cases hlt : i < m
    · have hlt' : (i : Int) < (m : Int) := by omega
      have hi2 : i ≤ 2 * s.size := by have := HM.out; omega
      have hcell := HR.out i hlt
      unfold ag at hcell
      obtain ⟨g, hg⟩ : ∃ g, g = Mm.arm (byt s) s.size i := ⟨_, rfl⟩
      have hle := Mm.arm_le (f := byt s) hi2
      rw [← hg] at hcell hle
      have HG := hid hg
      obtain ⟨hle1, hle2, HE⟩ := hle
      have HE := hid HE
      have hg2 : g ≤ 200 := by omega
      clear hg
      by_cases hl : t.size < g
      · have hl' : (t.size : Int) < (g : Int) := by omega
        go_wp2_with fail
        with_reducible refine (around_any s i g _ hs hle1 hle2).mono ?_
        rintro e w2 ⟨rfl, rfl⟩
        have hz : (aroundS s i g).size ≤ 200 := by unfold aroundS; rw [size_ext]; omega
        have HL2 : Hid (∃ a b, aroundS s i g = s.extract a b ∧ (aroundS s i g).size = b - a ∧ Mm.LgAt (byt s) s.size (i + 1) a b) := by
          obtain ⟨a, b, e1, e2, e3⟩ := HL.out
          have h3 := e3.yes hi2 (by have := HG.out; omega)
          rw [← HG.out] at h3
          refine ⟨_, _, rfl, ?_, h3⟩
          unfold aroundS
          rw [size_ext]
          have := HE.out
          omega
        clear HL
        go_wp2
        go_roundw
        case rel => exact ⟨i + 1, aroundS s i g, by omega, rfl, by go_num, hz, HL2, by trivial⟩
        case measure => simp [intOf]; omega
      · have hl' : decide ((t.size : Int) < (g : Int)) = false := decide_eq_false (by omega)
        have HL2 : Hid (∃ a b, t = s.extract a b ∧ t.size = b - a ∧ Mm.LgAt (byt s) s.size (i + 1) a b) := by
          obtain ⟨a, b, e1, e2, e3⟩ := HL.out
          exact ⟨a, b, e1, e2, e3.no (by have := HG.out; omega)⟩
        clear HL
        go_wp2
        go_roundw
        case rel => exact ⟨i + 1, t, by omega, rfl, by go_num, hts, HL2, by trivial⟩
        case measure => simp [intOf]; omega
    · obtain rfl : m = i := by omega
      obtain ⟨a, b, e1, e2, e3⟩ := HL.out
      have HF : Hid (Mm.IsLg (byt s) s.size a b) := by rw [HM.out] at e3; exact e3.done
      subst e1
      clear e2 e3 HL
      go_wp2
      go_ret2
      exact ⟨⟨a, b, rfl, HF.out⟩, hbel⟩
/-- The map in block B holds just the palindromes that have been met; K: no more stores than that. -/
def MSet (w : World) (B : Nat) (s : ByteArray) (c : Nat) (n K : Int) : Prop :=
  ∃ ys : List (List UInt8), (ys.length : Int) ≤ K ∧ w.ownsMap Try.prog 9 (plainElem (H := Unit) Try.prog 4) B ys.length (setOf (.lit (.bool true)) (ys.map Lit.string)) ∧
    ∀ y, y ∈ ys ↔ ∃ a b, Mm.Met (byt s) s.size c n a b ∧ y = lst (s.extract a b)
theorem any_key (y : List UInt8) : ∀ acc : List (List UInt8), ((acc.map Lit.string).any fun z => z.sameKey (.string y)) = acc.contains y
  | [] => rfl
  | a :: r => by
    rw [List.map_cons, List.any_cons, List.contains_cons, any_key y r]
    congr 1
    show (a == y) = (y == a)
    exact BEq.comm
theorem keys_fold : ∀ (ys acc : List (List UInt8)), acc.Nodup → ∃ K : List (List UInt8), K.Nodup ∧ (∀ y, y ∈ K ↔ y ∈ acc ∨ y ∈ ys) ∧ (ys.map Lit.string).foldl addKey (acc.map Lit.string) = K.map Lit.string
  | [], acc, h => ⟨acc, h, fun y => by simp, rfl⟩
  | x :: r, acc, h => by
    rw [List.map_cons, List.foldl_cons]
    unfold addKey
    rw [any_key]
    by_cases hx : acc.contains x = true
    · rw [if_pos hx]
      obtain ⟨K, h1, h2, h3⟩ := keys_fold r acc h
      refine ⟨K, h1, fun y => ?_, h3⟩
      rw [h2, List.mem_cons]
      constructor
      · rintro (h | h)
        · exact .inl h
        · exact .inr (.inr h)
      · rintro (h | rfl | h)
        · exact .inl h
        · exact .inl (List.contains_iff_mem.1 hx)
        · exact .inr h
    · rw [if_neg hx]
      have hn : x ∉ acc := fun e => hx (List.contains_iff_mem.2 e)
      have h' : (acc ++ [x]).Nodup := by
        rw [List.nodup_append]
        refine ⟨h, by simp, fun a ha b hb => ?_⟩
        rw [List.mem_singleton] at hb
        subst hb
        rintro rfl
        exact hn ha
      obtain ⟨K, h1, h2, h3⟩ := keys_fold r (acc ++ [x]) h'
      refine ⟨K, h1, fun y => ?_, by rw [← h3, List.map_append]; rfl⟩
      rw [h2, List.mem_append, List.mem_singleton, List.mem_cons, or_assoc]
theorem set_size {l : List UInt8} {ys : List (List UInt8)} (h : ∀ y, y ∈ ys ↔ y ∈ Mm.pl l) : Maps.size (setOf (H := Unit) (.lit (.bool true)) (ys.map Lit.string)) = (Mm.pl l).length := by
  rw [size_setOf _ _ (fun x hx => by obtain ⟨_, _, rfl⟩ := List.mem_map.1 hx; trivial)]
  obtain ⟨K, h1, h2, h3⟩ := keys_fold ys [] List.nodup_nil
  rw [show ([] : List Lit) = ([] : List (List UInt8)).map Lit.string from rfl, h3, List.length_map]
  exact Mm.pl_len h1 fun y => by rw [h2, ← h]; simp
theorem pal_rev {s : ByteArray} {a b : Nat} (hb : b ≤ s.size) : Mm.Pal (byt s) a b ↔ (lst (s.extract a b)).reverse = lst (s.extract a b) := by
  have hl : (lst (s.extract a b)).length = b - a := by rw [lst_len, size_ext]; omega
  have hg : ∀ i, i < b - a → ∀ h, (lst (s.extract a b))[i]'h = byt s (a + i) := by
    intro i hi h
    rw [← byt_ext hi]
    unfold byt
    rw [List.getD_eq_getElem?_getD, List.getElem?_eq_getElem (by exact h)]
    rfl
  constructor
  · intro h
    refine List.ext_getElem (by rw [List.length_reverse]) fun i h1 h2 => ?_
    rw [List.getElem_reverse, hg _ (by rw [hl]; rw [hl] at h2; omega), hg i (by rw [hl] at h2; exact h2), hl]
    rw [hl] at h2
    rw [h (a + i) (by omega) (by omega)]
    congr 1
    omega
  · intro h i h1 h2
    have e : (lst (s.extract a b))[i - a]'(by rw [hl]; omega) = (lst (s.extract a b)).reverse[i - a]'(by rw [List.length_reverse, hl]; omega) := by congr 1; exact h.symm
    rw [List.getElem_reverse, hg _ (by omega), hg _ (by rw [hl]; omega), hl] at e
    rw [show a + (i - a) = i by omega] at e
    rw [e]
    congr 1
    omega
theorem mem_pl_ext {s : ByteArray} {y : List UInt8} : y ∈ Mm.pl (lst s) ↔ ∃ a b, (a < b ∧ b ≤ s.size ∧ Mm.Pal (byt s) a b) ∧ y = lst (s.extract a b) := by
  rw [Mm.mem_pl, ← Sm.mem_dl', Sm.mem_dl, lst_len]
  constructor
  · rintro ⟨⟨h1, p, hp, h2⟩, h3⟩
    have h0 := List.length_pos_iff.2 h1
    have hl := h2.length_le
    rw [List.length_drop, lst_len] at hl
    have e : y = lst (s.extract p (p + y.length)) := by rw [lst_mid, Nat.add_sub_cancel_left]; exact List.prefix_iff_eq_take.1 h2
    refine ⟨p, p + y.length, ⟨by omega, by omega, (pal_rev (by omega)).2 ?_⟩, e⟩
    rw [← e]; exact h3
  · rintro ⟨a, b, ⟨h1, h2, h3⟩, rfl⟩
    refine ⟨⟨fun e => ?_, a, by omega, ?_⟩, (pal_rev h2).1 h3⟩
    · have := congrArg List.length e
      rw [lst_len, size_ext, List.length_nil] at this
      omega
    · rw [lst_mid]; exact List.take_prefix _ _
theorem law_str : Keyed Try.prog 9 := string_keyed Try.underlying9
theorem MSet.start (w : World) (s : ByteArray) (K : Int) (hK : 0 ≤ K) : MSet (w.alloc (.map #[] 0)) w.heap.size s 0 (Mm.arm (byt s) s.size 0 : Nat) K := by
  refine ⟨[], by simpa using hK, World.ownsMap_made _ _ _ _, fun y => ?_⟩
  constructor
  · intro h; cases h
  · rintro ⟨a, b, h, _⟩
    exact absurd h Mm.Met.start
theorem MSet.next {w : World} {B : Nat} {s : ByteArray} {c : Nat} {n K : Int} (h : MSet w B s c n K) (hn : n ≤ 0) : MSet w B s (c + 1) (Mm.arm (byt s) s.size (c + 1) : Nat) K := by
  obtain ⟨ys, h1, h2, h3⟩ := h
  refine ⟨ys, h1, h2, fun y => ?_⟩
  rw [h3]
  constructor
  · rintro ⟨a, b, h4, h5⟩; exact ⟨a, b, (Mm.Met.next hn).1 h4, h5⟩
  · rintro ⟨a, b, h4, h5⟩; exact ⟨a, b, (Mm.Met.next hn).2 h4, h5⟩
theorem MSet.done {w : World} {B : Nat} {s : ByteArray} {n K : Int} (h : MSet w B s (2 * s.size + 1) n K) :
    ∃ k D, w.ownsMap Try.prog 9 (plainElem (H := Unit) Try.prog 4) B k D ∧ Maps.size D = (Mm.pl (lst s)).length := by
  obtain ⟨ys, h1, h2, h3⟩ := h
  refine ⟨_, _, h2, set_size fun y => ?_⟩
  rw [h3, mem_pl_ext]
  constructor
  · rintro ⟨a, b, h4, h5⟩; exact ⟨a, b, Mm.Met.done.1 h4, h5⟩
  · rintro ⟨a, b, h4, h5⟩; exact ⟨a, b, Mm.Met.done.2 h4, h5⟩
/-- One more is stored. -/
theorem MSet.step {w : World} {B : Nat} {s : ByteArray} {c n : Nat} {K : Int} (h : MSet w B s c n K) (hc : c ≤ 2 * s.size) (hn : n ≤ Mm.arm (byt s) s.size c) (hp : (n + c) % 2 = 0) (h0 : 0 < n) (hK : K ≤ 1000000) :
    ∃ k D, w.ownsMap Try.prog 9 (plainElem (H := Unit) Try.prog 4) B k D ∧ k < maxLen ∧
      ∀ w', w'.ownsMap Try.prog 9 (plainElem (H := Unit) Try.prog 4) B (k + 1) (D.put (.string (aroundS s c n).data.toList) (.lit (.bool true))) → MSet w' B s c ((n : Int) - 2) (K + 1) := by
  obtain ⟨ys, h1, h2, h3⟩ := h
  refine ⟨_, _, h2, by unfold maxLen; omega, fun w' hw => ⟨ys ++ [lst (aroundS s c n)], ?_, ?_, fun y => ?_⟩⟩
  · rw [List.length_append, List.length_singleton]; omega
  · rw [List.length_append, List.map_append, List.map_singleton, setOf_snoc]
    exact hw
  · rw [List.mem_append, List.mem_singleton, h3]
    constructor
    · rintro (⟨a, b, h4, h5⟩ | rfl)
      · exact ⟨a, b, (Mm.Met.step hc hn hp h0).2 (.inl h4), h5⟩
      · exact ⟨_, _, (Mm.Met.step hc hn hp h0).2 (.inr ⟨rfl, rfl⟩), rfl⟩
    · rintro ⟨a, b, h4, h5⟩
      rcases (Mm.Met.step hc hn hp h0).1 h4 with h4 | ⟨rfl, rfl⟩
      · exact .inl ⟨a, b, h4, h5⟩
      · exact .inr h5
theorem MSet.keep {w w' : World} {B X : Nat} {s : ByteArray} {c : Nat} {n K : Int} (h : MSet w B s c n K) (hb : Below X w w') (hB : B < X) : MSet w' B s c n K := by
  obtain ⟨ys, h1, ⟨es, clock, h2, h2'⟩, h3⟩ := h
  exact ⟨ys, h1, ⟨es, clock, (hb.block B hB).trans h2, h2'⟩, h3⟩
theorem MSet.most {w : World} {B : Nat} {s : ByteArray} {c : Nat} {n K K' : Int} (h : MSet w B s c n K) (hK : K ≤ K') : MSet w B s c n K' := by
  obtain ⟨ys, h1, h2⟩ := h
  exact ⟨ys, by omega, h2⟩
end Go.Proofs.Ytejcijlmpiiffaa
