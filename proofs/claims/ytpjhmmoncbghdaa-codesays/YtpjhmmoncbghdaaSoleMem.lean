/-
The memory of quillref.SoleCode: the map of what has been seen, and the variables of its function.
-/
import Derived.Test.YtpjhmmoncbghdaaCRow
import Derived.Maps.OwnSet
import Derived.Maps.AppendAt
namespace Go.Proofs.Ytpjhmmoncbghdaa
open Go.RowKit Go.Maps Go.WideMaps

theorem left_mono {W S S' : List (List UInt8)} (h : ∀ o ∈ S, o ∈ S') : Cm.left W S' ≤ Cm.left W S := by
  unfold Cm.left
  generalize Cm.ends W = E
  induction E with
  | nil => exact Nat.le_refl _
  | cons a E ih =>
    by_cases h1 : a ∈ S'
    · rw [List.filter_cons_of_neg (by simpa using h1)]
      by_cases h2 : a ∈ S
      · rw [List.filter_cons_of_neg (by simpa using h2)]; exact ih
      · rw [List.filter_cons_of_pos (by simpa using h2), List.length_cons]; omega
    · have h2 : a ∉ S := fun h3 => h1 (h a h3)
      rw [List.filter_cons_of_pos (by simpa using h1), List.filter_cons_of_pos (by simpa using h2), List.length_cons, List.length_cons]
      omega
theorem law_str' : Keyed Try.prog 9 := string_keyed Try.underlying9
/-- The map in block M counts; those of S, and no others, have been counted; K: no more stores than that. -/
def CMap (w : World) (M : Nat) (S : List (List UInt8)) (K : Nat) : Prop :=
  ∃ D, w.ownsMap Try.prog 9 (plainElem (H := Unit) Try.prog 3) M K D ∧ ∀ y : List UInt8, ∃ c : Nat, D.atKey (.string y) (.lit (.int .i64 0)) = .lit (.int .i64 (c : Int)) ∧ c ≤ K ∧ (0 < c ↔ y ∈ S)
theorem CMap.made (w : World) : CMap (w.alloc (.map #[] 0)) w.heap.size [] 0 :=
  ⟨_, World.ownsMap_made _ _ _ _, fun y => ⟨0, rfl, Nat.le_refl _, by simp⟩⟩
theorem CMap.kept {w w' : World} {M : Nat} {S : List (List UInt8)} {K : Nat} {row : Option Nat} (h : CMap w M S K) (hg : w.grownBy w' row) (hne : some M ≠ row) : CMap w' M S K := by
  obtain ⟨D, h1, h2⟩ := h
  exact ⟨D, h1.kept hg hne, h2⟩
theorem CMap.drewN {w : World} {M : Nat} {S : List (List UInt8)} {K : Nat} (h : CMap w M S K) (d : Nat) : CMap (w.drewN d) M S K := h
theorem lit_inj {a b : Int} (h : (DataW.lit (.int .i64 a) : DataW Unit) = .lit (.int .i64 b)) : a = b := (Lit.int.inj (DataW.lit.inj h)).2
theorem wf64 {x : Int} (h1 : 0 ≤ x) (h2 : x ≤ 1000000000) : (Lit.int .i64 x).wf = true := WalkArith.wf_i64 ⟨by omega, by omega⟩
/-- 'seen[x]++'. -/
theorem CMap.count {w : World} {M : Nat} {S : List (List UInt8)} {K : Nat} (h : CMap w M S K) (x : ByteArray) (hx : x.size ≤ maxLen) (hK : K < 1000000) :
    ∃ c : Nat, c ≤ K ∧ (0 < c ↔ wd x ∈ S) ∧ (Instr.lookup 63 (.map (some M)) (.string x) false).run Try.prog w = .ok (.int .i64 (c : Int)) w ∧
      ∃ w', (Instr.mapUpdate 63 (.map (some M)) (.string x) (.int .i64 ((c : Int) + 1))).run Try.prog w = .ok () w' ∧ CMap w' M (wd x :: S) (K + 1) ∧ w.grownBy w' (some M) ∧
        (Instr.lookup 63 (.map (some M)) (.string x) false).run Try.prog w' = .ok (.int .i64 ((c : Int) + 1)) w' := by
  obtain ⟨D, h1, h2⟩ := h
  have hkey := keyOf_string_mk (P := Try.prog) Try.underlying9 hx
  obtain ⟨c', hrun, hat, _⟩ := h1.lookup_int law_str' Try.underlying63 Try.underlying3 (Try.zeroValue3 w) hkey
  obtain ⟨c, h3, h4, h5⟩ := h2 (wd x)
  have e : c' = (c : Int) := lit_inj (hat.symm.trans h3)
  subst e
  have hwf : (Lit.int .i64 ((c : Int) + 1)).wf = true := wf64 (by omega) (by omega)
  obtain ⟨w', hu, hown, hgr⟩ := h1.update law_str' Try.underlying63 (by unfold maxLen; omega) hkey (plainElem_int (H := Unit) (P := Try.prog) Try.underlying3 hwf)
  have hD : IsMap D := (h1.tidy law_str').isMap
  refine ⟨c, h4, h5, hrun, w', hu, ⟨_, hown, fun y => ?_⟩, hgr, ?_⟩
  · by_cases hy : y = wd x
    · subst hy
      refine ⟨c + 1, ?_, by omega, ⟨fun _ => List.mem_cons_self, fun _ => by omega⟩⟩
      exact (atKey_put_same (k := Lit.string (wd x)) hD trivial _ _).trans (by rw [Int.natCast_add]; rfl)
    · obtain ⟨d, g1, g2, g3⟩ := h2 y
      refine ⟨d, ?_, by omega, ?_⟩
      · rw [atKey_put_other (fun e => hy (by injection e))]; exact g1
      · rw [g3, List.mem_cons]
        exact ⟨.inr, fun h => h.resolve_left hy⟩
  · obtain ⟨c2, hr2, ha2, _⟩ := hown.lookup_int law_str' Try.underlying63 Try.underlying3 (Try.zeroValue3 w') hkey
    have ha3 := lit_inj ((atKey_put_same (k := Lit.string (wd x)) hD trivial _ _).symm.trans ha2)
    rw [hr2, ← ha3]
/-- The variables: the map, the code, the function itself. -/
structure SoleW (w : World) (Bm Bl Bt M : Nat) (A : Option Addr) (n c : Nat) (g : Nat → ByteArray) : Prop where
  cm : w.cell? ⟨Bm, 0, none⟩ = some (.map (some M))
  cl : w.cell? ⟨Bl, 0, none⟩ = some (.slice A n c)
  ct : w.cell? ⟨Bt, 0, none⟩ = some (.func (.func 39) #[] #[.pointer (some ⟨Bm, 0, none⟩), .pointer (some ⟨Bl, 0, none⟩), .pointer (some ⟨Bt, 0, none⟩)])
  row : SRow w A n g
  nm : Bm ≠ M
  nl : Bl ≠ M
  nt : Bt ≠ M
  nr : 0 < n → ∀ a, A = some a → a.block ≠ M
theorem SoleW.kept {w w' : World} {Bm Bl Bt M : Nat} {A : Option Addr} {n c : Nat} {g : Nat → ByteArray} (h : SoleW w Bm Bl Bt M A n c g) (hg : w.grownBy w' (some M)) : SoleW w' Bm Bl Bt M A n c g := by
  refine ⟨hg.cell h.cm (by simpa using h.nm), hg.cell h.cl (by simpa using h.nl), hg.cell h.ct (by simpa using h.nt), fun k hk => ?_, h.nm, h.nl, h.nt, h.nr⟩
  obtain ⟨b, o, h1, h2, h3⟩ := h.row k hk
  exact ⟨b, o, h1, Nat.lt_of_lt_of_le h2 hg.size, hg.cell h3 (by simpa using h.nr (by omega) _ h1)⟩
theorem SoleW.drewN {w : World} {Bm Bl Bt M : Nat} {A : Option Addr} {n c : Nat} {g : Nat → ByteArray} (h : SoleW w Bm Bl Bt M A n c g) (d : Nat) : SoleW (w.drewN d) Bm Bl Bt M A n c g := ⟨h.cm, h.cl, h.ct, h.row, h.nm, h.nl, h.nt, h.nr⟩
theorem grown_drewN {w w' : World} {row : Option Nat} (h : w.grownBy w' row) (d : Nat) : w.grownBy (w'.drewN d) row := ⟨h.os, h.tape, h.output, h.size, h.block⟩
theorem drewN_grown {w w' : World} {row : Option Nat} {d : Nat} (h : (w.drewN d).grownBy w' row) : w.grownBy w' row := ⟨h.os, h.tape, h.output, h.size, h.block⟩
/-- What a call of the function leaves. -/
def TwPost (W : List (List UInt8)) (M : Nat) (S : List (List UInt8)) (K : Nat) (over : List UInt8) (w : World) (e : Ending) (w' : World) : Prop :=
  ∃ (b : Bool) (S' : List (List UInt8)) (K' : Nat), e = .returned (.bool b) ∧ w.grownBy w' (some M) ∧ CMap w' M S' K' ∧ [] ∉ S' ∧ (∀ o ∈ S, o ∈ S') ∧ K' + 24 * Cm.left W S' ≤ K + 24 * Cm.left W S + 1 ∧
    (b = true → Cm.Tw W over) ∧ (b = false → over ∈ S' ∧ ∀ o ∈ S', o ∉ S → ∀ o', Cm.Stp W o o' → o' ∈ S')
end Go.Proofs.Ytpjhmmoncbghdaa
