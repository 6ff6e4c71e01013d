
/-
A region that draws its order, loads cells, calls, and then stores into those very cells: the loads are taken first, since the first store (number st) waits for each of them. In the make of the held regions, but what is held (T) is asked only while the first store has not come up.
-/
import Derived.Deep.RegionHeld3
namespace Go.Proofs.Ytgkagigagcamoaa

section
variable {P : Program} {ops : Array Oper} {Q : Exit → Act → World → Prop} {md : Region.Mode} {T : World → Prop} {st : Nat}

/-- Whatever order is picked from here on; and T holds behind every operation that comes up ahead of the first store. -/
def wpAnyL (P : Program) (md : Region.Mode) (ops : Array Oper) (Q : Exit → Act → World → Prop) (T : World → Prop) (st : Nat) : Nat → Array Bool → Act → World → Prop
  | 0, listed, a, w => Region.ready md ops listed = [] ∧ Q .normal a w
  | fuel + 1, listed, a, w =>
    (Region.ready md ops listed = [] → Q .normal a w) ∧
    ∀ i ∈ Region.ready md ops listed, wpOp P ops Q i (fun a' w' => ((listed.setIfInBounds i true).getD st true = false → T w') ∧ wpAnyL P md ops Q T st fuel (listed.setIfInBounds i true) a' w') a w
theorem wpAny_of_L : ∀ (fuel : Nat) (listed : Array Bool) (a : Act) (w : World), wpAnyL P md ops Q T st fuel listed a w → wpAny P md ops Q fuel listed a w
  | 0, _, _, _, h => h
  | fuel + 1, _, _, _, h => ⟨h.1, fun i hi => wpOp_mono (fun a' w' h' => wpAny_of_L fuel _ a' w' h'.2) (h.2 i hi)⟩
theorem wpAnyL_first {i : Nat} {oi : Oper} {v : Value} (U : World → Prop) (hi : ops[i]? = some oi) (hsel : ∀ (j : Nat) (o : Oper) cs b, ops[j]? = some o → o.op ≠ .select cs b)
    (hQ : ∀ c a w, Q (.panic c) (a.put oi.dst v) w → Q (.panic c) a w) (his : i ≠ st)
    (hU : (∀ w, U w) ∨ (U = T ∧ ∀ os, ops[st]? = some os → ∃ e ∈ os.after, Region.binds md e = true ∧ e.on = i)) :
    ∀ (fuel : Nat) (listed : Array Bool) (a : Act) (w : World),
      (∀ j oj, ops[j]? = some oj → j ≠ i → listed.getD j true = false → (∀ e ∈ oj.after, Region.binds md e = true → e.on ≠ i) → oi.apart ops oj = true) →
      i ∈ Region.ready md ops listed → YieldsIf P ops U oi v a → (listed.getD st true = false → T w) → ((∀ w, U w) ∨ listed.getD st true = false) →
      wpAnyL P md ops Q T st fuel (listed.setIfInBounds i true) (a.put oi.dst v) w → wpAnyL P md ops Q T st (fuel + 1) listed a w := by
  have uw : ∀ (listed : Array Bool) (w : World), (listed.getD st true = false → T w) → ((∀ w, U w) ∨ listed.getD st true = false) → U w := fun listed w hT hc => by
    rcases hU with h | ⟨rfl, _⟩
    · exact h w
    · rcases hc with h | h
      · exact h w
      · exact hT h
  intro fuel
  induction fuel with
  | zero =>
    intro listed a w _ hr hy hT hc H
    refine ⟨fun h => (by rw [h] at hr; cases hr), fun j hj => ?_⟩
    by_cases hji : j = i
    · subst hji; exact hy.wpOp hi (uw _ _ hT hc) ⟨fun h => hT (by rw [getD_set_ne true his] at h; exact h), H⟩
    · have := ready_mono hj hji
      rw [H.1] at this
      cases this
  | succ fuel ih =>
    intro listed a w hfree hr hy hT hc H
    refine ⟨fun h => (by rw [h] at hr; cases hr), fun j hj => ?_⟩
    by_cases hji : j = i
    · subst hji; exact hy.wpOp hi (uw _ _ hT hc) ⟨fun h => hT (by rw [getD_set_ne true his] at h; exact h), H⟩
    · have h1 := H.2 j (ready_mono hj hji)
      obtain ⟨hjun, oj, hoj, hall⟩ := mem_ready.1 hj
      have hnot : ∀ e ∈ oj.after, Region.binds md e = true → e.on ≠ i := fun e he hb heq => by
        have h1 := hall e he hb
        have h0 := (mem_ready.1 hr).1
        rw [heq] at h1
        rcases Nat.lt_or_ge i listed.size with h' | h'
        · simp [h'] at h0 h1; rw [h0] at h1; cases h1
        · simp [Array.getElem?_eq_none h'] at h1
      have h2 := wpOp_putIf (S := U) hoj (hfree j oj hoj hji hjun hnot) (fun cs b => hsel i oi cs b hi) (fun cs b => hsel j oj cs b hoj) hQ hy h1
      have hfree' : ∀ k ok, ops[k]? = some ok → k ≠ i → (listed.setIfInBounds j true).getD k true = false →
          (∀ e ∈ ok.after, Region.binds md e = true → e.on ≠ i) → oi.apart ops ok = true := fun k ok hk hki hun hno => by
        refine hfree k ok hk hki ?_ hno
        by_cases hjk : j = k
        · subst hjk; exact hjun
        · rw [getD_set_ne true hjk] at hun; exact hun
      have hc' : (∀ w, U w) ∨ (listed.setIfInBounds j true).getD st true = false := by
        rcases hc with h | h
        · exact .inl h
        · rcases hU with h' | ⟨_, h'⟩
          · exact .inl h'
          · have hjs : j ≠ st := by
              rintro rfl
              obtain ⟨e, he, hb, heq⟩ := h' oj hoj
              exact hnot e he hb heq
            exact .inr (by rw [getD_set_ne true hjs]; exact h)
      have hTn : ∀ w' : World, (((listed.setIfInBounds i true).setIfInBounds j true).getD st true = false → T w') → (listed.setIfInBounds j true).getD st true = false → T w' := fun w' h3 h4 => by
        refine h3 ?_
        rw [Array.setIfInBounds_comm _ _ (Ne.symm hji), getD_set_ne true his]
        exact h4
      refine wpOp_mono (fun a' w' h3 => ⟨hTn w' h3.2.1, ih (listed.setIfInBounds j true) a' w' hfree' (ready_mono hr (Ne.symm hji)) h3.1 (hTn w' h3.2.1) hc' ?_⟩) h2
      rw [Array.setIfInBounds_comm _ _ hji]
      exact h3.2.2
/-- What yields in whatever world is taken first. -/
theorem wpAnyL_take0 {i : Nat} {oi : Oper} {v : Value} {fuel : Nat} {listed : Array Bool} {a : Act} {w : World} (hi : ops[i]? = some oi)
    (hs : Region.noSelect ops = true) (hf : Region.free md ops listed i = true) (hr : (Region.ready md ops listed).contains i = true) (his : (i == st) = false)
    (hQ : ∀ c a w, Q (.panic c) (a.put oi.dst v) w → Q (.panic c) a w) (hy : YieldsIf P ops (fun _ => True) oi v a) (hT : listed.getD st true = false → T w)
    (h : wpAnyL P md ops Q T st fuel (listed.setIfInBounds i true) (a.put oi.dst v) w) : wpAnyL P md ops Q T st (fuel + 1) listed a w :=
  wpAnyL_first (fun _ => True) hi (Region.noSelect_spec hs) hQ (by simpa using his) (.inl fun _ => trivial) fuel listed a w (Region.free_spec hi hf) (by simpa using hr) hy hT (.inl fun _ => trivial) h
/-- A load, for which the first store waits, is taken first. -/
theorem wpAnyL_take1 {i : Nat} {oi : Oper} {v : Value} {fuel : Nat} {listed : Array Bool} {a : Act} {w : World} (hi : ops[i]? = some oi)
    (hs : Region.noSelect ops = true) (hf : Region.free md ops listed i = true) (hr : (Region.ready md ops listed).contains i = true) (his : (i == st) = false)
    (hst : listed.getD st true = false) (hwt : (((ops[st]?).map fun o => o.after.any fun e => Region.binds md e && e.on == i).getD false) = true)
    (hQ : ∀ c a w, Q (.panic c) (a.put oi.dst v) w → Q (.panic c) a w) (hy : YieldsIf P ops T oi v a) (hT : listed.getD st true = false → T w)
    (h : wpAnyL P md ops Q T st fuel (listed.setIfInBounds i true) (a.put oi.dst v) w) : wpAnyL P md ops Q T st (fuel + 1) listed a w :=
  wpAnyL_first T hi (Region.noSelect_spec hs) hQ (by simpa using his) (.inr ⟨rfl, fun os ho => by
    rw [ho] at hwt
    simp only [Option.map_some, Option.getD_some, Array.any_eq_true'] at hwt
    obtain ⟨e, he, hb⟩ := hwt
    simp only [Bool.and_eq_true, beq_iff_eq] at hb
    exact ⟨e, he, hb.1, hb.2⟩⟩) fuel listed a w (Region.free_spec hi hf) (by simpa using hr) hy hT (.inr hst) h
def AllReadyL (P : Program) (md : Region.Mode) (ops : Array Oper) (Q : Exit → Act → World → Prop) (T : World → Prop) (st : Nat) (fuel : Nat) (listed : Array Bool) (a : Act) (w : World) (rs : List Nat) : Prop :=
  ∀ i ∈ rs, wpOp P ops Q i (fun a' w' => ((listed.setIfInBounds i true).getD st true = false → T w') ∧ wpAnyL P md ops Q T st fuel (listed.setIfInBounds i true) a' w') a w
theorem AllReadyL.nil {fuel : Nat} {listed : Array Bool} {a : Act} {w : World} : AllReadyL P md ops Q T st fuel listed a w [] := fun _ h => by cases h
theorem AllReadyL.cons {fuel : Nat} {listed : Array Bool} {a : Act} {w : World} {i : Nat} {o : Oper} {rs : List Nat} (ho : ops[i]? = some o)
    (h : ∀ K' : Act → World → Prop, Shut (∀ a w, ((listed.setIfInBounds i true).getD st true = false → T w) → (((listed.setIfInBounds i true).getD st true = false → T w) → wpAnyL P md ops Q T st fuel (listed.setIfInBounds i true) a w) → K' a w) → if Region.wanted o (yielded ops a.tmps) = true then Oper.wp P o a w K' Q else K' (a.put o.dst undef) w)
    (hs : AllReadyL P md ops Q T st fuel listed a w rs) : AllReadyL P md ops Q T st fuel listed a w (i :: rs) := fun j hj => by
  rcases List.mem_cons.1 hj with rfl | hj
  · exact wpOp_step ho (fun K' hK => h K' (fun a w hS hW => hK a w ⟨hS, hW hS⟩))
  · exact hs j hj
theorem wpAnyL_ready {rs : List Nat} {fuel : Nat} {listed : Array Bool} {a : Act} {w : World} (hr : Region.ready md ops listed = rs) (hne : rs ≠ [])
    (h : AllReadyL P md ops Q T st fuel listed a w rs) : wpAnyL P md ops Q T st (fuel + 1) listed a w := ⟨fun h0 => absurd (hr ▸ h0) hne, hr ▸ h⟩
theorem wpAnyL_done {listed : Array Bool} {a : Act} {w : World} (hr : Region.ready md ops listed = []) (h : Q .normal a w) : ∀ fuel, wpAnyL P md ops Q T st fuel listed a w
  | 0 => ⟨hr, h⟩
  | _ + 1 => ⟨fun _ => h, by rw [hr]; simp⟩
theorem wp_region_L (T : World → Prop) (st : Nat) {id : Nat} {a : Act} {w : World} (hm : P.follows .mixedOrders = true) (hT : T w.drew)
    (h : ((Array.replicate ops.size false).getD st true = false → T w.drew) → wpAnyL P .any ops Q T st ops.size (Array.replicate ops.size false) a w.drew) : (Code.region id ops true).wp P Q a w :=
  wp_region_any hm (wpAny_of_L _ _ _ _ (h fun _ => hT))
end
end Go.Proofs.Ytgkagigagcamoaa
