
/-
slices.SortFunc at []api.Edit with merge.Both's closure: what a row of edits of small numbers holds behind it.
-/
import Derived.Test.YtgkagigagcamoaaRefBoth
import Derived.Test.YtgkagigagcamoaaShelfS
namespace Go.Proofs.Ytgkagigagcamoaa
open Go.RowKit

/-- An edit of small numbers. -/
abbrev SmEv : Type := { x : Es.Ev // Bn x }
instance : Inhabited SmEv := ⟨⟨⟨0, 0, ByteArray.empty⟩, by unfold Bn; decide⟩⟩
def encS (x : SmEv) : List Value := evC x.1
def cfM (x y : SmEv) : Int := x.1.a - y.1.a
theorem lt_cfM (x y : SmEv) : ltOf cfM x y = decide (x.1.a < y.1.a) := by
  unfold ltOf cfM
  rw [decide_eq_decide]
  omega
theorem swo_cfM : Sort.SWO (ltOf cfM) where
  irrefl x := by rw [lt_cfM]; simp
  trans x y z h1 h2 := by rw [lt_cfM, decide_eq_true_iff] at *; omega
  ntrans x y z h1 h2 := by rw [lt_cfM, decide_eq_false_iff_not] at *; omega
theorem both1_any (x y : Es.Ev) (w : World) (hx : Bn x) (hy : Bn y) :
    Calls Try.prog 51 #[.agg #[.int .i64 x.a, .int .i64 x.d, .string x.s], .agg #[.int .i64 y.a, .int .i64 y.d, .string y.s]] w fun e w' => e = .returned (.int .i64 (x.a - y.a)) ∧ ∃ q os, w' = Sort.grow (w.drewN q) os := by
  obtain ⟨c0, c1, c2, c3, c4, c5⟩ := two_boxes w x y 59
  have hw : IntKind.i64.wrap (x.a - y.a) = x.a - y.a := IntWalk.i64_in _ (by unfold Bn at hx hy; omega)
  clear hx hy
  go_enter Try.func51, Try.ntmps51
  go_wp2
  go_ret
  exact ⟨rfl, 0, _, by rw [Sort.alloc_eq_grow, Sort.alloc_eq_grow, Sort.grow_grow]; rfl⟩
theorem cmpsM (b o n : Nat) (w : World) : CmpLays Try.prog 51 #[] encS 3 cfM b o n w :=
  fun _ _ _ _ x y => both1_any x.1 y.1 _ x.2 y.2
/-- The row of edits as the sort has it. -/
def smA (n : Nat) (E : Nat → Es.Ev) (hB : ∀ k, k < n → Bn (E k)) : Array SmEv := Array.ofFn fun k : Fin n => ⟨E k.1, hB k.1 k.2⟩
theorem smA_size (n : Nat) (E : Nat → Es.Ev) (hB : ∀ k, k < n → Bn (E k)) : (smA n E hB).size = n := by simp [smA]
theorem smA_get (n : Nat) (E : Nat → Es.Ev) (hB : ∀ k, k < n → Bn (E k)) (k : Nat) (hk : k < n) : (smA n E hB)[k]!.1 = E k := by
  rw [getElem!_pos _ k (by rw [smA_size]; exact hk)]
  simp [smA]
theorem smA_list (n : Nat) (E : Nat → Es.Ev) (hB : ∀ k, k < n → Bn (E k)) : (smA n E hB).toList.map Subtype.val = el E n := by
  refine List.ext_getElem (by simp [smA, el]) fun i h1 h2 => ?_
  simp [smA, el]
theorem holds_sm {b o n : Nat} {E : Nat → Es.Ev} {w : World} (hB : ∀ k, k < n → Bn (E k)) (hr : ∀ k, k < n → Ev3 w b (o + k * 3) (E k)) : Sort.HoldsK encS 3 w b o (smA n E hB) := by
  intro j hj
  rw [Sort.size_flatK, smA_size] at hj
  rw [Sort.get_flatK _ _ _ _ (by rw [smA_size]; exact hj)]
  have hk : j / 3 < n := by omega
  obtain ⟨h1, h2, h3, h4, h5, h6⟩ := hr _ hk
  unfold encS
  rw [smA_get _ _ _ _ hk]
  have hm : j % 3 = 0 ∨ j % 3 = 1 ∨ j % 3 = 2 := by omega
  rcases hm with hm | hm | hm
  · rw [hm, show o + j = o + j / 3 * 3 by omega]
    exact ⟨h1, h4⟩
  · rw [hm, show o + j = o + j / 3 * 3 + 1 by omega]
    exact ⟨h2, h5⟩
  · rw [hm, show o + j = o + j / 3 * 3 + 2 by omega]
    exact ⟨h3, h6⟩
theorem ev3_sm {b o : Nat} {d : Array SmEv} {w : World} (h : Sort.HoldsK encS 3 w b o d) (k : Nat) (hk : k < d.size) : Ev3 w b (o + k * 3) (d[k]!).1 := by
  have c0 := Sort.HoldsK.cell h hk (c := 0) (by omega)
  have c1 := Sort.HoldsK.cell h hk (c := 1) (by omega)
  have c2 := Sort.HoldsK.cell h hk (c := 2) (by omega)
  exact ⟨c0.1, c1.1, c2.1, c0.2, c1.2, c2.2⟩
theorem grown_sm (b o m : Nat) (d : Array SmEv) (os : Array Obj) (w : World) : w.grownBy (sortWorldK encS 3 w b o m d os) (some b) := by
  refine ⟨rfl, rfl, rfl, by simp [sortWorldK, Sort.putRowK, Sort.putRow, Sort.mapBlock, Sort.ahead], fun j hj hne => ?_⟩
  have hn : b ≠ j := fun e => hne (by rw [e])
  unfold sortWorldK Sort.putRowK
  rw [Sort.heap_grow_old _ _ (by simpa [Sort.putRow, Sort.mapBlock, Sort.ahead] using hj)]
  simp [Sort.putRow, Sort.mapBlock, Sort.ahead, Array.getElem?_modify, hn]
theorem sorted_sm {n : Nat} {E : Nat → Es.Ev} {hB : ∀ k, k < n → Bn (E k)} {d : Array SmEv} (hp : Sort.PermIn 0 (smA n E hB).size (smA n E hB) d) (hs : Sort.SortedIn (ltOf cfM) 0 (smA n E hB).size d) :
    (d.toList.map Subtype.val).Perm (el E n) ∧ (d.toList.map Subtype.val).Pairwise fun x y : Es.Ev => x.a ≤ y.a := by
  obtain ⟨h1, _, h3⟩ := hp
  have hd : d.toList.Perm (smA n E hB).toList := by
    have e1 : d.extract 0 (smA n E hB).size = d := by rw [← h1]; simp
    have e2 : (smA n E hB).extract 0 (smA n E hB).size = smA n E hB := by simp
    rw [e1, e2] at h3
    exact h3
  refine ⟨by rw [← smA_list n E hB]; exact hd.map _, ?_⟩
  rw [List.pairwise_map, List.pairwise_iff_getElem]
  intro i j hi hj hij
  have := hs i j (Nat.zero_le _) hij (by rw [← h1]; simpa using hj)
  rw [lt_cfM, decide_eq_false_iff_not, getElem!_pos d j (by simpa using hj), getElem!_pos d i (by simpa using hi)] at this
  simp only [Array.getElem_toList]
  omega
set_option maxHeartbeats 1000000 in
theorem sortF_any (b o n cap : Nat) (E : Nat → Es.Ev) (w : World) (hr : ∀ k, k < n → Ev3 w b (o + k * 3) (E k)) (hlt : b < w.heap.size) (hB : ∀ k, k < n → Bn (E k)) (hn : n ≤ 1000) :
    Calls Try.prog 50 #[.slice (some ⟨b, o, none⟩) n cap, .func (.func 51) #[] #[]] w fun e w' =>
      e = .returned (.tuple #[]) ∧ ∃ L : List Es.Ev, L.length = n ∧ L.Perm (el E n) ∧ (L.Pairwise fun x y => x.a ≤ y.a) ∧ (∀ k, k < n → Ev3 w' b (o + k * 3) (L.getD k Es.none_)) ∧ w.grownBy w' (some b) := by
  have eg : ∀ args w, (callFunc 51 args).run Try.prog w = .ok (.enter 51 args) w := enters_of Try.func51 (by kernel_rfl) rfl
  have hH := holds_sm hB hr
  have hcon := Try.slices_SortFunc 3 Try.isAgg59 Try.sizeOf59 encS (fun _ => rfl) (fun x v hv => by simp [encS, evC] at hv; rcases hv with rfl | rfl | rfl <;> rfl) cfM swo_cfM 51 #[] b o cap (smA n E hB) w eg (cmpsM b o _ w) hH hlt (by rw [smA_size]; omega)
  rw [smA_size] at hcon
  refine hcon.mono ?_
  rintro e w' ⟨rfl, d, m, os, hp, hs, rfl⟩
  have hds : d.size = n := by rw [hp.1, smA_size]
  have hs2 := sorted_sm (n := n) (E := E) (hB := hB) (d := d) (by rw [smA_size]; exact hp) (by rw [smA_size]; exact hs)
  refine ⟨rfl, d.toList.map Subtype.val, by simp [hds], hs2.1, hs2.2, fun k hk => ?_, grown_sm b o m d os w⟩
  have hh := holdsK_sortWorldK_c encS 3 w b o (smA n E hB) d m os hH hlt (by rw [smA_size, hds])
  have := ev3_sm hh k (by omega)
  have e : (d.toList.map Subtype.val).getD k Es.none_ = (d[k]!).1 := by
    rw [getElem!_pos d k (by omega), List.getD_eq_getElem?_getD]
    simp [hds, hk]
  rw [e]
  exact this
end Go.Proofs.Ytgkagigagcamoaa
