/-
The contract of strings.NewReplacer at the four strings of quillkeep.CodeTurned.
-/
import Derived.Test.YtpjhmmoncbghdaaRepOnce
namespace Go.Proofs.Ytpjhmmoncbghdaa
open Go.RowKit

def onL : List Value := [.string ⟨#[48]⟩, .string ⟨#[49]⟩, .string ⟨#[49]⟩, .string ⟨#[48]⟩]
/-- A new Replacer. -/
def RepAt (w : World) (P : Nat) : Prop :=
  ∃ G cap f, w.rowIs P 87 5 f ∧ f 0 = .int .u32 0 ∧ f 1 = .int .i32 0 ∧ f 4 = .slice (some ⟨G, 0, none⟩) 4 cap ∧ (∀ k, k < 4 → w.cell? ⟨G, k, none⟩ = some (.string (oldNew k))) ∧ G ≠ P
set_option maxRecDepth 100000 in
set_option maxHeartbeats 1000000 in
theorem newRep_any (N : Nat) (w : World) (hs : ∀ k, k < 4 → w.cell? ⟨N, k, none⟩ = some (.string (oldNew k))) :
    Calls Try.prog 29 #[.slice (some ⟨N, 0, none⟩) 4 4] w fun e w' => ∃ P, e = .returned (.pointer (some ⟨P, 0, none⟩)) ∧ w.heap.size ≤ P ∧ RepAt w' P ∧ Below w.heap.size w w' := by
  have h0 : w.cell? ⟨N, 0, none⟩ = some (.string ⟨#[48]⟩) := hs 0 (by omega)
  have h1 : w.cell? ⟨N, 1, none⟩ = some (.string ⟨#[49]⟩) := hs 1 (by omega)
  have h2 : w.cell? ⟨N, 2, none⟩ = some (.string ⟨#[49]⟩) := hs 2 (by omega)
  have h3 : w.cell? ⟨N, 3, none⟩ = some (.string ⟨#[48]⟩) := hs 3 (by omega)
  have happ : ∀ {ops : Array Oper} {rest : List Oper} {o : Oper} {a : Act} {Q : Exit → Act → World → Prop} (hgd : o.guard = none) (s x : Operand) (ho : o.op = .call { callee := .builtin .append, args := #[s, x], argTypes := #[22, 22] }) (_ : a.eval s = .slice none 0 0) (_ : a.eval x = .slice (some ⟨N, 0, none⟩) 4 4)
      (h : ∀ G cap w', w.heap.size ≤ G → G < w'.heap.size → (∀ k, k < 4 → w'.cell? ⟨G, k, none⟩ = some (.string (oldNew k))) → Below w.heap.size w w' → wpList Try.prog ops Q rest (a.put o.dst (.slice (some ⟨G, 0, none⟩) 4 cap)) w'), wpList Try.prog ops Q (o :: rest) a w := by
    intro ops rest o a Q hgd s x ho hev hex h
    obtain ⟨i0, hi, hz0, hz1, hz2⟩ := info_parts Try.infoStr'
    refine wpList_append_own _ hgd s x 22 ho w.heap.size 9 i0 (.string ⟨#[]⟩) 1 16 Try.underlying22 hi hz0 hz1 hz2 rfl (by decide) (.slice none 0 0) 0 [] hev (World.ownsRow_nil _ _ _ _) ⟨N, 0, none⟩ 4 4 onL hex rfl ?_ ?_ ?_ ?_ ?_ ?_
    · intro j u hj
      match j, hj with
      | 0, hj => simp [onL] at hj; subst hj; simpa [Addr.add] using h0
      | 1, hj => simp [onL] at hj; subst hj; simpa [Addr.add] using h1
      | 2, hj => simp [onL] at hj; subst hj; simpa [Addr.add] using h2
      | 3, hj => simp [onL] at hj; subst hj; simpa [Addr.add] using h3
    · intro u hu; simp [onL] at hu; rcases hu with rfl | rfl | rfl <;> rfl
    · unfold maxLen; omega
    · omega
    · omega
    · intro v' w' hw1 hw2 _
      have hb : Below w.heap.size w w' := (Below.refl _ w).grown hw2 (Nat.le_refl _) (fun k hk => by cases hk)
      have hlt := World.ownsRow.lt hw1
      have hcell := fun g cap (e : v' = .slice (some ⟨g, 0, none⟩) 4 cap) (k : Nat) (hk : k < 4) => World.ownsRow.cellAt (e ▸ hw1) k (by omega)
      rcases hw1.2 with ⟨rfl, h0⟩ | ⟨g, cap, cur, rfl, e2, e3, e4⟩
      · simp at h0
      · refine h g cap w' e2 ((hlt g rfl).2) (fun k hk => ?_) hb
        rw [hcell g cap rfl k hk]
        match k, hk with
        | 0, _ => rfl
        | 1, _ => rfl
        | 2, _ => rfl
        | 3, _ => rfl
  clear hs h0 h1 h2 h3
  go_enter Try.func29, Try.ntmps29
  go_wp2_with (at_builtin; with_reducible refine happ rfl _ _ rfl rfl rfl ?_)
  intro G cap w1 hG hG2 hs1 hb1
  go_wp2
  go_ret
  have hb2 := bl_new w1 (.cells #[.int .u32 0, .int .i32 0, .int .u32 0, .nilIface, .slice (some ⟨G, 0, none⟩) 4 cap] 87)
  refine ⟨w1.heap.size, rfl, hb1.size, ⟨G, cap, fun k => #[.int .u32 0, .int .i32 0, .int .u32 0, .nilIface, .slice (some ⟨G, 0, none⟩) 4 cap].getD k .nilIface, ?_, rfl, rfl, rfl, fun k hk => (hb2.cell (p := ⟨G, k, none⟩) hG2).trans (hs1 k hk), by omega⟩, bl_then hb1 hb2⟩
  exact World.rowIs_alloc w1 _ _ _ (fun i hi => by
    have h5 : i < 5 := by simpa using hi
    match i, h5 with
    | 0, _ => rfl
    | 1, _ => rfl
    | 2, _ => rfl
    | 3, _ => rfl
    | 4, _ => rfl)
end Go.Proofs.Ytpjhmmoncbghdaa
