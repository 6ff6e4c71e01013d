
/-
The contract of slices.Contains at a row of bytes of the call's own.
-/
import Derived.Test.YthebjelkmopboaaFrText
namespace Go.Proofs.Ythebjelkmopboaa
open Go.RowKit

theorem OwnT.cells {w : World} {base : Nat} {v : Value} {L : List UInt8} (h : OwnT w base v L) : ∃ A c, v = .slice A L.length c ∧ ∀ k, k < L.length → ∃ b, A = some ⟨b, 0, none⟩ ∧ w.cell? ⟨b, k, none⟩ = some (.int .u8 ((L.getD k 0).toNat : Int)) := by
  have hcell := fun g cap (e : v = .slice (some ⟨g, 0, none⟩) L.length cap) (k : Nat) (hk : k < L.length) => World.ownsRow.cellAt (e ▸ h) k (by omega)
  rcases h.2 with ⟨rfl, h0⟩ | ⟨g, cap, cur, rfl, h1⟩
  · exact ⟨none, 0, by rw [h0], fun k hk => by omega⟩
  · refine ⟨_, cap, rfl, fun k hk => ⟨g, rfl, ?_⟩⟩
    rw [hcell g cap rfl k hk, List.getElem?_map, List.getElem?_eq_getElem hk, List.getD_eq_getElem?_getD, List.getElem?_eq_getElem hk]
    rfl
theorem bindex_any {A : Option Addr} {c : Nat} {L : List UInt8} (x : UInt8) (w : World) (hL : L.length ≤ 1000000) (h : ∀ k, k < L.length → ∃ b, A = some ⟨b, 0, none⟩ ∧ w.cell? ⟨b, k, none⟩ = some (.int .u8 ((L.getD k 0).toNat : Int))) :
    Calls Try.prog 37 #[.slice A L.length c, .int .u8 (x.toNat : Int)] w fun e w' => (∃ z : Int, e = .returned (.int .i64 z) ∧ (0 ≤ z ↔ x ∈ L)) ∧ w' = w := by
  have H := hid h
  clear h
  obtain ⟨n, hn⟩ : ∃ n, n = L.length := ⟨_, rfl⟩
  rw [← hn] at hL ⊢
  have HN := hid hn
  clear hn
  go_enter Try.func37, Try.ntmps37
  go_wp2
  go_loopw [8] (fun i wr => ∃ k : Nat, k ≤ n ∧ i = .int .i64 (k : Int) ∧ Hid (∀ j, j < k → L.getD j 0 ≠ x) ∧ wr = w) (fun i _ => n - (intOf i).toNat)
  case atStart => exact ⟨0, by omega, rfl, fun j hj => by omega, rfl⟩
  case round =>
    obtain ⟨k, hk, rfl, HA, rfl⟩ := hrel
    by_cases hlt : k < n
    · have hlt' : (k : Int) < (n : Int) := by omega
      obtain ⟨b, rfl, hc⟩ := H.out k (by rw [← HN.out]; exact hlt)
      obtain ⟨y, hy⟩ : ∃ y, y = L.getD k 0 := ⟨_, rfl⟩
      rw [← hy] at hc
      by_cases he : x = y
      · have heq : ((x.toNat : Int) == (y.toNat : Int)) = true := by rw [he]; simp
        have HE : Hid (x ∈ L) := by
          have hkl : k < L.length := by rw [← HN.out]; exact hlt
          unfold Hid
          rw [he, hy, List.getD_eq_getElem?_getD, List.getElem?_eq_getElem hkl]
          exact List.getElem_mem hkl
        clear he hy HA
        go_wp2
        go_ret
        exact ⟨⟨_, rfl, ⟨fun _ => HE.out, fun _ => by omega⟩⟩, rfl⟩
      · have heq : ((x.toNat : Int) == (y.toNat : Int)) = false := (byte_ne he).2
        have HAn : Hid (∀ j, j < k + 1 → L.getD j 0 ≠ x) := by
          intro j hj
          by_cases e : j = k
          · rw [e, ← hy]; exact fun h => he h.symm
          · exact HA.out j (by omega)
        clear he hy HA
        go_wp2
        go_roundw
        case measure => simp [intOf]; omega
        case rel => exact ⟨k + 1, by omega, by go_num, HAn, by trivial⟩
    · have hd : decide ((k : Int) < (n : Int)) = false := decide_eq_false (by omega)
      obtain rfl : n = k := by omega
      have HE : Hid (x ∉ L) := by
        intro hm
        obtain ⟨j, hj, e⟩ := List.getElem_of_mem hm
        refine HA.out j (by rw [HN.out]; exact hj) ?_
        rw [List.getD_eq_getElem?_getD, List.getElem?_eq_getElem hj]
        exact e
      clear HA
      go_wp2
      go_ret
      exact ⟨⟨_, rfl, ⟨fun h => by omega, fun h => absurd h HE.out⟩⟩, rfl⟩
/-- slices.Contains at bytes. -/
theorem bhas_any {base : Nat} {v : Value} {L : List UInt8} (x : UInt8) (w : World) (h : OwnT w base v L) (hL : L.length ≤ 1000000) :
    Calls Try.prog 23 #[v, .int .u8 (x.toNat : Int)] w fun e w' => (∃ b : Bool, e = .returned (.bool b) ∧ (b = true ↔ x ∈ L)) ∧ w' = w := by
  obtain ⟨A, c, rfl, hc⟩ := h.cells
  have HC := hid hc
  clear hc h
  obtain ⟨n, hn⟩ : ∃ n, n = L.length := ⟨_, rfl⟩
  have hix := bindex_any (c := c) x w hL HC.out
  rw [← hn] at hL hix ⊢
  clear hn
  go_enter Try.func23, Try.ntmps23
  go_wp2_with fail
  with_reducible refine hix.mono ?_
  rintro e w1 ⟨⟨z, rfl, hz⟩, rfl⟩
  have HZ := hid hz
  clear hz hix
  by_cases h0 : 0 ≤ z
  · have hd : decide (0 ≤ z) = true := decide_eq_true h0
    go_wp2
    go_ret
    exact ⟨⟨true, rfl, ⟨fun _ => HZ.out.1 h0, fun _ => rfl⟩⟩, rfl⟩
  · have hd : decide (0 ≤ z) = false := decide_eq_false h0
    go_wp2
    go_ret
    exact ⟨⟨false, rfl, ⟨fun h => absurd h (by decide), fun h => by have := HZ.out.2 h; omega⟩⟩, rfl⟩
end Go.Proofs.Ythebjelkmopboaa
