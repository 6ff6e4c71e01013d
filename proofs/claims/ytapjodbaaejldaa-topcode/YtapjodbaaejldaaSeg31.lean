/-
Several texts of this proof, one behind the other.
-/
import Derived.Test.YtapjodbaaejldaaTurnMore
import Derived.Test.YtapjodbaaejldaaEdAp

/-
What turn.Get may answer, and quillkeep.turns: the example.
-/
namespace Go.Proofs.Ytapjodbaaejldaa
open Go.RowKit

def banS : ByteArray := ⟨#[98, 97, 110, 97, 110, 97]⟩
def nnbS : ByteArray := ⟨#[110, 110, 98, 97, 97, 97]⟩
instance (x : List UInt8) (i j : Nat) : Decidable (Tm.R x i j) := inferInstanceAs (Decidable (_ ∨ _))
def banσ (k : Nat) : Nat := [5, 3, 1, 0, 4, 2].getD k 0
theorem ban_put : Tm.IsPut (lst banS) (lst nnbS) 3 := by
  refine ⟨rfl, ⟨banσ, ⟨⟨?_, ?_⟩, ?_⟩, ?_, fun _ => ⟨by decide, by decide⟩⟩, fun h => absurd h (by decide)⟩
  · have h : ∀ k, k < 6 → banσ k < 6 := by decide +kernel
    exact h
  · have h : ∀ i, i < 6 → ∀ j, j < 6 → banσ i = banσ j → i = j := by decide +kernel
    exact fun i j hi hj => h i hi j hj
  · have h : ∀ j, j < 6 → ∀ i, i < j → Tm.R (lst banS) (banσ i) (banσ j) := by decide +kernel
    exact fun i j hij hj => h j hj i hij
  · have h : ∀ k, k < 6 → (lst nnbS).getD k 0 = Tm.W (lst banS) (banσ k) 5 := by decide +kernel
    exact h
theorem ban_back : gtS nnbS 3 = banS := lst_inj (by rw [gtS_lst, ban_put.back])
/-- What turn.Get answers: an error and nothing, or the word of which t and at are the transform. -/
def GetOut (t : ByteArray) (at_ : Int) (w : World) (e : Ending) (w' : World) : Prop :=
  ((∃ c : Int, (c == 0) = false ∧ (c != 0) = true ∧ e = .returned (.tuple #[.string ByteArray.empty, .int .i64 c])) ∨
    ∃ (S : ByteArray) (n : Nat), at_ = (n : Int) ∧ S.size ≤ 200 ∧ Tm.IsPut (lst S) (lst t) n ∧ e = .returned (.tuple #[.string S, .int .i64 0])) ∧ Below w.heap.size w w'
theorem Get_out (t : ByteArray) (at_ : Int) (w : World) : Calls Try.prog 41 #[.string t, .int .i64 at_] w (GetOut t at_ w) := by
  by_cases hs : t.size ≤ 200
  · by_cases ha : at_ < 0 ∨ ((max t.size 1 : Nat) : Int) ≤ at_
    · refine (Get_arg t at_ w hs ha).mono ?_
      rintro e w1 ⟨rfl, rfl⟩
      exact ⟨.inl ⟨1, by decide, by decide, rfl⟩, Below.refl _ _⟩
    · obtain ⟨n, rfl⟩ : ∃ n : Nat, at_ = (n : Int) := ⟨at_.toNat, by omega⟩
      refine (Get_fit t n w hs (by omega)).mono ?_
      rintro e w1 ⟨⟨hp, rfl⟩ | ⟨hp, rfl⟩, hb⟩
      · exact ⟨.inr ⟨gtS t n, n, rfl, by rw [gtS_size]; exact hs, by rw [gtS_lst]; exact hp, rfl⟩, hb⟩
      · exact ⟨.inl ⟨3, by decide, by decide, rfl⟩, hb⟩
  · refine (Get_large t at_ w (by omega)).mono ?_
    rintro e w1 ⟨rfl, rfl⟩
    exact ⟨.inl ⟨2, by decide, by decide, rfl⟩, Below.refl _ _⟩
theorem Get_ban (w : World) : Calls Try.prog 41 #[.string ⟨#[110, 110, 98, 97, 97, 97]⟩, .int .i64 3] w fun e w' => e = .returned (.tuple #[.string ⟨#[98, 97, 110, 97, 110, 97]⟩, .int .i64 0]) ∧ Below w.heap.size w w' := by
  refine (Get_fit nnbS 3 w (by decide) (by decide)).mono ?_
  rintro e w1 ⟨⟨hp, rfl⟩ | ⟨hp, rfl⟩, hb⟩
  · rw [ban_back]; exact ⟨rfl, hb⟩
  · exact absurd (by rw [ban_put.back]; exact ban_put) hp
theorem Put_ban (w : World) : Calls Try.prog 32 #[.string ⟨#[98, 97, 110, 97, 110, 97]⟩] w fun e w' => e = .returned (.tuple #[.string ⟨#[110, 110, 98, 97, 97, 97]⟩, .int .i64 3, .int .i64 0]) ∧ Below w.heap.size w w' := by
  refine (Put_ok banS w (by decide)).mono ?_
  rintro e w1 ⟨t, a, rfl, hp, hb⟩
  obtain ⟨h1, rfl⟩ := hp.unique ban_put
  obtain rfl : t = nnbS := lst_inj h1
  exact ⟨rfl, hb⟩
end Go.Proofs.Ytapjodbaaejldaa


/-
quilltop.works and quilltop.good: the examples of the whole; no error at all.
-/
namespace Go.Proofs.Ytapjodbaaejldaa
open Go.RowKit

def jelloL : List Es.Ev := [⟨0, 1, ⟨#[74]⟩⟩]
theorem jello_err : Es.eErr (((⟨#[104, 101, 108, 108, 111]⟩ : ByteArray).size : Nat) : Int) jelloL = 0 := by decide +kernel
theorem jello_done : mkS (Es.doneL (lst ⟨#[104, 101, 108, 108, 111]⟩) jelloL) = ⟨#[74, 101, 108, 108, 111]⟩ := by decide +kernel
theorem works_ok (w : World) : Calls Try.prog 34 #[] w fun e w' => e = .returned (.bool true) ∧ Below w.heap.size w w' := by
  have HW : Hid (∀ k, k < 1 → EvWf ((fun _ => (⟨0, 1, ⟨#[74]⟩⟩ : Es.Ev)) k)) := fun k _ => wf_lit ⟨0, 1, ⟨#[74]⟩⟩ (by decide +kernel)
  go_enter Try.func34, Try.ntmps34
  go_wp2_with fail
  with_reducible refine (Put_ban _).mono ?_
  rintro e w1 ⟨rfl, hb1⟩
  have HR : Hid (EvRow (w1.alloc (.cells #[.int .i64 0, .int .i64 1, .string ⟨#[74]⟩] 36)) (some ⟨w1.heap.size, 0, none⟩) 1 (fun _ => ⟨0, 1, ⟨#[74]⟩⟩)) := EvRow.one w1 ⟨0, 1, ⟨#[74]⟩⟩ 36 _ rfl
  have HB := hid (bl_then hb1 (bl_new w1 (.cells #[.int .i64 0, .int .i64 1, .string ⟨#[74]⟩] 36)))
  clear hb1
  go_wp2_with fail
  with_reducible refine (Apply_any (n := 1) ⟨#[104, 101, 108, 108, 111]⟩ _ HR.out HW.out (by decide) (by decide)).mono ?_
  rintro e w2 ⟨t, x, rfl, ha, hb2⟩
  have hel : el (fun _ => (⟨0, 1, ⟨#[74]⟩⟩ : Es.Ev)) 1 = jelloL := rfl
  rw [hel] at ha
  obtain ⟨rfl, rfl⟩ := ha.lit jello_err
  rw [jello_done]
  have HB := hid (bl_then HB.out hb2)
  clear hb2 ha HR HW hel
  go_wp2
  go_ret
  exact ⟨rfl, HB.out⟩
theorem topGood1 (n : Int) (w : World) (hn : (n != 0) = false) : Calls Try.prog 79 #[.int .i64 n] w fun e w' => e = .returned (.bool false) ∧ w = w' := by
  go_enter Try.func79, Try.ntmps79
  go_wp2
  go_ret
  exact ⟨rfl, rfl⟩
theorem topGoodIndex (b n c : Nat) (w : World) (hn : n ≤ 100) (hc : ∀ k, k < n → w.cell? ⟨b, k, none⟩ = some (.int .i64 0)) :
    Calls Try.prog 105 #[.slice (some ⟨b, 0, none⟩) n c, .func (Fn.func 79) #[] #[]] w fun e w' => e = .returned (.int .i64 (-1)) ∧ w = w' := by
  have HC := hid hc
  clear hc
  go_enter Try.func105, Try.ntmps105
  go_wp2
  go_loop [8] (fun i => ∃ k : Nat, k ≤ n ∧ i = .int .i64 k) (fun i => n - (intOf i).toNat)
  case atStart => exact ⟨0, Nat.zero_le _, rfl⟩
  case round =>
    obtain ⟨k, hk, rfl⟩ := hrel
    by_cases hlt : k < n
    · have hc := HC.out k hlt
      go_wp2_with fail
      with_reducible refine (topGood1 0 _ (by decide)).mono ?_
      rintro e w1 ⟨rfl, rfl⟩
      go_wp2
      go_round
      case rel => exact ⟨k + 1, by omega, by go_num⟩
      case measure => simp [intOf]; omega
    · go_wp2
      go_ret
      exact ⟨rfl, rfl⟩
theorem topGoodHas (b n c : Nat) (w : World) (hn : n ≤ 100) (hc : ∀ k, k < n → w.cell? ⟨b, k, none⟩ = some (.int .i64 0)) :
    Calls Try.prog 66 #[.slice (some ⟨b, 0, none⟩) n c, .func (Fn.func 79) #[] #[]] w fun e w' => e = .returned (.bool false) ∧ w = w' := by
  have HC := hid hc
  clear hc
  go_enter Try.func66, Try.ntmps66
  go_wp2_with fail
  with_reducible refine (topGoodIndex b n c _ hn HC.out).mono ?_
  rintro e w1 ⟨rfl, rfl⟩
  go_wp2
  go_ret
  exact ⟨rfl, rfl⟩
theorem topGood_ok (b n c : Nat) (w : World) (hn : n ≤ 100) (hc : ∀ k, k < n → w.cell? ⟨b, k, none⟩ = some (.int .i64 0)) :
    Calls Try.prog 39 #[.slice (some ⟨b, 0, none⟩) n c] w fun e w' => e = .returned (.bool true) ∧ w = w' := by
  have HC := hid hc
  clear hc
  go_enter Try.func39, Try.ntmps39
  go_wp2_with fail
  with_reducible refine (topGoodHas b n c _ hn HC.out).mono ?_
  rintro e w1 ⟨rfl, rfl⟩
  go_wp2
  go_ret
  exact ⟨rfl, rfl⟩
/-- So many zeros in a new block. -/
theorem zeros_new (w : World) (t : TypeId) (n : Nat) : ∀ k, k < n → (w.alloc (.cells (List.replicate n (Value.int .i64 0)).toArray t)).cell? ⟨w.heap.size, k, none⟩ = some (.int .i64 0) := by
  intro k hk
  rw [cell_of_row _ _ _ _ _ _ (heap_alloc_new w _)]
  simp [hk]
end Go.Proofs.Ytapjodbaaejldaa

