/-
The contracts of trie.Check and quillref.PatsErr: which error a list of patterns has.
-/
import Derived.Test.YtcnfdmpggnhlgaaTrieBuild
import Derived.Test.YtcnfdmpggnhlgaaShelfP
namespace Go.Proofs.Ytcnfdmpggnhlgaa
open Go.RowKit

/-- Pattern k is an earlier one. -/
def dup (g : Nat → ByteArray) (k : Nat) : Bool := (List.range k).any fun j => decide (g j = g k)
theorem dup_iff {g : Nat → ByteArray} {k : Nat} : dup g k = true ↔ ∃ j, j < k ∧ g j = g k := by
  unfold dup
  simp [List.any_eq_true]
def patErr (g : Nat → ByteArray) (k : Nat) : Int := if (g k).size = 0 then 5 else if 20 < (g k).size then 2 else if dup g k = true then 10 else 0
/-- The first error among the patterns from k on. -/
def errFrom (g : Nat → ByteArray) : Nat → Nat → Int
  | 0, _ => 0
  | d + 1, k => if patErr g k = 0 then errFrom g d (k + 1) else patErr g k
def patsErr (g : Nat → ByteArray) (n : Nat) : Int := if 10 < n then 2 else errFrom g n 0
theorem errFrom_skip (g : Nat → ByteArray) : ∀ (d k m : Nat), k ≤ m → m ≤ k + d → (∀ j, k ≤ j → j < m → patErr g j = 0) → errFrom g d k = errFrom g (k + d - m) m
  | 0, k, m, h1, h2, _ => by
    obtain rfl : m = k := by omega
    rw [show m + 0 - m = 0 by omega]
  | d + 1, k, m, h1, h2, h => by
    by_cases e : m = k
    · subst e
      rw [show m + (d + 1) - m = d + 1 by omega]
    · rw [errFrom, if_pos (h k (by omega) (by omega)), errFrom_skip g d (k + 1) m (by omega) (by omega) (fun j h3 h4 => h j (by omega) h4)]
      rw [show k + 1 + d - m = k + (d + 1) - m by omega]
theorem patsErr_at {g : Nat → ByteArray} {n k : Nat} (hn : n ≤ 10) (hk : k < n) (h : ∀ j, j < k → patErr g j = 0) (hx : patErr g k ≠ 0) : patsErr g n = patErr g k := by
  unfold patsErr
  rw [if_neg (by omega), errFrom_skip g n 0 k (by omega) (by omega) (fun j _ hj => h j hj), show 0 + n - k = (n - k - 1) + 1 by omega, errFrom, if_neg hx]
theorem patsErr_ok {g : Nat → ByteArray} {n : Nat} (hn : n ≤ 10) (h : ∀ j, j < n → patErr g j = 0) : patsErr g n = 0 := by
  unfold patsErr
  rw [if_neg (by omega), errFrom_skip g n 0 n (by omega) (by omega) (fun j _ hj => h j hj), show 0 + n - n = 0 by omega, errFrom]
theorem patsErr_zero {g : Nat → ByteArray} {n : Nat} (h : patsErr g n = 0) : n ≤ 10 ∧ ∀ j, j < n → patErr g j = 0 := by
  have hn : n ≤ 10 := by
    rcases Nat.lt_or_ge 10 n with h' | h'
    · unfold patsErr at h; rw [if_pos h'] at h; omega
    · exact h'
  refine ⟨hn, ?_⟩
  intro j
  induction j using Nat.strongRecOn with
  | _ j ih =>
    intro hj
    by_cases hx : patErr g j = 0
    · exact hx
    · exact absurd (patsErr_at hn hj (fun i hi => ih i hi (by omega)) hx ▸ h) hx

theorem contains_s (w : World) (A : Option Addr) (n c : Nat) (g : Nat → ByteArray) (i : Nat) (x : ByteArray) (hrow : SRow w A n g) (hi : i ≤ n) (hn : n ≤ 1000000) :
    Calls Try.prog 91 #[.slice A i c, .string x] w fun e w' => e = .returned (.bool ((List.range i).any fun j => decide (g j = x))) ∧ w = w' := by
  by_cases h0 : i = 0
  · subst h0
    refine (Try.slices_Contains_string_empty A c x w).mono ?_
    rintro e w1 ⟨rfl, rfl⟩
    exact ⟨rfl, rfl⟩
  · obtain ⟨b, o, rfl, _, _⟩ := hrow 0 (by omega)
    refine (Try.slices_Contains_string b o i c ((List.range i).map g) x w (by simp) (by omega) ?_).mono ?_
    · intro j hj
      have hj' : j < i := by simpa using hj
      obtain ⟨b', o', e, _, hc⟩ := hrow j (by omega)
      cases e
      rw [hc]
      simp [hj']
    · rintro e w1 ⟨rfl, rfl⟩
      refine ⟨ret_bool ?_, rfl⟩
      rw [List.take_of_length_le (by simp), Bool.eq_iff_iff, Lib.containsS_iff]
      simp [List.any_eq_true]
theorem index_s (w : World) (A : Option Addr) (n c : Nat) (g : Nat → ByteArray) (k : Nat) (hrow : SRow w A n g) (hk : k < n) (hn : n ≤ 1000000) :
    Calls Try.prog 112 #[.slice A n c, .string (g k)] w fun e w' => w = w' ∧ ∃ r : Int, e = .returned (.int .i64 r) ∧ decide (r < (k : Int)) = dup g k := by
  obtain ⟨b, o, rfl, _, _⟩ := hrow 0 (by omega)
  have hg : ∀ j, j < n → ((List.range n).map g).getD j ByteArray.empty = g j := by
    intro j hj
    simp [hj]
  refine (Try.slices_Index_string b o n c ((List.range n).map g) (g k) w (by simp) (by omega) ?_).mono ?_
  · intro j hj
    have hj' : j < n := by simpa using hj
    obtain ⟨b', o', e, _, hc⟩ := hrow j (by omega)
    cases e
    rw [hc, hg j hj']
  · rintro e w1 ⟨rfl, rfl⟩
    refine ⟨rfl, _, rfl, ?_⟩
    have hfirst : ∃ f, f ≤ k ∧ g f = g k ∧ ∀ j, j < f → g j ≠ g k := by
      have key : ∀ m, m ≤ k → g m = g k → ∃ f, f ≤ k ∧ g f = g k ∧ ∀ j, j < f → g j ≠ g k := by
        intro m
        induction m using Nat.strongRecOn with
        | _ m ih =>
          intro hm e
          by_cases h : ∃ j, j < m ∧ g j = g k
          · obtain ⟨j, hj, hj2⟩ := h
            exact ih j hj (by omega) hj2
          · exact ⟨m, hm, e, fun j hj hj2 => h ⟨j, hj, hj2⟩⟩
      exact key k (by omega) rfl
    obtain ⟨f, hf1, hf2, hf3⟩ := hfirst
    rw [Lib.idxOfS_hit ((List.range n).map g) n f (g k) (by omega) (by simp) (by rw [hg f (by omega)]; exact hf2) (fun j hj => by rw [hg j (by omega)]; exact hf3 j hj)]
    rw [Bool.eq_iff_iff, dup_iff, decide_eq_true_eq]
    constructor
    · intro h
      exact ⟨f, by omega, hf2⟩
    · rintro ⟨j, hj, e⟩
      rcases Nat.lt_or_ge f k with h | h
      · omega
      · exact absurd e (hf3 j (by omega))

theorem tcheck_in (w : World) (A : Option Addr) (n c : Nat) (g : Nat → ByteArray) (hrow : SRow w A n g) (hc : n ≤ c) :
    Calls Try.prog 67 #[.slice A n c] w fun e w' => e = .returned (.int .i64 (patsErr g n)) ∧ w = w' := by
  by_cases hn : n ≤ 10
  · have HR := hid hrow
    clear hrow
    go_enter Try.func67, Try.ntmps67
    go_wp2
    go_loopw [10] (fun i wr => ∃ k : Nat, k ≤ n ∧ i = .int .i64 k ∧ wr = w ∧ Hid (∀ j, j < k → patErr g j = 0)) (fun i _ => n - (intOf i).toNat)
    case atStart => exact ⟨0, by omega, rfl, rfl, hid (fun j hj => by omega)⟩
    case round =>
      obtain ⟨k, hk, rfl, rfl, HZ⟩ := hrel
      by_cases h : k < n
      · obtain ⟨b, o, rfl, _, hce⟩ := HR.out k h
        by_cases h0 : (g k).size = 0
        · have hem := no_bytes h0
          have HE : Hid (patsErr g n = 5) := by
            have e : patErr g k = 5 := by unfold patErr; rw [if_pos h0]
            exact (patsErr_at hn h HZ.out (by rw [e]; omega)).trans e
          clear h0
          go_wp2
          go_ret
          exact ⟨ret_int HE.out.symm, rfl⟩
        · have hem := some_bytes (s := g k) (by omega)
          by_cases h20 : 20 < (g k).size
          · have HE : Hid (patsErr g n = 2) := by
              have e : patErr g k = 2 := by unfold patErr; rw [if_neg h0, if_pos h20]
              exact (patsErr_at hn h HZ.out (by rw [e]; omega)).trans e
            go_wp2
            go_ret
            exact ⟨ret_int HE.out.symm, rfl⟩
          · go_wp2_with fail
            with_reducible refine (contains_s _ _ n c g k (g k) HR.out hk (by omega)).mono ?_
            rintro e w1 ⟨rfl, rfl⟩
            by_cases hd : dup g k = true
            · rw [show ((List.range k).any fun j => decide (g j = g k)) = true from hd]
              have HE : Hid (patsErr g n = 10) := by
                have e : patErr g k = 10 := by unfold patErr; rw [if_neg h0, if_neg h20, if_pos hd]
                exact (patsErr_at hn h HZ.out (by rw [e]; omega)).trans e
              clear hd
              go_wp2
              go_ret
              exact ⟨ret_int HE.out.symm, rfl⟩
            · rw [show ((List.range k).any fun j => decide (g j = g k)) = false from Bool.not_eq_true _ ▸ hd]
              have HE : Hid (patErr g k = 0) := by
                show patErr g k = 0
                unfold patErr
                rw [if_neg h0, if_neg h20, if_neg hd]
              clear hd
              go_wp2
              go_round
              case measure => simp [intOf]; omega
              case rel =>
                refine ⟨k + 1, by omega, by go_num, trivial, hid (fun j hj => ?_)⟩
                by_cases e : j = k
                · rw [e]; exact HE.out
                · exact HZ.out j (by omega)
      · obtain rfl : k = n := by omega
        have HE : Hid (patsErr g k = 0) := patsErr_ok hn HZ.out
        go_wp2
        go_ret
        exact ⟨ret_int HE.out.symm, rfl⟩
  · have HE : Hid (patsErr g n = 2) := by
      show patsErr g n = 2
      unfold patsErr
      rw [if_pos (by omega)]
    go_enter Try.func67, Try.ntmps67
    go_wp2
    go_ret
    exact ⟨ret_int HE.out.symm, rfl⟩
end Go.Proofs.Ytcnfdmpggnhlgaa
