/-
The contract of the trie's build: the nodes that a list of patterns makes.
-/
import Derived.Test.YtcnfdmpggnhlgaaAdd
namespace Go.Proofs.Ytcnfdmpggnhlgaa
open Go.RowKit

/-- The first n cells at A hold the strings g 0, g 1, ..; they lie in blocks that are there. -/
def SRow (w : World) (A : Option Addr) (n : Nat) (g : Nat → ByteArray) : Prop :=
  ∀ k, k < n → ∃ b o, A = some ⟨b, o, none⟩ ∧ b < w.heap.size ∧ w.cell? ⟨b, o + k, none⟩ = some (.string (g k))
theorem SRow.keep {w w' : World} {A : Option Addr} {n : Nat} {g : Nat → ByteArray} (h : SRow w A n g) (hb : Below w.heap.size w w') : SRow w' A n g := by
  intro k hk
  obtain ⟨b, o, rfl, hlt, hc⟩ := h k hk
  exact ⟨b, o, rfl, Nat.lt_of_lt_of_le hlt hb.size, (hb.cell (p := ⟨b, o + k, none⟩) hlt).trans hc⟩
theorem SRow.fewer {w : World} {A : Option Addr} {n m : Nat} {g : Nat → ByteArray} (h : SRow w A n g) (hm : m ≤ n) : SRow w A m g := fun k hk => h k (by omega)

/-- The words of the nodes behind m patterns; the index of the pattern that a word is. -/
def preD (g : Nat → ByteArray) (m : Nat) (q : (List UInt8)) : Prop := q = [] ∨ ∃ k, k < m ∧ q <+: wd (g k)
def idxW (g : Nat → ByteArray) : Nat → (List UInt8) → Int
  | 0 => fun _ => -1
  | m + 1 => upd (idxW g m) (wd (g m)) m
theorem preD_next (g : Nat → ByteArray) (m : Nat) : preD g (m + 1) = fun q => preD g m q ∨ q <+: wd (g m) := by
  funext q
  unfold preD
  refine propext ⟨?_, ?_⟩
  · rintro (h | ⟨k, hk, h⟩)
    · exact .inl (.inl h)
    · by_cases e : k = m
      · subst e; exact .inr h
      · exact .inl (.inr ⟨k, by omega, h⟩)
  · rintro ((h | ⟨k, hk, h⟩) | h)
    · exact .inl h
    · exact .inr ⟨k, by omega, h⟩
    · exact .inr ⟨m, by omega, h⟩
theorem idxW_out (g : Nat → ByteArray) : ∀ (m : Nat) (q : (List UInt8)), (∀ k, k < m → q ≠ wd (g k)) → idxW g m q = -1
  | 0, _, _ => rfl
  | m + 1, q, h => by
    unfold idxW
    rw [upd_ne _ _ (h m (by omega))]
    exact idxW_out g m q (fun k hk => h k (by omega))
theorem idxW_not (g : Nat → ByteArray) (m : Nat) (q : (List UInt8)) (h : ¬ preD g m q) : idxW g m q = -1 :=
  idxW_out g m q fun k hk e => h (.inr ⟨k, hk, by rw [e]; exact List.prefix_refl _⟩)

theorem trie_root (g : Nat → ByteArray) (w : World) : TrieIn (w.alloc (.cells #[.int .u8 0, .int .i64 (-1), .slice none 0 0] 111)) w.heap.size (preD g 0) (idxW g 0) (fun _ => w.heap.size) (fun _ => []) (fun _ => .slice none 0 0) where
  root := .inl rfl
  down := by
    rintro p c (h | ⟨k, hk, _⟩)
    · simp at h
    · omega
  kids := by
    rintro p c _
    constructor
    · intro h; cases h
    · rintro (h | ⟨k, hk, _⟩)
      · simp at h
      · omega
  rise := fun _ _ => List.Pairwise.nil
  lo := fun _ _ => Nat.le_refl _
  inj := by
    rintro p q (rfl | ⟨k, hk, _⟩) (rfl | ⟨k', hk', _⟩) _
    · rfl
    · omega
    · omega
    · omega
  node := by
    rintro p (rfl | ⟨k, hk, _⟩)
    · exact World.rowIs_alloc w #[.int .u8 0, .int .i64 (-1), .slice none 0 0] 111 _ (fun i hi => by
        match i, hi with
        | 0, _ => rfl
        | 1, _ => rfl
        | 2, _ => rfl)
    · omega
  own := fun _ _ => World.ownsRow_nil _ _ _ _
  ap1 := fun _ _ _ _ => by simp [Value.ownBlock]
  ap2 := fun _ _ k _ _ h => by simp [Value.ownBlock] at h

def Built (w : World) (g : Nat → ByteArray) (n : Nat) (e : Ending) (w' : World) : Prop :=
  ∃ r, e = .returned (ptrTo r) ∧ Trie w' w.heap.size r (preD g n) (idxW g n) ∧ Below w.heap.size w w'

theorem build_in (w : World) (A : Option Addr) (n c : Nat) (g : Nat → ByteArray) (hrow : SRow w A n g) (hn : n ≤ 10) (hs : ∀ k, k < n → (g k).size ≤ 20) :
    Calls Try.prog 68 #[.slice A n c] w (Built w g n) := by
  have HR := hid hrow
  have HS := hid hs
  have HT := hid (trie_root g w)
  clear hrow hs
  go_enter Try.func68, Try.ntmps68
  go_wp2
  go_loopw [10] (fun i wr => ∃ k : Nat, k ≤ n ∧ i = .int .i64 k ∧ Hid (Trie wr w.heap.size w.heap.size (preD g k) (idxW g k)) ∧ Below w.heap.size w wr) (fun i _ => n - (intOf i).toNat)
  case atStart => exact ⟨0, by omega, rfl, hid ⟨_, _, _, rfl, HT.out⟩, bl_new _ _⟩
  case round =>
    obtain ⟨k, hk, rfl, HK, hbel⟩ := hrel
    by_cases h : k < n
    · obtain ⟨b, o, rfl, hlt, hc⟩ := HR.out k h
      have hc' : wr.cell? ⟨b, o + k, none⟩ = some (.string (g k)) := (hbel.cell (p := ⟨b, o + k, none⟩) hlt).trans hc
      obtain ⟨ad, ch, bl, har, hin⟩ := HK.out
      have HA := hid har
      have HI := hid hin
      have hsz := HS.out k h
      have hle := hbel.size
      clear har hin HK hc
      go_wp2_with fail
      rw [show (Value.pointer (some ⟨w.heap.size, 0, none⟩)) = ptrTo (ad []) by rw [HA.out]; rfl]
      with_reducible refine (add_in HI.out (g k) (k : Int) hsz (idxW_not g k) hle).mono ?_
      rintro e w1 ⟨rfl, hT, hb1⟩
      have HT2 := hid hT
      have HB2 := hid hb1
      clear hT hb1
      unfold ptrTo
      rw [HA.out]
      go_wp2
      go_round
      case measure => simp [intOf]; omega
      case rel =>
        refine ⟨k + 1, by omega, by go_num, ?_, hbel.trans HB2.out⟩
        rw [preD_next]
        have := HT2.out
        rw [HA.out] at this
        exact hid this
    · obtain rfl : k = n := by omega
      go_wp2
      go_ret
      exact ⟨_, rfl, HK.out, hbel⟩
end Go.Proofs.Ytcnfdmpggnhlgaa
