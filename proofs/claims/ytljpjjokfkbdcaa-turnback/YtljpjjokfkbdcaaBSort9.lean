/-
The contract of slices.Sort at []byte.
-/
import Derived.Test.YtljpjjokfkbdcaaBSort8
namespace Go.Proofs.Ytljpjjokfkbdcaa
open Go.RowKit

theorem len_fit : ∀ n, n < 1001 → Lib.bitLen n ≤ 64 := by decide +kernel
theorem sortB_any (b n c : Nat) (g : Nat → Nat) (w : World) (H : SB w b n g w) (hn : n ≤ 1000) :
    Calls Try.prog 16 #[.slice (some ⟨b, 0, none⟩) n c] w (SrtB w b n 0 n g) := by
  have HH := hid H
  have hC := fun W => Try.bits_Len (n : Int) W (by omega) (by omega)
  rw [Int.toNat_natCast] at hC
  have hL := len_fit n (by omega)
  generalize Lib.bitLen n = L at hC hL
  have HP : Hid (∀ W, SB w b n g W → Calls Try.prog 32 #[.slice (some ⟨b, 0, none⟩) n c, .int .i64 0, .int .i64 (n : Int), .int .i64 (L : Int)] W (SrtB w b n 0 n g)) := hid (fun W (hs : SB w b n g W) => (pdq_any w b n c hn (n + 1)).at_ 0 n L g W (by omega) hs (fun h0 => by omega) (Nat.zero_le _) (Nat.le_refl _) hL)
  clear H
  go_enter Try.func16, Try.ntmps16
  have wn : IntKind.u64.wrap (n : Int) = (n : Int) := IntWalk.u64_in _ (by omega)
  go_wp2_with fail
  with_reducible refine (hC _).mono ?_
  rintro e w1 ⟨rfl, rfl⟩
  go_wp2_with fail
  with_reducible refine (HP.out _ HH.out).mono ?_
  rintro e w2 hf
  have HF := hid hf
  have he := hf.1
  subst he
  clear hf
  go_wp2
  go_end0
  exact HF.out
end Go.Proofs.Ytljpjjokfkbdcaa
