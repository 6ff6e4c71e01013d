
/-
The contract of quillkeep.fronts; and what goes there and back again.
-/
import Derived.Test.YtapjodbaaejldaaFrPut
import Derived.Test.YtapjodbaaejldaaSeg39
import Derived.Test.YtapjodbaaejldaaEqual
namespace Go.Proofs.Ytapjodbaaejldaa
open Go.RowKit

def aab : ByteArray := ⟨#[97, 97, 98]⟩
theorem aab_put : Fm.putL (lst aab) = [97, 0, 98] := by decide +kernel
theorem lit3 (w : World) (N : Nat) (hN : w.heap.size = N) : IRow (w.alloc (.cells #[.int .i64 97, .int .i64 0, .int .i64 98] 3)) (some ⟨N, 0, none⟩) 3 (fun k => ([97, 0, 98] : List Int).getD k 0) := IRow.lit w [97, 0, 98] 3 3 N hN rfl
/-- The numbers that Put answers, as Get takes them. -/
def pg (s : ByteArray) (k : Nat) : Int := ((Fm.putL (lst s)).getD k 0 : Nat)
theorem nl_put (s : ByteArray) : nl (pg s) s.size = Fm.putL (lst s) := by
  have hl := Fm.putL_len (lst s)
  rw [lst_len] at hl
  refine List.ext_getElem (by rw [nl_len, hl]) fun i h1 h2 => ?_
  rw [nl_len] at h1
  have := nl_at (g := pg s) h1
  rw [List.getD_eq_getElem?_getD, List.getElem?_eq_getElem (by rw [nl_len]; exact h1)] at this
  rw [show (nl (pg s) s.size)[i] = (pg s i).toNat from this]
  unfold pg
  rw [List.getD_eq_getElem?_getD, List.getElem?_eq_getElem h2]
  rfl
theorem pg_places (s : ByteArray) : Places (pg s) s.size := by
  intro k hk
  have := Fm.putL_lt (s := lst s) (i := k) (by rw [lst_len]; exact hk)
  unfold pg
  omega
theorem nl_back (g : Nat → Int) {n : Nat} (h : Places g n) : Fm.putL (lst (mkS (Fm.getL (nl g n)))) = nl g n := by
  rw [lst_mk, Fm.put_get _ (nl_mem h)]
theorem mk_get_size (g : Nat → Int) (n : Nat) : (mkS (Fm.getL (nl g n))).size = n := by rw [mk_size, Fm.getL_len, nl_len]
/-- Get of what Put answered. -/
theorem FGet_put {A : Option Addr} {c : Nat} (s : ByteArray) (w : World) (hs : s.size ≤ 200) (hr : IRow w A s.size (pg s)) :
    Calls Try.prog 40 #[.slice A s.size c] w fun e w' => e = .returned (.tuple #[.string s, .int .i64 0]) ∧ Below w.heap.size w w' := by
  refine (FGet_fit w hr hs).mono ?_
  rintro e w' ⟨⟨_, rfl⟩ | ⟨h, _⟩, hb⟩
  · refine ⟨?_, hb⟩
    rw [nl_put, Fm.get_put, mk_lst]
  · exact absurd (pg_places s) h
end Go.Proofs.Ytapjodbaaejldaa
