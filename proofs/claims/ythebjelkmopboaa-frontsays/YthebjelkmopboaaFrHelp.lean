
/-
The contract of quillkeep.fronts; and what goes there and back again.
-/
import Derived.Test.YthebjelkmopboaaFrPut
import Derived.Test.YthebjelkmopboaaFrGet
import Derived.Test.YthebjelkmopboaaEqual
namespace Go.Proofs.Ythebjelkmopboaa
open Go.RowKit

def aab : ByteArray := ⟨#[97, 97, 98]⟩
theorem aab_put : Fm.putL (lst aab) = [97, 0, 98] := by decide +kernel
theorem lit3 (w : World) (N : Nat) (hN : w.heap.size = N) : IRow (w.alloc (.cells #[.int .i64 97, .int .i64 0, .int .i64 98] 3)) (some ⟨N, 0, none⟩) 3 (fun k => ([97, 0, 98] : List Int).getD k 0) := IRow.lit w [97, 0, 98] 3 3 N hN rfl
theorem fronts_ok (w : World) : Calls Try.prog 20 #[] w fun e w' => e = .returned (.bool true) ∧ Below w.heap.size w w' := by
  have hput := FPut_ok aab w (by decide)
  unfold aab at hput
  have hz : (⟨#[97, 97, 98]⟩ : ByteArray).size = 3 := rfl
  rw [hz] at hput
  have hg : ∀ k, k < 3 → (((Fm.putL (lst ⟨#[97, 97, 98]⟩)).getD k 0 : Nat) : Int) = ([97, 0, 98] : List Int).getD k 0 := by
    intro k hk
    rw [show Fm.putL (lst ⟨#[97, 97, 98]⟩) = [97, 0, 98] from aab_put]
    match k, hk with
    | 0, _ => rfl
    | 1, _ => rfl
    | 2, _ => rfl
  have HG := hid hg
  clear hg hz
  go_enter Try.func20, Try.ntmps20
  go_wp2_with fail
  with_reducible refine hput.mono ?_
  rintro e w1 ⟨A, c, rfl, hrow, hb⟩
  have hrow2 : IRow (w1.alloc (.cells #[.int .i64 97, .int .i64 0, .int .i64 98] 3)) A 3 (fun k => ([97, 0, 98] : List Int).getD k 0) := (hrow.congr HG.out).alloc _
  have hlit := lit3 w1 _ rfl
  have HB := hid hb
  have H2 := hid hrow2
  have HL := hid hlit
  clear hput hb hrow hrow2 hlit
  go_wp2_with fail
  with_reducible refine (equal_any H2.out HL.out (by decide) (by decide)).mono ?_
  rintro e w2 ⟨rfl, hd⟩
  have HD := hid hd
  clear hd
  have he : eqB 3 3 (fun k => ([97, 0, 98] : List Int).getD k 0) (fun k => ([97, 0, 98] : List Int).getD k 0) = true := eqB_true.2 ⟨rfl, fun _ _ => rfl⟩
  rw [he]
  clear H2 HL
  go_wp2
  go_ret
  exact ⟨rfl, bl_then HB.out (bl_then (bl_new w1 _) (HD.out.below _))⟩
/-- The numbers that Put answers, as Get takes them. -/
def pg (s : ByteArray) (k : Nat) : Int := ((Fm.putL (lst s)).getD k 0 : Nat)
theorem nl_put (s : ByteArray) : nl (pg s) s.size = Fm.putL (lst s) := by
  have hl := Fm.putL_len (lst s)
  rw [lst_len] at hl
  refine List.ext_getElem (by rw [nl_len, hl]) fun i h1 h2 => ?_
  rw [nl_len] at h1
  have := nl_at (g := pg s) h1
  rw [List.getD_eq_getElem?_getD, List.getElem?_eq_getElem (by rw [nl_len]; exact h1)] at this
  rw [show (nl (pg s) s.size)[i] = (pg s i).toNat from this]
  unfold pg
  rw [List.getD_eq_getElem?_getD, List.getElem?_eq_getElem h2]
  rfl
theorem pg_places (s : ByteArray) : Places (pg s) s.size := by
  intro k hk
  have := Fm.putL_lt (s := lst s) (i := k) (by rw [lst_len]; exact hk)
  unfold pg
  omega
theorem nl_back (g : Nat → Int) {n : Nat} (h : Places g n) : Fm.putL (lst (mkS (Fm.getL (nl g n)))) = nl g n := by
  rw [lst_mk, Fm.put_get _ (nl_mem h)]
theorem mk_get_size (g : Nat → Int) (n : Nat) : (mkS (Fm.getL (nl g n))).size = n := by rw [mk_size, Fm.getL_len, nl_len]
/-- Get of what Put answered. -/
theorem FGet_put {A : Option Addr} {c : Nat} (s : ByteArray) (w : World) (hs : s.size ≤ 200) (hr : IRow w A s.size (pg s)) :
    Calls Try.prog 10 #[.slice A s.size c] w fun e w' => e = .returned (.tuple #[.string s, .int .i64 0]) ∧ Below w.heap.size w w' := by
  refine (FGet_fit w hr hs).mono ?_
  rintro e w' ⟨⟨_, rfl⟩ | ⟨h, _⟩, hb⟩
  · refine ⟨?_, hb⟩
    rw [nl_put, Fm.get_put, mk_lst]
  · exact absurd (pg_places s) h
end Go.Proofs.Ythebjelkmopboaa
