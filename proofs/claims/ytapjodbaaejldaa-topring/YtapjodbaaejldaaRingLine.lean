
/-
The walk of quillkeep.RingLine: for every k, n and w it returns true.
-/
import Derived.Test.YtapjodbaaejldaaHitMath
import Derived.Test.YtapjodbaaejldaaRLine
import Derived.Test.YtapjodbaaejldaaOwnB
namespace Go.Proofs.Ytapjodbaaejldaa
open Go.RowKit

theorem ok_l23 : Rm.Ok 2 3 := ⟨by decide, by decide, by decide, by decide, by decide⟩
theorem line_23 : sd (Rm.lineD 2 3) = ⟨#[97, 97, 97, 98, 97, 98, 98, 98]⟩ := by
  rw [show Rm.lineD 2 3 = [0, 0, 0, 1, 0, 1, 1, 1] by decide +kernel]
  rfl
theorem Line_23 (w : World) : Calls Try.prog 57 #[.int .i64 2, .int .i64 3] w fun e w' => e = .returned (.tuple #[.string ⟨#[97, 97, 97, 98, 97, 98, 98, 98]⟩, .int .i64 0]) ∧ Below w.heap.size w w' := by
  have hc := Line_ok 2 3 w ok_l23 (by omega)
  rw [line_23, show ((2 : Nat) : Int) = 2 from rfl, show ((3 : Nat) : Int) = 3 from rfl] at hc
  exact hc
/-- The letter that w gives at place i. -/
def dgt (v : ByteArray) (k i : Nat) : Nat := (if i < v.size then (byt v i).toNat else 0) % k
def dgts (v : ByteArray) (k m : Nat) : List Nat := (List.range m).map (dgt v k)
theorem dgts_len (v : ByteArray) (k m : Nat) : (dgts v k m).length = m := by unfold dgts; simp
theorem dgts_succ (v : ByteArray) (k m : Nat) : dgts v k (m + 1) = dgts v k m ++ [dgt v k m] := by unfold dgts; rw [List.range_succ, List.map_append]; rfl
theorem dgts_low {v : ByteArray} {k m : Nat} (hk : 0 < k) : ∀ x, x ∈ dgts v k m → x < k := by
  intro x hx
  unfold dgts at hx
  obtain ⟨i, _, rfl⟩ := List.mem_map.1 hx
  exact Nat.mod_lt _ hk
/-- The bytes of letters, as numbers. -/
def nums (l : List Nat) : List Int := l.map fun (x : Nat) => 97 + (x : Int)
theorem nums_len (l : List Nat) : (nums l).length = l.length := by unfold nums; simp
theorem nums_app (a b : List Nat) : nums (a ++ b) = nums a ++ nums b := by unfold nums; rw [List.map_append]
theorem nums_sd (l : List Nat) : strOfNums (nums l) = sd l := by
  refine wd_inj ?_
  rw [wd_sd, wd, strOfNums_data]
  unfold nums
  rw [List.map_map]
  refine List.map_congr_left fun x _ => ?_
  show UInt8.ofNat (97 + (x : Int)).toNat = _
  rw [show (97 + (x : Int)).toNat = 97 + x by omega]
theorem sd_inj {a b : List Nat} (ha : ∀ x, x ∈ a → x < 100) (hb : ∀ x, x ∈ b → x < 100) (h : sd a = sd b) : a = b := by
  have hl := congrArg ByteArray.size h
  rw [sd_size, sd_size] at hl
  refine List.ext_getElem hl fun i h1 h2 => ?_
  have := congrArg (fun s => fb s i) h
  try simp only at this
  rw [sd_at h1 ha, sd_at h2 hb, getD_lt h1, getD_lt h2] at this
  omega
/-- x is s again and again. -/
structure Rep (s x : ByteArray) : Prop where
  mul : x.size % s.size = 0
  at_ : ∀ i, i < x.size → fb x i = fb s (i % s.size)
theorem Rep.one (s : ByteArray) : Rep s s := ⟨Nat.mod_self _, fun i hi => by rw [Nat.mod_eq_of_lt hi]⟩
theorem Rep.more {s x : ByteArray} (h : Rep s x) : Rep s (x ++ s) := by
  refine ⟨by rw [size_app, Nat.add_mod_right]; exact h.mul, fun i hi => ?_⟩
  rw [size_app] at hi
  unfold fb
  rw [wd_app]
  by_cases hx : i < x.size
  · rw [Lm.bn_app_l (by rw [wd_len]; exact hx)]
    exact h.at_ i hx
  · have e : i = (wd x).length + (i - x.size) := by rw [wd_len]; omega
    rw [e, Lm.bn_app_r]
    congr 1
    rw [← e]
    obtain ⟨q, hq⟩ := Nat.dvd_of_mod_eq_zero h.mul
    rw [show i = (i - x.size) + s.size * q by omega, Nat.add_mul_mod_self_left, ← hq, Nat.mod_eq_of_lt (by omega)]
    omega
theorem Rep.part {L : List Nat} {x : ByteArray} {n E i j : Nat} (h : Rep (sd L) x) (hL : ∀ y, y ∈ L → y < 100) (h0 : 0 < L.length) (hE : E ≤ x.size) (hj : j = i + n) (hjE : j ≤ E) : (x.extract 0 E).extract i j = sd (Rm.win L n i) := by
  have hwl := Rm.win_len L n i
  have hz : (x.extract 0 E).size = E := by rw [size_ext]; omega
  refine wd_inj (Lm.bn_ext ?_ fun t ht => ?_)
  · rw [wd_len, wd_len, size_ext, sd_size, hwl, hz]; omega
  · rw [wd_len, size_ext, hz] at ht
    rw [bn_wd, byt_ext (by omega), byt_ext (by omega), Nat.zero_add]
    show fb x (i + t) = fb (sd (Rm.win L n i)) t
    rw [h.at_ _ (by omega), sd_size, sd_at (Nat.mod_lt _ h0) hL, sd_at (by omega) (Rm.win_mem h0 hL n i), getD_lt (l := Rm.win L n i) (by omega), Rm.win_get]
end Go.Proofs.Ytapjodbaaejldaa
