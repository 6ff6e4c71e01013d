/-
The contract of quillref.HitsOf, and of quilllaw.alike at rows of hits.
-/
import Derived.Test.YthfbilaklllelaaTFind
import Derived.Test.YthfbilaklllelaaHEqual
import Derived.Test.YthfbilaklllelaaShelfP
namespace Go.Proofs.Ythfbilaklllelaa
open Go.RowKit

theorem begins_next (g : Nat → ByteArray) (l : (List UInt8)) (n : Nat) : begins g (n + 1) l = begins g n l ++ if wd (g n) <+: l then [n] else [] := by
  unfold begins
  rw [List.range_succ, List.filter_append]
  congr 1
  by_cases h : wd (g n) <+: l <;> simp [h]
/-- The hits at the first k positions of l, and of the first j patterns at position k. -/
def hitsUp (g : Nat → ByteArray) (n : Nat) (l : (List UInt8)) (k j : Nat) : List (Nat × Nat) := hitsL g n l k ++ (begins g j (l.drop k)).map fun x => (k, x)
theorem hitsUp_zero (g : Nat → ByteArray) (n : Nat) (l : (List UInt8)) (k : Nat) : hitsUp g n l k 0 = hitsL g n l k := by unfold hitsUp begins; simp
theorem hitsUp_yes {g : Nat → ByteArray} {n : Nat} {l : (List UInt8)} {k j : Nat} (h : wd (g j) <+: l.drop k) : hitsUp g n l k (j + 1) = hitsUp g n l k j ++ [(k, j)] := by
  unfold hitsUp
  rw [begins_next, if_pos h, List.map_append, ← List.append_assoc]
  rfl
theorem hitsUp_no {g : Nat → ByteArray} {n : Nat} {l : (List UInt8)} {k j : Nat} (h : ¬ wd (g j) <+: l.drop k) : hitsUp g n l k (j + 1) = hitsUp g n l k j := by
  unfold hitsUp
  rw [begins_next, if_neg h, List.append_nil]
theorem hitsUp_end (g : Nat → ByteArray) (n : Nat) (l : (List UInt8)) (k : Nat) : hitsUp g n l k n = hitsL g n l (k + 1) := by
  unfold hitsUp
  rw [hitsL_next]
theorem hitsUp_len (g : Nat → ByteArray) (n : Nat) (l : (List UInt8)) (k j : Nat) : (hitsUp g n l k j).length ≤ k * n + j := by
  unfold hitsUp
  rw [List.length_append, List.length_map]
  have := hitsL_len g n l k
  have := begins_len g j (l.drop k)
  omega

set_option maxRecDepth 100000 in
theorem hitsOf_ok (w : World) (A : Option Addr) (n c : Nat) (g : Nat → ByteArray) (s : ByteArray) (hs : s.size ≤ 200) (hn : n ≤ 10) (hrow : SRow w A n g) :
    Calls Try.prog 16 #[.string s, .slice A n c] w fun e w' => ∃ v, e = .returned v ∧ OwnH w' w.heap.size v (hitsL g n (wd s) s.size) ∧ Below w.heap.size w w' := by
  have HR := hid hrow
  clear hrow
  go_enter Try.func16, Try.ntmps16
  go_wp2
  go_loopw [5, 11] (fun h i wr => ∃ k : Nat, k ≤ s.size ∧ i = .int .i64 k ∧ Hid (OwnH wr w.heap.size h (hitsL g n (wd s) k)) ∧ Below w.heap.size w wr) (fun _ i _ => s.size - (intOf i).toNat)
  case atStart => exact ⟨0, by omega, rfl, hid (OwnH.zero _ _), Below.refl _ _⟩
  case round =>
    obtain ⟨k, hk, rfl, HO, hbel⟩ := hrel
    by_cases h : k < s.size
    · have hkn : k * n ≤ 2000 := Nat.le_trans (Nat.mul_le_mul (by omega : k ≤ 200) hn) (by omega)
      go_wp2
      go_loopw [5, 16] (fun h i wi => ∃ j : Nat, j ≤ n ∧ i = .int .i64 j ∧ Hid (OwnH wi w.heap.size h (hitsUp g n (wd s) k j)) ∧ Below w.heap.size w wi) (fun _ i _ => n - (intOf i).toNat)
      case atStart => exact ⟨0, by omega, rfl, by rw [hitsUp_zero]; exact HO, hbel⟩
      case round =>
        clear HO hbel
        obtain ⟨j, hj, rfl, HO, hbel⟩ := hrel
        by_cases hjn : j < n
        · obtain ⟨b, o, rfl, hlt, hc0⟩ := HR.out j hjn
          have hc := (hbel.cell (p := ⟨b, o + j, none⟩) hlt).trans hc0
          have hsz := hbel.size
          have hln := hitsUp_len g n (wd s) k j
          clear hc0
          go_wp2_with fail
          with_reducible refine (Try.strings_HasPrefix _ _ _).mono ?_
          rintro e w5 ⟨rfl, rfl⟩
          have hiff : Lib.hasPrefix (s.extract k s.size).data.toList (g j).data.toList = true ↔ wd (g j) <+: (wd s).drop k := by
            rw [← wd_drop]
            unfold Lib.hasPrefix
            exact List.isPrefixOf_iff_prefix
          by_cases hp : wd (g j) <+: (wd s).drop k
          · rw [hiff.2 hp]
            have HP := hid hp
            clear hp hiff
            go_wp2_with (at_builtin; with_reducible refine app_hit rfl _ _ rfl rfl HO.out _ rfl rfl hsz (by omega) ?_)
            intro g2 cap2 w6 hown hgr hat
            have G1 := hid hown
            have G2 := hid (hbel.trans ((Below.refl _ _).grown hgr hsz (fun b hb => (World.ownsRow.lt HO.out b hb).1)))
            clear hown hgr hat
            go_wp2
            go_roundw
            case measure => simp [intOf]; omega
            case rel => exact ⟨j + 1, by omega, by go_num, by rw [hitsUp_yes HP.out]; exact G1, G2.out⟩
          · have hpf : Lib.hasPrefix (s.extract k s.size).data.toList (g j).data.toList = false := by
              rw [Bool.eq_false_iff]
              exact fun h => hp (hiff.1 h)
            rw [hpf]
            have HP := hid hp
            clear hp hiff hpf
            go_wp2
            go_roundw
            case measure => simp [intOf]; omega
            case rel => exact ⟨j + 1, by omega, by go_num, by rw [hitsUp_no HP.out]; exact HO, hbel⟩
        · obtain rfl : j = n := by omega
          go_wp2
          go_roundw
          case measure => simp [intOf]; omega
          case rel => exact ⟨k + 1, by omega, by go_num, by rw [← hitsUp_end]; exact HO, hbel⟩
    · obtain rfl : k = s.size := by omega
      go_wp2
      go_ret
      exact ⟨_, rfl, HO.out, hbel⟩

theorem halike_any {A1 A2 : Option Addr} {n m c1 c2 : Nat} {g1 g2 : Nat → Nat × Nat} {w : World} (h1 : HRow w A1 n g1) (h2 : HRow w A2 m g2) (hn : n ≤ maxLen) (hm : m ≤ maxLen) :
    Calls Try.prog 15 #[.slice A1 n c1, .slice A2 m c2] w fun e w' => e = .returned (.bool (eqH n m g1 g2)) ∧ Drew w w' := by
  have H1 := hid h1
  have H2 := hid h2
  clear h1 h2
  go_enter Try.func15, Try.ntmps15
  go_wp2_with fail
  with_reducible refine (hequal_any H1.out H2.out hn hm).mono ?_
  rintro e w1 ⟨rfl, hd⟩
  go_wp2
  go_ret
  exact ⟨rfl, hd⟩
end Go.Proofs.Ythfbilaklllelaa
