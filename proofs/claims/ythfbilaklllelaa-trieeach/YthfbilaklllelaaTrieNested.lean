/-
The walk of quillkeep.TrieNested: it returns true for all strings and lists of patterns.
-/
import Derived.Test.YthfbilaklllelaaTries
import Derived.Deep.RegionHeld3
namespace Go.Proofs.Ythfbilaklllelaa
open Go.RowKit

theorem mem_hitsL {g : Nat → ByteArray} {n : Nat} {l : (List UInt8)} {k : Nat} {h : Nat × Nat} : h ∈ hitsL g n l k ↔ h.1 < k ∧ h.2 < n ∧ wd (g h.2) <+: l.drop h.1 := by
  unfold hitsL
  rw [List.mem_flatMap]
  constructor
  · rintro ⟨a, ha, h1⟩
    obtain ⟨j, hj, rfl⟩ := List.mem_map.1 h1
    obtain ⟨h2, h3⟩ := mem_begins.1 hj
    exact ⟨List.mem_range.1 ha, h2, h3⟩
  · rintro ⟨h1, h2, h3⟩
    exact ⟨h.1, List.mem_range.2 h1, List.mem_map.2 ⟨h.2, mem_begins.2 ⟨h2, h3⟩, rfl⟩⟩
/-- What a hit says. -/
theorem hit_at {g : Nat → ByteArray} {n : Nat} {l : (List UInt8)} {k i : Nat} (hi : i < (hitsL g n l k).length) : ((hitsL g n l k).getD i (0, 0)).1 < k ∧ ((hitsL g n l k).getD i (0, 0)).2 < n ∧ wd (g ((hitsL g n l k).getD i (0, 0)).2) <+: l.drop ((hitsL g n l k).getD i (0, 0)).1 := by
  rw [getD_lt hi]
  exact mem_hitsL.1 (List.getElem_mem hi)
theorem pre_of {a b : ByteArray} {l : (List UInt8)} (h1 : wd a <+: l) (h2 : wd b <+: l) : Lib.hasPrefix a.data.toList b.data.toList = true ∨ Lib.hasPrefix b.data.toList a.data.toList = true := by
  unfold Lib.hasPrefix
  rw [List.isPrefixOf_iff_prefix, List.isPrefixOf_iff_prefix]
  rcases Nat.le_total (wd a).length (wd b).length with h | h
  · exact .inr (List.prefix_of_prefix_length_le h1 h2 h)
  · exact .inl (List.prefix_of_prefix_length_le h2 h1 h)

set_option maxHeartbeats 1000000 in
set_option maxRecDepth 100000 in
theorem nested_ok (s : ByteArray) (A : Option Addr) (n c : Nat) (g : Nat → ByteArray) (w : World) (hs : s.size ≤ 200) (hrow : SRow w A n g) (hc : n ≤ c) (hx : patsErr g n = 0) :
    Calls Try.prog 7 #[.string s, .slice A n c] w fun e w' => e = .returned (.bool true) ∧ Below w.heap.size w w' := by
  have hn := (good_of hx).few
  have HR := hid hrow
  clear hrow
  go_enter Try.func7, Try.ntmps7
  go_wp2_with fail
  with_reducible refine (tries_true _).mono ?_
  rintro e w0 ⟨rfl, hb0⟩
  have HR0 := hid (HR.out.keep hb0)
  go_wp2_with fail
  with_reducible refine (TFind_ok _ _ _ _ g s hs HR0.out hc hx).mono ?_
  rintro e w1 ⟨v, rfl, ho, hb1⟩
  obtain ⟨A1, c1, rfl, hc1, hrow⟩ := ho.row
  obtain ⟨H, hH⟩ : ∃ H, H = hitsL g n (wd s) s.size := ⟨_, rfl⟩
  have hlen := hitsL_len g n (wd s) s.size
  have hmul : s.size * n ≤ 2000 := Nat.le_trans (Nat.mul_le_mul hs hn) (by omega)
  have HAT : Hid (∀ i, i < H.length → (H.getD i (0, 0)).1 < s.size ∧ (H.getD i (0, 0)).2 < n ∧ wd (g (H.getD i (0, 0)).2) <+: (wd s).drop (H.getD i (0, 0)).1) := by
    rw [hH]
    exact fun i hi => hit_at hi
  rw [← hH] at hrow hlen hc1 ⊢
  obtain ⟨m, hm⟩ : ∃ m, m = H.length := ⟨_, rfl⟩
  rw [← hm] at hrow hlen hc1 HAT ⊢
  obtain ⟨hf, hhf⟩ : ∃ hf, hf = fun k => H.getD k (0, 0) := ⟨_, rfl⟩
  have HAT2 : Hid (∀ i, i < m → (hf i).1 < s.size ∧ (hf i).2 < n ∧ wd (g (hf i).2) <+: (wd s).drop (hf i).1) := by
    rw [hhf]
    exact HAT.out
  rw [← hhf] at hrow
  have HH := hid hrow
  have HB := hid (bl_then hb0 hb1)
  have HR1 := hid (HR0.out.keep hb1)
  have hm2 : m ≤ 2000 := by omega
  clear hrow ho hb0 hb1 HR HR0 hlen hmul hm hH hhf HAT
  go_wp2
  go_loopw [28] (fun i wr => ∃ k : Nat, k ≤ m ∧ i = .int .i64 k ∧ Below w1.heap.size w1 wr) (fun i _ => m - (intOf i).toNat)
  case atStart => exact ⟨0, by omega, rfl, Below.refl _ _⟩
  case round =>
    obtain ⟨k, hk, rfl, hbel⟩ := hrel
    by_cases h : k < m
    · obtain ⟨b, o, rfl, hlt, h1, h2⟩ := HH.out k h
      have hc1' := (hbel.cell (p := ⟨b, o + k * 2, none⟩) hlt).trans h1
      have hc2' := (hbel.cell (p := ⟨b, o + k * 2 + 1, none⟩) hlt).trans h2
      obtain ⟨hx1, hx2, hx3⟩ := HAT2.out k h
      generalize hf k = X at hc1' hc2' hx1 hx2 hx3 h1 h2
      have HX := hid hx3
      have hsz := hbel.size
      have hcx1 : (wr.alloc (.cells #[.int .i64 (X.1 : Int), .int .i64 (X.2 : Int)] 36)).cell? ⟨wr.heap.size, 0, none⟩ = some (.int .i64 (X.1 : Int)) := by simp
      have hcx2 : (wr.alloc (.cells #[.int .i64 (X.1 : Int), .int .i64 (X.2 : Int)] 36)).cell? ⟨wr.heap.size, 1, none⟩ = some (.int .i64 (X.2 : Int)) := by simp
      have HC1 := hid hcx1
      have HC2 := hid hcx2
      have HBX := hid (hbel.alloc hsz (.cells #[.int .i64 (X.1 : Int), .int .i64 (X.2 : Int)] 36))
      clear h1 h2 hx3 hcx1 hcx2
      go_wp2
      go_loopw [37] (fun i wi => ∃ j : Nat, j ≤ k ∧ i = .int .i64 j ∧ wi.cell? ⟨wr.heap.size, 0, none⟩ = some (.int .i64 (X.1 : Int)) ∧ wi.cell? ⟨wr.heap.size, 1, none⟩ = some (.int .i64 (X.2 : Int)) ∧ wr.heap.size < wi.heap.size ∧ Below w1.heap.size w1 wi) (fun i _ => k - (intOf i).toNat)
      case atStart => exact ⟨0, by omega, rfl, HC1.out, HC2.out, by simp, HBX.out⟩
      case round =>
        obtain ⟨j, hj, rfl, hn1, hn2, hnl, hbi⟩ := hrel
        by_cases hjk : j < k
        · obtain ⟨b', o', e', _, h1, h2⟩ := HH.out j (by omega)
          cases e'
          have hd1 := (hbi.cell (p := ⟨b, o + j * 2, none⟩) hlt).trans h1
          have hd2 := (hbi.cell (p := ⟨b, o + j * 2 + 1, none⟩) hlt).trans h2
          obtain ⟨hy1, hy2, hy3⟩ := HAT2.out j (by omega)
          generalize hf j = Y at hd1 hd2 hy1 hy2 hy3 h1 h2
          have HY := hid hy3
          have hszi := hbi.size
          clear h1 h2 hy3
          obtain ⟨bp, op, rfl, hpl, hpx0⟩ := HR1.out X.2 hx2
          obtain ⟨bp', op', e', _, hpy0⟩ := HR1.out Y.2 hy2
          cases e'
          have hpx := (hbi.cell (p := ⟨bp, op + X.2, none⟩) hpl).trans hpx0
          have hpy := (hbi.cell (p := ⟨bp, op + Y.2, none⟩) hpl).trans hpy0
          have hbpl : bp < wr.heap.size := by omega
          have HBY := hid (hbi.alloc hszi (.cells #[.int .i64 (Y.1 : Int), .int .i64 (Y.2 : Int)] 36))
          clear hpx0 hpy0
          by_cases hat : X.1 = Y.1
          · have hpre := pre_of HX.out (hat ▸ HY.out)
            have hne : ((X.1 : Int) != (Y.1 : Int)) = false := by simp; omega
            clear hat
            go_wp2
            go_quiet (fail)
            go_wp2_with fail
            with_reducible refine (Try.strings_HasPrefix _ _ _).mono ?_
            rintro e w5 ⟨rfl, rfl⟩
            by_cases hp1 : Lib.hasPrefix (g X.2).data.toList (g Y.2).data.toList = true
            · rw [hp1]
              go_wp2
              go_roundw
              case measure => simp [intOf]; omega
              case rel => exact ⟨j + 1, by omega, by go_num, (World.cell?_alloc_lt _ _ _ hnl).trans hn1, (World.cell?_alloc_lt _ _ _ hnl).trans hn2, by simp; omega, bl_drewN HBY.out _⟩
            · have hp2 := hpre.resolve_left hp1
              have hp1' : Lib.hasPrefix (g X.2).data.toList (g Y.2).data.toList = false := by simpa using hp1
              rw [hp1']
              go_wp2_with fail
              with_reducible refine (Try.strings_HasPrefix _ _ _).mono ?_
              rintro e w5 ⟨rfl, rfl⟩
              rw [hp2]
              go_wp2
              go_roundw
              case measure => simp [intOf]; omega
              case rel => exact ⟨j + 1, by omega, by go_num, (World.cell?_alloc_lt _ _ _ hnl).trans hn1, (World.cell?_alloc_lt _ _ _ hnl).trans hn2, by simp; omega, bl_drewN HBY.out _⟩
          · have hne : ((X.1 : Int) != (Y.1 : Int)) = true := by simp; omega
            go_wp2
            go_roundw
            case measure => simp [intOf]; omega
            case rel => exact ⟨j + 1, by omega, by go_num, (World.cell?_alloc_lt _ _ _ hnl).trans hn1, (World.cell?_alloc_lt _ _ _ hnl).trans hn2, by simp; omega, HBY.out⟩
        · obtain rfl : j = k := by omega
          go_wp2
          go_roundw
          case measure => simp [intOf]; omega
          case rel => exact ⟨j + 1, by omega, by go_num, hbi⟩
    · obtain rfl : k = m := by omega
      go_wp2
      go_ret
      exact ⟨rfl, bl_then HB.out hbel⟩

theorem trieNested_walk (s : ByteArray) (A : Option Addr) (n c : Nat) (g : Nat → ByteArray) (w : World) (_ : s.size ≤ 140737488351232) (hrow : SRow w A n g) (hc : n ≤ c) (_ : n * 16 ≤ 140737488351232) :
    Calls Try.prog 7 #[.string s, .slice A n c] w fun e w' => e = .returned (.bool true) ∧ Below w.heap.size w w' := by
  by_cases hs : s.size ≤ 200
  · by_cases hx : patsErr g n = 0
    · exact nested_ok s A n c g w hs hrow hc hx
    · have HR := hid hrow
      clear hrow
      go_enter Try.func7, Try.ntmps7
      go_wp2_with fail
      with_reducible refine (tries_true _).mono ?_
      rintro e w0 ⟨rfl, hb0⟩
      go_wp2_with fail
      with_reducible refine (TFind_err _ _ _ _ g s hs (HR.out.keep hb0) hc hx).mono ?_
      rintro e w1 ⟨rfl, rfl⟩
      have hx' : (patsErr g n != 0) = true := bne_iff_ne.2 hx
      go_wp2
      go_ret
      exact ⟨rfl, hb0⟩
  · clear hrow
    go_enter Try.func7, Try.ntmps7
    go_wp2_with fail
    with_reducible refine (tries_true _).mono ?_
    rintro e w0 ⟨rfl, hb0⟩
    go_wp2_with fail
    with_reducible refine (TFind_large _ _ _ _ s (by omega)).mono ?_
    rintro e w1 ⟨rfl, rfl⟩
    go_wp2
    go_ret
    exact ⟨rfl, hb0⟩
end Go.Proofs.Ythfbilaklllelaa
