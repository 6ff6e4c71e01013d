/-
The contract of trie.Find.
-/
import Derived.Test.YtcnfdmpggnhlgaaHits
import Derived.Test.YtcnfdmpggnhlgaaSortI
import Derived.Test.YtcnfdmpggnhlgaaWordB
namespace Go.Proofs.Ytcnfdmpggnhlgaa
open Go.RowKit

/-- What Find answers. -/
def RetHits (w : World) (g : Nat → ByteArray) (n : Nat) (s : ByteArray) (e : Ending) (w' : World) : Prop :=
  ∃ v, e = .returned (.tuple #[v, .int .i64 0]) ∧ OwnH w' w.heap.size v (hitsL g n (wd s) s.size) ∧ Below w.heap.size w w'

theorem TFind_large (w : World) (A : Option Addr) (n c : Nat) (s : ByteArray) (hs : 200 < s.size) :
    Calls Try.prog 36 #[.string s, .slice A n c] w fun e w' => e = .returned (.tuple #[.slice none 0 0, .int .i64 2]) ∧ w = w' := by
  go_enter Try.func36, Try.ntmps36
  go_wp2_with fail
  with_reducible refine (check_large s _ hs).mono ?_
  rintro e w1 ⟨rfl, rfl⟩
  go_wp2
  go_ret2
  exact ⟨rfl, rfl⟩
theorem TFind_err (w : World) (A : Option Addr) (n c : Nat) (g : Nat → ByteArray) (s : ByteArray) (hs : s.size ≤ 200) (hrow : SRow w A n g) (hc : n ≤ c) (hx : patsErr g n ≠ 0) :
    Calls Try.prog 36 #[.string s, .slice A n c] w fun e w' => e = .returned (.tuple #[.slice none 0 0, .int .i64 (patsErr g n)]) ∧ w = w' := by
  have HR := hid hrow
  clear hrow
  go_enter Try.func36, Try.ntmps36
  go_wp2_with fail
  with_reducible refine (check_ok s _ hs).mono ?_
  rintro e w1 ⟨rfl, rfl⟩
  go_wp2_with fail
  with_reducible refine (tcheck_in _ _ _ _ g HR.out hc).mono ?_
  rintro e w1 ⟨rfl, rfl⟩
  have hx' : (patsErr g n != 0) = true := bne_iff_ne.2 hx
  go_wp2
  go_ret2
  exact ⟨rfl, rfl⟩

theorem wd_drop (s : ByteArray) (k : Nat) : wd (s.extract k s.size) = (wd s).drop k := by
  unfold wd
  rw [ByteArray.data_extract, Array.toList_extract, List.extract_eq_take_drop]
  refine List.take_of_length_le ?_
  simp
theorem size_drop (s : ByteArray) (k : Nat) : (s.extract k s.size).size = ((wd s).drop k).length := by
  rw [← wd_drop, wd_len]

/-- The hits at the first k positions of l, and the first j at position k. -/
def hitsAt (g : Nat → ByteArray) (n : Nat) (l : (List UInt8)) (k j : Nat) : List (Nat × Nat) := hitsL g n l k ++ ((begins g n (l.drop k)).take j).map fun x => (k, x)
theorem hitsAt_zero (g : Nat → ByteArray) (n : Nat) (l : (List UInt8)) (k : Nat) : hitsAt g n l k 0 = hitsL g n l k := by unfold hitsAt; simp
theorem hitsAt_next {g : Nat → ByteArray} {n : Nat} {l : (List UInt8)} {k j y : Nat} (h : (begins g n (l.drop k))[j]? = some y) : hitsAt g n l k (j + 1) = hitsAt g n l k j ++ [(k, y)] := by
  unfold hitsAt
  rw [List.take_add_one, h, List.map_append, ← List.append_assoc]
  rfl
theorem hitsAt_end (g : Nat → ByteArray) (n : Nat) (l : (List UInt8)) (k : Nat) : hitsAt g n l k (begins g n (l.drop k)).length = hitsL g n l (k + 1) := by
  unfold hitsAt
  rw [List.take_length, hitsL_next]
theorem hitsAt_len (g : Nat → ByteArray) (n : Nat) (l : (List UInt8)) (k j : Nat) : (hitsAt g n l k j).length ≤ k * n + n := by
  unfold hitsAt
  rw [List.length_append, List.length_map, List.length_take]
  have := hitsL_len g n l k
  have := begins_len g n (l.drop k)
  omega

set_option maxRecDepth 100000 in
theorem TFind_ok (w : World) (A : Option Addr) (n c : Nat) (g : Nat → ByteArray) (s : ByteArray) (hs : s.size ≤ 200) (hrow : SRow w A n g) (hc : n ≤ c) (hx : patsErr g n = 0) :
    Calls Try.prog 36 #[.string s, .slice A n c] w (RetHits w g n s) := by
  have hg := good_of hx
  have HG := hid hg
  have HR := hid hrow
  have hn := hg.few
  clear hrow hg
  go_enter Try.func36, Try.ntmps36
  go_wp2_with fail
  with_reducible refine (check_ok s _ hs).mono ?_
  rintro e w1 ⟨rfl, rfl⟩
  go_wp2_with fail
  with_reducible refine (tcheck_in _ _ _ _ g HR.out hc).mono ?_
  rw [hx]
  rintro e w1 ⟨rfl, rfl⟩
  go_wp2_with fail
  with_reducible refine (build_in _ _ _ _ g HR.out hn HG.out.short).mono ?_
  rintro e w1 ⟨r, rfl, ⟨ad, ch, bl, hr, hT⟩, hb⟩
  have HT := hid hT
  have HB := hid hb
  have HA := hid hr
  clear hT hb hr
  unfold ptrTo
  go_wp2
  go_loopw [9, 28] (fun h i wr => ∃ k : Nat, k ≤ s.size ∧ i = .int .i64 k ∧ Hid (OwnH wr w1.heap.size h (hitsL g n (wd s) k)) ∧ Hid (Below w1.heap.size w1 wr)) (fun _ i _ => s.size - (intOf i).toNat)
  case atStart => exact ⟨0, by omega, rfl, hid (OwnH.zero _ _), hid (Below.refl _ _)⟩
  case round =>
    obtain ⟨k, hk, rfl, HO, HB1⟩ := hrel
    by_cases h : k < s.size
    · have hes : (s.extract k s.size).size ≤ 200 := by rw [size_drop, List.length_drop, wd_len]; omega
      have HTr := hid (HT.out.below HB1.out)
      go_wp2_with fail
      rw [show (Value.pointer (some ⟨r, 0, none⟩)) = ptrTo (ad []) by rw [HA.out]; rfl]
      with_reducible refine (along_in HTr.out (s.extract k s.size) hes (idxW_not g n)).mono ?_
      rintro e w2 ⟨v, rfl, ho, hb⟩
      unfold ptrTo
      rw [HA.out]
      have hal := alongL_len (idxW g n) (wd (s.extract k s.size)) (s.extract k s.size).size
      have HO2 := hid ho
      have HB2 := hid hb
      have hsz2 : wr.heap.size ≤ w2.heap.size := hb.size
      clear ho hb
      go_wp2_with fail
      with_reducible refine (sort_own _ _ _ _ HO2.out (by omega) hsz2).mono ?_
      rintro e w3 ⟨rfl, ho, hb⟩
      have e1 : alongL (idxW g n) (wd (s.extract k s.size)) (s.extract k s.size).size = alongL (idxW g n) ((wd s).drop k) ((wd s).drop k).length := by rw [size_drop, wd_drop]
      rw [e1, HG.out.sorted_along] at ho
      obtain ⟨bg, hbg⟩ : ∃ bg, bg = begins g n ((wd s).drop k) := ⟨_, rfl⟩
      rw [← hbg] at ho
      obtain ⟨A2, c2, rfl, _⟩ := ho.irow
      obtain ⟨m, hm⟩ : ∃ m, m = (bg.map fun k : Nat => (k : Int)).length := ⟨_, rfl⟩
      have hml : m = bg.length := by rw [hm]; simp
      have hm10 : m ≤ 10 := by
        have := begins_len g n ((wd s).drop k)
        rw [hml, hbg]
        omega
      rw [← hm] at ho ⊢
      have HO3 := hid ho
      have HB3 := hid (HB1.out.trans ((HB2.out.trans hb).mono HB1.out.size))
      have HOH : Hid (OwnH w3 w1.heap.size u9 (hitsL g n (wd s) k)) := HO.out.below (HB2.out.trans hb)
      have HNE : Hid (∀ b, u9.ownBlock = some b → (Value.slice A2 m c2).ownBlock ≠ some b) := by
        intro b h1 h2
        have h3 := (World.ownsRow.lt HO.out b h1).2
        have h4 := (World.ownsRow.lt ho b h2).1
        omega
      have HM := hid hm
      have HML := hid hml
      have HBG := hid hbg
      have hhl := hitsL_len g n (wd s) k
      have hhl2 : k * n ≤ 2000 := Nat.le_trans (Nat.mul_le_mul (by omega : k ≤ 200) hn) (by omega)
      have hw1 : w1.heap.size ≤ wr.heap.size := HB1.out.size
      clear ho hb e1 hm hml hbg HO2 HB2 HO hsz2 hal
      go_wp2
      go_loopw [9, 40] (fun h i wi => ∃ j : Nat, j ≤ m ∧ i = .int .i64 j ∧ Hid (OwnH wi w1.heap.size h (hitsAt g n (wd s) k j)) ∧ Hid (OwnI wi wr.heap.size (.slice A2 m c2) (bg.map fun k : Nat => (k : Int))) ∧
        Hid (∀ b, h.ownBlock = some b → (Value.slice A2 m c2).ownBlock ≠ some b) ∧ Hid (Below w1.heap.size w1 wi)) (fun _ i _ => m - (intOf i).toNat)
      case atStart => exact ⟨0, by omega, rfl, by rw [hitsAt_zero]; exact HOH, HO3, HNE, HB3⟩
      case round =>
        clear HOH HO3 HNE HB3
        obtain ⟨j, hj, rfl, HOH, HO3, HNE, HB3⟩ := hrel
        by_cases hjm : j < m
        · obtain ⟨A3, c3, e3, hrow⟩ := HO3.out.irow
          obtain rfl : A2 = A3 := by injection e3
          clear e3
          have hjb : j < bg.length := by rw [← HML.out]; exact hjm
          obtain ⟨b, o, rfl, hlt, hce⟩ := hrow j (by rw [← HM.out]; exact hjm)
          obtain ⟨y, hy⟩ : ∃ y, y = bg.getD j 0 := ⟨_, rfl⟩
          have ey : (bg.map fun k : Nat => (k : Int)).getD j 0 = (y : Int) := by
            rw [hy, getD_lt hjb, getD_lt (by simpa using hjb)]
            simp
          have HY : Hid (bg[j]? = some y) := by
            rw [hy, getD_lt hjb]
            exact List.getElem?_eq_getElem hjb
          simp only [ey] at hce
          have hwi : w1.heap.size ≤ wr.heap.size := HB3.out.size
          have hlen : (hitsAt g n (wd s) k j).length < 1000000 := by have := hitsAt_len g n (wd s) k j; omega
          clear hrow hy ey
          go_wp2_with (at_builtin; with_reducible refine app_hit rfl _ _ rfl rfl HOH.out _ rfl rfl hwi hlen ?_)
          intro g2 cap2 w5 hown hgr hat
          have G1 := hid hown
          have G2 : Hid (Below w1.heap.size w1 w5) := HB3.out.trans ((Below.refl _ _).grown hgr hwi (fun b hb => (World.ownsRow.lt HOH.out b hb).1))
          have G3 : Hid (OwnI w5 _ (.slice (some ⟨b, o, none⟩) m c2) (bg.map fun k : Nat => (k : Int))) := HO3.out.of_block (fun b' hb' => hgr.block b' (World.ownsRow.lt HO3.out b' hb').2 (fun e => HNE.out b' e.symm hb'))
          have G4 : Hid (∀ b', (Value.slice (some ⟨g2, 0, none⟩) ((hitsAt g n (wd s) k j).length + 1) cap2).ownBlock = some b' → (Value.slice (some ⟨b, o, none⟩) m c2).ownBlock ≠ some b') := by
            intro b' h1 h2
            simp only [Value.ownBlock] at h1
            injection h1 with h1
            subst h1
            rcases hat with h3 | h3
            · exact HNE.out _ h3 h2
            · have := (World.ownsRow.lt HO3.out _ h2).2
              omega
          clear hown hgr hat
          go_wp2
          go_roundw
          case measure => simp [intOf]; omega
          case rel =>
            refine ⟨j + 1, by omega, by go_num, ?_, G3, G4, G2⟩
            rw [hitsAt_next (by rw [← HBG.out]; exact HY.out)]
            exact G1
        · obtain rfl : j = m := by omega
          go_wp2
          go_roundw
          case measure => simp [intOf]; omega
          case rel =>
            refine ⟨k + 1, by omega, by go_num, ?_, HB3⟩
            rw [← hitsAt_end, ← HBG.out, ← HML.out]
            exact HOH
    · obtain rfl : k = s.size := by omega
      go_wp2
      go_ret2
      exact ⟨_, rfl, HO.out.lower HB.out.size, bl_then HB.out HB1.out⟩
end Go.Proofs.Ytcnfdmpggnhlgaa
