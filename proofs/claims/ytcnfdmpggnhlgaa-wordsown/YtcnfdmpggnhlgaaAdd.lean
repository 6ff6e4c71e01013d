/-
The contract of the trie's add, at nodes in memory.
-/
import Derived.Test.YtcnfdmpggnhlgaaPlace
import Derived.Deep.RegionWith
import Derived.Deep.RegionHeld3
namespace Go.Proofs.Ytcnfdmpggnhlgaa
open Go.RowKit

/-- The bytes of a string. -/
def wd (s : ByteArray) : (List UInt8) := s.data.toList
theorem wd_len (s : ByteArray) : (wd s).length = s.size := by unfold wd; cases s; rfl
theorem wd_at {s : ByteArray} {k : Nat} (h : k < s.size) : (wd s)[k]? = some s[k] := by
  rw [← byt_eq h]
  unfold wd byt
  rw [List.getD_eq_getElem?_getD]
  have : k < s.data.toList.length := by simpa using h
  rw [List.getElem?_eq_getElem this]
  rfl
theorem take_next {l : (List UInt8)} {k : Nat} {c : UInt8} (h : l[k]? = some c) : l.take (k + 1) = l.take k ++ [c] := by
  rw [List.take_add_one, h]; rfl
theorem pre_next {l : (List UInt8)} {k : Nat} {c : UInt8} (h : l[k]? = some c) (q : (List UInt8)) : q <+: l.take (k + 1) ↔ q <+: l.take k ∨ q = l.take k ++ [c] := by
  rw [take_next h, List.prefix_concat_iff]
  exact or_comm

/-- A trie with its root at block r. -/
def Trie (w : World) (B r : Nat) (D : (List UInt8) → Prop) (W : (List UInt8) → Int) : Prop := ∃ ad ch bl, ad [] = r ∧ TrieIn w B D W ad ch bl
/-- What add leaves. -/
def Added (w : World) (B r : Nat) (D : (List UInt8) → Prop) (W : (List UInt8) → Int) (e : Ending) (w' : World) : Prop := e = .returned (.tuple #[]) ∧ Trie w' B r D W ∧ Below B w w'

set_option maxHeartbeats 2000000 in
set_option maxRecDepth 100000 in
theorem add_in {w : World} {B : Nat} {D : (List UInt8) → Prop} {W : (List UInt8) → Int} {ad : (List UInt8) → Nat} {ch : (List UInt8) → (List UInt8)} {bl : (List UInt8) → Value} (h : TrieIn w B D W ad ch bl) (pat : ByteArray) (x : Int) (hs : pat.size ≤ 20) (hW : ∀ q, ¬ D q → W q = -1) (hB : B ≤ w.heap.size) :
    Calls Try.prog 92 #[ptrTo (ad []), .string pat, .int .i64 x] w (Added w B (ad []) (fun q => D q ∨ q <+: wd pat) (upd W (wd pat) x)) := by
  obtain ⟨r, hr⟩ : ∃ r, r = ad [] := ⟨_, rfl⟩
  have HR := hid hr
  have HW := hid hW
  have H := hid h
  rw [← hr]
  clear hr hW h
  go_enter Try.func92, Try.ntmps92
  go_wp2
  go_loopw [0, 11] (fun n i wr => ∃ (k : Nat) (ad' : (List UInt8) → Nat) (ch' : (List UInt8) → (List UInt8)) (bl' : (List UInt8) → Value), k ≤ pat.size ∧ i = .int .i64 k ∧ n = ptrTo (ad' ((wd pat).take k)) ∧ Hid (ad' [] = r) ∧
    Hid (TrieIn wr B (fun q => D q ∨ q <+: (wd pat).take k) W ad' ch' bl') ∧ Hid (Below B w wr)) (fun _ i _ => pat.size - (intOf i).toNat)
  case atStart =>
    refine ⟨0, ad, ch, bl, by omega, rfl, ?_, hid HR.out.symm, ?_, hid (Below.refl _ _)⟩
    · rw [List.take_zero, ← HR.out]
    · have e : (fun q => D q ∨ q <+: (wd pat).take 0) = D := by
        funext q
        rw [List.take_zero, List.prefix_nil]
        refine propext ⟨?_, .inl⟩
        rintro (h | rfl)
        · exact h
        · exact H.out.root
      rw [e]
      exact H
  case round =>
    obtain ⟨k, ad, ch, bl, hk, rfl, rfl, HA, HT, HB⟩ := hrel
    by_cases h : k < pat.size
    · have HC := hid (wd_at h)
      have hp : (fun q => D q ∨ q <+: (wd pat).take k) ((wd pat).take k) := .inr (List.prefix_refl _)
      have HP := hid hp
      clear hp
      obtain ⟨A, cap, hb, hcell, hrow⟩ := HT.out.slice HP.out
      have HRW := hid hrow
      have HBL := hid hb
      clear hrow hb
      have hs2 := HT.out.short HP.out
      go_wp2_with fail
      with_reducible refine (place_in HT.out HP.out pat[k]).mono ?_
      rintro e w1 ⟨rfl, j, hj, rfl⟩
      by_cases hm : pat[k] ∈ ch ((wd pat).take k)
      · have hat := hj.at_ hm
        obtain ⟨hlt, hg⟩ := List.getElem?_eq_some_iff.1 hat
        obtain ⟨b, o, rfl, _, hce⟩ := HRW.out j hlt
        rw [getD_lt hlt, hg] at hce
        have HD : Hid (D ((wd pat).take k ++ [pat[k]]) ∨ (wd pat).take k ++ [pat[k]] <+: (wd pat).take k) := (HT.out.kids _ _ HP.out).1 hm
        have hd : decide (pat[k] ∈ ch ((wd pat).take k)) = true := decide_eq_true hm
        rw [hd]
        unfold ptrTo at hce ⊢
        clear hat hg hj hd hm HRW HBL
        go_wp2
        go_round
        case measure => simp [intOf]; omega
        case rel =>
          refine ⟨k + 1, ad, ch, bl, by omega, by go_num, ?_, HA, ?_, HB⟩
          · rw [take_next HC.out]; rfl
          · have e : (fun q => D q ∨ q <+: (wd pat).take (k + 1)) = fun q => D q ∨ q <+: (wd pat).take k := by
              funext q
              rw [pre_next HC.out q, ← or_assoc]
              refine propext ⟨?_, .inl⟩
              rintro (h' | rfl)
              · exact h'
              · exact HD.out
            rw [e]
            exact HT
      · have hd : decide (pat[k] ∈ ch ((wd pat).take k)) = false := decide_eq_false hm
        rw [hd]
        have HM := hid hm
        have HJ := hid hj
        have hjl := hj.le
        clear hm hj hd
        obtain ⟨n, hn⟩ : ∃ n, n = (ch ((wd pat).take k)).length := ⟨_, rfl⟩
        obtain ⟨a0, ha0⟩ : ∃ a0, a0 = ad ((wd pat).take k) := ⟨_, rfl⟩
        obtain ⟨N, hN⟩ : ∃ N, N = wr.heap.size := ⟨_, rfl⟩
        have HO : Hid ((((wr.alloc (.cells #[.int .u8 (pat[k].toNat : Int), .int .i64 (-1), .slice none 0 0] 111)).alloc (.cells #[.pointer (some ⟨wr.heap.size, 0, none⟩)] 90)).drew).ownsRow B 90 1 (.slice A n cap) n ((ch ((wd pat).take k)).map fun c => ptrTo (ad ((wd pat).take k ++ [c])))) := by
          have := HT.out.own _ HP.out
          rw [HBL.out, ← hn] at this
          exact (this.alloc _).alloc _
        have HV : Hid ((((wr.alloc (.cells #[.int .u8 (pat[k].toNat : Int), .int .i64 (-1), .slice none 0 0] 111)).alloc (.cells #[.pointer (some ⟨wr.heap.size, 0, none⟩)] 90)).drew).heap[wr.heap.size + 1]? = some (.cells #[.pointer (some ⟨wr.heap.size, 0, none⟩)] 90 (0, 0))) := by
          have := heap_alloc_new (wr.alloc (.cells #[.int .u8 (pat[k].toNat : Int), .int .i64 (-1), .slice none 0 0] 111)) (.cells #[.pointer (some ⟨wr.heap.size, 0, none⟩)] 90)
          have e : (wr.alloc (.cells #[.int .u8 (pat[k].toNat : Int), .int .i64 (-1), .slice none 0 0] 111)).heap.size = wr.heap.size + 1 := by simp
          rw [e] at this
          exact this
        have HI : Hid ((((wr.alloc (.cells #[.int .u8 (pat[k].toNat : Int), .int .i64 (-1), .slice none 0 0] 111)).alloc (.cells #[.pointer (some ⟨wr.heap.size, 0, none⟩)] 90)).drew).rowIs a0 111 3 (nodeF (lastB ((wd pat).take k)) (W ((wd pat).take k)) (bl ((wd pat).take k)))) := by
          rw [ha0]
          exact ((HT.out.node _ HP.out).alloc _).alloc _
        have HNe : Hid ((Value.slice A n cap).ownBlock ≠ some (wr.heap.size + 1)) := by
          intro e
          have := HT.out.blt HP.out (k := wr.heap.size + 1) (by rw [HBL.out, ← hn]; exact e)
          omega
        have HNa : Hid (some a0 ≠ (Value.slice A n cap).ownBlock) := by
          intro e
          exact HT.out.ap1 _ _ HP.out HP.out (by rw [HBL.out, ← hn, ← e, ha0])
        have H1 : Hid (∀ u ∈ ((ch ((wd pat).take k)).map fun c => ptrTo (ad ((wd pat).take k ++ [c]))), u.oneCell' = true) := by
          intro u hu
          obtain ⟨c, _, rfl⟩ := List.mem_map.1 hu
          rfl
        have hB2 : B ≤ wr.heap.size + 1 + 1 := by have := HB.out.size; omega
        have hBB : Hid (B ≤ (((wr.alloc (.cells #[.int .u8 (pat[k].toNat : Int), .int .i64 (-1), .slice none 0 0] 111)).alloc (.cells #[.pointer (some ⟨wr.heap.size, 0, none⟩)] 90)).drew).heap.size) := by
          show B ≤ _
          simpa using hB2
        have KEY : Hid (∀ w2 g cap2, w2.ownsRow B 90 1 (.slice (some ⟨g, 0, none⟩) (n + 1) cap2) (n + 1) (((ch ((wd pat).take k)).map fun c => ptrTo (ad ((wd pat).take k ++ [c]))).take j ++ .pointer (some ⟨wr.heap.size, 0, none⟩) :: ((ch ((wd pat).take k)).map fun c => ptrTo (ad ((wd pat).take k ++ [c]))).drop j) →
            (((wr.alloc (.cells #[.int .u8 (pat[k].toNat : Int), .int .i64 (-1), .slice none 0 0] 111)).alloc (.cells #[.pointer (some ⟨wr.heap.size, 0, none⟩)] 90)).drew).grownBy w2 (Value.slice A n cap).ownBlock → ((Value.slice A n cap).ownBlock = some g ∨ (((wr.alloc (.cells #[.int .u8 (pat[k].toNat : Int), .int .i64 (-1), .slice none 0 0] 111)).alloc (.cells #[.pointer (some ⟨wr.heap.size, 0, none⟩)] 90)).drew).heap.size ≤ g) →
            (TrieIn (w2.setCell ⟨a0, 2, none⟩ (.slice (some ⟨g, 0, none⟩) (n + 1) cap2)) B (fun q => D q ∨ q <+: (wd pat).take (k + 1)) W (upd ad ((wd pat).take (k + 1)) wr.heap.size)
              (upd (upd ch ((wd pat).take (k + 1)) []) ((wd pat).take k) ((ch ((wd pat).take k)).take j ++ pat[k] :: (ch ((wd pat).take k)).drop j))
              (upd (upd bl ((wd pat).take (k + 1)) (.slice none 0 0)) ((wd pat).take k) (.slice (some ⟨g, 0, none⟩) (n + 1) cap2))) ∧
            Below B w (w2.setCell ⟨a0, 2, none⟩ (.slice (some ⟨g, 0, none⟩) (n + 1) cap2)) ∧ (w2.setCell ⟨a0, 2, none⟩ (.slice (some ⟨g, 0, none⟩) (n + 1) cap2)).cell? ⟨a0, 2, none⟩ = some (.slice (some ⟨g, 0, none⟩) (n + 1) cap2) ∧
            (w2.setCell ⟨a0, 2, none⟩ (.slice (some ⟨g, 0, none⟩) (n + 1) cap2)).cell? ⟨g, j, none⟩ = some (.pointer (some ⟨wr.heap.size, 0, none⟩))) := by
          intro w2 g cap2 ho hg hat
          have hsz : (((wr.alloc (.cells #[.int .u8 (pat[k].toNat : Int), .int .i64 (-1), .slice none 0 0] 111)).alloc (.cells #[.pointer (some ⟨wr.heap.size, 0, none⟩)] 90)).drew).heap.size = wr.heap.size + 1 + 1 := by show _ = _; simp
          rw [hsz] at hat
          have hcn : ¬ ((fun q => D q ∨ q <+: (wd pat).take k) ((wd pat).take k ++ [pat[k]])) := fun hd => HM.out ((HT.out.kids _ _ HP.out).2 hd)
          have hob : ∀ b, (Value.slice A n cap).ownBlock = some b → b < wr.heap.size := fun b hb => HT.out.blt HP.out (by rw [HBL.out, ← hn]; exact hb)
          have hga : g ≠ a0 := by
            intro e
            rcases hat with h' | h'
            · exact HNa.out (by rw [h', e])
            · have := HT.out.lt HP.out
              omega
          have hrI := HI.out.of_block (hg.block a0 HI.out.lt HNa.out)
          have ho3 : (w2.setCell ⟨a0, 2, none⟩ (.slice (some ⟨g, 0, none⟩) (n + 1) cap2)).ownsRow B 90 1 (.slice (some ⟨g, 0, none⟩) (n + 1) cap2) (n + 1) (((ch ((wd pat).take k)).map fun c => ptrTo (ad ((wd pat).take k ++ [c]))).take j ++ .pointer (some ⟨wr.heap.size, 0, none⟩) :: ((ch ((wd pat).take k)).map fun c => ptrTo (ad ((wd pat).take k ++ [c]))).drop j) := by
            refine own_of_block ho (fun b hb => Below.heap_setCell _ _ _ b ?_)
            simp only [Value.ownBlock] at hb
            injection hb with hb
            rw [← hb]
            exact hga
          have hset := hrI.set 2 (.slice (some ⟨g, 0, none⟩) (n + 1) cap2)
          have hblk : ∀ b, b < wr.heap.size → b ≠ a0 → (Value.slice A n cap).ownBlock ≠ some b → (w2.setCell ⟨a0, 2, none⟩ (.slice (some ⟨g, 0, none⟩) (n + 1) cap2)).heap[b]? = wr.heap[b]? := by
            intro b hb h1 h2
            rw [Below.heap_setCell _ _ _ b h1, hg.block b (by rw [hsz]; omega) (fun e => h2 e.symm)]
            exact (Below.heap_alloc _ _ b (by simp; omega)).trans (Below.heap_alloc wr _ b hb)
          refine ⟨?_, ?_, ?_, ?_⟩
          · have e : (fun q => D q ∨ q <+: (wd pat).take (k + 1)) = fun q => (D q ∨ q <+: (wd pat).take k) ∨ q = (wd pat).take k ++ [pat[k]] := by
              funext q
              rw [pre_next HC.out q, or_assoc]
            rw [e, take_next HC.out]
            refine HT.out.child HP.out hcn (List.take_append_drop j _).symm HJ.out.lt (HJ.out.gt HM.out) wr.heap.size _ (Nat.le_refl _) (by have := HB.out.size; omega) (HW.out _ (fun hd => hcn (.inl hd))) ?_ ?_ ?_ ?_ ?_
            · intro b hb h1 h2
              refine hblk b hb (by rw [ha0]; exact h1) (fun e => h2 (by rw [HBL.out, ← hn]; exact e))
            · have hnew : (((wr.alloc (.cells #[.int .u8 (pat[k].toNat : Int), .int .i64 (-1), .slice none 0 0] 111)).alloc (.cells #[.pointer (some ⟨wr.heap.size, 0, none⟩)] 90)).drew).rowIs wr.heap.size 111 3 (nodeF (pat[k].toNat : Int) (-1) (.slice none 0 0)) := by
                refine World.rowIs.alloc ?_ _
                exact World.rowIs_alloc wr #[.int .u8 (pat[k].toNat : Int), .int .i64 (-1), .slice none 0 0] 111 _ (fun i hi => by
                  match i, hi with
                  | 0, _ => rfl
                  | 1, _ => rfl
                  | 2, _ => rfl)
              refine World.rowIs.setOther (hnew.of_block (hg.block _ hnew.lt (fun e => ?_))) ?_ _
              · have := hob _ e.symm
                omega
              · have := HT.out.lt HP.out
                show wr.heap.size ≠ a0
                omega
            · rw [← ha0]
              refine hset.congr fun i hi => ?_
              match i, hi with
              | 0, _ => rfl
              | 1, _ => rfl
              | 2, _ => rfl
            · rw [← hn, List.map_take, List.map_drop]
              exact ho3
            · refine ⟨g, rfl, ?_⟩
              rcases hat with h' | h'
              · exact .inl (by rw [HBL.out, ← hn]; exact h')
              · exact .inr ⟨by omega, by omega⟩
          · refine HB.out.trans ?_
            have h1 : Below B wr (((wr.alloc (.cells #[.int .u8 (pat[k].toNat : Int), .int .i64 (-1), .slice none 0 0] 111)).alloc (.cells #[.pointer (some ⟨wr.heap.size, 0, none⟩)] 90)).drew) := (((Below.refl B wr).alloc (by have := HB.out.size; omega) _).alloc (by simpa using (by have := HB.out.size; omega : B ≤ wr.heap.size + 1)) _).drew
            refine (h1.grown hg hBB.out (fun b hb => ?_)).setCell (by show B ≤ a0; rw [ha0]; exact HT.out.lo _ HP.out) _
            exact (HO.out.lt b hb).1
          · have := hset.cell (i := 2) (by omega)
            simpa using this
          · have := World.ownsRow.cellAt ho3 j (by omega)
            have hl : (((ch ((wd pat).take k)).map fun c => ptrTo (ad ((wd pat).take k ++ [c]))).take j).length = j := by rw [List.length_take, List.length_map]; omega
            rw [this, List.getElem?_append_right (by omega), hl, Nat.sub_self]
            rfl
        have HN := hid hn
        have HA0 := hid ha0
        unfold ptrTo
        rw [← ha0]
        rw [← ha0, ← hn] at hcell
        rw [← hn] at hs2 hjl
        have hn3 : n ≤ 300 := by omega
        have hlt : a0 < wr.heap.size := by rw [ha0]; exact HT.out.lt HP.out
        have hne1 : ¬ (a0 = wr.heap.size) := by omega
        have hne2 : ¬ (a0 = wr.heap.size + 1) := by omega
        have hlt2 : a0 < wr.heap.size + 1 := by omega
        clear hn ha0 hN N
        go_wp2_with fail
        go_region_with (go_at_call 114; (with_reducible refine (insert_one (.slice A n cap) n j _ (.pointer (some ⟨wr.heap.size, 0, none⟩)) (wr.heap.size + 1) B _ HO.out hjl hn3 hBB.out HV.out HNe.out rfl H1.out).mono ?_); rintro e w2 ⟨g, cap2, rfl, ho, hg, hat⟩; have G0 := hid (HI.out.of_block (hg.block a0 HI.out.lt HNa.out)); have hc2 := G0.out.cell (i := 2) (by omega); have hf2 := G0.out.frozen 2; have G1 := hid ho; have G2 := hid hg; have G3 := hid hat; clear ho hg hat)
        all_goals
          obtain ⟨hT3, hB3, hc3, hj3⟩ := KEY.out w2 g cap2 G1.out G2.out G3.out
          have HT3 := hid hT3
          have HB3 := hid hB3
          clear hT3 hB3 G0 G1 G2 G3 hc2 hf2 KEY HI HV HO HT hcell
          generalize w2.setCell ⟨a0, 2, none⟩ (.slice (some ⟨g, 0, none⟩) (n + 1) cap2) = w3 at *
          go_wp2
          go_round
          case measure => simp [intOf]; omega
          case rel =>
            refine ⟨k + 1, _, _, _, by omega, by go_num, ?_, ?_, HT3, HB3⟩
            · rw [upd_at]; rfl
            · rw [upd_ne _ _ (by rw [take_next HC.out]; simp)]
              exact HA
    · have hp : (fun q => D q ∨ q <+: (wd pat).take k) ((wd pat).take k) := .inr (List.prefix_refl _)
      have HP := hid hp
      have hc1 := HT.out.whichAt HP.out
      have hf1 := (HT.out.node _ HP.out).frozen 1
      clear hp
      unfold ptrTo
      go_wp2
      go_end0
      obtain rfl : k = pat.size := by omega
      have e : (wd pat).take pat.size = wd pat := by rw [← wd_len]; exact List.take_length
      have ht := HT.out.which HP.out x
      rw [e] at ht
      refine ⟨rfl, ⟨ad, ch, bl, HA.out, ?_⟩, ?_⟩
      · rw [e]; exact ht
      · exact HB.out.setCell (p := ⟨ad ((wd pat).take pat.size), 1, none⟩) (HT.out.lo _ HP.out) _
end Go.Proofs.Ytcnfdmpggnhlgaa
