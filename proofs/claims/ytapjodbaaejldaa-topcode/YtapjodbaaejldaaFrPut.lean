
/-
The contract of front.Put.
-/
import Derived.Test.YtapjodbaaejldaaFList
import Derived.Test.YtapjodbaaejldaaSeg35
import Derived.Test.YtapjodbaaejldaaShelfIB
import Derived.Laws.OwnMore
namespace Go.Proofs.Ytapjodbaaejldaa
open Go.RowKit

theorem indexByte_idx : ∀ (L : List UInt8) (c : UInt8), c ∈ L → Lib.indexByte L c = (Fm.ix L c : Nat)
  | [], c, h => by cases h
  | b :: l, c, h => by
    unfold Lib.indexByte
    rw [Fm.ix_cons]
    by_cases e : b = c
    · simp [e]
    · have h1 : c ∈ l := by
        rcases List.mem_cons.1 h with h | h
        · exact absurd h.symm e
        · exact h
      have h2 : (b == c) = false := beq_eq_false_iff_ne.2 e
      rw [indexByte_idx l c h1, h2, if_neg e]
      have h3 : (((Fm.ix l c : Nat) : Int) == -1) = false := beq_eq_false_iff_ne.2 (by omega)
      simp [h3]
theorem bytesOf_nums (L : List UInt8) : Lib.bytesOf (L.map fun c => (c.toNat : Int)) = L := by
  unfold Lib.bytesOf
  rw [List.map_map]
  have : ((fun x : Int => x.toNat.toUInt8) ∘ fun c : UInt8 => (c.toNat : Int)) = id := by
    funext c
    simp
  first | (rw [this, List.map_id]) | simp
/-- bytes.IndexByte at the list of all bytes. -/
theorem find_any {L : List UInt8} {g : Nat} (c : UInt8) (w : World) (h : FL w g L) (hf : Fm.Full L) :
    Calls Try.prog 72 #[.slice (some ⟨g, 0, none⟩) 256 256, .int .u8 (c.toNat : Int)] w fun e w' => e = .returned (.int .i64 (Fm.ix L c : Nat)) ∧ w' = w := by
  refine (Try.bytes_IndexByte g 0 256 256 (L.map fun c => (c.toNat : Int)) (c.toNat : Int) w (by simp [hf.len]) fun i hi => ?_).mono ?_
  · rw [Nat.zero_add, h.cell (by rw [hf.len]; exact hi), List.getD_eq_getElem?_getD, List.getD_eq_getElem?_getD, List.getElem?_map]
    rw [List.getElem?_eq_getElem (show i < L.length by rw [hf.len]; exact hi)]
    rfl
  · rintro e w1 ⟨rfl, rfl⟩
    refine ⟨?_, rfl⟩
    rw [bytesOf_nums, show ((c.toNat : Int)).toNat.toUInt8 = c by simp, indexByte_idx L c (hf.mem c)]
theorem owns_block {w w' : World} {base n : Nat} {e : TypeId} {size : Nat} {v : Value} {xs : List Value} (h : w.ownsRow base e size v n xs) (hb : ∀ k, v.ownBlock = some k → w'.heap[k]? = w.heap[k]?) : w'.ownsRow base e size v n xs := by
  refine ⟨h.1, ?_⟩
  rcases h.2 with hn | ⟨g, cap, cur, rfl, h1, h2, rest⟩
  · exact .inl hn
  · exact .inr ⟨g, cap, cur, rfl, h1, (hb g rfl).trans h2, rest⟩
theorem OwnI.ofB {w w' : World} {base : Nat} {v : Value} {L : List Int} (h : OwnI w base v L) (hb : ∀ k, v.ownBlock = some k → w'.heap[k]? = w.heap[k]?) : OwnI w' base v L := owns_block h hb
theorem OwnI.ltB {w : World} {base : Nat} {v : Value} {L : List Int} (h : OwnI w base v L) : ∀ k, v.ownBlock = some k → base ≤ k ∧ k < w.heap.size := fun k hk => World.ownsRow.lt h k hk
/-- Numbers of a list of places. -/
def ni (l : List Nat) : List Int := l.map fun k : Nat => (k : Int)
theorem ni_getD (l : List Nat) (k : Nat) : (ni l).getD k 0 = (l.getD k 0 : Nat) := by
  unfold ni
  rw [List.getD_eq_getElem?_getD, List.getD_eq_getElem?_getD, List.getElem?_map]
  cases l[k]? <;> rfl
theorem ni_len (l : List Nat) : (ni l).length = l.length := by unfold ni; simp
theorem lst_take1 {s : ByteArray} {i : Nat} (h : i < s.size) : (lst s).getD i 0 = s[i] := by rw [lst_get, byt_eq h]
theorem put_next {s : ByteArray} {i : Nat} (h : i < s.size) : Fm.putL ((lst s).take (i + 1)) = Fm.putL ((lst s).take i) ++ [Fm.ix (Fm.st ((lst s).take i)) s[i]] := by
  rw [Fm.putL_take (by rw [lst_len]; exact h), lst_take1 h]
  rfl
theorem st_next {s : ByteArray} {i : Nat} (h : i < s.size) : Fm.st ((lst s).take (i + 1)) = Fm.mv (Fm.st ((lst s).take i)) (Fm.ix (Fm.st ((lst s).take i)) s[i]) := by
  rw [Fm.take_snoc 0 (by rw [lst_len]; exact h), Fm.st_snoc, lst_take1 h]
  rfl
set_option maxHeartbeats 1000000 in
/-- What Put answers. -/
theorem FPut_ok (s : ByteArray) (w : World) (hs : s.size ≤ 200) :
    Calls Try.prog 33 #[.string s] w (RetIntsOk s.size (fun k => ((Fm.putL (lst s)).getD k 0 : Nat)) w) := by
  go_enter Try.func33, Try.ntmps33
  go_wp2_with fail
  with_reducible refine (check_ok s _ hs).mono ?_
  rintro e w1 ⟨rfl, hw1⟩
  obtain rfl : w = w1 := hw1
  go_wp2_with fail
  with_reducible refine (every_any _).mono ?_
  rintro e w2 ⟨rfl, hfl, hb⟩
  have HF2 : Hid (FL w2 w.heap.size (Fm.st ((lst s).take 0))) := hfl
  have HB2 := hid hb
  clear hfl hb
  generalize hg : w.heap.size = g at *
  go_wp2
  go_loopw [17, 5] (fun x v wr => ∃ i : Nat, ∃ vv, vv = v ∧ i ≤ s.size ∧ x = .int .i64 (i : Int) ∧ Hid (OwnI wr (g + 1) vv (ni (Fm.putL ((lst s).take i)))) ∧ Hid (FL wr g (Fm.st ((lst s).take i))) ∧ Hid (Below g w wr)) (fun x _ _ => s.size - (intOf x).toNat)
  case atStart => exact ⟨0, _, rfl, by omega, rfl, OwnI.zero _ _, HF2, HB2⟩
  case round =>
    clear HF2 HB2
    obtain ⟨i, vv, rfl, hi, rfl, HO, HF, HB⟩ := hrel
    by_cases hlt : i < s.size
    · have hlt' : (i : Int) < (s.size : Int) := by omega
      have HU : Hid (Fm.Full (Fm.st ((lst s).take i))) := Fm.st_full _
      obtain ⟨k, hk⟩ : ∃ k, k = Fm.ix (Fm.st ((lst s).take i)) s[i] := ⟨_, rfl⟩
      have hk256 : k < 256 := by rw [hk]; exact HU.out.ix _
      have HP : Hid (Fm.putL ((lst s).take (i + 1)) = Fm.putL ((lst s).take i) ++ [k]) := by unfold Hid; rw [put_next hlt, hk]
      have HS : Hid (Fm.mv (Fm.st ((lst s).take i)) k = Fm.st ((lst s).take (i + 1))) := by unfold Hid; rw [st_next hlt, hk]
      have hfind := find_any s[i] wr HF.out HU.out
      rw [← hk] at hfind
      have HL : Hid ((ni (Fm.putL ((lst s).take i))).length < 1000000) := by
        unfold Hid
        rw [ni_len, Fm.putL_len, List.length_take]
        omega
      have hgs : g + 1 ≤ wr.heap.size := HF.out.lt
      have HK := hid hk
      clear hk
      go_wp2_with fail
      with_reducible refine hfind.mono ?_
      rintro e w3 ⟨rfl, hw3⟩
      obtain rfl : wr = w3 := hw3.symm
      clear hfind HK
      go_wp2_with (first
        | (at_builtin; with_reducible refine app_int (v := vv) rfl _ _ rfl rfl HO.out wr.heap.size rfl rfl hgs HL.out ?_; intro v4 w4 hown4 hb4; have HO4 := hid hown4; have HF4 := hid (HF.out.keep hb4 (Nat.lt_succ_self _)); have HB4 : Hid (Below g w w4) := hid (HB.out.trans (hb4.mono (Nat.le_succ _))); have hsz4 := hb4.size; clear hown4 hb4)
        | fail)
      with_reducible refine (move_any w4 HF4.out HU.out.len hk256).mono ?_
      rintro e w5 ⟨rfl, hf5, hg5⟩
      have HO5 : Hid (OwnI w5 (g + 1) v4 (ni (Fm.putL ((lst s).take (i + 1))))) := by
        unfold Hid
        rw [HP.out]
        have := HO4.out.ofB (w' := w5) fun k hk => hg5.block k (HO4.out.ltB k hk).2 (fun e => by
          have := (HO4.out.ltB k hk).1
          injection e with e
          omega)
        unfold ni at this ⊢
        rw [List.map_append]
        exact this
      have HF5 : Hid (FL w5 g (Fm.st ((lst s).take (i + 1)))) := by rw [← HS.out]; exact hf5
      have HB5 : Hid (Below g w w5) := HB4.out.grown hg5 (by omega) fun k hk => by cases hk; exact Nat.le_refl _
      clear hf5 hg5 HO4 HF4 HB4 HO HF HB HS HP
      go_wp2
      go_roundw
      case measure => simp [intOf]; omega
      case rel => exact ⟨i + 1, _, rfl, by omega, by go_num, HO5, HF5, HB5⟩
    · have hd : decide ((i : Int) < (s.size : Int)) = false := decide_eq_false (by omega)
      obtain rfl : i = s.size := by omega
      have e1 : (lst s).take s.size = lst s := List.take_of_length_le (by rw [lst_len]; exact Nat.le_refl _)
      obtain ⟨A, c, rfl, hrow⟩ := HO.out.irow
      rw [ni_len, e1, Fm.putL_len, lst_len] at hrow
      have HR := hid hrow
      have hl2 : (ni (Fm.putL ((lst s).take s.size))).length = s.size := by rw [ni_len, e1, Fm.putL_len, lst_len]
      rw [hl2]
      clear hrow HO HF hl2
      go_wp2
      go_ret2
      refine ⟨A, c, rfl, HR.out.congr fun k _ => ni_getD _ k, ?_⟩
      rw [hg]
      exact HB.out
theorem FPut_large (s : ByteArray) (w : World) (hs : 200 < s.size) :
    Calls Try.prog 33 #[.string s] w fun e w' => e = .returned (.tuple #[.slice none 0 0, .int .i64 2]) ∧ w' = w := by
  go_enter Try.func33, Try.ntmps33
  go_wp2_with fail
  with_reducible refine (check_large s _ hs).mono ?_
  rintro e w1 ⟨rfl, rfl⟩
  go_wp2
  go_ret2
  exact ⟨rfl, rfl⟩
end Go.Proofs.Ytapjodbaaejldaa
