
/-
The contract of quillref.AgoOf: how many unlike bytes came since each byte.
-/
import Derived.Test.YthebjelkmopboaaFrPut
import Derived.Test.YthebjelkmopboaaShelfLI
import Derived.Deep.WholeRow
import Derived.Deep.RegionHeld3
namespace Go.Proofs.Ythebjelkmopboaa
open Go.RowKit

/-- How many of the first k bytes AgoOf counts. -/
def cntF (r : List UInt8) (lb : Bool) (c : UInt8) (k : Nat) : Nat := (List.range k).countP (fun x => decide (UInt8.ofNat x ∈ r) && (lb || decide (c.toNat < x)))
theorem cntF_zero (r : List UInt8) (lb : Bool) (c : UInt8) : cntF r lb c 0 = 0 := rfl
theorem cntF_succ (r : List UInt8) (lb : Bool) (c : UInt8) (k : Nat) : cntF r lb c (k + 1) = cntF r lb c k + if (decide (UInt8.ofNat k ∈ r) && (lb || decide (c.toNat < k))) = true then 1 else 0 := by
  unfold cntF
  rw [List.range_succ, List.countP_append, List.countP_singleton]
theorem cntF_le (r : List UInt8) (lb : Bool) (c : UInt8) (k : Nat) : cntF r lb c k ≤ k := by
  have := List.countP_le_length (p := fun x => decide (UInt8.ofNat x ∈ r) && (lb || decide (c.toNat < x))) (l := List.range k)
  rwa [List.length_range] at this
theorem occ_one {P : List UInt8} {c : UInt8} {i : Nat} : Lib.occAt P [c] i = true ↔ P[i]? = some c := by
  unfold Lib.occAt
  rw [List.isPrefixOf_iff_prefix]
  constructor
  · rintro ⟨t, ht⟩
    have := congrArg (fun l => l[0]?) ht
    simpa using this.symm
  · intro h
    obtain ⟨hi, e⟩ := List.getElem?_eq_some_iff.1 h
    refine ⟨P.drop (i + 1), ?_⟩
    rw [List.drop_eq_getElem_cons hi, e]
    rfl
/-- Where a byte came last, and how many unlike ones came since. -/
theorem last_split (P : List UInt8) (c : UInt8) : ∃ (la : Int) (p : Nat) (lb : Bool), Lib.lastIndex P [c] = la ∧ la + 1 = (p : Int) ∧ p ≤ P.length ∧ decide (0 ≤ la) = lb ∧ Fm.ix (Fm.st P) c = cntF (P.drop p) lb c 256 + (if lb then 0 else c.toNat) := by
  have hno : c ∉ P → Fm.ix (Fm.st P) c = cntF (P.drop 0) false c 256 + c.toNat := by
    intro h
    rw [Fm.ix_never P c h]
    unfold cntF
    simp
  unfold Lib.lastIndex
  by_cases h0 : [c].length ≤ P.length
  · rw [if_pos h0]
    rcases Lib.lastOcc_spec P [c] (P.length - [c].length + 1) with ⟨h1, h2⟩ | ⟨i, h1, h2, h3, h4⟩
    · rw [h1]
      refine ⟨-1, 0, false, rfl, rfl, by omega, rfl, ?_⟩
      refine hno fun hm => ?_
      obtain ⟨k, hk, e⟩ := List.getElem_of_mem hm
      have := h2 k (by simp at h0 ⊢; omega)
      rw [← Bool.not_eq_true, occ_one, List.getElem?_eq_getElem hk, e] at this
      exact this rfl
    · rw [h2]
      have hi : P[i]? = some c := occ_one.1 h3
      obtain ⟨hil, e⟩ := List.getElem?_eq_some_iff.1 hi
      refine ⟨(i : Int), i + 1, true, rfl, by omega, by omega, by simp, ?_⟩
      have hr : c ∉ P.drop (i + 1) := by
        intro hm
        obtain ⟨k, hk, e2⟩ := List.getElem_of_mem hm
        rw [List.length_drop] at hk
        rw [List.getElem_drop] at e2
        have := h4 (i + 1 + k) (by omega) (by simp at h0 ⊢; omega)
        rw [← Bool.not_eq_true, occ_one, List.getElem?_eq_getElem (by omega), e2] at this
        exact this rfl
      have hsp : P = P.take i ++ [c] ++ P.drop (i + 1) := by
        rw [List.append_assoc, ← e, List.singleton_append, ← List.drop_eq_getElem_cons hil, List.take_append_drop]
      have := Fm.ix_last (P.take i) (P.drop (i + 1)) c hr
      rw [← hsp] at this
      rw [this]
      unfold cntF
      simp
  · rw [if_neg h0]
    have hP : P = [] := by
      cases P with
      | nil => rfl
      | cons a t => simp at h0
    subst hP
    exact ⟨-1, 0, false, rfl, rfl, by simp, rfl, hno (by simp)⟩

/-- What is marked when the bytes from p on, to k, have been seen. -/
def seenV (s : ByteArray) (p k j : Nat) : Value := .bool (decide (UInt8.ofNat j ∈ ((lst s).take k).drop p))
theorem seen_none (s : ByteArray) (p j : Nat) : seenV s p p j = .bool false := by
  unfold seenV
  rw [List.drop_eq_nil_of_le (by rw [List.length_take]; omega)]
  simp
theorem seen_set {w : World} {B p k : Nat} {s : ByteArray} (hk : k < s.size) (hp : p ≤ k) (h : w.rowIs B 56 256 (seenV s p k)) : (w.setCell ⟨B, s[k].toNat, none⟩ (.bool true)).rowIs B 56 256 (seenV s p (k + 1)) := by
  refine (h.set s[k].toNat (.bool true)).congr fun j hj => ?_
  have e : ((lst s).take (k + 1)).drop p = ((lst s).take k).drop p ++ [s[k]] := by
    rw [Fm.take_snoc 0 (by rw [lst_len]; exact hk), lst_take1 hk, List.drop_append_of_le_length (by rw [List.length_take, lst_len]; omega)]
  unfold seenV
  rw [e]
  by_cases hjk : j = s[k].toNat
  · rw [if_pos hjk]
    have : UInt8.ofNat j = s[k] := by rw [hjk]; simp
    rw [this]
    simp
  · rw [if_neg hjk]
    have hne : UInt8.ofNat j ≠ s[k] := fun h => hjk (by rw [← h, UInt8.toNat_ofNat']; omega)
    congr 1
    rw [decide_eq_decide, List.mem_append, List.mem_singleton]
    constructor
    · exact .inl
    · rintro (h | h)
      · exact h
      · exact absurd h hne
/-- The array that is ranged over. -/
def seenA (s : ByteArray) (p i : Nat) : Array Value := ((List.range 256).map (seenV s p i)).toArray
theorem seenA_size (s : ByteArray) (p i : Nat) : (seenA s p i).size = 256 := by unfold seenA; simp
theorem seenA_at (s : ByteArray) (p i k : Nat) (hk : k < 256) : (seenA s p i)[k]? = some (seenV s p i k) := by unfold seenA; simp [hk]
theorem row_array {w : World} {B p i : Nat} {s : ByteArray} (h : w.rowIs B 56 256 (seenV s p i)) : w.heap[B]? = some (.cells (seenA s p i) 56 (0, 0)) := by
  obtain ⟨c, hb, hn, hc⟩ := h
  have e : c = seenA s p i := by
    refine Array.ext (by rw [hn, seenA_size]) fun j h1 h2 => ?_
    have h3 := hc j (by omega)
    have h4 := seenA_at s p i j (by omega)
    rw [Array.getElem?_eq_getElem h1] at h3
    rw [Array.getElem?_eq_getElem h2] at h4
    exact (Option.some.inj h3).trans (Option.some.inj h4).symm
  rw [e] at hb
  exact hb
theorem zero_seen (W : World) : (zeroValue 56).run Try.prog W = .ok (.agg (madeCells #[.bool false] 256)) W := by kernel_rfl
/-- 'xs[k]' of an array by value. -/
theorem index_agg (cs : Array Value) (k : Nat) (b : Bool) (hk : k < 256) (hc : cs[k]? = some (.bool b)) (w : World) : (Instr.index 56 (.agg cs) (.int .i64 (k : Int))).run Try.prog w = .ok (.bool b) w := by
  have h1 : (0 : Int) ≤ (k : Int) ∧ (k : Int) < 256 := by omega
  have hz : ∀ w, (isAgg 4).run Try.prog w = .ok false w := Try.isAgg4
  have hs : ∀ w, (Go.sizeOf 4).run Try.prog w = .ok 1 w := Try.sizeOf4
  simp [Instr.index, run_underlying Try.underlying56, asIntOf, h1, part, hz, hs, hc, go_sem]
  omega
/-- What AgoOf answers. -/
def AgoPost (s : ByteArray) (w : World) (e : Ending) (w' : World) : Prop :=
  ∃ v, e = .returned v ∧ OwnI w' w.heap.size v (ni (Fm.putL (lst s))) ∧ Below w.heap.size w w'
set_option maxHeartbeats 4000000 in
set_option maxRecDepth 100000 in
theorem AgoOf_ok (s : ByteArray) (w : World) (hs : s.size ≤ 200) : Calls Try.prog 15 #[.string s] w (AgoPost s w) := by
  obtain ⟨cs, hcs⟩ : ∃ cs, cs = madeCells #[.bool false] 256 := ⟨_, rfl⟩
  have hz : ∀ W, (zeroValue 56).run Try.prog W = .ok (.agg cs) W := by intro W; rw [hcs]; exact zero_seen W
  have HCS := hid hcs
  have HZ := hid hz
  clear hcs hz
  go_enter Try.func15, Try.ntmps15
  go_wp2
  go_loopw [14, 3] (fun x v wr => ∃ i : Nat, ∃ vv, vv = v ∧ i ≤ s.size ∧ x = .int .i64 (i : Int) ∧ Hid (OwnI wr w.heap.size vv (ni (Fm.putL ((lst s).take i)))) ∧ Hid (Below w.heap.size w wr)) (fun x _ _ => s.size - (intOf x).toNat)
  case atStart => exact ⟨0, _, rfl, by omega, rfl, OwnI.zero _ _, Below.refl _ _⟩
  case round =>
    obtain ⟨i, vv, rfl, hi, rfl, HO, HB⟩ := hrel
    by_cases hlt : i < s.size
    · have hlt' : (i : Int) < (s.size : Int) := by omega
      obtain ⟨j, hj⟩ : ∃ j, j = i + 1 := ⟨_, rfl⟩
      have ej : (i : Int) + 1 = (j : Int) := by omega
      have hjw : IntKind.i64.wrap (j : Int) = (j : Int) := IntWalk.i64_in _ (by omega)
      have hj0 : (0 : Int) ≤ (j : Int) := by omega
      have hjs : (j : Int) ≤ (s.size : Int) := by omega
      have hij : (i : Int) ≤ (j : Int) := by omega
      have his : (i : Int) ≤ (s.size : Int) := by omega
      have hi0 : (0 : Int) ≤ (i : Int) := by omega
      have his' : i ≤ s.size := hi
      have hij' : i ≤ j := by omega
      have hjs' : j ≤ s.size := by omega
      obtain ⟨la, p, lb, hla, hp, hpl, hlb, hix⟩ := last_split ((lst s).take i) s[i]
      rw [List.length_take] at hpl
      have hpi : p ≤ i := by omega
      have hlast : ∀ W, Calls Try.prog 29 #[.string (s.extract 0 i), .string (s.extract i j)] W fun e w' => e = .returned (.int .i64 la) ∧ w' = W := by
        intro W
        have h := Try.strings_LastIndex (s.extract 0 i) (s.extract i j) (by rw [size_ext]; omega) W
        have e1 : lst (s.extract 0 i) = (lst s).take i := by rw [lst_mid, List.drop_zero, Nat.sub_zero]
        have e2 : lst (s.extract i j) = [s[i]] := by
          rw [lst_mid, show j - i = 1 by omega, List.drop_eq_getElem_cons (by rw [lst_len]; exact hlt)]
          have := lst_take1 hlt
          rw [Fm.getD_lt 0 (by rw [lst_len]; exact hlt)] at this
          rw [this]
          rfl
        rw [show Lib.lastIndex (s.extract 0 i).data.toList (s.extract i j).data.toList = la by
          show Lib.lastIndex (lst (s.extract 0 i)) (lst (s.extract i j)) = la
          rw [e1, e2]; exact hla] at h
        exact h
      obtain ⟨q, hq⟩ : ∃ q, q = Fm.ix (Fm.st ((lst s).take i)) s[i] := ⟨_, rfl⟩
      rw [← hq] at hix
      have HP : Hid (ni (Fm.putL ((lst s).take (i + 1))) = ni (Fm.putL ((lst s).take i)) ++ [(q : Int)]) := by
        unfold Hid
        rw [put_next hlt, hq]
        unfold ni
        rw [List.map_append]
        rfl
      have HIX := hid hix
      have HPP := hid hp
      have HPI := hid hpi
      have HJ := hid hj
      clear hla hpl hix hq hp hpi hi hj
      go_wp2
      go_region_held3 (fun _ => True) (trivial) (first | (go_at_call 29; (with_reducible refine (hlast _).mono ?_); rintro e w8 ⟨rfl, rfl⟩))
      have HOd : Hid (OwnI wr.drew w.heap.size vv (ni (Fm.putL ((lst s).take i)))) := HO.out
      have HBd : Hid (Below w.heap.size w wr.drew) := HB.out.drew
      generalize wr.drew = wd at *
      clear hlast HO HB hj0 hjs hij hij' hjs' hjw ej
      have ep := HPP.out
      have hpi := HPI.out
      have epw : IntKind.i64.wrap (p : Int) = (p : Int) := IntWalk.i64_in _ (by omega)
      have hrow0 : Hid ((wd.alloc (.cells cs 56)).rowIs wd.heap.size 56 256 (seenV s p p)) := by
        rw [HCS.out]
        exact (World.rowIs_made wd (.bool false) 256 56).congr fun j _ => (seen_none s p j).symm
      have hbl0 : Hid (Below wd.heap.size wd (wd.alloc (.cells cs 56))) := bl_new wd _
      have hz := HZ.out
      go_wp2
      clear hz
      go_loopw [8] (fun y w2 => ∃ k : Nat, p ≤ k ∧ k ≤ i ∧ y = .int .i64 (k : Int) ∧ Hid (w2.rowIs wd.heap.size 56 256 (seenV s p k)) ∧ Hid (Below wd.heap.size wd w2)) (fun y _ => i - (intOf y).toNat)
      case atStart => exact ⟨p, by omega, hpi, rfl, hrow0, hbl0⟩
      case round =>
        clear hrow0 hbl0 ep epw
        obtain ⟨k, hpk, hki, rfl, HR, HL⟩ := hrel
        generalize wr = w2 at *
        by_cases hkl : k < i
        · have hkl' : (k : Int) < (i : Int) := by omega
          have hks : k < s.size := by omega
          have hks' : (k : Int) < (s.size : Int) := by omega
          have hc256 : s[k].toNat < 256 := s[k].toNat_lt
          have hc256' : (s[k].toNat : Int) < 256 := by omega
          have hroom := HR.out.frozen s[k].toNat
          have hold := HR.out.cell hc256
          have HR2 := hid (seen_set hks hpk HR.out)
          have HL2 : Hid (Below wd.heap.size wd (w2.setCell ⟨wd.heap.size, s[k].toNat, none⟩ (.bool true))) := HL.out.setCell (Nat.le_refl _) _
          clear HR HL
          go_wp2
          go_roundw
          case measure => simp [intOf]; omega
          case rel => exact ⟨k + 1, by omega, by omega, by go_num, HR2, HL2⟩
        · have hd : decide ((k : Int) < (i : Int)) = false := decide_eq_false (by omega)
          obtain rfl : i = k := by omega
          obtain ⟨r, hr⟩ : ∃ r, r = ((lst s).take i).drop p := ⟨_, rfl⟩
          have hg := row_array HR.out
          have hsz := seenA_size s p i
          have HAT : Hid (∀ x, x < 256 → (seenA s p i)[x]? = some (.bool (decide (UInt8.ofNat x ∈ r)))) := by
            intro x hx
            rw [seenA_at s p i x hx, hr]
            rfl
          have hIX := HIX.out
          rw [← hr] at hIX
          have HIX2 := hid hIX
          generalize seenA s p i = arr at *
          have hinf : (Try.prog.info? 56).map (·.size) = some arr.size := by rw [hsz]; kernel_rfl
          have HO2 : Hid (OwnI w2 w.heap.size vv (ni (Fm.putL ((lst s).take i)))) := HOd.out.of_block fun b hb => HL.out.block b (HOd.out.lt_ b hb).2
          have HB2 : Hid (Below w.heap.size w w2) := HBd.out.trans (HL.out.mono HBd.out.size)
          clear HR HOd HBd HL hr hIX HIX hsz
          go_wp2_with (first | (with_reducible refine wpList_load_row rfl 56 _ rfl wd.heap.size rfl 56 arr (0, 0) _ hg Try.underlying56 rfl hinf ?_))
          clear hg hinf
          go_loopw [41, 9] (fun y z w3 => ∃ x : Nat, x ≤ 256 ∧ y = .int .i64 (x : Int) ∧ z = .int .i64 (cntF r lb s[i] x : Nat) ∧ w3 = w2) (fun y _ _ => 256 - (intOf y).toNat)
          case atStart => exact ⟨0, by omega, rfl, rfl, rfl⟩
          case round =>
            obtain ⟨x, hx, rfl, rfl, hw3⟩ := hrel
            obtain rfl : w2 = wr := hw3.symm
            have hw256 : IntKind.i64.wrap (s[i].toNat : Int) = (s[i].toNat : Int) := by have := s[i].toNat_lt; exact IntWalk.i64_in _ (by omega)
            have hc256 : s[i].toNat < 256 := s[i].toNat_lt
            have hzx := cntF_le r lb s[i] x
            by_cases hxl : x < 256
            · have hxl' : (x : Int) < 256 := by omega
              have hsucc := cntF_succ r lb s[i] x
              obtain ⟨bk, hbk⟩ : ∃ bk, bk = decide (UInt8.ofNat x ∈ r) := ⟨_, rfl⟩
              have hat := HAT.out x hxl
              rw [← hbk] at hat hsucc
              have hidx := index_agg arr x bk hxl hat
              obtain ⟨z, hz⟩ : ∃ z, z = cntF r lb s[i] x := ⟨_, rfl⟩
              rw [← hz] at hsucc hzx
              rw [← hz]
              clear hat hbk hz
              cases bk with
              | false =>
                have HE : Hid (cntF r lb s[i] (x + 1) = z) := by unfold Hid; rw [hsucc]; simp
                clear hsucc
                go_wp2
                go_roundw
                case measure => simp [intOf]; omega
                case rel => exact ⟨x + 1, by omega, by go_num, by rw [HE.out], by trivial⟩
              | true =>
                cases lb with
                | true =>
                  have HE : Hid (cntF r true s[i] (x + 1) = z + 1) := by unfold Hid; rw [hsucc]; simp
                  clear hsucc
                  go_wp2
                  go_roundw
                  case measure => simp [intOf]; omega
                  case rel => exact ⟨x + 1, by omega, by go_num, by rw [HE.out]; go_num, by trivial⟩
                | false =>
                  by_cases hcx : s[i].toNat < x
                  · have HE : Hid (cntF r false s[i] (x + 1) = z + 1) := by unfold Hid; rw [hsucc]; simp [hcx]
                    have hdc : decide ((s[i].toNat : Int) < (x : Int)) = true := decide_eq_true (by omega)
                    clear hsucc
                    go_wp2
                    go_roundw
                    case measure => simp [intOf]; omega
                    case rel => exact ⟨x + 1, by omega, by go_num, by rw [HE.out]; go_num, by trivial⟩
                  · have HE : Hid (cntF r false s[i] (x + 1) = z) := by unfold Hid; rw [hsucc]; simp [hcx]
                    have hdc : decide ((s[i].toNat : Int) < (x : Int)) = false := decide_eq_false (by omega)
                    clear hsucc
                    go_wp2
                    go_roundw
                    case measure => simp [intOf]; omega
                    case rel => exact ⟨x + 1, by omega, by go_num, by rw [HE.out], by trivial⟩
            · have hd : decide ((x : Int) < 256) = false := decide_eq_false (by omega)
              obtain rfl : x = 256 := by omega
              obtain ⟨z, hz⟩ : ∃ z, z = cntF r lb s[i] 256 := ⟨_, rfl⟩
              have hIX := HIX2.out
              rw [← hz] at hIX hzx
              rw [← hz]
              have HL : Hid ((ni (Fm.putL ((lst s).take i))).length < 1000000) := by
                unfold Hid
                rw [ni_len, Fm.putL_len, List.length_take]
                omega
              have hgs : w.heap.size ≤ w2.heap.size := HB2.out.size
              clear hz HIX2 HAT
              cases lb with
              | true =>
                have eq : q = z := by rw [hIX, if_pos rfl]; rfl
                have hdl : decide (la < 0) = false := decide_eq_false (by have := of_decide_eq_true hlb; omega)
                subst eq
                clear hIX
                go_wp2_with (first
                  | (at_builtin; with_reducible refine app_int (v := vv) rfl _ _ rfl rfl HO2.out w2.heap.size rfl rfl hgs HL.out ?_; intro v4 w4 hown4 hb4; have HO4 : Hid (OwnI w4 w.heap.size v4 (ni (Fm.putL ((lst s).take (i + 1))))) := (by unfold Hid; rw [HP.out]; exact hown4); have HB4 : Hid (Below w.heap.size w w4) := hid (HB2.out.trans hb4); clear hown4 hb4)
                  | go_in)
                go_roundw
                case measure => simp [intOf]; omega
                case rel => exact ⟨i + 1, _, rfl, by omega, by go_num, HO4, HB4⟩
              | false =>
                have eq : (z : Int) + (s[i].toNat : Int) = (q : Int) := by rw [hIX, if_neg (by decide)]; omega
                have hdl : decide (la < 0) = true := decide_eq_true (by have := of_decide_eq_false hlb; omega)
                have hqw : IntKind.i64.wrap (q : Int) = (q : Int) := IntWalk.i64_in _ (by omega)
                clear hIX
                go_wp2_with (first
                  | (at_builtin; with_reducible refine app_int (v := vv) rfl _ _ rfl rfl HO2.out w2.heap.size rfl rfl hgs HL.out ?_; intro v4 w4 hown4 hb4; have HO4 : Hid (OwnI w4 w.heap.size v4 (ni (Fm.putL ((lst s).take (i + 1))))) := (by unfold Hid; rw [HP.out]; exact hown4); have HB4 : Hid (Below w.heap.size w w4) := hid (HB2.out.trans hb4); clear hown4 hb4)
                  | go_in)
                go_roundw
                case measure => simp [intOf]; omega
                case rel => exact ⟨i + 1, _, rfl, by omega, by go_num, HO4, HB4⟩
    · have hd : decide ((i : Int) < (s.size : Int)) = false := decide_eq_false (by omega)
      obtain rfl : i = s.size := by omega
      have e1 : (lst s).take s.size = lst s := List.take_of_length_le (by rw [lst_len]; exact Nat.le_refl _)
      rw [e1] at HO
      go_wp2
      go_ret
      exact ⟨_, rfl, HO.out, HB.out⟩
end Go.Proofs.Ythebjelkmopboaa
