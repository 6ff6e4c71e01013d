
/-
quillkeep.FrontFew: whatever s: it answers true.
-/
import Derived.Test.YthebjelkmopboaaFrHelp
import Derived.Test.YthebjelkmopboaaBHas
namespace Go.Proofs.Ythebjelkmopboaa
open Go.RowKit

/-- What FrontFew has gathered: the unlike bytes of p, each once. -/
structure Came (L p : List UInt8) : Prop where
  mem : ∀ x, x ∈ L ↔ x ∈ p
  len : L.length = Fm.un p
theorem Came.nil : Came [] [] := ⟨fun _ => Iff.rfl, Fm.un_nil.symm⟩
theorem Came.old {L p : List UInt8} {c : UInt8} (h : Came L p) (hc : c ∈ L) : Came L (p ++ [c]) := by
  have hp := (h.mem c).1 hc
  refine ⟨fun x => ?_, by rw [Fm.un_in hp]; exact h.len⟩
  rw [List.mem_append, List.mem_singleton, h.mem x]
  constructor
  · exact .inl
  · rintro (h1 | rfl)
    · exact h1
    · exact hp
theorem Came.fresh {L p : List UInt8} {c : UInt8} (h : Came L p) (hc : c ∉ L) : Came (L ++ [c]) (p ++ [c]) := by
  have hp : c ∉ p := fun h1 => hc ((h.mem c).2 h1)
  refine ⟨fun x => ?_, by rw [Fm.un_out hp, List.length_append, h.len]; rfl⟩
  rw [List.mem_append, List.mem_append, List.mem_singleton, h.mem x]
theorem pg_ix {s : ByteArray} {i : Nat} (h : i < s.size) : pg s i = (Fm.ix (Fm.st ((lst s).take i)) s[i] : Nat) := by
  unfold pg
  rw [Fm.putL_ix (by rw [lst_len]; exact h), lst_take1 h]
theorem take_next {s : ByteArray} {i : Nat} (h : i < s.size) : (lst s).take (i + 1) = (lst s).take i ++ [s[i]] := by
  rw [Fm.take_snoc 0 (by rw [lst_len]; exact h), lst_take1 h]
set_option maxHeartbeats 1000000 in
theorem frontFew_any (s : ByteArray) (_hs : s.size ≤ maxLen) (w : World) :
    Calls Try.prog 8 #[.string s] w fun e w' => e = .returned (.bool true) ∧ Below w.heap.size w w' := by
  by_cases hs : s.size ≤ 200
  · have hzz : ((s.size : Int) != (s.size : Int)) = false := by simp
    go_enter Try.func8, Try.ntmps8
    go_wp2_with fail
    with_reducible refine (fronts_ok _).mono ?_
    rintro e w1 ⟨rfl, hb1⟩
    have HB1 := hid hb1
    clear hb1
    go_wp2_with fail
    with_reducible refine (FPut_ok s _ hs).mono ?_
    rintro e w2 ⟨A, c, rfl, hrow, hb⟩
    have HB2 := hid (bl_then HB1.out hb)
    have HR2 : Hid (IRow w2 A s.size (pg s)) := hrow
    clear hb hrow HB1
    go_wp2
    go_loopw [32, 5] (fun x v wr => ∃ i : Nat, ∃ vv L, vv = v ∧ i ≤ s.size ∧ x = .int .i64 (i : Int) ∧ Hid (Came L ((lst s).take i)) ∧ Hid (OwnT wr w2.heap.size vv L) ∧ Hid (Below w2.heap.size w2 wr)) (fun x _ _ => s.size - (intOf x).toNat)
    case atStart => exact ⟨0, _, [], rfl, by omega, rfl, Came.nil, OwnT.zero _ _, Below.refl _ _⟩
    case round =>
      obtain ⟨i, vv, L, rfl, hi, rfl, HC, HO, HB⟩ := hrel
      by_cases hlt : i < s.size
      · have hlt' : (i : Int) < (s.size : Int) := by omega
        have hlen : L.length ≤ i := by
          have h1 := Fm.un_le ((lst s).take i)
          rw [List.length_take] at h1
          rw [HC.out.len]
          omega
        have HN : Hid ((lst s).take (i + 1) = (lst s).take i ++ [s[i]]) := take_next hlt
        obtain ⟨q, hq⟩ : ∃ q, q = Fm.ix (Fm.st ((lst s).take i)) s[i] := ⟨_, rfl⟩
        have hq256 : q < 256 := by rw [hq]; exact (Fm.st_full _).ix _
        have hpg := pg_ix hlt
        rw [← hq] at hpg
        obtain ⟨b0, o0, rfl, hbl, hc0⟩ := HR2.out.at_ hlt
        have hc1 := (HB.out.cell (p := ⟨b0, o0 + i, none⟩) hbl).trans hc0
        rw [hpg] at hc1
        have HQ := hid hq
        clear hc0 hq hpg
        go_wp2_with fail
        with_reducible refine (bhas_any s[i] wr HO.out (by omega)).mono ?_
        rintro e w4 ⟨⟨b, rfl, hbm⟩, hw⟩
        obtain rfl : wr = w4 := hw.symm
        obtain ⟨A5, c5, hv⟩ := HO.out.shape
        subst hv
        cases b with
        | true =>
          have hm : s[i] ∈ L := hbm.1 rfl
          have hlq : q < L.length := by
            rw [HC.out.len, HQ.out]
            exact Fm.ix_came ((HC.out.mem _).1 hm)
          have hd1 : decide ((q : Int) < 0) = false := decide_eq_false (by omega)
          have hd2 : decide ((L.length : Int) ≤ (q : Int)) = false := decide_eq_false (by omega)
          have HCn : Hid (Came L ((lst s).take (i + 1))) := by unfold Hid; rw [HN.out]; exact HC.out.old hm
          have HOn := hid HO.out
          clear hbm hm HC HN HQ hbl
          go_wp2
          go_roundw
          case measure => simp [intOf]; omega
          case rel => exact ⟨i + 1, _, L, rfl, by omega, by go_num, HCn, HO, HB⟩
        | false =>
          have hm : s[i] ∉ L := fun h => by cases hbm.2 h
          have hmp : s[i] ∉ (lst s).take i := fun h => hm ((HC.out.mem _).2 h)
          have hnew := Fm.ix_new hmp
          rw [← HQ.out, ← HC.out.len] at hnew
          obtain ⟨h1, h2⟩ := hnew
          have hd1 : decide ((q : Int) < (s[i].toNat : Int)) = false := decide_eq_false (by omega)
          have hd2 : decide ((255 : Int) < (q : Int)) = false := decide_eq_false (by omega)
          have hd3 : decide ((q : Int) < (L.length : Int)) = false := decide_eq_false (by omega)
          have hn1 : ¬ q < s[i].toNat := by omega
          have hn3 : ¬ q < L.length := by omega
          have hby : s[i].toNat < 256 := s[i].toNat_lt
          have hwr : IntKind.i64.wrap (s[i].toNat : Int) = (s[i].toNat : Int) := IntWalk.i64_in _ (by omega)
          have HCn : Hid (Came (L ++ [s[i]]) ((lst s).take (i + 1))) := by unfold Hid; rw [HN.out]; exact HC.out.fresh hm
          have HL : Hid (L.length < 1000000 - 1) := by unfold Hid; omega
          have hgs : w2.heap.size ≤ wr.heap.size := HB.out.size
          clear hbm hm hmp HC HN HQ h1 h2
          go_wp2
          go_quiet (fail)
          generalize hd : wr.drewN _ = wd
          have HOd : Hid (OwnT wd w2.heap.size (.slice A5 L.length c5) L) := by rw [← hd]; exact HO.out.drewN _
          have HBd : Hid (Below w2.heap.size w2 wd) := by rw [← hd]; exact bl_drewN HB.out _
          have hgd : w2.heap.size ≤ wd.heap.size := HBd.out.size
          clear hd HO HB
          go_wp2_with (first
            | (at_builtin; with_reducible refine app_one (v := .slice A5 L.length c5) (x := s[i]) rfl _ _ rfl rfl HOd.out wd.heap.size rfl rfl hgd HL.out ?_; intro v4 w4 hown4 hb4 hg4; have HO4 := hid hown4; have HB4 : Hid (Below w2.heap.size w2 w4) := hid (HBd.out.trans hb4); clear hown4 hb4 hg4)
            | go_in)
          go_roundw
          case measure => simp [intOf]; omega
          case rel => exact ⟨i + 1, _, L ++ [s[i]], rfl, by omega, by go_num, HCn, HO4, HB4⟩
      · have hd : decide ((i : Int) < (s.size : Int)) = false := decide_eq_false (by omega)
        clear HC HO
        go_wp2
        go_ret
        exact ⟨rfl, bl_then HB2.out HB.out⟩
  · go_enter Try.func8, Try.ntmps8
    go_wp2_with fail
    with_reducible refine (fronts_ok _).mono ?_
    rintro e w1 ⟨rfl, hb1⟩
    have HB1 := hid hb1
    clear hb1
    go_wp2_with fail
    with_reducible refine (FPut_large s _ (by omega)).mono ?_
    rintro e w2 ⟨rfl, rfl⟩
    go_wp2
    go_ret
    exact ⟨rfl, HB1.out⟩
end Go.Proofs.Ythebjelkmopboaa
