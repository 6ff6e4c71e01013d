
/-
The contract of front.Runs.
-/
import Derived.Test.YthebjelkmopboaaRunRow
import Derived.Test.YthebjelkmopboaaWordB
import Derived.Deep.QuietTactic
namespace Go.Proofs.Ythebjelkmopboaa
open Go.RowKit

theorem rtake {s : ByteArray} {i : Nat} (h : i < s.size) : (lst s).take (i + 1) = (lst s).take i ++ [s[i]] := by
  rw [Fm.take_snoc 0 (by rw [lst_len]; exact h), lst_get, byt_eq h]
theorem rhead {s : ByteArray} {j : Nat} (h : j < s.size) : (Rm.rr ((lst s).take (j + 1))).head?.map (·.1) = some s[j] := by
  rw [Rm.head_take (by rw [lst_len]; exact h), lst_get, byt_eq h]
theorem runs_len_ (s : ByteArray) (i : Nat) : (Rm.runs ((lst s).take i)).length ≤ i := by
  have := Rm.runs_len ((lst s).take i)
  rw [List.length_take] at this
  omega
/-- What Runs answers. -/
def RunsPost (s : ByteArray) (w : World) (e : Ending) (w' : World) : Prop :=
  ∃ v, e = .returned (.tuple #[v, .int .i64 0]) ∧ OwnR w' w.heap.size v (Rm.runs (lst s)) ∧ Below w.heap.size w w'
set_option maxHeartbeats 1000000 in
theorem FRuns_ok (s : ByteArray) (w : World) (hs : s.size ≤ 200) : Calls Try.prog 11 #[.string s] w (RunsPost s w) := by
  go_enter Try.func11, Try.ntmps11
  go_wp2_with fail
  with_reducible refine (check_ok s _ hs).mono ?_
  rintro e w1 ⟨rfl, hw1⟩
  obtain rfl : w = w1 := hw1
  go_wp2
  go_loopw [14, 5] (fun x v wr => ∃ i : Nat, ∃ vv, vv = v ∧ i ≤ s.size ∧ x = .int .i64 (i : Int) ∧ Hid (OwnR wr w.heap.size vv (Rm.runs ((lst s).take i))) ∧ Hid (Below w.heap.size w wr)) (fun x _ _ => s.size - (intOf x).toNat)
  case atStart => exact ⟨0, _, rfl, by omega, rfl, OwnR.zero _ _, Below.refl _ _⟩
  case round =>
    obtain ⟨i, vv, rfl, hi, rfl, HO, HB⟩ := hrel
    by_cases hlt : i < s.size
    · have hlt' : (i : Int) < (s.size : Int) := by omega
      have HN : Hid ((lst s).take (i + 1) = (lst s).take i ++ [s[i]]) := rtake hlt
      have hgs : w.heap.size ≤ wr.heap.size := HB.out.size
      by_cases h0 : i = 0
      · have he0 : ((i : Int) == 0) = true := by rw [h0]; rfl
        have HR : Hid (Rm.runs ((lst s).take (i + 1)) = Rm.runs ((lst s).take i) ++ [(s[i], 1)]) := by
          unfold Hid
          rw [HN.out]
          refine Rm.runs_new ?_
          have e : (lst s).take i = [] := by rw [h0]; rfl
          rw [e]
          exact Rm.head_nil _
        clear h0 HN
        have hlen := runs_len_ s i
        obtain ⟨L, hL⟩ : ∃ L, L = Rm.runs ((lst s).take i) := ⟨_, rfl⟩
        rw [← hL] at hlen HR HO
        obtain ⟨m, hm⟩ : ∃ m, L.length = m := ⟨_, rfl⟩
        have HM := hid hm
        have hm200 : m < 1000000 := by omega
        clear hL hm hlen
        go_wp2
        go_quiet (fail)
        generalize hd : wr.drewN _ = wd
        have HOd : Hid (OwnR wd w.heap.size vv L) := by rw [← hd]; exact HO.out.drewN _
        have HBd : Hid (Below w.heap.size w wd) := by rw [← hd]; exact bl_drewN HB.out _
        have hgd : w.heap.size ≤ wd.heap.size := HBd.out.size
        clear hd HO HB
        have hx : (0 : Int) ≤ 200 := by omega
        go_wp2_with (first
          | (at_builtin; with_reducible refine app_run (v := vv) (x := s[i]) (y := 0) rfl _ _ rfl rfl HOd.out wd.heap.size rfl rfl hgd m HM.out hm200 ?_; intro g cap wq hown4 hg4; have HOq := hid hown4; have HBq : Hid (Below w.heap.size w wq) := hid (HBd.out.grown hg4 hgd (fun k hk => (HOd.out.lt_ k hk).1)); obtain ⟨hc4, hf4, _, hbg4, hlt4⟩ := hown4.last HM.out; have HG := hid hbg4; clear hown4 hg4 hbg4
             have hwm : IntKind.i64.wrap (m : Int) = (m : Int) := IntWalk.i64_in _ (by omega)
             have hm1 : (m : Int) < (m : Int) + 1 := by omega
             have HOn : Hid (OwnR (wq.setCell ⟨g, m * 2 + 1, none⟩ (.int .i64 1)) w.heap.size (.slice (some ⟨g, 0, none⟩) (m + 1) cap) (Rm.runs ((lst s).take (i + 1)))) := (by unfold Hid; rw [HR.out]; exact HOq.out.store HM.out 1)
             have HBn : Hid (Below w.heap.size w (wq.setCell ⟨g, m * 2 + 1, none⟩ (.int .i64 1))) := HBq.out.setCell HG.out _
             clear HOq HBq HR HM HG HOd HBd)
          | go_in)
        go_roundw
        case measure => simp [intOf]; omega
        case rel => exact ⟨i + 1, _, rfl, by omega, by go_num, HOn, HBn⟩
      · obtain ⟨j, hj⟩ : ∃ j, i = j + 1 := ⟨i - 1, by omega⟩
        have ej : (i : Int) - 1 = (j : Int) := by omega
        have ejw : IntKind.i64.wrap (j : Int) = (j : Int) := IntWalk.i64_in _ (by omega)
        have hjs : j < s.size := by omega
        have hjs' : (j : Int) < (s.size : Int) := by omega
        have he0 : ((i : Int) == 0) = false := beq_eq_false_iff_ne.2 (by omega)
        have hhead : (Rm.rr ((lst s).take i)).head?.map (·.1) = some s[j] := by rw [hj]; exact rhead hjs
        by_cases he : s[i] = s[j]
        · have hne : ((s[i].toNat : Int) != (s[j].toNat : Int)) = false := by rw [he]; simp
          rw [← he] at hhead
          obtain ⟨T, x, hT1, hT2⟩ := Rm.runs_same hhead
          have hb := Rm.runs_bound ((lst s).take i) (s[i], x) (by rw [hT1]; simp)
          rw [List.length_take] at hb
          have hx1 : 1 ≤ x := hb.1
          have hx2 : x ≤ 200 := by have := hb.2; dsimp only at this; omega
          have hTl : T.length ≤ 200 := by
            have := runs_len_ s i
            rw [hT1, List.length_append] at this
            omega
          have HR : Hid (Rm.runs ((lst s).take (i + 1)) = T ++ [(s[i], x + 1)]) := by unfold Hid; rw [HN.out]; exact hT2
          obtain ⟨m, hm⟩ : ∃ m, T.length = m := ⟨_, rfl⟩
          have HM := hid hm
          have hm200 : m ≤ 200 := by omega
          have hshape := HO.out
          rw [hT1] at hshape
          obtain ⟨A5, cap, hv, _, hrow⟩ := hshape.row
          obtain ⟨b5, o5, hA, hlt5, _⟩ := hrow m (by rw [List.length_append, hm]; simp)
          have HO1 := hid hshape
          subst hv; subst hA
          have hzero : o5 = 0 := by
            rcases HO1.out.2 with ⟨h7, _⟩ | ⟨g2, cap2, cur, h7, _⟩
            · cases h7
            · injection h7 with h7
              injection h7 with h7
              injection h7
          subst hzero
          rw [show (T ++ [(s[i], x)]).length = m + 1 by rw [List.length_append, hm]; rfl] at *
          obtain ⟨g, hg⟩ : ∃ g, g = b5 := ⟨_, rfl⟩
          subst hg
          clear hT1 hT2 hb hhead he hrow hlt5 hm HO hTl hj HN hshape
          go_wp2
          go_quiet (fail)
          generalize hd : wr.drewN _ = wq
          have HOq : Hid (OwnR wq w.heap.size (.slice (some ⟨g, 0, none⟩) (m + 1) cap) (T ++ [(s[i], x)])) := by rw [← hd]; exact HO1.out.drewN _
          have HBq : Hid (Below w.heap.size w wq) := by rw [← hd]; exact bl_drewN HB.out _
          clear hd HO1 HB
          obtain ⟨hc4, hf4, _, hbg4, hlt4⟩ := HOq.out.last HM.out
          have HG := hid hbg4
          clear hbg4
          have hxw : IntKind.i64.wrap (x + 1) = x + 1 := IntWalk.i64_in _ (by omega)
          have hwm : IntKind.i64.wrap (m : Int) = (m : Int) := IntWalk.i64_in _ (by omega)
          have hm1 : (m : Int) < (m : Int) + 1 := by omega
          have HOn : Hid (OwnR (wq.setCell ⟨g, m * 2 + 1, none⟩ (.int .i64 (x + 1))) w.heap.size (.slice (some ⟨g, 0, none⟩) (m + 1) cap) (Rm.runs ((lst s).take (i + 1)))) := by
            unfold Hid
            rw [HR.out]
            exact HOq.out.store HM.out (x + 1)
          have HBn : Hid (Below w.heap.size w (wq.setCell ⟨g, m * 2 + 1, none⟩ (.int .i64 (x + 1)))) := HBq.out.setCell HG.out _
          clear HOq HBq HR HM HG
          go_wp2
          go_roundw
          case measure => simp [intOf]; omega
          case rel => exact ⟨i + 1, _, rfl, by omega, by go_num, HOn, HBn⟩
        · have hne : ((s[i].toNat : Int) != (s[j].toNat : Int)) = true := (byte_ne he).1
          have HR : Hid (Rm.runs ((lst s).take (i + 1)) = Rm.runs ((lst s).take i) ++ [(s[i], 1)]) := by
            unfold Hid
            rw [HN.out]
            refine Rm.runs_new ?_
            rw [hhead]
            intro h
            injection h with h
            exact he h.symm
          clear hhead he HN hj
          have hlen := runs_len_ s i
          obtain ⟨L, hL⟩ : ∃ L, L = Rm.runs ((lst s).take i) := ⟨_, rfl⟩
          rw [← hL] at hlen HR HO
          obtain ⟨m, hm⟩ : ∃ m, L.length = m := ⟨_, rfl⟩
          have HM := hid hm
          have hm200 : m < 1000000 := by omega
          clear hL hm hlen
          go_wp2
          go_quiet (fail)
          generalize hd : wr.drewN _ = wd
          have HOd : Hid (OwnR wd w.heap.size vv L) := by rw [← hd]; exact HO.out.drewN _
          have HBd : Hid (Below w.heap.size w wd) := by rw [← hd]; exact bl_drewN HB.out _
          have hgd : w.heap.size ≤ wd.heap.size := HBd.out.size
          clear hd HO HB
          have hx : (0 : Int) ≤ 200 := by omega
          go_wp2_with (first
            | (at_builtin; with_reducible refine app_run (v := vv) (x := s[i]) (y := 0) rfl _ _ rfl rfl HOd.out wd.heap.size rfl rfl hgd m HM.out hm200 ?_; intro g cap wq hown4 hg4; have HOq := hid hown4; have HBq : Hid (Below w.heap.size w wq) := hid (HBd.out.grown hg4 hgd (fun k hk => (HOd.out.lt_ k hk).1)); obtain ⟨hc4, hf4, _, hbg4, hlt4⟩ := hown4.last HM.out; have HG := hid hbg4; clear hown4 hg4 hbg4
               have hwm : IntKind.i64.wrap (m : Int) = (m : Int) := IntWalk.i64_in _ (by omega)
               have hm1 : (m : Int) < (m : Int) + 1 := by omega
               have HOn : Hid (OwnR (wq.setCell ⟨g, m * 2 + 1, none⟩ (.int .i64 1)) w.heap.size (.slice (some ⟨g, 0, none⟩) (m + 1) cap) (Rm.runs ((lst s).take (i + 1)))) := (by unfold Hid; rw [HR.out]; exact HOq.out.store HM.out 1)
               have HBn : Hid (Below w.heap.size w (wq.setCell ⟨g, m * 2 + 1, none⟩ (.int .i64 1))) := HBq.out.setCell HG.out _
               clear HOq HBq HR HM HG HOd HBd)
            | go_in)
          go_roundw
          case measure => simp [intOf]; omega
          case rel => exact ⟨i + 1, _, rfl, by omega, by go_num, HOn, HBn⟩
    · have hd : decide ((i : Int) < (s.size : Int)) = false := decide_eq_false (by omega)
      obtain rfl : i = s.size := by omega
      have e1 : (lst s).take s.size = lst s := List.take_of_length_le (by rw [lst_len]; exact Nat.le_refl _)
      rw [e1] at HO
      go_wp2
      go_ret2
      exact ⟨_, rfl, HO.out, HB.out⟩
theorem FRuns_large (s : ByteArray) (w : World) (hs : 200 < s.size) :
    Calls Try.prog 11 #[.string s] w fun e w' => e = .returned (.tuple #[.slice none 0 0, .int .i64 2]) ∧ w' = w := by
  go_enter Try.func11, Try.ntmps11
  go_wp2_with fail
  with_reducible refine (check_large s _ hs).mono ?_
  rintro e w1 ⟨rfl, rfl⟩
  go_wp2
  go_ret2
  exact ⟨rfl, rfl⟩
end Go.Proofs.Ythebjelkmopboaa
