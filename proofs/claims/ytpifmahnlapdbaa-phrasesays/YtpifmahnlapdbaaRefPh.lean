
/-
The contracts of quillref.PhrasesOf and quillref.TextOf.
-/
import Derived.Test.YtpifmahnlapdbaaPhGet
import Derived.Deep.RegionLaw
namespace Go.Proofs.Ytpifmahnlapdbaa
open Go.RowKit Go.Maps

/-- 'l = append(l, p)' inside a statement whose order is drawn. -/
theorem step_app_ph {ops : Array Oper} {o : Oper} {a : Act} {K : Act → World → Prop} {Q : Exit → Act → World → Prop} {E : Prop} {wr : World} {L : List Ph.P} {x : Int} {y : UInt8} {v : Value} {base : Nat} (hgd : o.guard = none) (s z : Operand)
    (ho : o.op = .call { callee := .builtin .append, args := #[s, z], argTypes := #[22, 22] })
    (hs : a.eval s = v) (hown : OwnP wr base v L) (N : Nat) (hN : wr.heap.size = N) (hx : a.eval z = .slice (some ⟨N, 0, none⟩) 1 1)
    (hbase : base ≤ N) (hlen : L.length < 1000000)
    (h : ∀ g cap w', OwnP w' base (.slice (some ⟨g, 0, none⟩) (L.length + 1) cap) (L ++ [(x, y)]) → wr.grownBy w' v.ownBlock → K (a.put o.dst (.slice (some ⟨g, 0, none⟩) (L.length + 1) cap)) w') :
    if Region.wanted o (yielded ops a.tmps) = true then Oper.wp Try.prog o a (wr.alloc (.cells #[.int .i64 x, .int .u8 (y.toNat : Int)] 33)) K Q else E := by
  subst hN
  obtain ⟨i0, hi, hz0, hz1, hz2⟩ := info_parts Try.infoPh
  refine step_append_lies (wr.alloc (.cells #[.int .i64 x, .int .u8 (y.toNat : Int)] 33)) hgd s z 22 ho base 33 i0 (.agg #[.int .i64 0, .int .u8 0]) 2 16 Try.underlying22 hi hz0 hz1 hz2 rfl (by decide) v _ _ hs (World.ownsRow.alloc hown _) ⟨wr.heap.size, 0, none⟩ 1 1 (phC (x, y)) hx rfl ?_ ?_ (by omega) ?_ ?_ ?_ (wr.heap.size + 1) (by simp) ?_
  · intro j u hj
    match j, hj with
    | 0, hj => simp [phC] at hj; subst hj; simp [Addr.add]
    | 1, hj => simp [phC] at hj; subst hj; simp [Addr.add]
  · intro u hu
    simp [phC] at hu
    rcases hu with rfl | rfl <;> rfl
  · unfold maxLen; omega
  · omega
  · simp; omega
  · intro g cap w' h1 h2 _ _
    refine h g cap w' ?_ ?_
    · unfold OwnP
      rw [List.flatMap_append]
      simpa using h1
    · exact ⟨h2.os, h2.tape, h2.output, Nat.le_trans (by simp) h2.size, fun k hk hne => (h2.block k (by simp; omega) hne).trans (Below.heap_alloc wr _ k hk)⟩
theorem law_str : Keyed Try.prog 9 := string_keyed Try.underlying9
/-- The map of texts. -/
abbrev MTx (w : World) (B : Nat) (T : List (List UInt8)) : Prop := MIx Lit.string (fun _ => True) w 9 B 0 T
theorem str_inj (x y : List UInt8) (_ : True) (_ : True) (h : Lit.string x = Lit.string y) : x = y := by injection h
theorem key_mk {l : List UInt8} (h : l.length ≤ 1000000) : keyOf Try.prog 9 (.string (mkS l)) = some (.string l) := by
  have := Go.WideMaps.keyOf_string_mk (P := Try.prog) Try.underlying9 (s := mkS l) (by rw [mk_size]; unfold maxLen; omega)
  rw [this]
  exact congrArg (fun x => some (Lit.string x)) (lst_mk l)
theorem cont_iff {L : List Ph.P} {b : Nat} (h : Ph.Good L b) (c : UInt8) : (Ph.tx L).contains ((Ph.tx L).getD b [] ++ [c]) = L.contains ((b : Int), c) := by
  rw [Bool.eq_iff_iff, List.contains_iff_mem, List.contains_iff_mem]
  exact h.mem c
theorem rest_len (l : List UInt8) : (Ph.prest l).length ≤ l.length := by
  have := congrArg List.length (Ph.prun_join l)
  rw [List.length_append] at this
  omega
theorem ext_one {s : ByteArray} {i : Nat} (h : i < s.size) : s.extract i (i + 1) = mkS [s[i]] := by
  have hl : i < (lst s).length := by rw [lst_len]; exact h
  rw [← mk_lst (s.extract i (i + 1)), lst_mid, Nat.add_sub_cancel_left, List.drop_eq_getElem_cons hl]
  rfl
theorem tx_step {w wr w2 : World} {vv : Value} {L : List Ph.P} {T : List (List UInt8)} {x : List UInt8} {p : Ph.P} {k : ByteArray} {g cap : Nat} (hB : Below w.heap.size w wr) (hW : w.heap.size < wr.heap.size)
    (hM : MTx wr w.heap.size T) (hlt : ∀ k, vv.ownBlock = some k → w.heap.size + 1 ≤ k ∧ k < wr.heap.size)
    (hown : OwnP w2 (w.heap.size + 1) (.slice (some ⟨g, 0, none⟩) (L.length + 1) cap) (L ++ [p])) (hg : wr.grownBy w2 vv.ownBlock)
    (hL : L.length ≤ 200) (hc : T.contains x = false) (hT : T.length = L.length + 1) (hk : keyOf Try.prog 9 (.string k) = some (.string x)) :
    ∃ w3, (Instr.mapUpdate 46 (.map (some w.heap.size)) (.string k) (.int .i64 ((L.length : Int) + 1))).run Try.prog w2 = .ok () w3 ∧
      Hid (MTx w3 w.heap.size (T ++ [x])) ∧ Hid (OwnP w3 (w.heap.size + 1) (.slice (some ⟨g, 0, none⟩) (L.length + 1) cap) (L ++ [p])) ∧ Hid (Below w.heap.size w w3) ∧ w.heap.size < w3.heap.size := by
  have hneB : some w.heap.size ≠ vv.ownBlock := fun e => by have := (hlt _ e.symm).1; omega
  have hM2 := hM.grown hg hneB
  obtain ⟨w3, hrun, hM3, hg3⟩ := hM2.put (by omega) law_str Try.underlying46 str_inj hk trivial hc (v := L.length + 1) (by omega) (by omega)
  have hB2 := hB.grown hg (by omega) (fun k hk => by have := (hlt k hk).1; omega)
  have hS : wr.heap.size ≤ w2.heap.size := hg.size
  have hB3 := hB2.grown hg3 (by omega) (fun k hk => by cases hk; exact Nat.le_refl _)
  refine ⟨w3, by exact_mod_cast hrun, hM3, OwnP.of_block hown (fun k hk => ?_), hB3, Nat.lt_of_lt_of_le (by omega) hg3.size⟩
  have hk2 := hown.lt_ k hk
  exact hg3.block k hk2.2 (fun e => by injection e with e; omega)
set_option maxHeartbeats 1000000 in
theorem PhrasesOf_ok (s : ByteArray) (w : World) (hs : s.size ≤ 200) :
    Calls Try.prog 10 #[.string s] w fun e w' => ∃ v, e = .returned (.tuple #[v, .string (mkS (Ph.prest (lst s)))]) ∧ OwnP w' w.heap.size v (Ph.prun (lst s)).1 ∧ Below w.heap.size w w' := by
  have hk0 : keyOf Try.prog 9 (.string (mkS [])) = some (.string []) := key_mk (by simp)
  obtain ⟨w0, hrun0, hm0, hg0⟩ := (MIx.new (f := Lit.string) (G := fun _ => True) (k := 9) (o := 0) w).put (by simp) law_str Try.underlying46 str_inj hk0 trivial rfl (v := 0) rfl (by omega)
  have HM0 : Hid (MTx w0 w.heap.size (Ph.tx [])) := hm0
  have HB0 : Hid (Below w.heap.size w w0) := (bl_new w (.map #[] 0)).grown hg0 (by simp) (fun j hj => by cases hj; exact Nat.le_refl _)
  have hS0 : w.heap.size < w0.heap.size := Nat.lt_of_lt_of_le (by simp) hg0.size
  have hrun0' : (Instr.mapUpdate 46 (.map (some w.heap.size)) (.string ⟨#[]⟩) (.int .i64 0)).run Try.prog (w.alloc (.map #[] 0)) = .ok () w0 := hrun0
  have hmm := @run_makeMap Try.prog
  clear hk0 hm0 hg0 hrun0
  go_enter Try.func10, Try.ntmps10
  go_wp2
  clear hmm hrun0'
  go_loopw [15, 5, 6] (fun x v cu wr => ∃ i b : Nat, ∃ L, ∃ vv, vv = v ∧ i ≤ s.size ∧ Hid (Ph.prun ((lst s).take i) = (L, b)) ∧ x = .int .i64 (i : Int) ∧ cu = .string (mkS ((Ph.tx L).getD b [])) ∧ Hid (OwnP wr (w.heap.size + 1) vv L) ∧ Hid (MTx wr w.heap.size (Ph.tx L)) ∧ Hid (Below w.heap.size w wr) ∧ w.heap.size < wr.heap.size) (fun x _ _ _ => s.size - (intOf x).toNat)
  case atStart => exact ⟨0, 0, [], _, rfl, by omega, rfl, rfl, rfl, OwnP.zero _ _, HM0, HB0, hS0⟩
  case round =>
    clear HM0 HB0 hS0
    obtain ⟨i, b, L, vv, rfl, hi, HL, rfl, rfl, HO, HM, HB, hW⟩ := hrel
    by_cases hlt : i < s.size
    · have hlt' : (i : Int) < (s.size : Int) := by omega
      have HG : Hid (Ph.Good L b) := by have := Ph.prun_good ((lst s).take i); rw [HL.out] at this; exact this
      have hn : L.length ≤ i := by
        have := Ph.prun_len ((lst s).take i)
        rw [HL.out, List.length_take] at this
        exact Nat.le_trans this (by omega)
      have hcl : ((Ph.tx L).getD b []).length ≤ i := by
        have := rest_len ((lst s).take i)
        unfold Ph.prest at this
        rw [HL.out, List.length_take] at this
        exact Nat.le_trans this (by omega)
      obtain ⟨cur, hcur⟩ : ∃ cur, cur = mkS ((Ph.tx L).getD b []) := ⟨_, rfl⟩
      have hz0 : cur.size ≤ 200 := by rw [hcur, mk_size]; omega
      obtain ⟨j, hj⟩ : ∃ j, j = i + 1 := ⟨_, rfl⟩
      have hz1 : (s.extract i j).size = 1 := by rw [hj, ext_one hlt, mk_size]; rfl
      have hbig : ¬ 9223372036854775807 < cur.size + (s.extract i j).size := by omega
      have ej : (i : Int) + 1 = (j : Int) := by omega
      have ejw : IntKind.i64.wrap (j : Int) = (j : Int) := IntWalk.i64_in _ (by omega)
      have hij : i ≤ j := by omega
      have hjs : j ≤ s.size := by omega
      have hij' : (i : Int) ≤ (j : Int) := by omega
      have hjs' : (j : Int) ≤ (s.size : Int) := by omega
      have HN : Hid (cur ++ s.extract i j = mkS ((Ph.tx L).getD b [] ++ [s[i]])) := by unfold Hid; rw [hcur, hj, ext_one hlt, mk_app]
      have hkn : keyOf Try.prog 9 (.string (cur ++ s.extract i j)) = some (.string ((Ph.tx L).getD b [] ++ [s[i]])) := by rw [HN.out]; exact key_mk (by rw [List.length_append, List.length_singleton]; omega)
      obtain ⟨hl1, hl2⟩ := HM.out.look law_str Try.underlying46 hkn trivial
      have HK := hid hkn
      have HL1 := hid hl1
      have HL2 := hid hl2
      have HJ := hid hj
      rw [← hcur]
      have HCU := hid hcur
      clear hl1 hl2 hkn hcl hcur hj
      cases hc : L.contains ((b : Int), s[i]) with
      | true =>
        have hlk := HL1.out (by rw [cont_iff HG.out]; exact hc)
        generalize (((Ph.tx L).idxOf ((Ph.tx L).getD b [] ++ [s[i]]) + 0 : Nat) : Int) = q at hlk
        have HLn : Hid (Ph.prun ((lst s).take (i + 1)) = (L, L.idxOf ((b : Int), s[i]) + 1)) := by
          unfold Hid
          rw [pr_succ hlt, HL.out, mem_yes hc]
        have HX : Hid (Value.string (cur ++ s.extract i j) = .string (mkS ((Ph.tx L).getD (L.idxOf ((b : Int), s[i]) + 1) []))) := by
          unfold Hid
          rw [HN.out, HG.out.at_ (List.contains_iff_mem.1 hc)]
        clear HL1 HL2 HK HL HG hc HN
        go_wp2
        go_roundw
        case rel => exact ⟨i + 1, _, L, _, rfl, by omega, HLn, by go_num, HX.out, HO, HM, HB, hW⟩
        case measure => simp [intOf]; omega
      | false =>
        obtain ⟨q, hlk⟩ := HL2.out (by rw [cont_iff HG.out]; exact hc)
        have hbl := HG.out.le
        have htl := Ph.tx_len L
        have hcu : (Ph.tx L).contains ((Ph.tx L).getD b []) = true := by
          rw [List.contains_iff_mem, List.getD_eq_getElem?_getD, List.getElem?_eq_getElem (by omega)]
          exact List.getElem_mem _
        have hkc : keyOf Try.prog 9 (.string cur) = some (.string ((Ph.tx L).getD b [])) := by rw [HCU.out]; exact key_mk (by have := hz0; rw [HCU.out, mk_size] at this; omega)
        have hat := HM.out.at_ law_str Try.underlying46 hkc trivial hcu
        rw [HG.out.idx, Nat.add_zero] at hat
        have HMd : Hid (MTx wr.drew w.heap.size (Ph.tx L)) := HM.out
        have hat' := HMd.out.at_ law_str Try.underlying46 hkc trivial hcu
        rw [HG.out.idx, Nat.add_zero] at hat'
        have HLn : Hid (Ph.prun ((lst s).take (i + 1)) = (L ++ [((b : Int), s[i])], 0)) := by
          unfold Hid
          rw [pr_succ hlt, HL.out, mem_no hc]
        have HX : Hid (Value.string ⟨#[]⟩ = .string (mkS ((Ph.tx (L ++ [((b : Int), s[i])])).getD 0 []))) := by
          unfold Hid
          rw [Ph.tx_zero]
          rfl
        have HOd : Hid (OwnP wr.drew (w.heap.size + 1) vv L) := HO.out
        have HBd : Hid (Below w.heap.size w wr.drew) := HB.out.drew
        have HNC : Hid ((Ph.tx L).contains ((Ph.tx L).getD b [] ++ [s[i]]) = false) := by unfold Hid; rw [cont_iff HG.out]; exact hc
        have HTS : Hid (Ph.tx (L ++ [((b : Int), s[i])]) = Ph.tx L ++ [(Ph.tx L).getD b [] ++ [s[i]]]) := by unfold Hid; rw [Ph.tx_snoc]; rfl
        have HTL := hid htl
        clear HL1 HL2 HL HG hc hcu hkc htl HO HM HB
        go_wp2
        go_region_law (refine step_app_ph (wr := wr.drew) (x := (b : Int)) (y := s[i]) rfl _ _ rfl (by simp [Act.eval]) HOd.out wr.heap.size rfl (by simp [Act.eval]) (by omega) (by omega) ?_; intro g cap w2 hown2 hg2)
        all_goals (
          obtain ⟨w3, hput, HM3, HO3, HB3, hW3⟩ := tx_step HBd.out (by simpa using hW) HMd.out (by have := HOd.out.lt_; simpa using this) hown2 hg2 (by omega) HNC.out HTL.out HK.out
          clear hown2 hg2 hlk hat hat'
          go_wp2
          clear hput
          go_roundw
          case rel => exact ⟨i + 1, 0, L ++ [((b : Int), s[i])], _, rfl, by omega, HLn, by go_num, HX.out, HO3, (by rw [HTS.out]; exact HM3), HB3, hW3⟩
          case measure => simp [intOf]; omega)
    · have hd : decide ((i : Int) < (s.size : Int)) = false := decide_eq_false (by omega)
      obtain rfl : i = s.size := by omega
      have e1 : (lst s).take s.size = lst s := List.take_of_length_le (by rw [lst_len]; exact Nat.le_refl _)
      have HLE : Hid (Ph.prun (lst s) = (L, b)) := by have := HL.out; rw [e1] at this; exact this
      have HR : Hid (mkS ((Ph.tx L).getD b []) = mkS (Ph.prest (lst s))) := by unfold Hid Ph.prest; rw [HLE.out]
      have HE : Hid (OwnP wr w.heap.size vv (Ph.prun (lst s)).1) := by unfold Hid; rw [HLE.out]; exact HO.out.lower (by omega)
      rw [HR.out]
      clear HM HO HL HLE HR e1
      go_wp2
      go_ret2
      exact ⟨_, rfl, HE.out, HB.out⟩
end Go.Proofs.Ytpifmahnlapdbaa
