/-
The contract of quillref.TurnsOf: the document's transform.
-/
import Derived.Test.YtljpjjokfkbdcaaStabAllQ
import Derived.Test.YtljpjjokfkbdcaaTPut
import Derived.Test.YtljpjjokfkbdcaaTurnMore
import Derived.Deep.RegionLaw
namespace Go.Proofs.Ytljpjjokfkbdcaa
open Go.RowKit

/-- The turn of s from the place i. -/
def ttS (s : ByteArray) (i : Nat) : ByteArray := s.extract i s.size ++ s.extract 0 i
theorem ttS_size {s : ByteArray} {i : Nat} (h : i ≤ s.size) : (ttS s i).size = s.size := by unfold ttS; rw [size_app, size_ext, size_ext]; omega
theorem rt_cyc {x : List UInt8} {k : Nat} (hk : k ≤ x.length) : Tm.rt x k = Tm.cy x k x.length := by
  rcases Nat.eq_zero_or_pos x.length with h0 | h0
  · rw [h0]
    exact List.eq_nil_of_length_eq_zero (by rw [Tm.rt_len hk, h0])
  · have h1 := Tm.cy_zero_is (x := Tm.rt x k)
    rw [Tm.rt_len hk, Tm.rt_cy hk h0, Nat.add_zero] at h1
    rw [← h1]
    unfold Tm.cy
    exact List.map_congr_left fun d _ => Tm.W_mod _ _ _
theorem ttS_lst {s : ByteArray} {i : Nat} (h : i ≤ s.size) : lst (ttS s i) = Tm.cy (lst s) i s.size := by
  have h1 : lst (ttS s i) = Tm.rt (lst s) i := by
    unfold ttS Tm.rt
    rw [lst_app, lst_drop, lst_mid, List.drop_zero, Nat.sub_zero]
  rw [h1, rt_cyc (by rw [lst_len]; exact h), lst_len]
theorem turns1 (a b : ByteArray) (x y : Int) (w : World) : Calls Try.prog 26 #[.agg #[.string a, .int .i64 x], .agg #[.string b, .int .i64 y]] w fun e w' => e = .returned (.int .i64 (Lib.compareBytes (lst a) (lst b))) ∧ Below w.heap.size w w' := by
  have hC := fun W => Try.strings_Compare a b W
  rw [show a.data.toList = lst a from rfl, show b.data.toList = lst b from rfl] at hC
  go_enter Try.func26, Try.ntmps26
  go_wp2_with fail
  with_reducible refine (hC _).mono ?_
  rintro e w1 ⟨rfl, rfl⟩
  go_wp2
  go_ret
  exact ⟨rfl, bl_then (bl_new w _) (bl_new _ _)⟩
/-- The cells of the first k turns. -/
def tcells (s : ByteArray) (k : Nat) : List Value := (List.range k).flatMap fun i => [.string (ttS s i), .int .i64 (i : Int)]
theorem tcells_succ (s : ByteArray) (k : Nat) : tcells s (k + 1) = tcells s k ++ [.string (ttS s k), .int .i64 (k : Int)] := by
  unfold tcells
  rw [List.range_succ, List.flatMap_append]
  simp
theorem tcells_len (s : ByteArray) : ∀ k, (tcells s k).length = k * 2
  | 0 => rfl
  | k + 1 => by rw [tcells_succ, List.length_append, tcells_len s k]; simp; omega
theorem tcells_at (s : ByteArray) : ∀ (n k : Nat), k < n → (tcells s n)[k * 2]? = some (.string (ttS s k)) ∧ (tcells s n)[k * 2 + 1]? = some (.int .i64 (k : Int))
  | 0, k, h => by omega
  | n + 1, k, h => by
    rw [tcells_succ, List.getElem?_append, List.getElem?_append, tcells_len]
    by_cases hk : k < n
    · rw [if_pos (by omega), if_pos (by omega)]
      exact tcells_at s n k hk
    · obtain rfl : k = n := by omega
      rw [if_neg (by omega), if_neg (by omega), Nat.sub_self, Nat.add_sub_cancel_left]
      exact ⟨rfl, rfl⟩
def OwnQ (w : World) (base : Nat) (v : Value) (s : ByteArray) (k : Nat) : Prop := w.ownsRow base 53 2 v k (tcells s k)
theorem OwnQ.zero (w : World) (base : Nat) (s : ByteArray) : OwnQ w base (.slice none 0 0) s 0 := World.ownsRow_nil w base _ 2
theorem Try.infoTurn : (Try.prog.info? 53).map (fun i => (i.zero, i.size, i.bytes)) = some (some (.agg #[.string ⟨#[]⟩, .int .i64 0]), 2, 24) := by kernel_rfl
/-- 'l = append(l, turn{..})' inside a statement whose order is drawn. -/
theorem step_app_turn {ops : Array Oper} {o : Oper} {a : Act} {K : Act → World → Prop} {Q : Exit → Act → World → Prop} {E : Prop} {wr : World} {s : ByteArray} {k : Nat} {v : Value} {base : Nat} (hgd : o.guard = none) (x z : Operand)
    (ho : o.op = .call { callee := .builtin .append, args := #[x, z], argTypes := #[51, 51] })
    (hs : a.eval x = v) (hown : OwnQ wr base v s k) (M : Nat) (hM : wr.heap.size = M) (hx : a.eval z = .slice (some ⟨M, 0, none⟩) 1 1)
    (hbase : base ≤ M) (hlen : k < 1000000)
    (h : ∀ v' w', OwnQ w' base v' s (k + 1) → Below base wr w' → K (a.put o.dst v') w') :
    if Region.wanted o (yielded ops a.tmps) = true then Oper.wp Try.prog o a (wr.alloc (.cells #[.string (ttS s k), .int .i64 (k : Int)] 53)) K Q else E := by
  have hw : Region.wanted o (yielded ops a.tmps) = true := by simp [Region.wanted, hgd]
  rw [if_pos hw]
  subst hM
  obtain ⟨i0, hi, hz0, hz1, hz2⟩ := info_parts Try.infoTurn
  refine wp_append_own _ x z 51 ho base 53 i0 (.agg #[.string ⟨#[]⟩, .int .i64 0]) 2 24 Try.underlying51 hi hz0 hz1 hz2 rfl (by decide) v _ _ hs (World.ownsRow.alloc hown _) ⟨wr.heap.size, 0, none⟩ 1 1 [.string (ttS s k), .int .i64 (k : Int)] hx rfl ?_ ?_ ?_ ?_ ?_ ?_
  · intro j u hj
    match j, hj with
    | 0, hj => simp at hj; subst hj; simp [Addr.add]
    | 1, hj => simp at hj; subst hj; simp [Addr.add]
  · intro u hu
    simp at hu
    rcases hu with rfl | rfl <;> rfl
  · unfold maxLen; omega
  · omega
  · simp; omega
  · intro v' w' h1 h2 _
    refine h v' w' ?_ ?_
    · unfold OwnQ
      rw [tcells_succ]
      exact h1
    · have hb : Below base wr (wr.alloc (.cells #[.string (ttS s k), .int .i64 (k : Int)] 53)) := (Below.refl _ _).alloc hbase _
      exact hb.grown h2 (by simp; omega) fun k hk => ((World.ownsRow.lt hown k hk).1)
/-- The row as the sort wants it. -/
theorem OwnQ.sq {w : World} {base n : Nat} {v : Value} {s : ByteArray} (h : OwnQ w base v s n) (hn : 0 < n) : ∃ g cap, v = .slice (some ⟨g, 0, none⟩) n cap ∧ base ≤ g ∧ SQ (ttS s) w g n id w := by
  have hlt := World.ownsRow.lt h
  rcases h.2 with ⟨rfl, h0⟩ | ⟨g, cap, cur, rfl, h1, h2, h3, h4, h5, h6⟩
  · omega
  · have hcell : ∀ j, j < n * 2 → w.cell? ⟨g, j, none⟩ = (tcells s n)[j]? := by
      intro j hj
      rw [← h6, List.getElem?_take, if_pos hj, cell_of_row _ _ _ _ _ _ h2]
      simp
    refine ⟨g, cap, rfl, h1, fun k hk => ?_, fun j => ?_, ⟨rfl, rfl, rfl, Nat.le_refl _, fun _ _ _ => rfl⟩, fun k hk => hk, (hlt g rfl).2⟩
    · rw [hcell _ (by omega), hcell _ (by omega)]
      exact tcells_at s n k hk
    · unfold World.frozen?
      rw [h2]
      simp
theorem cmpq_any (s : ByteArray) (w0 : World) (b : Nat) : CmpQ (ttS s) w0 b s.size (cfT s) := by
  intro w hg x y hx hy
  refine (turns1 (ttS s x) (ttS s y) _ _ w).mono ?_
  rintro e w' ⟨rfl, hb⟩
  refine ⟨?_, hb⟩
  unfold cfT
  rw [ttS_lst (by omega), ttS_lst (by omega)]
theorem insQ_nil (fv : Value) (w : World) : Calls Try.prog 53 #[.slice none 0 0, .int .i64 0, .int .i64 0, fv] w fun e w' => e = .returned (.tuple #[]) ∧ w = w' := by
  go_enter Try.func53, Try.ntmps53
  go_wp2
  go_loopw [8] (fun x wr => x = .int .i64 1 ∧ wr = w) (fun _ _ => 0)
  case atStart => exact ⟨rfl, rfl⟩
  case round =>
    obtain ⟨rfl, rfl⟩ := hrel
    go_wp2
    go_end0
    exact ⟨rfl, rfl⟩
theorem stabQ_nil (fv : Value) (w : World) : Calls Try.prog 37 #[.slice none 0 0, .int .i64 0, fv] w fun e w' => e = .returned (.tuple #[]) ∧ w = w' := by
  go_enter Try.func37, Try.ntmps37
  go_wp2
  go_loopw [7, 8] (fun x y wr => x = .int .i64 0 ∧ y = .int .i64 20 ∧ wr = w) (fun _ _ _ => 0)
  case atStart => exact ⟨rfl, rfl, rfl⟩
  case round =>
    obtain ⟨rfl, rfl, rfl⟩ := hrel
    go_wp2_with fail
    with_reducible refine (insQ_nil fv _).mono ?_
    rintro e w1 ⟨rfl, rfl⟩
    go_wp2
    go_loopw [6] (fun x wq => x = .int .i64 20 ∧ wq = wr) (fun _ _ => 0)
    case atStart => exact ⟨rfl, rfl⟩
    case round =>
      obtain ⟨rfl, rfl⟩ := hrel
      go_wp2
      go_end0
      exact ⟨rfl, rfl⟩
theorem sortQ_nil (fv : Value) (w : World) : Calls Try.prog 25 #[.slice none 0 0, fv] w fun e w' => e = .returned (.tuple #[]) ∧ w = w' := by
  go_enter Try.func25, Try.ntmps25
  go_wp2_with fail
  with_reducible refine (stabQ_nil fv _).mono ?_
  rintro e w1 ⟨rfl, rfl⟩
  go_wp2
  go_end0
  exact ⟨rfl, rfl⟩
/-- The last byte of a turn, as a string. -/
theorem tail_byte {s : ByteArray} {i : Nat} (hi : i < s.size) (k : Nat) (f : Nat → UInt8) (hf : f k = Tm.W (lst s) i (s.size - 1)) :
    strN k f ++ (ttS s i).extract (s.size - 1) (ttS s i).size = strN (k + 1) f := by
  refine lst_inj ?_
  rw [lst_app, strN_lst, strN_lst, List.range_succ, List.map_append, lst_drop, ttS_lst (by omega)]
  congr 1
  have e : Tm.cy (lst s) i s.size = Tm.cy (lst s) i (s.size - 1) ++ [Tm.W (lst s) i (s.size - 1)] := by
    rw [← Tm.cy_end, show s.size - 1 + 1 = s.size by omega]
  rw [e, List.drop_left' (Tm.cy_len _ _ _), ← hf]
  rfl
set_option maxHeartbeats 1000000 in
theorem TurnsOf_some (s : ByteArray) (w : World) (hs : s.size ≤ 200) (h0 : 0 < s.size) : Calls Try.prog 12 #[.string s] w (PutRet s w) := by
  go_enter Try.func12, Try.ntmps12
  go_wp2
  go_loopw [12, 4] (fun x v wr => ∃ k : Nat, k ≤ s.size ∧ x = .int .i64 k ∧ Hid (OwnQ wr w.heap.size v s k) ∧ Below w.heap.size w wr) (fun x _ _ => s.size - (intOf x).toNat)
  case atStart => exact ⟨0, by omega, rfl, hid (OwnQ.zero _ _ _), Below.refl _ _⟩
  case round =>
    obtain ⟨k, hk, rfl, HO, hbel⟩ := hrel
    by_cases hlt : k < s.size
    · have hlt' : (k : Int) < (s.size : Int) := by omega
      have hsz := hbel.size
      have hk1 : (k : Int) ≤ (s.size : Int) := by omega
      have hadd := fun W : World => run_string_add_sum (P := Try.prog) W (s.extract k s.size) (s.extract 0 k) (by rw [size_ext, size_ext]; omega)
      rw [show s.extract k s.size ++ s.extract 0 k = ttS s k from rfl] at hadd
      have hbig : ¬ 9223372036854775807 < s.size := by omega
      have HO1 := hid (show OwnQ wr.drew w.heap.size _ s k from HO.out)
      go_wp2
      go_region_law (refine step_app_turn (wr := wr.drew) rfl _ _ rfl (by simp [Act.eval]) HO1.out wr.heap.size rfl (by simp [Act.eval]) hsz (by omega) ?_; intro v' w2 hown2 hb2; have HO2 := hid hown2; have hbel2 := (bl_drewN hbel 1).trans hb2; clear hown2 hb2)
      go_wp2
      go_roundw
      case measure => simp [intOf]; omega
      case rel => exact ⟨k + 1, by omega, by go_num, HO2, hbel2⟩
    · obtain rfl : k = s.size := by omega
      have hdl : decide ((s.size : Int) < (s.size : Int)) = false := decide_eq_false (by omega)
      obtain ⟨g, cap, rfl, hbg, hsq⟩ := HO.out.sq h0
      have HS := hid hsq
      have HB := hid hbel
      have hwsz := hbel.size
      clear HO hsq hbel
      go_wp2_with fail
      with_reducible refine (sortQ_any (ttS s) wr g s.size cap (cfT s) (Tm.R (lst s)) _ (cmpq_any s wr g) (ord_cfT s) HS.out (by omega)).mono ?_
      rintro e w1 ⟨rfl, σ, h1, h2, h3⟩
      have HW := hid (bw_of s h1 h2)
      have HQ := hid h3
      have HB2 := hid (HB.out.grown h3.gr hwsz (fun k hk => by injection hk with hk; omega))
      clear h1 h2 h3 HS HB
      go_wp2
      go_loopw [32, 6, 7] (fun x y v wq => ∃ (k a : Nat) (O : ByteArray), k ≤ s.size ∧ x = .int .i64 k ∧ y = .string O ∧ v = .int .i64 (a : Int) ∧ Hid (O = strN k fun j => Tm.W (lst s) (σ j) (s.size - 1)) ∧ Hid (SQ (ttS s) wr g s.size σ wq) ∧ Hid (Below w.heap.size w wq) ∧ Hid (∀ j, j < k → σ j = 0 → a = j) ∧ Hid (a = 0 ∨ (a < s.size ∧ σ a = 0))) (fun x _ _ _ => s.size - (intOf x).toNat)
      case atStart => exact ⟨0, 0, _, by omega, rfl, rfl, rfl, hid rfl, HQ, HB2, hid (fun j hj => by omega), hid (.inl rfl)⟩
      case round =>
        clear HQ HB2
        obtain ⟨k, a, O, hk, rfl, rfl, rfl, HO, HQ, HB, HA1, HA2⟩ := hrel
        by_cases hlt2 : k < s.size
        · have hlt2' : (k : Int) < (s.size : Int) := by omega
          have hσk : σ k < s.size := by have := HW.out.bij.lt k (by rw [lst_len]; exact hlt2); rw [lst_len] at this; exact this
          obtain ⟨n1, hn1⟩ : ∃ n1, n1 = s.size - 1 := ⟨_, rfl⟩
          obtain ⟨TT, hTT⟩ : ∃ TT, TT = ttS s (σ k) := ⟨_, rfl⟩
          have htz : TT.size = s.size := by rw [hTT]; exact ttS_size (by omega)
          have hon : O.size = k := by rw [HO.out]; exact strN_size _ _
          obtain ⟨O2, hO2⟩ : ∃ O2, O2 = strN (k + 1) fun j => Tm.W (lst s) (σ j) (s.size - 1) := ⟨_, rfl⟩
          have hadd := fun W : World => run_string_add_sum (P := Try.prog) W O (TT.extract n1 TT.size) (by rw [size_ext, hon, htz]; omega)
          have htb : O ++ TT.extract n1 TT.size = O2 := by rw [HO.out, hTT, hn1, hO2]; exact tail_byte hσk k (fun j => Tm.W (lst s) (σ j) (s.size - 1)) rfl
          rw [htb] at hadd
          obtain ⟨c1, c2⟩ := HQ.out.row k hlt2
          rw [← hTT] at c1
          have en1 : (s.size : Int) - 1 = (n1 : Int) := by omega
          have hn1t : (n1 : Int) ≤ (TT.size : Int) := by omega
          have hn1t2 : n1 ≤ TT.size := by omega
          have hwn : IntKind.i64.wrap (n1 : Int) = (n1 : Int) := IntWalk.i64_in _ (by omega)
          have hcp : k ≤ cap ∨ True := .inr trivial
          obtain ⟨q, hq⟩ : ∃ q, q = σ k := ⟨_, rfl⟩
          rw [← hq] at c2
          have HQN := hid (fun o => HQ.out.keep (bl_new wr o))
          have HBN := hid (fun o => bl_then HB.out (bl_new wr o))
          have HQQ := hid hq
          have HO2 := hid hO2
          clear HO hTT hO2 htb hn1 hon hcp hq htz hσk
          by_cases hq0 : q = 0
          · subst hq0
            go_wp2
            refine ⟨⟨k + 1, k, O2, by omega, by go_num, rfl, rfl, HO2, hid (HQN.out _), hid (HBN.out _), hid (fun j hj h => ?_), hid (.inr ⟨hlt2, HQQ.out.symm⟩)⟩, by simp [intOf]; omega⟩
            exact HW.out.bij.inj k j (by rw [lst_len]; exact hlt2) (by rw [lst_len]; omega) (by rw [h, ← HQQ.out])
          · have hq0' : ((q : Int) == 0) = false := beq_eq_false_iff_ne.2 (by omega)
            have HQ0 := hid hq0
            clear hq0
            go_wp2
            refine ⟨⟨k + 1, a, O2, by omega, by go_num, rfl, rfl, HO2, hid (HQN.out _), hid (HBN.out _), hid (fun j hj h => ?_), HA2⟩, by simp [intOf]; omega⟩
            by_cases hjk : j = k
            · rw [hjk, ← HQQ.out] at h
              exact absurd h HQ0.out
            · exact HA1.out j (by omega) h
        · obtain rfl : k = s.size := by omega
          have hdl2 : decide ((s.size : Int) < (s.size : Int)) = false := decide_eq_false (by omega)
          have HI := hid (isput_of s HW.out HA1.out HA2.out)
          rw [← HO.out] at HI
          clear HO HQ
          go_wp2
          go_ret2
          exact ⟨O, a, rfl, HI.out, HB.out⟩
theorem isput_nil : Tm.IsPut [] [] 0 := ⟨rfl, ⟨id, ⟨⟨fun k hk => hk, fun i j _ _ h => h⟩, fun i j _ hj => absurd hj (by simp)⟩, fun k hk => absurd hk (by simp), fun h => absurd h (by simp)⟩, fun _ => rfl⟩
theorem TurnsOf_none (s : ByteArray) (w : World) (h0 : s.size = 0) : Calls Try.prog 12 #[.string s] w (PutRet s w) := by
  obtain rfl : s = ByteArray.empty := empty_of h0
  go_enter Try.func12, Try.ntmps12
  go_wp2
  go_loopw [12, 4] (fun x v wr => x = .int .i64 0 ∧ v = .slice none 0 0 ∧ wr = w) (fun _ _ _ => 0)
  case atStart => exact ⟨rfl, rfl, rfl⟩
  case round =>
    obtain ⟨rfl, rfl, rfl⟩ := hrel
    go_wp2_with fail
    with_reducible refine (sortQ_nil _ _).mono ?_
    rintro e w1 ⟨rfl, rfl⟩
    go_wp2
    go_loopw [32, 6, 7] (fun x y v wq => x = .int .i64 0 ∧ y = .string ⟨#[]⟩ ∧ v = .int .i64 0 ∧ wq = wr) (fun _ _ _ _ => 0)
    case atStart => exact ⟨rfl, rfl, rfl, rfl⟩
    case round =>
      obtain ⟨rfl, rfl, rfl, rfl⟩ := hrel
      go_wp2
      go_ret2
      exact ⟨_, 0, rfl, isput_nil, Below.refl _ _⟩
theorem TurnsOf_ok (s : ByteArray) (w : World) (hs : s.size ≤ 200) : Calls Try.prog 12 #[.string s] w (PutRet s w) := by
  rcases Nat.eq_zero_or_pos s.size with h0 | h0
  · exact TurnsOf_none s w h0
  · exact TurnsOf_some s w hs h0
end Go.Proofs.Ytljpjjokfkbdcaa
