
/-
The contract of quilltop.ops: a script byte by byte, the last edit first.
-/
import Derived.Test.YtgkagigagcamoaaSeg40
import Derived.Test.YtgkagigagcamoaaEvRow
import Derived.Test.YtgkagigagcamoaaOpWr
import Derived.Test.YtgkagigagcamoaaBack
namespace Go.Proofs.Ytgkagigagcamoaa
open Go.RowKit

theorem puts_len : ∀ (l : List UInt8) (a : Int), (Tm.puts a l).length = l.length
  | [], _ => rfl
  | c :: l, a => by simp only [Tm.puts, List.length_cons]; rw [puts_len l]
theorem puts_take : ∀ (l : List UInt8) (a : Int) (k : Nat), k < l.length → (Tm.puts a l).take (k + 1) = (Tm.puts a l).take k ++ [⟨1, a + (k : Int), l.getD k 0⟩]
  | [], _, _, h => absurd h (Nat.not_lt_zero _)
  | c :: l, a, 0, _ => by simp [Tm.puts]
  | c :: l, a, k + 1, h => by
    simp only [Tm.puts, List.take_succ_cons]
    rw [puts_take l (a + 1) k (by simpa using h)]
    simp only [List.cons_append, List.getD_cons_succ]
    rw [show a + 1 + (k : Int) = a + ((k + 1 : Nat) : Int) by omega]
theorem eops_len (x : Es.Ev) : (Tm.eops x).length = x.d.toNat + x.s.size := by
  unfold Tm.eops
  rw [List.length_append, List.length_replicate, puts_len, lst_len]
theorem oops_len {M : Nat} : ∀ L : List Es.Ev, (∀ x, x ∈ L → x.d.toNat + x.s.size ≤ M) → (Tm.oops L).length ≤ L.length * M
  | [], _ => by simp [Tm.oops]
  | x :: L, h => by
    simp only [Tm.oops, List.length_append, List.length_cons]
    rw [eops_len]
    have h1 := oops_len L fun y hy => h y (by simp [hy])
    have h2 := h x (by simp)
    rw [Nat.succ_mul]
    omega
theorem app_opv {ops : Array Oper} {rest : List Oper} {o : Oper} {a : Act} {Q : Exit → Act → World → Prop} {wr : World} {L : List Sh.Op} {x : Sh.Op} {v : Value} {base : Nat} (k0 a0 b0 : Int) (e1 : x.k = k0) (e2 : x.a = a0) (e3 : (x.b.toNat : Int) = b0) (hgd : o.guard = none) (s z : Operand)
    (ho : o.op = .call { callee := .builtin .append, args := #[s, z], argTypes := #[33, 33] })
    (hs : a.eval s = v) (hown : OwnO wr base v L) (N : Nat) (hN : wr.heap.size = N) (hx : a.eval z = .slice (some ⟨N, 0, none⟩) 1 1)
    (hbase : base ≤ N) (n : Nat) (hn : L.length = n) (hlen : n < 1000000)
    (h : ∀ g cap w', OwnO w' base (.slice (some ⟨g, 0, none⟩) (n + 1) cap) (L ++ [x]) → wr.grownBy w' v.ownBlock → wpList Try.prog ops Q rest (a.put o.dst (.slice (some ⟨g, 0, none⟩) (n + 1) cap)) w') :
    wpList Try.prog ops Q (o :: rest) a (wr.alloc (.cells #[.int .i64 k0, .int .i64 a0, .int .u8 b0] 23)) := by
  subst e1 e2 e3
  exact app_op hgd s z ho hs hown N hN hx hbase n hn hlen h
/-- A row of ops lies in no block of another type. -/
theorem OwnO.not_ {w : World} {base : Nat} {v : Value} {L : List Sh.Op} (h : OwnO w base v L) {N : Nat} {cs : Array Value} {t : TypeId} {fr : Nat × Nat} (hN : w.heap[N]? = some (.cells cs t fr)) (ht : t ≠ 23) : ∀ k, v.ownBlock = some k → k ≠ N := by
  intro k hk e
  rcases h.2 with ⟨rfl, _⟩ | ⟨g, cap, cur, rfl, _, h2, _⟩
  · cases hk
  · have hk' : g = k := Option.some.inj hk
    rw [hk', e, hN] at h2
    injection h2 with h2
    injection h2 with _ h2
    exact ht h2
/-- A script that a check lets by is small. -/
def SmE (n : Nat) (g : Nat → Es.Ev) : Prop := n ≤ 20 ∧ ∀ k, k < n → 0 ≤ (g k).a ∧ (g k).a ≤ 200 ∧ 0 ≤ (g k).d ∧ (g k).d ≤ 200 ∧ (g k).s.size ≤ 40
set_option maxHeartbeats 4000000 in
theorem ops_any {A : Option Addr} {n c : Nat} {g : Nat → Es.Ev} (w : World) (hr : EvRow w A n g) (hs : SmE n g) :
    Calls Try.prog 36 #[.slice A n c] w fun e w' => ∃ v, e = .returned v ∧ OwnO w' w.heap.size v (Tm.oops (el g n)) ∧ Below w.heap.size w w' := by
  have HR := hid hr
  have HS := hid hs
  have hn := hs.1
  have HLEN : Hid (∀ p, p ≤ n → (Tm.oops ((el g n).drop p)).length ≤ 4800) := fun p hp => by
    have h1 := oops_len (M := 240) ((el g n).drop p) fun x hx => by
      obtain ⟨k, hk, rfl⟩ := List.getElem_of_mem (List.mem_of_mem_drop hx)
      rw [el_len] at hk
      have := HS.out.2 k hk
      have e : (el g n)[k]'(by rw [el_len]; exact hk) = g k := by simp [el]
      rw [e]
      omega
    have h2 : ((el g n).drop p).length ≤ 20 := by rw [List.length_drop, el_len]; omega
    omega
  clear hr hs
  have hw1 : IntKind.i64.wrap ((n : Int) - 1) = (n : Int) - 1 := IntWalk.i64_in _ (by omega)
  go_enter Try.func36, Try.ntmps36
  go_wp2
  go_loopw [3, 4] (fun v x wr => ∃ p : Nat, p ≤ n ∧ x = .int .i64 ((p : Int) - 1) ∧ Hid (OwnO wr w.heap.size v (Tm.oops ((el g n).drop p))) ∧ Hid (Below w.heap.size w wr)) (fun _ x _ => (intOf x + 1).toNat)
  case atStart => exact ⟨n, Nat.le_refl _, rfl, by show OwnO _ _ _ _; rw [el_end]; exact OwnO.zero _ _, Below.refl _ _⟩
  case round =>
    obtain ⟨p, hp, rfl, HV, HB⟩ := hrel
    by_cases hp0 : p = 0
    · subst hp0
      have hz : decide ((0 : Int) ≤ ((0 : Nat) : Int) - 1) = false := decide_eq_false (by omega)
      go_wp2
      go_ret
      exact ⟨_, rfl, by have h := HV.out; rw [List.drop_zero] at h; exact h, HB.out⟩
    · obtain ⟨q, rfl⟩ : ∃ q, p = q + 1 := ⟨p - 1, by omega⟩
      rw [show ((q + 1 : Nat) : Int) - 1 = (q : Int) by omega]
      obtain ⟨b, o, rfl, hlt, c0, c1, c2⟩ := HR.out q (by omega)
      obtain ⟨x, hx⟩ : ∃ x, x = g q := ⟨_, rfl⟩
      have hsm := HS.out.2 q (by omega)
      rw [← hx] at c0 c1 c2 hsm
      obtain ⟨d, hd⟩ : ∃ d : Nat, x.d = (d : Int) := ⟨x.d.toNat, by omega⟩
      have hqn : (q : Int) < (n : Int) := by omega
      have hq0 : decide ((0 : Int) ≤ (q : Int)) = true := decide_eq_true (by omega)
      have hq0' : (0 : Int) ≤ (q : Int) := by omega
      have HC : Hid (∀ W, Below w.heap.size w W → W.cell? ⟨b, o + q * 3, none⟩ = some (.int .i64 x.a) ∧ W.cell? ⟨b, o + q * 3 + 1, none⟩ = some (.int .i64 (d : Int)) ∧ W.cell? ⟨b, o + q * 3 + 2, none⟩ = some (.string x.s)) := fun W hW => by
        rw [hd] at c1
        exact ⟨(hW.cell (p := ⟨b, o + q * 3, none⟩) hlt).trans c0, (hW.cell (p := ⟨b, o + q * 3 + 1, none⟩) hlt).trans c1, (hW.cell (p := ⟨b, o + q * 3 + 2, none⟩) hlt).trans c2⟩
      obtain ⟨D, hD⟩ : ∃ D, D = Tm.oops ((el g n).drop (q + 1)) := ⟨_, rfl⟩
      have hDl := HLEN.out (q + 1) (by omega)
      have HE : Hid (Tm.oops ((el g n).drop q) = D ++ (List.replicate d (Tm.take_ x.a) ++ Tm.puts x.a (lst x.s))) := by
        show _ = _
        rw [el_drop (by omega), ← hx, hD]
        simp only [Tm.oops, Tm.eops]
        rw [hd, Int.toNat_natCast]
      rw [← hD] at HV hDl
      have hwq : IntKind.i64.wrap ((q : Int) - 1) = (q : Int) - 1 := IntWalk.i64_in _ (by omega)
      have hd200 : d ≤ 200 := by omega
      have hs40 : x.s.size ≤ 40 := hsm.2.2.2.2
      have ha200 : 0 ≤ x.a ∧ x.a ≤ 200 := ⟨hsm.1, hsm.2.1⟩
      have HA := hid ha200
      clear hx hsm hd hw1 hD c0 c1 c2 ha200 hp
      obtain ⟨c0, c1, c2⟩ := HC.out _ HB.out
      go_wp2
      clear c0 c1 c2
      go_loopw [3, 19] (fun v' y w7 => ∃ j : Nat, j ≤ d ∧ y = .int .i64 (j : Int) ∧ Hid (OwnO w7 w.heap.size v' (D ++ List.replicate j (Tm.take_ x.a))) ∧ Hid (Below w.heap.size w w7)) (fun _ y _ => d - (intOf y).toNat)
      case atStart => exact ⟨0, Nat.zero_le _, rfl, by show OwnO _ _ _ _; rw [List.replicate_zero, List.append_nil]; exact HV.out, HB.out⟩
      case round =>
        obtain ⟨j, hj, rfl, HV2, HB2⟩ := hrel
        by_cases hjd : j < d
        · have hjd' : (j : Int) < (d : Int) := by omega
          obtain ⟨c0, c1, c2⟩ := HC.out _ HB2.out
          have hln : (D ++ List.replicate j (Tm.take_ x.a)).length = D.length + j := by rw [List.length_append, List.length_replicate]
          have HLN := hid hln
          have hsz : w.heap.size ≤ wr.heap.size := HB2.out.size
          clear hln
          go_wp2_with (at_builtin; with_reducible refine app_opv (x := Tm.take_ x.a) 2 x.a 0 rfl rfl rfl rfl _ _ rfl rfl HV2.out wr.heap.size rfl rfl hsz (D.length + j) HLN.out (by omega) ?_)
          intro g' cap w8 hown hgr
          have HV3 : Hid (OwnO w8 w.heap.size (.slice (some ⟨g', 0, none⟩) (D.length + j + 1) cap) (D ++ List.replicate (j + 1) (Tm.take_ x.a))) := by
            show OwnO _ _ _ _
            rw [List.replicate_succ']
            exact hown
          have HB3 : Hid (Below w.heap.size w w8) := HB2.out.grown hgr HB2.out.size fun k hk => (HV2.out.lt_ k hk).1
          clear hown hgr HV2 HB2 c0 c1 c2
          go_wp2
          go_roundw
          case measure => simp [intOf]; omega
          case rel => exact ⟨j + 1, by omega, by go_num, HV3, HB3⟩
        · obtain rfl : j = d := by omega
          have hkd : decide ((j : Int) < (j : Int)) = false := decide_eq_false (by omega)
          obtain ⟨c0, c1, c2⟩ := HC.out _ HB2.out
          have hcv := run_bytes_of_string (P := Try.prog) wr 9 30 5 x.s Try.underlying9 Try.underlying30 Try.underlying5
          go_wp2
          obtain ⟨cap0, hcap0⟩ : ∃ cap0, cap0 = grownCap wr x.s.size 0 5 := ⟨_, rfl⟩
          rw [← hcap0] at hcv ⊢
          obtain ⟨w9, hw9⟩ : ∃ w9, w9 = (wr.alloc (.cells (bytesRow x.s cap0) 5 ((bytesRow x.s cap0).size, (bytesRow x.s cap0).size + 1))).drew := ⟨_, rfl⟩
          have HBR : Hid (BRow w9 wr.heap.size x.s.size (byt x.s)) := by
            show BRow _ _ _ _
            rw [hw9]; exact (new_bytes wr x.s cap0 5).drew
          have HN9 : Hid (w9.heap[wr.heap.size]? = some (.cells (bytesRow x.s cap0) 5 ((bytesRow x.s cap0).size, (bytesRow x.s cap0).size + 1))) := by
            show _ = _
            rw [hw9]; exact heap_alloc_new wr _
          have HV9 : Hid (OwnO w9 w.heap.size u3 (D ++ List.replicate j (Tm.take_ x.a))) := by
            show OwnO _ _ _ _
            rw [hw9]; exact (HV2.out.alloc _).drewN 1
          have HB9 : Hid (Below w.heap.size w w9) := by
            show Below _ _ _
            rw [hw9]; exact (bl_then HB2.out (bl_new wr _)).drew
          rw [← hw9]
          have HLT : Hid (wr.heap.size < w9.heap.size) := by show _ < _; rw [hw9]; show _ < (wr.alloc _).heap.size; simp
          obtain ⟨N1, hN1⟩ : ∃ N1, N1 = wr.heap.size := ⟨_, rfl⟩
          rw [← hN1] at HBR HN9 HLT ⊢
          clear hcv hw9 hcap0 HV2 HB2 c0 c1 c2 hN1
          go_loopw [3, 38] (fun v' y w7 => ∃ k : Nat, k ≤ x.s.size ∧ y = .int .i64 (k : Int) ∧ Hid (OwnO w7 w.heap.size v' (D ++ (List.replicate j (Tm.take_ x.a) ++ (Tm.puts x.a (lst x.s)).take k))) ∧ Hid (Below w.heap.size w w7) ∧ Hid (w7.heap[N1]? = w9.heap[N1]?) ∧ Hid (N1 < w7.heap.size)) (fun _ y _ => x.s.size - (intOf y).toNat)
          case atStart => exact ⟨0, Nat.zero_le _, rfl, by show OwnO _ _ _ _; rw [List.take_zero, List.append_nil]; exact HV9.out, HB9.out, rfl, HLT.out⟩
          case round =>
            obtain ⟨k, hk, rfl, HV4, HB4, HN4, HL4⟩ := hrel
            by_cases hks : k < x.s.size
            · have hks' : (k : Int) < (x.s.size : Int) := by omega
              obtain ⟨c0, c1, c2⟩ := HC.out _ HB4.out
              have hcb : wr.cell? ⟨N1, k, none⟩ = some (.int .u8 ((byt x.s k).toNat : Int)) := (World.cell?_of_block (a := ⟨N1, k, none⟩) HN4.out).trans (HBR.out k hks).1
              have hln : (D ++ (List.replicate j (Tm.take_ x.a) ++ (Tm.puts x.a (lst x.s)).take k)).length = D.length + (j + k) := by
                rw [List.length_append, List.length_append, List.length_replicate, List.length_take, puts_len, lst_len]
                omega
              have HLN := hid hln
              have hsz : w.heap.size ≤ wr.heap.size := HB4.out.size
              have hwa : IntKind.i64.wrap (x.a + (k : Int)) = x.a + (k : Int) := IntWalk.i64_in _ (by have := HA.out; omega)
              clear hln
              go_wp2_with (at_builtin; with_reducible refine app_opv (x := ⟨1, x.a + (k : Int), byt x.s k⟩) 1 (x.a + (k : Int)) ((byt x.s k).toNat : Int) rfl rfl rfl rfl _ _ rfl rfl HV4.out wr.heap.size rfl rfl hsz (D.length + (j + k)) HLN.out (by omega) ?_)
              intro g' cap w8 hown hgr
              have HV5 : Hid (OwnO w8 w.heap.size (.slice (some ⟨g', 0, none⟩) (D.length + (j + k) + 1) cap) (D ++ (List.replicate j (Tm.take_ x.a) ++ (Tm.puts x.a (lst x.s)).take (k + 1)))) := by
                show OwnO _ _ _ _
                rw [puts_take _ _ _ (by rw [lst_len]; exact hks), lst_get]
                exact hown
              have HB5 : Hid (Below w.heap.size w w8) := HB4.out.grown hgr HB4.out.size fun k hk => (HV4.out.lt_ k hk).1
              have HN5 : Hid (w8.heap[N1]? = w9.heap[N1]?) := (hgr.block N1 HL4.out (fun e => HV4.out.not_ (HN4.out.trans HN9.out) (by decide) N1 e.symm rfl)).trans HN4.out
              have HL5 : Hid (N1 < w8.heap.size) := Nat.lt_of_lt_of_le HL4.out hgr.size
              clear hown hgr HV4 HB4 HN4 HL4 c0 c1 c2 hcb
              go_wp2
              go_roundw
              case measure => simp [intOf]; omega
              case rel => exact ⟨k + 1, by omega, by go_num, HV5, HB5, HN5, HL5⟩
            · obtain rfl : k = x.s.size := by omega
              have hkd2 : decide ((x.s.size : Int) < (x.s.size : Int)) = false := decide_eq_false (by omega)
              have HV5 : Hid (OwnO wr w.heap.size u3 (Tm.oops ((el g n).drop q))) := by
                have h := HV4.out
                rw [List.take_of_length_le (by rw [puts_len, lst_len]; exact Nat.le_refl _)] at h
                show OwnO _ _ _ _
                rw [HE.out]
                exact h
              clear HV4
              go_wp2
              go_roundw
              case measure => simp [intOf]
              case rel => exact ⟨q, by omega, rfl, HV5, HB4⟩
end Go.Proofs.Ytgkagigagcamoaa
