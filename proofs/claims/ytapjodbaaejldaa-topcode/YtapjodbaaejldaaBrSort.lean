
/-
The contract of slices.SortStableFunc at []tree.branch, with tree.depths's closure, for at most 19 branches.
-/
import Derived.Test.YtapjodbaaejldaaSeg41
import Derived.RegionTactic
import Derived.BigRegion
import Derived.Deep.RegionHeld3
namespace Go.Proofs.Ytapjodbaaejldaa
open Go.RowKit

/-- What the closure asks of a branch. -/
def BrOk (d : Br) : Prop := (∃ A n c, d.2.1 = .slice A n c) ∧ d.1 ≤ 1000000
set_option maxRecDepth 100000 in
theorem cmpB_any (x y : Nat) (A B : Option Addr) (n c m d : Nat) (w : World) (hx : x ≤ 1000000) (hy : y ≤ 1000000) :
    Calls Try.prog 137 #[.agg #[.int .i64 (x : Int), .slice A n c], .agg #[.int .i64 (y : Int), .slice B m d]] w fun e w' => e = .returned (.int .i64 ((x : Int) - (y : Int))) ∧ Below w.heap.size w w' := by
  have hw : IntKind.i64.wrap ((x : Int) - (y : Int)) = (x : Int) - (y : Int) := IntWalk.i64_in _ (by omega)
  have hb := bl_then (bl_new w (.cells #[.int .i64 (x : Int), .slice A n c] 160)) (bl_new _ (.cells #[.int .i64 (y : Int), .slice B m d] 160))
  have HB := hid hb
  clear hb
  go_enter Try.func137, Try.ntmps137
  go_wp2
  go_ret
  exact ⟨rfl, HB.out⟩
theorem gset {w a : World} {g i : Nat} {v : Value} (h : w.grownBy a (some g)) : w.grownBy (a.setCell ⟨g, i, none⟩ v) (some g) :=
  ⟨h.os, h.tape, h.output, by simpa using h.size, fun x hx hne => (Below.heap_setCell a _ v x (fun e => hne (by rw [e]))).trans (h.block x hx hne)⟩
theorem gbelow {w a b : World} {g : Option Nat} (h : w.grownBy a g) (k : Below a.heap.size a b) : w.grownBy b g :=
  ⟨k.os.trans h.os, k.tape.trans h.tape, k.output.trans h.output, Nat.le_trans h.size k.size, fun x hx hne => (k.block x (Nat.lt_of_lt_of_le hx h.size)).trans (h.block x hx hne)⟩
theorem cellsB {w w' : World} {b o1 o2 o3 o4 : Nat} {v1 v2 v3 v4 : Option Value} (k : Below w.heap.size w w') (hlt : b < w.heap.size) (h1 : w.cell? ⟨b, o1, none⟩ = v1) (h2 : w.cell? ⟨b, o2, none⟩ = v2) (h3 : w.cell? ⟨b, o3, none⟩ = v3) (h4 : w.cell? ⟨b, o4, none⟩ = v4) :
    w'.cell? ⟨b, o1, none⟩ = v1 ∧ w'.cell? ⟨b, o2, none⟩ = v2 ∧ w'.cell? ⟨b, o3, none⟩ = v3 ∧ w'.cell? ⟨b, o4, none⟩ = v4 :=
  ⟨(k.cell (p := ⟨b, o1, none⟩) hlt).trans h1, (k.cell (p := ⟨b, o2, none⟩) hlt).trans h2, (k.cell (p := ⟨b, o3, none⟩) hlt).trans h3, (k.cell (p := ⟨b, o4, none⟩) hlt).trans h4⟩
/-- The branches C at their place; nothing else has changed since w0. -/
def SS (w0 : World) (b off cap : Nat) (C : List Br) (w : World) : Prop := QB w b off cap C ∧ w0.grownBy w (some b)
theorem SS.drewN {w0 w : World} {b off cap : Nat} {C : List Br} (h : SS w0 b off cap C w) (d : Nat) : SS w0 b off cap C (w.drewN d) := ⟨h.1.drewN d, ⟨h.2.os, h.2.tape, h.2.output, h.2.size, h.2.block⟩⟩
theorem SS.keep {w0 w w' : World} {b off cap : Nat} {C : List Br} (h : SS w0 b off cap C w) (k : Below w.heap.size w w') : SS w0 b off cap C w' := ⟨h.1.below k, gbelow h.2 k⟩
theorem SS.swap {w0 w : World} {b off cap : Nat} {P Q : List Br} {x y : Br} {k j : Nat} (h : SS w0 b off cap (P ++ y :: x :: Q) w) (hk : P.length = k) (hj : j = k + 1) :
    SS w0 b off cap (P ++ x :: y :: Q) ((((w.setCell ⟨b, off + j * 2, none⟩ (.int .i64 (y.1 : Int))).setCell ⟨b, off + j * 2 + 1, none⟩ y.2.1).setCell ⟨b, off + k * 2, none⟩ (.int .i64 (x.1 : Int))).setCell ⟨b, off + k * 2 + 1, none⟩ x.2.1).drew :=
  SS.drewN ⟨h.1.swap hk hj, gset (gset (gset (gset h.2)))⟩ 1
/-- x is being put into S, and stands at j. -/
structure At (S Q : List Br) (x : Br) (j : Nat) (C : List Br) : Prop where
  is : C = S.take j ++ x :: (S.drop j ++ Q)
  ins : Hm.ins x S = Hm.ins x (S.take j) ++ S.drop j
theorem At.start (S Q : List Br) (x : Br) : At S Q x S.length (S ++ x :: Q) := ⟨by rw [List.take_length, List.drop_length]; rfl, by rw [List.take_length, List.drop_length, List.append_nil]⟩
theorem take_one {S : List Br} {k : Nat} (h : k < S.length) : S.take (k + 1) = S.take k ++ [S[k]] := by rw [List.take_add_one, List.getElem?_eq_getElem h]; rfl
theorem At.look {S Q C : List Br} {x : Br} {j k : Nat} (h : At S Q x j C) (e : j = k + 1) (hk : k < S.length) : ∃ y, y ∈ S ∧ C = S.take k ++ y :: x :: (S.drop j ++ Q) ∧ (x.1 < y.1 → At S Q x k (S.take k ++ x :: y :: (S.drop j ++ Q))) ∧ (¬ x.1 < y.1 → C = Hm.ins x S ++ Q) := by
  subst e
  refine ⟨S[k], List.getElem_mem hk, ?_, fun hx => ⟨?_, ?_⟩, fun hx => ?_⟩
  · rw [h.is, take_one hk, List.append_assoc]
    rfl
  · rw [List.drop_eq_getElem_cons hk]; rfl
  · rw [h.ins, take_one hk, Hm.ins_lt hx, List.drop_eq_getElem_cons hk, List.append_assoc]
    rfl
  · rw [h.ins, take_one hk, Hm.ins_ge hx, h.is, take_one hk]
    simp
theorem At.low {S Q C : List Br} {x : Br} (h : At S Q x 0 C) : C = Hm.ins x S ++ Q := by
  rw [h.ins, List.take_zero, Hm.ins_nil, h.is]
  rfl

set_option maxRecDepth 100000 in
set_option maxHeartbeats 1000000 in
theorem insB_any (w0 : World) (b off cap n : Nat) (D : List Br) (w : World) (hOk : ∀ d ∈ D, BrOk d) (H : SS w0 b off cap D w) (hl : D.length = n) (hn : n ≤ 1000) :
    Calls Try.prog 190 #[.slice (some ⟨b, off, none⟩) n cap, .int .i64 0, .int .i64 (n : Int), .func (.func 137) #[] #[]] w fun e w' => e = .returned (.tuple #[]) ∧ SS w0 b off cap (Hm.isort D) w' := by
  have HH := hid H
  have HO := hid hOk
  have HL := hid hl
  clear H hOk hl
  go_enter Try.func190, Try.ntmps190
  go_wp2
  go_loopw [8] (fun x wr => ∃ i : Nat, x = .int .i64 i ∧ 1 ≤ i ∧ Hid (SS w0 b off cap (Hm.isort (D.take i) ++ D.drop i) wr)) (fun x _ => n - (intOf x).toNat)
  case atStart =>
    refine ⟨1, by go_num, by omega, ?_⟩
    have e : Hm.isort (D.take 1) ++ D.drop 1 = D := by
      match D with
      | [] => rfl
      | x :: R => rfl
    rw [e]
    exact HH
  case round =>
    clear HH
    obtain ⟨i, rfl, hi1, HR⟩ := hrel
    by_cases hlt : i < n
    · have hlt' : (i : Int) < (n : Int) := by omega
      have hiD : i < D.length := by rw [HL.out]; exact hlt
      obtain ⟨x, hx⟩ : ∃ x : Br, x = D[i] := ⟨_, rfl⟩
      obtain ⟨S, hS⟩ : ∃ S : List Br, S = Hm.isort (D.take i) := ⟨_, rfl⟩
      obtain ⟨Q, hQ⟩ : ∃ Q : List Br, Q = D.drop (i + 1) := ⟨_, rfl⟩
      have hSl : S.length = i := by rw [hS, Hm.isort_len, List.length_take]; omega
      have hxo := HO.out x (by rw [hx]; exact List.getElem_mem hiD)
      have HSO : Hid (∀ d ∈ S, BrOk d) := fun d hd => HO.out d (List.mem_of_mem_take (by rw [hS] at hd; exact (Hm.isort_perm _).mem_iff.1 hd))
      have HN : Hid (Hm.ins x S ++ Q = Hm.isort (D.take (i + 1)) ++ D.drop (i + 1)) := by
        show _ = _
        rw [take_one hiD, Hm.isort_snoc, hS, hQ, hx]
      have HS0 : Hid (SS w0 b off cap (S ++ x :: Q) wr) := by
        have := HR.out
        rw [List.drop_eq_getElem_cons hiD, ← hS, ← hx, ← hQ] at this
        exact this
      have HSL := hid hSl
      clear HR hx hS hQ hSl hiD
      obtain ⟨⟨Ax, nx, cx, hxv⟩, hxw⟩ := hxo
      go_wp2
      go_loopw [9] (fun z wr => ∃ j : Nat, z = .int .i64 j ∧ j ≤ i ∧ Hid (∃ C, At S Q x j C ∧ SS w0 b off cap C wr)) (fun z _ => (intOf z).toNat)
      case atStart => exact ⟨i, rfl, by omega, hid ⟨_, by rw [← HSL.out]; exact At.start S Q x, HS0.out⟩⟩
      case round =>
        clear HS0
        obtain ⟨j, rfl, hji, HR⟩ := hrel
        obtain ⟨C, hat, hss⟩ := HR.out
        have HA := hid hat
        have HS2 := hid hss
        clear hat hss HR
        have fin : Hid (C = Hm.ins x S ++ Q → SS w0 b off cap (Hm.isort (D.take (i + 1)) ++ D.drop (i + 1)) wr) := fun e => by rw [← HN.out, ← e]; exact HS2.out
        by_cases hpj2 : 0 < j
        · obtain ⟨k, hk⟩ : ∃ k, j = k + 1 := ⟨j - 1, by omega⟩
          have ek : (j : Int) - 1 = (k : Int) := by omega
          have hpj3 : (0 : Int) < (j : Int) := by omega
          have hjn : j < n := by omega
          have hkn : k < n := by omega
          have hjn' : (j : Int) < (n : Int) := by omega
          have hkn' : (k : Int) < (n : Int) := by omega
          have hkS : k < S.length := by rw [HSL.out]; omega
          obtain ⟨y, hyS, hform, hst, hdn⟩ := HA.out.look hk hkS
          obtain ⟨⟨Ay, ny, cy, hyv⟩, hyw⟩ := HSO.out y hyS
          have HST := hid hst
          have HDN := hid hdn
          have HQ2 : Hid (SS w0 b off cap (S.take k ++ y :: x :: (S.drop j ++ Q)) wr) := by rw [← hform]; exact HS2
          have hPl : (S.take k).length = k := by rw [List.length_take]; omega
          obtain ⟨ck, ckq⟩ := HQ2.out.1.mid hPl
          have hjc : wr.cell? ⟨b, off + j * 2, none⟩ = some (.int .i64 (x.1 : Int)) ∧ wr.cell? ⟨b, off + j * 2 + 1, none⟩ = some x.2.1 := by
            have := HQ2.out.1.at_ (k + 1) x (by rw [List.getElem?_append_right (by omega), hPl, show k + 1 - k = 1 by omega]; rfl)
            rw [← hk] at this
            exact this
          obtain ⟨cj, cjq⟩ := hjc
          have hCl : n ≤ C.length := by
            rw [HA.out.is]
            have h1 := congrArg List.length HN.out
            simp [Hm.isort_len, (Hm.ins_perm x S).length_eq] at h1
            simp
            have := HL.out
            omega
          obtain ⟨fj, fjq⟩ := HS2.out.1.frozen (k := j) (by omega)
          obtain ⟨fk, fkq⟩ := HS2.out.1.frozen (k := k) (by omega)
          have HK := hid hk
          have hwk : IntKind.i64.wrap (k : Int) = (k : Int) := IntWalk.i64_in _ (by omega)
          have hk0 : (0 : Int) ≤ (k : Int) := by omega
          have HSW : Hid (∀ W, SS w0 b off cap C W → SS w0 b off cap (S.take k ++ x :: y :: (S.drop j ++ Q)) ((((W.setCell ⟨b, off + j * 2, none⟩ (.int .i64 (y.1 : Int))).setCell ⟨b, off + j * 2 + 1, none⟩ y.2.1).setCell ⟨b, off + k * 2, none⟩ (.int .i64 (x.1 : Int))).setCell ⟨b, off + k * 2 + 1, none⟩ x.2.1).drew) := fun W h => by
            rw [hform] at h
            exact SS.swap h hPl hk
          clear hk hform hPl hCl HQ2 hst hdn hyS hkS
          rw [hxv] at cjq HSW
          rw [hyv] at ckq HSW
          have HCC := hid (cmpB_any x.1 y.1 Ax Ay nx cx ny cy wr.drew hxw hyw)
          have hlt0 : b < wr.drew.heap.size := HS2.out.1.lt
          generalize x.1 = X at cj HCC HSW HST HDN hxw
          generalize y.1 = Y at ck HCC HSW HST HDN hyw
          by_cases hneg : X < Y
          · have hr : (X : Int) - (Y : Int) < 0 := by omega
            have HL2 := hid (HST.out hneg)
            generalize (X : Int) - (Y : Int) = r at hr HCC
            clear HST HDN fin
            go_wp2
            go_region_held3 (fun W => W.cell? ⟨b, off + j * 2, none⟩ = some (.int .i64 (X : Int)) ∧ W.cell? ⟨b, off + j * 2 + 1, none⟩ = some (.slice Ax nx cx) ∧ W.cell? ⟨b, off + k * 2, none⟩ = some (.int .i64 (Y : Int)) ∧ W.cell? ⟨b, off + k * 2 + 1, none⟩ = some (.slice Ay ny cy)) (first | exact ⟨cj, cjq, ck, ckq⟩ | assumption) (first | (go_at_call 137; (with_reducible refine HCC.out.mono ?_); rintro e w8 ⟨rfl, hb8⟩; have hS8 := cellsB hb8 hlt0 cj cjq ck ckq; have HS8 := hid ((HS2.out.drewN 1).keep hb8); have HB8 := hid hb8; clear hb8))
            have R := hid (HSW.out _ HS8.out)
            obtain ⟨c1, c2, c3, c4⟩ := hS8
            have g1 : w8.frozen? ⟨b, off + j * 2, none⟩ = false := by
              rw [World.frozen?_of_block (w := wr.drew) (HB8.out.block b hlt0)]; exact fj
            have g2 : w8.frozen? ⟨b, off + j * 2 + 1, none⟩ = false := by
              rw [World.frozen?_of_block (w := wr.drew) (HB8.out.block b hlt0)]; exact fjq
            have g3 : w8.frozen? ⟨b, off + k * 2, none⟩ = false := by
              rw [World.frozen?_of_block (w := wr.drew) (HB8.out.block b hlt0)]; exact fk
            have g4 : w8.frozen? ⟨b, off + k * 2 + 1, none⟩ = false := by
              rw [World.frozen?_of_block (w := wr.drew) (HB8.out.block b hlt0)]; exact fkq
            clear cj cjq ck ckq fj fjq fk fkq
            go_wp2
            go_region
            go_wp2
            go_roundw
            case measure => have := HK.out; simp [intOf]; omega
            case rel => exact ⟨k, by first | rfl | go_num, by have := HK.out; omega, hid ⟨_, HL2.out, R.out⟩⟩
          · have hr : decide ((X : Int) - (Y : Int) < 0) = false := decide_eq_false (by omega)
            have HL2 := hid (fin.out (HDN.out hneg))
            generalize (X : Int) - (Y : Int) = r at hr HCC
            clear HST HDN fin
            go_wp2
            go_region_held3 (fun W => W.cell? ⟨b, off + j * 2, none⟩ = some (.int .i64 (X : Int)) ∧ W.cell? ⟨b, off + j * 2 + 1, none⟩ = some (.slice Ax nx cx) ∧ W.cell? ⟨b, off + k * 2, none⟩ = some (.int .i64 (Y : Int)) ∧ W.cell? ⟨b, off + k * 2 + 1, none⟩ = some (.slice Ay ny cy)) (first | exact ⟨cj, cjq, ck, ckq⟩ | assumption) (first | (go_at_call 137; (with_reducible refine HCC.out.mono ?_); rintro e w8 ⟨rfl, hb8⟩; have hS8 := cellsB hb8 hlt0 cj cjq ck ckq; have HB8 := hid hb8; clear hb8))
            go_wp2
            go_roundw
            case measure => simp [intOf]; omega
            case rel => exact ⟨i + 1, by go_num, by omega, hid ((HL2.out.drewN 1).keep HB8.out)⟩
        · have hpj3 : decide ((0 : Int) < (j : Int)) = false := decide_eq_false (by omega)
          have hpj4 : decide (0 < j) = false := decide_eq_false (by omega)
          go_wp2
          go_quiet (fail)
          go_wp2
          go_roundw
          case measure => simp [intOf]; omega
          case rel =>
            obtain rfl : j = 0 := by omega
            exact ⟨i + 1, by go_num, by omega, hid ((fin.out HA.out.low).drewN _)⟩
    · have hlt' : decide ((i : Int) < (n : Int)) = false := decide_eq_false (by omega)
      go_wp2
      go_end0
      refine ⟨rfl, ?_⟩
      have := HR.out
      rwa [List.take_of_length_le (by rw [HL.out]; omega), List.drop_of_length_le (by rw [HL.out]; omega), List.append_nil] at this
set_option maxHeartbeats 1000000 in
theorem stabB_any (w0 : World) (b off cap n : Nat) (D : List Br) (w : World) (hOk : ∀ d ∈ D, BrOk d) (H : SS w0 b off cap D w) (hl : D.length = n) (hn : n ≤ 19) :
    Calls Try.prog 165 #[.slice (some ⟨b, off, none⟩) n cap, .int .i64 (n : Int), .func (.func 137) #[] #[]] w fun e w' => e = .returned (.tuple #[]) ∧ SS w0 b off cap (Hm.isort D) w' := by
  have hI := insB_any w0 b off cap n D w hOk H hl (by omega)
  have h1 : decide ((20 : Int) ≤ (n : Int)) = false := decide_eq_false (by omega)
  have h2 : decide ((20 : Int) < (n : Int)) = false := decide_eq_false (by omega)
  clear H hOk
  go_enter Try.func165, Try.ntmps165
  go_wp2
  go_loopw [7, 8] (fun x y wr => x = .int .i64 0 ∧ y = .int .i64 20 ∧ wr = w) (fun _ _ _ => 0)
  case atStart => exact ⟨rfl, rfl, rfl⟩
  case round =>
    obtain ⟨rfl, rfl, rfl⟩ := hrel
    go_wp2_with fail
    with_reducible refine hI.mono ?_
    rintro e w1 ⟨rfl, hs⟩
    have HS := hid hs
    clear hs hI
    go_wp2
    go_loopw [6] (fun x wr => x = .int .i64 20 ∧ wr = w1) (fun _ _ => 0)
    case atStart => exact ⟨rfl, rfl⟩
    case round =>
      obtain ⟨rfl, rfl⟩ := hrel
      go_wp2
      go_end0
      exact ⟨rfl, HS.out⟩
theorem sortB_any (b off cap n : Nat) (D : List Br) (w : World) (hOk : ∀ d ∈ D, BrOk d) (H : QB w b off cap D) (hl : D.length = n) (hn : n ≤ 19) :
    Calls Try.prog 136 #[.slice (some ⟨b, off, none⟩) n cap, .func (.func 137) #[] #[]] w fun e w' => e = .returned (.tuple #[]) ∧ SS w b off cap (Hm.isort D) w' := by
  have hI := stabB_any w b off cap n D w hOk ⟨H, ⟨rfl, rfl, rfl, Nat.le_refl _, fun _ _ _ => rfl⟩⟩ hl hn
  clear H hOk
  go_enter Try.func136, Try.ntmps136
  go_wp2_with fail
  with_reducible refine hI.mono ?_
  rintro e w1 ⟨rfl, hs⟩
  have HS := hid hs
  clear hs hI
  go_wp2
  go_end0
  exact ⟨rfl, HS.out⟩
end Go.Proofs.Ytapjodbaaejldaa
