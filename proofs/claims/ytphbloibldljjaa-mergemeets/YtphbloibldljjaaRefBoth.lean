
/-
The contracts of quillref.BothOf and quillref.BehindOf.
-/
import Derived.Test.YtphbloibldljjaaCompactE
import Derived.Test.YtphbloibldljjaaConcatE
import Derived.Test.YtphbloibldljjaaStabAllE
import Derived.Test.YtphbloibldljjaaRefEd
import Derived.Test.YtphbloibldljjaaMgP
namespace Go.Proofs.Ytphbloibldljjaa
open Go.RowKit

theorem surj_ : ∀ (n : Nat) (h : Nat → Nat), (∀ k, k < n → h k < n) → (∀ i j, i < n → j < n → h i = h j → i = j) → ∀ y, y < n → ∃ k, k < n ∧ h k = y
  | 0, _, _, _, y, hy => by omega
  | n + 1, h, hb, hi, y, hy => by
    have hz := hb n (by omega)
    have ih := surj_ n (fun k => if h k = n then h n else h k) (fun k hk => by
      by_cases c : h k = n
      · have : h n ≠ n := fun e => by have := hi k n (by omega) (by omega) (by omega); omega
        simp only [if_pos c]; omega
      · have := hb k (by omega)
        simp only [if_neg c]; omega) (fun i j hin hjn e => by
      have a1 := hi i j (by omega) (by omega)
      have a2 := hi i n (by omega) (by omega)
      have a3 := hi j n (by omega) (by omega)
      by_cases c1 : h i = n
      · by_cases c2 : h j = n
        · exact a1 (by omega)
        · simp only [if_pos c1, if_neg c2] at e
          have := a3 e.symm
          omega
      · by_cases c2 : h j = n
        · simp only [if_neg c1, if_pos c2] at e
          have := a2 e
          omega
        · simp only [if_neg c1, if_neg c2] at e
          exact a1 e)
    by_cases hyn : y = n
    · by_cases c : h n = n
      · exact ⟨n, by omega, by omega⟩
      · obtain ⟨k, hk, e⟩ := ih (h n) (by omega)
        by_cases c1 : h k = n
        · exact ⟨k, by omega, by omega⟩
        · simp only [if_neg c1] at e
          have := hi k n (by omega) (by omega) e
          omega
    · obtain ⟨k, hk, e⟩ := ih y (by omega)
      by_cases c1 : h k = n
      · simp only [if_pos c1] at e
        exact ⟨n, by omega, e⟩
      · simp only [if_neg c1] at e
        exact ⟨k, by omega, e⟩
/-- A row of the call's own that is not empty, cell by cell. -/
theorem OwnE.evAt {w : World} {base : Nat} {v : Value} {L : List Es.Ev} (h : OwnE w base v L) (h0 : 0 < L.length) : ∃ g cap, v = .slice (some ⟨g, 0, none⟩) L.length cap ∧ L.length ≤ cap ∧ base ≤ g ∧ g < w.heap.size ∧ ∀ k, k < L.length → Ev3 w g (0 + k * 3) (L.getD k Es.none_) := by
  have hlt := World.ownsRow.lt h
  rcases h.2 with ⟨rfl, h1⟩ | ⟨g, cap, cur, rfl, h1, h2, h3, h4, h5, h6⟩
  · omega
  · refine ⟨g, cap, rfl, h3, h1, (hlt g rfl).2, fun k hk => ?_⟩
    have hf := ev_flat L k hk
    have hcell : ∀ j, j < L.length * 3 → w.cell? ⟨g, j, none⟩ = (L.flatMap evC)[j]? := by
      intro j hj
      rw [← h6, List.getElem?_take, if_pos hj, cell_of_row _ _ _ _ _ _ h2]
      simp
    have hfz : ∀ j, w.frozen? ⟨g, j, none⟩ = false := fun j => by
      unfold World.frozen?
      rw [h2]
      simp
    have e : L.getD k Es.none_ = L[k] := by rw [List.getD_eq_getElem?_getD, List.getElem?_eq_getElem hk]; rfl
    unfold Ev3
    rw [Nat.zero_add, hcell _ (by omega), hcell _ (by omega), hcell _ (by omega), hf.1, hf.2.1, hf.2.2, e]
    exact ⟨rfl, rfl, rfl, hfz _, hfz _, hfz _⟩
/-- The order of places, of two at one place the earlier one first. -/
def cfE (E : Nat → Es.Ev) (x y : Nat) : Int := (E x).a - (E y).a
def RE (E : Nat → Es.Ev) (x y : Nat) : Prop := (E x).a < (E y).a ∨ ((E x).a = (E y).a ∧ x < y)
theorem ord_E (E : Nat → Es.Ev) : St.Ord (ltE (cfE E)) (RE E) where
  tr := by unfold RE; intro x y z h1 h2; omega
  yes := by unfold RE ltE cfE; intro x y h1 h2; omega
  no := by unfold RE ltE cfE; intro x y h1 h2; omega
/-- What is sorted and compacted is both. -/
theorem both_of {a b : List Es.Ev} {N n : Nat} {f : Nat → Nat} {E : Nat → Es.Ev} (ha : Es.Ch N (-1) a) (hb : Es.Ch N (-1) b) (hc : ¬ Es.Cls a b) (hE : el E n = a ++ b) (hp : St.PI 0 n id f) (hs : St.Srt (RE E) 0 n f) : Es.IsBo a b (cp (fun k => E (f k)) n) := by
  have hmem : ∀ k, k < n → E k ∈ a ∨ E k ∈ b := fun k hk => by
    rw [← List.mem_append, ← hE]
    unfold el
    exact List.mem_map.2 ⟨k, List.mem_range.2 hk, rfl⟩
  have hin : ∀ k, k < n → f k < n := fun k hk => by
    obtain ⟨j, _, hj, e⟩ := hp.ins k (Nat.zero_le _) hk
    rw [e]; exact hj
  refine ⟨cp_inc (fun i j hij hj => ?_) (fun i j hij hj e => ?_), fun x => ?_⟩
  · have := hs i j (Nat.zero_le _) hij hj
    unfold RE at this
    omega
  · refine Classical.byContradiction fun hne => ?_
    have m1 := hmem _ (hin i (by omega))
    have m2 := hmem _ (hin j hj)
    have d1 : 0 ≤ (E (f i)).d := by
      rcases m1 with m | m
      · exact (Es.ch_mem ha m).2.2.1
      · exact (Es.ch_mem hb m).2.2.1
    have d2 : 0 ≤ (E (f j)).d := by
      rcases m2 with m | m
      · exact (Es.ch_mem ha m).2.2.1
      · exact (Es.ch_mem hb m).2.2.1
    have hcl : Es.Cl (E (f i)) (E (f j)) := ⟨hne, by omega, by omega⟩
    rcases m1 with m | m <;> rcases m2 with k | k
    · exact Es.ch_no_self ha ⟨_, m, _, k, hcl⟩
    · exact hc ⟨_, m, _, k, hcl⟩
    · exact hc (Es.Cls.symm ⟨_, m, _, k, hcl⟩)
    · exact Es.ch_no_self hb ⟨_, m, _, k, hcl⟩
  · rw [cp_mem, ← List.mem_append, ← hE]
    unfold el
    rw [List.mem_map, List.mem_map]
    constructor
    · rintro ⟨k, hk, rfl⟩
      exact ⟨f k, List.mem_range.2 (hin k (List.mem_range.1 hk)), rfl⟩
    · rintro ⟨k, hk, rfl⟩
      obtain ⟨j, hj, e⟩ := surj_ n f hin (fun i j _ _ e => hp.inj (fun x y e => e) i j e) k (List.mem_range.1 hk)
      exact ⟨j, List.mem_range.2 hj, by rw [e]⟩
/-- Sorting nothing. -/
theorem stabE_none (c : Nat) (A : Option Addr) (w : World) :
    Calls Try.prog 44 #[.slice A 0 c, .int .i64 0, .func (.func 31) #[] #[]] w fun e w' => e = .returned (.tuple #[]) ∧ w = w' := by
  have hI : ∀ W : World, Calls Try.prog 48 #[.slice A 0 c, .int .i64 0, .int .i64 0, .func (.func 31) #[] #[]] W fun e w' => e = .returned (.tuple #[]) ∧ W = w' := fun W => by
    go_enter Try.func48, Try.ntmps48
    go_wp2
    go_loopw [8] (fun x wr => x = .int .i64 1 ∧ wr = W) (fun _ _ => 0)
    case atStart => exact ⟨rfl, rfl⟩
    case round =>
      obtain ⟨rfl, rfl⟩ := hrel
      go_wp2
      go_end0
      exact ⟨rfl, rfl⟩
  go_enter Try.func44, Try.ntmps44
  go_wp2
  go_loopw [7, 8] (fun x y wr => x = .int .i64 0 ∧ y = .int .i64 20 ∧ wr = w) (fun _ _ _ => 0)
  case atStart => exact ⟨rfl, rfl, rfl⟩
  case round =>
    obtain ⟨rfl, rfl, rfl⟩ := hrel
    go_wp2_with fail
    with_reducible refine (hI _).mono ?_
    rintro e w1 ⟨rfl, rfl⟩
    go_wp2
    go_loopw [6] (fun x wr' => x = .int .i64 20 ∧ wr' = wr) (fun _ _ => 0)
    case atStart => exact ⟨rfl, rfl⟩
    case round =>
      obtain ⟨rfl, rfl⟩ := hrel
      go_wp2
      go_end0
      exact ⟨rfl, rfl⟩
theorem sortE_none (c : Nat) (A : Option Addr) (w : World) :
    Calls Try.prog 30 #[.slice A 0 c, .func (.func 31) #[] #[]] w fun e w' => e = .returned (.tuple #[]) ∧ w = w' := by
  go_enter Try.func30, Try.ntmps30
  go_wp2_with fail
  with_reducible refine (stabE_none c A _).mono ?_
  rintro e w1 ⟨rfl, rfl⟩
  go_wp2
  go_end0
  exact ⟨rfl, rfl⟩
theorem compactE_all (b o n c : Nat) (h : Nat → Es.Ev) (w : World) (H : CR w b o n h w) (h1 : 1 ≤ n) (hnc : n ≤ c) (hn : n ≤ 1000) :
    Calls Try.prog 32 #[.slice (some ⟨b, o, none⟩) n c] w (CpPost w b o c (cp h n)) := by
  by_cases h2 : 2 ≤ n
  · exact compactE_any b o n c h w H h2 hnc hn
  · obtain rfl : n = 1 := by omega
    refine (compactE_few _ 1 c w (by decide)).mono ?_
    rintro e w' ⟨rfl, rfl⟩
    refine ⟨by rw [cp_one]; rfl, ?_⟩
    rw [cp_one]
    exact ⟨fun k hk => by
      obtain rfl : k = 0 := by simpa using hk
      exact H.row 0 (by omega), H.gr, H.lt⟩
/-- What BothOf answers. -/
def BoPost (N : Nat) (a b : List Es.Ev) (w : World) (e : Ending) (w' : World) : Prop :=
  ∃ (C : Option Addr) (c : Nat) (l : List Es.Ev) (x : Int), e = .returned (.tuple #[.slice C l.length c, .int .i64 x]) ∧ l.length ≤ c ∧ BoIs N a b l x ∧ EvRow w' C l.length (fun k => l.getD k Es.none_) ∧ Below w.heap.size w w'
theorem bn_of {N : Nat} {L : List Es.Ev} (h : Es.eErr N L = 0) {x : Es.Ev} (hx : x ∈ L) : Bn x := by
  obtain ⟨hc, h2, _, _⟩ := Es.err_ch h
  have := Es.ch_mem hc hx
  unfold Bn
  omega
theorem el_in {h : Nat → Es.Ev} {n k : Nat} (hk : k < n) : h k ∈ el h n := by
  unfold el
  exact List.mem_map.2 ⟨k, List.mem_range.2 hk, rfl⟩
/-- The end of it: what is both is checked. -/
theorem CR.evRow {w0 w : World} {b o n : Nat} {h : Nat → Es.Ev} (H : CR w0 b o n h w) : EvRow w (some ⟨b, o, none⟩) n h := fun k hk => by
  obtain ⟨a1, a2, a3, _⟩ := H.row k hk
  exact ⟨b, o, rfl, H.lt, a1, a2, a3⟩
set_option maxHeartbeats 4000000 in
set_option maxRecDepth 100000 in
theorem bothOf_any {A B : Option Addr} {n m c1 c2 : Nat} {g h : Nat → Es.Ev} (N : Nat) (w : World) (hr1 : EvRow w A n g) (hr2 : EvRow w B m h) (he1 : Es.eErr N (el g n) = 0) (he2 : Es.eErr N (el h m) = 0) :
    Calls Try.prog 11 #[.int .i64 (N : Int), .slice A n c1, .slice B m c2] w (BoPost N (el g n) (el h m) w) := by
  have hn : n ≤ 20 := by have := (Es.err_ch he1).2.2.1; rw [el_len] at this; exact this
  have hm : m ≤ 20 := by have := (Es.err_ch he2).2.2.1; rw [el_len] at this; exact this
  have H1 := hid hr1
  have H2 := hid hr2
  have HE1 := hid he1
  have HE2 := hid he2
  clear hr1 hr2 he1 he2
  go_enter Try.func11, Try.ntmps11
  go_wp2
  go_loopw [14] (fun x wr => ∃ k : Nat, k ≤ n ∧ x = .int .i64 (k : Int) ∧ Hid (∀ j, j < k → (el h m).any (Es.cl (g j)) = false) ∧ Hid (Below w.heap.size w wr)) (fun x _ => n - (intOf x).toNat)
  case atStart => exact ⟨0, by omega, rfl, fun j hj => absurd hj (Nat.not_lt_zero _), Below.refl _ _⟩
  case round =>
    obtain ⟨k, hk, rfl, HZ, HB⟩ := hrel
    by_cases hkn : k < n
    · obtain ⟨b, o, rfl, hlt, c0, c1, c2⟩ := (H1.out.keep HB.out) k hkn
      have hkn' : (k : Int) < (n : Int) := by omega
      obtain ⟨x, hx⟩ : ∃ x, x = g k := ⟨_, rfl⟩
      have HX := hid hx
      rw [← hx] at c0 c1 c2
      have HBX : Hid (Bn x) := by show Bn x; rw [hx]; exact bn_of HE1.out (el_in hkn)
      have HBY : Hid (∀ j, j < m → Bn (h j)) := fun j hj => bn_of HE2.out (el_in hj)
      have HN := hid (ev_new wr x 30)
      have HB2 := hid (bl_then HB.out (bl_new wr (.cells #[.int .i64 x.a, .int .i64 x.d, .string x.s] 30)))
      have HR2 := hid (H2.out.keep HB2.out)
      have hm1000 : m ≤ 1000 := by omega
      clear hx
      go_wp2_with fail
      with_reducible refine (clashHas_any x wr.heap.size _ HN.out HBX.out HR2.out HBY.out hm1000).mono ?_
      rintro e w1 ⟨rfl, hb2⟩
      have HB3 := hid (bl_then HB2.out hb2)
      clear hb2
      by_cases hl : (el h m).any (Es.cl x) = true
      · have HF : Hid (Es.Cls (el g n) (el h m)) := by
          obtain ⟨y, hy, hc⟩ := List.any_eq_true.1 hl
          exact ⟨x, by rw [HX.out]; exact el_in hkn, y, hy, Es.cl_iff.1 hc⟩
        rw [hl]
        clear hl
        go_wp2
        go_ret2
        exact ⟨none, 0, [], 9, rfl, Nat.le_refl _, .inl ⟨HF.out, rfl, rfl⟩, fun k hk => absurd hk (Nat.not_lt_zero _), HB3.out⟩
      · have hl := Bool.eq_false_iff.2 hl
        have HZ2 : Hid (∀ j, j < k + 1 → (el h m).any (Es.cl (g j)) = false) := fun j hj => by
          by_cases hjk : j < k
          · exact HZ.out j hjk
          · obtain rfl : j = k := by omega
            rw [← HX.out]; exact hl
        rw [hl]
        clear hl HZ
        go_wp2
        go_roundw
        case measure => simp [intOf]; omega
        case rel => exact ⟨k + 1, by omega, by go_num, HZ2, HB3⟩
    · obtain rfl : k = n := by omega
      have hkd : decide ((k : Int) < (k : Int)) = false := decide_eq_false (by omega)
      have HC : Hid (¬ Es.Cls (el g k) (el h m)) := by
        rintro ⟨x, hx, y, hy, hc⟩
        unfold el at hx
        obtain ⟨j, hj, rfl⟩ := List.mem_map.1 hx
        have := HZ.out j (List.mem_range.1 hj)
        rw [List.any_eq_false] at this
        exact this y hy (Es.cl_iff.2 hc)
      have HP := hid (partsE_two (c1 := c1) (c2 := c2) (t := 22) (N := wr.heap.size) rfl (H1.out.keep HB.out) (H2.out.keep HB.out))
      have HB2 := hid (bl_then HB.out (bl_new wr (.cells #[.slice A k c1, .slice B m c2] 22)))
      have hlt9 : wr.heap.size < (wr.alloc (.cells #[.slice A k c1, .slice B m c2] 22)).heap.size := by simp
      have hcl : (catE (twoNE k m) (twoGE g h) 2).length ≤ 100000 := by rw [catE_two, List.length_append, el_len, el_len]; omega
      have HCL := hid hcl
      have HLT9 := hid hlt9
      clear HZ hcl hlt9 hkd
      go_wp2_with fail
      with_reducible refine (concatE_any wr.heap.size 0 2 2 _ _ _ HLT9.out HP.out HCL.out (by decide)).mono ?_
      rintro e w2 ⟨v, rfl, hown, hb3⟩
      rw [catE_two] at hown
      have HB3 := hid (bl_then HB2.out hb3)
      obtain ⟨L, hL⟩ : ∃ L, L = el g k ++ el h m := ⟨_, rfl⟩
      rw [← hL] at hown
      have HL := hid hL
      have hLl : L.length = k + m := by rw [hL, List.length_append, el_len, el_len]
      have hbase := Nat.le_trans HB2.out.size (Nat.le_refl _)
      clear hb3 hL HP
      by_cases h0 : 0 < k + m
      · obtain ⟨b9, cap, rfl, hcap, hge, hlt, hrow⟩ := hown.evAt (by omega)
        rw [hLl] at hcap hrow
        obtain ⟨q, hq⟩ : ∃ q, q = k + m := ⟨_, rfl⟩
        rw [← hq] at hcap hrow hLl
        rw [hLl]
        have HLq := hid hLl
        have hq40 : q ≤ 40 := by omega
        have hq1 : 1 ≤ q := by omega
        have HGE : Hid (w.heap.size ≤ b9) := Nat.le_trans hbase hge
        obtain ⟨E, hE⟩ : ∃ E, E = fun k => L.getD k Es.none_ := ⟨_, rfl⟩
        have HSE : Hid (SE w2 b9 0 q E id w2) := ⟨fun j hj => by rw [hE]; exact hrow j hj, ⟨rfl, rfl, rfl, Nat.le_refl _, fun _ _ _ => rfl⟩, fun j hj => hj, hlt⟩
        have HEL : Hid (el E q = el g k ++ el h m) := by show _ = _; rw [hE, ← HLq.out, el_of, HL.out]
        have HCMP : Hid (CmpE E q (cfE E)) := fun W x y hx hy => by
          have bx : Bn (E x) := by
            have : E x ∈ el E q := el_in hx
            rw [HEL.out, List.mem_append] at this
            rcases this with m | m
            · exact bn_of HE1.out m
            · exact bn_of HE2.out m
          have by_ : Bn (E y) := by
            have : E y ∈ el E q := el_in hy
            rw [HEL.out, List.mem_append] at this
            rcases this with m | m
            · exact bn_of HE1.out m
            · exact bn_of HE2.out m
          exact cmpEv_any (E x) (E y) W bx by_
        have hq1000 : q ≤ 1000 := by omega
        clear hown hrow hlt hE hq hLl h0 hbase
        go_wp2_with fail
        with_reducible refine (sortE_any w2 b9 0 q cap (cfE E) (RE E) _ HCMP.out (ord_E E) HSE.out hq1000).mono ?_
        rintro e w3 ⟨rfl, f, hpi, hsr, hse⟩
        have HBO := hid (both_of (Es.err_ch HE1.out).1 (Es.err_ch HE2.out).1 HC.out HEL.out hpi hsr)
        have HCR0 : Hid (CR w3 b9 0 q (fun k => E (f k)) w3) := ⟨hse.row, ⟨rfl, rfl, rfl, Nat.le_refl _, fun _ _ _ => rfl⟩, hse.lt⟩
        have HB4 : Hid (Below w.heap.size w w3) := hid (HB3.out.grown hse.gr HB3.out.size fun k hk => by cases hk; exact HGE.out)
        clear hpi hsr hse HSE HCMP
        go_wp2_with fail
        with_reducible refine (compactE_all b9 0 q cap _ _ HCR0.out hq1 hcap hq1000).mono ?_
        rintro e w4 ⟨rfl, hcr⟩
        obtain ⟨M, hM⟩ : ∃ M, M = cp (fun k => E (f k)) q := ⟨_, rfl⟩
        rw [← hM] at hcr HBO ⊢
        have hMc : M.length ≤ cap := by rw [hM]; exact Nat.le_trans (cp_le _ _) hcap
        have HB5 : Hid (Below w.heap.size w w4) := hid (HB4.out.grown hcr.gr HB4.out.size fun k hk => by cases hk; exact HGE.out)
        have HROW := hid hcr.evRow
        clear hM hcr HCR0
        have HER := hid (EditsErr_any (c := cap) (N : Int) _ HROW.out)
        go_wp2_with fail
        with_reducible refine HER.out.mono ?_
        rintro e w5 ⟨he, hb5⟩
        rw [el_of] at he
        subst he
        have HB6 := hid (bl_then HB5.out hb5)
        have HROW2 := hid (HROW.out.keep hb5)
        obtain ⟨x, hx⟩ : ∃ x, x = Es.eErr N M := ⟨_, rfl⟩
        rw [← hx]
        have HX := hid hx
        clear hb5 hx HER
        by_cases hx0 : x = 0
        · subst hx0
          go_wp2
          go_ret2
          exact ⟨_, cap, M, 0, rfl, hMc, .inr ⟨HC.out, M, HBO.out, .inr ⟨HX.out.symm, rfl, rfl⟩⟩, HROW2.out, HB6.out⟩
        · have hxx : (x != 0) = true := bne_iff_ne.2 hx0
          have HX0 := hid hx0
          clear hx0
          go_wp2
          go_ret2
          exact ⟨none, 0, [], x, rfl, Nat.le_refl _, .inr ⟨HC.out, M, HBO.out, .inl ⟨by rw [← HX.out]; exact HX0.out, HX.out, rfl⟩⟩, fun k hk => absurd hk (Nat.not_lt_zero _), HB6.out⟩
      · obtain rfl : k = 0 := by omega
        obtain rfl : m = 0 := by omega
        obtain ⟨A9, cap, rfl, hcap, _⟩ := hown.row
        obtain rfl : L = [] := List.eq_nil_of_length_eq_zero hLl
        have HB5 := HB3
        have HBO : Hid (Es.IsBo (el g 0) (el h 0) []) := ⟨List.Pairwise.nil, fun x => by simp [el]⟩
        clear hown hbase HB3 h0
        go_wp2_with fail
        with_reducible refine (sortE_none cap A9 _).mono ?_
        rintro e w3 ⟨rfl, rfl⟩
        go_wp2_with fail
        with_reducible refine (compactE_few A9 0 cap _ (by decide)).mono ?_
        rintro e w4 ⟨rfl, rfl⟩
        obtain ⟨M, hM⟩ : ∃ M, M = ([] : List Es.Ev) := ⟨_, rfl⟩
        have hMc : M.length ≤ cap := by rw [hM]; exact Nat.zero_le _
        have HROW : Hid (EvRow w2 A9 M.length (fun k => M.getD k Es.none_)) := fun k hk => by rw [hM] at hk; exact absurd hk (Nat.not_lt_zero _)
        rw [← hM] at HBO
        have hMl : M.length = 0 := by rw [hM]; rfl
        have HER : Hid (Calls Try.prog 9 #[.int .i64 (N : Int), .slice A9 0 cap] w2 fun e w' => e = .returned (.int .i64 (Es.eErr N M)) ∧ Below w2.heap.size w2 w') := by
          have := EditsErr_any (c := cap) (N : Int) _ HROW.out
          rw [el_of, hMl] at this
          exact this
        have HML := hid hMl
        clear hM hMl
        go_wp2_with fail
        with_reducible refine HER.out.mono ?_
        rintro e w5 ⟨he, hb5⟩
        subst he
        have HB6 := hid (bl_then HB5.out hb5)
        have HROW2 := hid (HROW.out.keep hb5)
        obtain ⟨x, hx⟩ : ∃ x, x = Es.eErr N M := ⟨_, rfl⟩
        rw [← hx]
        have HX := hid hx
        clear hb5 hx HER
        by_cases hx0 : x = 0
        · subst hx0
          go_wp2
          go_ret2
          exact ⟨A9, cap, M, 0, by rw [HML.out]; rfl, hMc, .inr ⟨HC.out, M, HBO.out, .inr ⟨HX.out.symm, rfl, rfl⟩⟩, HROW2.out, HB6.out⟩
        · have hxx : (x != 0) = true := bne_iff_ne.2 hx0
          have HX0 := hid hx0
          clear hx0
          go_wp2
          go_ret2
          exact ⟨none, 0, [], x, rfl, Nat.le_refl _, .inr ⟨HC.out, M, HBO.out, .inl ⟨by rw [← HX.out]; exact HX0.out, HX.out, rfl⟩⟩, fun k hk => absurd hk (Nat.not_lt_zero _), HB6.out⟩
end Go.Proofs.Ytphbloibldljjaa
