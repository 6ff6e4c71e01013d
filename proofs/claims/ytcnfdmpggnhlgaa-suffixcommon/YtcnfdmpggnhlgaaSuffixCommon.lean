/-
The walk of quillkeep.SuffixCommon: it returns true for every string and whatever two numbers.
-/
import Derived.Test.YtcnfdmpggnhlgaaEnds
import Derived.Test.YtcnfdmpggnhlgaaUnlike
import Derived.Laws.Cover1
import Derived.Sort.Walk0
namespace Go.Proofs.Ytcnfdmpggnhlgaa
open Go.RowKit

theorem min_any (b o n c : Nat) (h : Nat → Nat) (w : World) (H : ∀ k, k < n → w.cell? ⟨b, o + k, none⟩ = some (.int .i64 (h k : Int))) (h0 : 0 < n) (hn : n ≤ maxLen) :
    Calls Try.prog 20 #[.slice (some ⟨b, o, none⟩) n c] w fun e w' => (∃ m : Nat, e = .returned (.int .i64 (m : Int)) ∧ (∃ k, k < n ∧ h k = m) ∧ ∀ k, k < n → m ≤ h k) ∧ w = w' := by
  unfold maxLen at hn
  have HH := hid H
  have hc0 := H 0 h0
  rw [Nat.add_zero] at hc0
  clear H
  have h0' : (0 : Int) < (n : Int) := by omega
  have h1' : decide ((n : Int) < 1) = false := decide_eq_false (by omega)
  go_enter Try.func20, Try.ntmps20
  go_wp2
  clear hc0
  go_loopw [3, 4] (fun x y wr => ∃ m k : Nat, 0 < k ∧ k ≤ n ∧ x = .int .i64 (m : Int) ∧ y = .int .i64 (k : Int) ∧ Hid (∃ j, j < k ∧ h j = m) ∧ Hid (∀ j, j < k → m ≤ h j) ∧ wr = w) (fun _ y _ => n - (intOf y).toNat)
  case atStart =>
    refine ⟨h 0, 1, by omega, by omega, rfl, rfl, hid ⟨0, by omega, rfl⟩, hid (fun j hj => ?_), rfl⟩
    obtain rfl : j = 0 := by omega
    exact Nat.le_refl _
  case round =>
    obtain ⟨m, k, hk0, hk, rfl, rfl, H1, H2, rfl⟩ := hrel
    by_cases hlt : k < n
    · have hck := HH.out k hlt
      have hlt' : (k : Int) < (n : Int) := by omega
      obtain ⟨v, hv⟩ : ∃ v, v = h k := ⟨_, rfl⟩
      rw [← hv] at hck
      go_wp2
      go_roundw
      case measure => simp [intOf]; omega
      case rel =>
        refine ⟨min m v, k + 1, by omega, by omega, ?_, by go_num, ?_, ?_, by trivial⟩
        · congr 1
          by_cases hmv : v < m
          · rw [Nat.min_eq_right (by omega)]
            omega
          · rw [Nat.min_eq_left (by omega)]
            omega
        · obtain ⟨j, hj, e⟩ := H1.out
          by_cases hmv : v < m
          · exact ⟨k, by omega, by rw [Nat.min_eq_right (by omega)]; exact hv.symm⟩
          · exact ⟨j, by omega, by rw [Nat.min_eq_left (by omega)]; exact e⟩
        · intro j hj
          by_cases hjk : j < k
          · have := H2.out j hjk; omega
          · obtain rfl : j = k := by omega
            omega
    · have hdl : decide ((k : Int) < (n : Int)) = false := decide_eq_false (by omega)
      obtain rfl : k = n := by omega
      go_wp2
      go_ret
      exact ⟨⟨m, rfl, H1.out, H2.out⟩, rfl⟩

theorem min_is (b o n c m : Nat) (h : Nat → Nat) (w : World) (H : ∀ k, k < n → w.cell? ⟨b, o + k, none⟩ = some (.int .i64 (h k : Int))) (h0 : 0 < n) (hn : n ≤ maxLen) (h1 : ∃ k, k < n ∧ h k = m) (h2 : ∀ k, k < n → m ≤ h k) :
    Calls Try.prog 20 #[.slice (some ⟨b, o, none⟩) n c] w fun e w' => e = .returned (.int .i64 (m : Int)) ∧ w' = w := by
  refine (min_any b o n c h w H h0 hn).mono ?_
  rintro e w1 ⟨⟨m', rfl, ⟨k, hk, e1⟩, h3⟩, rfl⟩
  obtain ⟨k2, hk2, e2⟩ := h1
  have := h3 k2 hk2
  have := h2 k hk
  obtain rfl : m' = m := by omega
  exact ⟨rfl, rfl⟩

theorem suffixCommon_large (s : ByteArray) (i k : Int) (w : World) (hs : 200 < s.size) :
    Calls Try.prog 4 #[.string s, .int .i64 i, .int .i64 k] w fun e w' => e = .returned (.bool true) ∧ Below w.heap.size w w' := by
  go_enter Try.func4, Try.ntmps4
  go_wp2_with fail
  with_reducible refine (ends_any _).mono ?_
  rintro e w1 ⟨rfl, hb1⟩
  go_wp2_with fail
  with_reducible refine (Order_large s _ hs).mono ?_
  rintro e w2 ⟨rfl, rfl⟩
  go_wp2_with fail
  with_reducible refine (Common_large s _ hs).mono ?_
  rintro e w2 ⟨rfl, rfl⟩
  go_wp2
  go_ret
  exact ⟨rfl, hb1⟩
theorem suffixCommon_empty (s : ByteArray) (i k : Int) (w : World) (hz : s.size = 0) :
    Calls Try.prog 4 #[.string s, .int .i64 i, .int .i64 k] w fun e w' => e = .returned (.bool true) ∧ Below w.heap.size w w' := by
  have hO := fun W => Order_ok s W (by omega)
  have hC := fun W => Common_ok s W (by omega)
  have hne := no_bytes hz
  rw [hz] at hO hC
  clear hz
  go_enter Try.func4, Try.ntmps4
  go_wp2_with fail
  with_reducible refine (ends_any _).mono ?_
  rintro e w1 ⟨rfl, hb1⟩
  go_wp2_with fail
  with_reducible refine (hO _).mono ?_
  rintro e w2 ⟨B1, rfl, hn1, hr1, hb2⟩
  clear hr1
  go_wp2_with fail
  with_reducible refine (hC _).mono ?_
  rintro e w3 ⟨B2, rfl, hn2, hr2, hb3⟩
  have HB := hid (bl_then (bl_then hb1 hb2) hb3)
  clear hr2 hb1 hb2 hb3
  go_wp2
  go_ret
  exact ⟨rfl, HB.out⟩
theorem mod_lt (k : Int) (n : Nat) (h : 0 < n) : (k % n).toNat < n := by
  have h2 := Int.emod_nonneg k (show (n : Int) ≠ 0 by omega)
  have h3 := Int.emod_lt_of_pos k (show (0 : Int) < n by omega)
  omega
set_option maxHeartbeats 1000000 in
theorem suffixCommon_up (s : ByteArray) (i k : Int) (w : World) (hs : s.size ≤ 200) (h0 : 0 < s.size) (hik : (i % (s.size : Int)).toNat < (k % (s.size : Int)).toNat) :
    Calls Try.prog 4 #[.string s, .int .i64 i, .int .i64 k] w fun e w' => e = .returned (.bool true) ∧ Below w.heap.size w w' := by
  have hne := some_bytes h0
  have hW1 := fun W => within_any i s.size W h0 (by omega)
  have hW2 := fun W => within_any k s.size W h0 (by omega)
  have hi := mod_lt i s.size h0
  have hk := mod_lt k s.size h0
  generalize (i % (s.size : Int)).toNat = a at hik hW1 hi
  generalize (k % (s.size : Int)).toNat = b at hik hW2 hk
  have hpa := sa_size hi
  have hpb := sa_size hk
  go_enter Try.func4, Try.ntmps4
  go_wp2_with fail
  with_reducible refine (ends_any _).mono ?_
  rintro e w1 ⟨rfl, hb1⟩
  go_wp2_with fail
  with_reducible refine (Order_ok s _ hs).mono ?_
  rintro e w2 ⟨B1, rfl, hn1, hr1, hb2⟩
  go_wp2_with fail
  with_reducible refine (Common_ok s _ hs).mono ?_
  rintro e w3 ⟨B2, rfl, hn2, hr2, hb3⟩
  have hca := (hb3.cell (p := ⟨B1, a, none⟩) hr1.lt).trans (hr1.cell hi)
  have hcb := (hb3.cell (p := ⟨B1, b, none⟩) hr1.lt).trans (hr1.cell hk)
  have HR2 := hid hr2
  have HB := hid (bl_then (bl_then hb1 hb2) hb3)
  unfold sg at hca hcb
  clear hr1 hr2 hb1 hb2 hb3
  go_wp2_with fail
  with_reducible refine (hW1 _).mono ?_
  rintro e w4 ⟨rfl, rfl⟩
  go_wp2_with fail
  with_reducible refine (hW2 _).mono ?_
  rintro e w4 ⟨rfl, rfl⟩
  obtain ⟨p, hp⟩ : ∃ p, p = Sm.sa (lst s) a := ⟨_, rfl⟩
  obtain ⟨q, hq⟩ : ∃ q, q = Sm.sa (lst s) b := ⟨_, rfl⟩
  rw [← hp] at hca hpa
  rw [← hq] at hcb hpb
  have HP := hid hp
  have HQ := hid hq
  clear hp hq
  have hab : ¬ (b : Int) < (a : Int) := by omega
  have hab' : (a : Int) < (b : Int) := by omega
  have hab2 : ((a : Int) == (b : Int)) = false := by rw [beq_eq_false_iff_ne]; omega
  have emin : min (a : Int) (b : Int) = (a : Int) := by omega
  have emax : max (a : Int) (b : Int) = (b : Int) := by omega
  obtain ⟨mn, emn⟩ : ∃ mn : Nat, min (p : Int) (q : Int) = (mn : Int) := ⟨min p q, by omega⟩
  obtain ⟨mx, emx⟩ : ∃ mx : Nat, max (p : Int) (q : Int) = (mx : Int) := ⟨max p q, by omega⟩
  have hmn : ¬ (mn : Int) < 0 := by omega
  have hmx : (mx : Int) < (s.size : Int) := by omega
  have hmn' : decide ((mn : Int) < 0) = false := decide_eq_false hmn
  have hmx' : decide ((s.size : Int) ≤ (mx : Int)) = false := decide_eq_false (by omega)
  have hmx2 : decide (s.size ≤ mx) = false := decide_eq_false (by omega)
  have hpa' : (p : Int) ≤ (s.size : Int) := by omega
  have hpb' : (q : Int) ≤ (s.size : Int) := by omega
  have hi' : (a : Int) < (s.size : Int) := by omega
  have hk' : (b : Int) < (s.size : Int) := by omega
  go_wp2
  go_quiet (fail)
  go_wp2
  go_quiet (fail)
  go_wp2
  have hu : lst (s.extract p s.size) = Sm.X (lst s) a := by rw [lst_drop, HP.out]; rfl
  have hv : lst (s.extract q s.size) = Sm.X (lst s) b := by rw [lst_drop, HQ.out]; rfl
  have zu : (s.extract p s.size).size ≤ 200 := by rw [size_ext]; omega
  have zv : (s.extract q s.size).size ≤ 200 := by rw [size_ext]; omega
  generalize s.extract p s.size = u at hu zu
  generalize s.extract q s.size = v at hv zv
  have HU := hid hu
  have HV := hid hv
  clear hu hv hca hcb emn emx emin emax
  obtain ⟨l, hl⟩ : ∃ l : Nat, min (u.size : Int) (v.size : Int) = (l : Int) := ⟨min u.size v.size, by omega⟩
  have hl2 : l = min u.size v.size := by omega
  have HL2 := hid hl2
  clear hl2
  go_loopw [13] (fun x wr => ∃ k : Nat, k ≤ l ∧ x = .int .i64 (k : Int) ∧ Hid (∀ t, t < k → byt u t = byt v t) ∧ Drew w3 wr) (fun x _ => l - (intOf x).toNat)
  case atStart => exact ⟨0, by omega, rfl, fun t ht => by omega, (Drew.is_ w3 _).more _⟩
  case round =>
    obtain ⟨k, hkl, rfl, hall, hd⟩ := hrel
    have fin : (k = l ∨ byt u k ≠ byt v k) → Hid (k = Sm.lcp (Sm.X (lst s) a) (Sm.X (lst s) b)) := by
      intro h
      have := HL2.out
      refine (Sm.lcp_is (x := Sm.X (lst s) a) (y := Sm.X (lst s) b) (n := k) (by rw [← HU.out, lst_len]; omega) (by rw [← HV.out, lst_len]; omega) (by rw [← HU.out, ← HV.out]; exact hall.out) ?_).symm
      rw [← HU.out, ← HV.out, lst_len, lst_len, lst_get, lst_get]
      rcases h with h | h
      · omega
      · exact .inr (.inr h)
    have hlt1 : k < l → k < u.size ∧ k < v.size := fun h => by have := HL2.out; omega
    by_cases h1 : k < l ∧ byt u k = byt v k
    · obtain ⟨h1, he⟩ := h1
      obtain ⟨h2, h3⟩ := hlt1 h1
      have h1' : (k : Int) < (l : Int) := by omega
      have h2' : (k : Int) < (u.size : Int) := by omega
      have h3' : (k : Int) < (v.size : Int) := by omega
      have heq : ((u[k].toNat : Int) == (v[k].toNat : Int)) = true := by rw [← byt_eq h2, ← byt_eq h3, he]; simp
      have HA : Hid (∀ t, t < k + 1 → byt u t = byt v t) := by
        intro t ht
        by_cases e : t = k
        · subst e; exact he
        · exact hall.out t (by omega)
      obtain ⟨dd, rfl⟩ := hd
      clear he fin
      go_wp2
      go_quiet (fail)
      go_wp2
      go_roundw
      case rel => exact ⟨k + 1, by omega, by go_num, HA, Drew.is_ w3 _⟩
      case measure => simp [intOf]; omega
    · have HF : Hid (k = Sm.lcp (Sm.X (lst s) a) (Sm.X (lst s) b)) := fin (by
        by_cases h2 : k = l
        · exact .inl h2
        · exact .inr fun e => h1 ⟨by omega, e⟩)
      have hlx : Op.bytesLess u.toList v.toList = true := by
        rw [bytesLess_eq, ByteArray.toList_eq, ByteArray.toList_eq]
        refine decide_eq_true ?_
        show lst u < lst v
        rw [HU.out, HV.out]
        exact Sm.X_lt hik (by rw [lst_len]; exact hk)
      obtain ⟨dd, rfl⟩ := hd
      obtain ⟨a1, ha1⟩ : ∃ a1, a1 = a + 1 := ⟨_, rfl⟩
      obtain ⟨b1, hb1⟩ : ∃ b1, b1 = b + 1 := ⟨_, rfl⟩
      have ea1 : (a : Int) + 1 = (a1 : Int) := by omega
      have eb1 : (b : Int) + 1 = (b1 : Int) := by omega
      have ea2 : (a1 : Int) ≤ (b1 : Int) := by omega
      have eb2 : (b1 : Int) ≤ (s.size : Int) := by omega
      have ea3 : (0 : Int) ≤ (a1 : Int) := by omega
      have eb3 : (0 : Int) ≤ (b1 : Int) := by omega
      have ea4 : (a1 : Int) ≤ (s.size : Int) := by omega
      have eaw : IntKind.i64.wrap (a1 : Int) = (a1 : Int) := IntWalk.i64_in _ (by omega)
      have ebw : IntKind.i64.wrap (b1 : Int) = (b1 : Int) := IntWalk.i64_in _ (by omega)
      have hcap : ¬ s.size = a1 := by omega
      have hM : ∀ c W, (∀ k, k < b1 - a1 → W.cell? ⟨B2, a1 + k, none⟩ = some (.int .i64 (Sm.C (lst s) (a1 + k) : Nat))) → Calls Try.prog 20 #[.slice (some ⟨B2, a1, none⟩) (b1 - a1) c] W fun e w' => e = .returned (.int .i64 (k : Int)) ∧ w' = W := by
        intro c W hW
        refine min_is B2 a1 (b1 - a1) c k (fun j => Sm.C (lst s) (a1 + j)) W hW (by omega) (by unfold maxLen; omega) ?_ ?_
        · have hge : ∀ j, j < b1 - a1 → k ≤ Sm.C (lst s) (a1 + j) := fun j hj => by rw [HF.out]; exact Sm.common_le (by omega) (by omega) (by rw [lst_len]; omega)
          by_cases hex : ∃ j, j < b1 - a1 ∧ Sm.C (lst s) (a1 + j) = k
          · exact hex
          · exfalso
            have hall2 : ∀ j, a < j → j ≤ a + ((b - a - 1) + 1) → k + 1 ≤ Sm.C (lst s) j := by
              intro j h1 h2
              have h3 := hge (j - a1) (by omega)
              have h4 : Sm.C (lst s) (a1 + (j - a1)) ≠ k := fun e => hex ⟨j - a1, by omega, e⟩
              rw [show a1 + (j - a1) = j by omega] at h3 h4
              omega
            have := Sm.common_ge (b - a - 1) hall2
            rw [show a + (b - a - 1 + 1) = b by omega, ← HF.out] at this
            omega
        · intro j hj
          rw [HF.out]
          exact Sm.common_le (by omega) (by omega) (by rw [lst_len]; omega)
      have hM2 : ∀ c d, Calls Try.prog 20 #[.slice (some ⟨B2, a1, none⟩) (b1 - a1) c] (w3.drewN d) fun e w' => e = .returned (.int .i64 (k : Int)) ∧ w' = w3.drewN d := fun c d => hM c _ fun j hj => by
        have := HR2.out.cell (i := a1 + j) (by omega)
        unfold cg at this
        exact this
      have HM := hid hM2
      have hkk : ((k : Int) == (k : Int)) = true := by simp
      clear hM hM2 fin HF ha1 hb1 hlt1
      by_cases h2 : k < l
      · have h1' : (k : Int) < (l : Int) := by omega
        have hm := HL2.out
        have h2' : (k : Int) < (u.size : Int) := by omega
        have h3' : (k : Int) < (v.size : Int) := by omega
        have h2s : k < u.size := by omega
        have h3s : k < v.size := by omega
        have heq : ((u[k].toNat : Int) == (v[k].toNat : Int)) = false := by rw [← byt_eq h2s, ← byt_eq h3s]; exact (byte_ne fun e => h1 ⟨h2, e⟩).2
        clear h1 hm
        go_wp2
        go_quiet (fail)
        go_wp2_with fail
        with_reducible refine (HM.out _ _).mono ?_
        rintro e w4 ⟨rfl, rfl⟩
        go_wp2
        go_ret
        exact ⟨rfl, bl_drewN HB.out _⟩
      · have h2d : decide ((k : Int) < (l : Int)) = false := decide_eq_false (by omega)
        have h2e : decide (k < l) = false := decide_eq_false (by omega)
        clear h1
        go_wp2
        go_quiet (fail)
        go_wp2_with fail
        with_reducible refine (HM.out _ _).mono ?_
        rintro e w4 ⟨rfl, rfl⟩
        go_wp2
        go_ret
        exact ⟨rfl, bl_drewN HB.out _⟩
set_option maxHeartbeats 1000000 in
theorem suffixCommon_down (s : ByteArray) (i k : Int) (w : World) (hs : s.size ≤ 200) (h0 : 0 < s.size) (hik : (k % (s.size : Int)).toNat < (i % (s.size : Int)).toNat) :
    Calls Try.prog 4 #[.string s, .int .i64 i, .int .i64 k] w fun e w' => e = .returned (.bool true) ∧ Below w.heap.size w w' := by
  have hne := some_bytes h0
  have hW1 := fun W => within_any i s.size W h0 (by omega)
  have hW2 := fun W => within_any k s.size W h0 (by omega)
  have hi := mod_lt k s.size h0
  have hk := mod_lt i s.size h0
  generalize (k % (s.size : Int)).toNat = a at hik hW2 hi
  generalize (i % (s.size : Int)).toNat = b at hik hW1 hk
  have hpa := sa_size hi
  have hpb := sa_size hk
  go_enter Try.func4, Try.ntmps4
  go_wp2_with fail
  with_reducible refine (ends_any _).mono ?_
  rintro e w1 ⟨rfl, hb1⟩
  go_wp2_with fail
  with_reducible refine (Order_ok s _ hs).mono ?_
  rintro e w2 ⟨B1, rfl, hn1, hr1, hb2⟩
  go_wp2_with fail
  with_reducible refine (Common_ok s _ hs).mono ?_
  rintro e w3 ⟨B2, rfl, hn2, hr2, hb3⟩
  have hca := (hb3.cell (p := ⟨B1, a, none⟩) hr1.lt).trans (hr1.cell hi)
  have hcb := (hb3.cell (p := ⟨B1, b, none⟩) hr1.lt).trans (hr1.cell hk)
  have HR2 := hid hr2
  have HB := hid (bl_then (bl_then hb1 hb2) hb3)
  unfold sg at hca hcb
  clear hr1 hr2 hb1 hb2 hb3
  go_wp2_with fail
  with_reducible refine (hW1 _).mono ?_
  rintro e w4 ⟨rfl, rfl⟩
  go_wp2_with fail
  with_reducible refine (hW2 _).mono ?_
  rintro e w4 ⟨rfl, rfl⟩
  obtain ⟨p, hp⟩ : ∃ p, p = Sm.sa (lst s) a := ⟨_, rfl⟩
  obtain ⟨q, hq⟩ : ∃ q, q = Sm.sa (lst s) b := ⟨_, rfl⟩
  rw [← hp] at hca hpa
  rw [← hq] at hcb hpb
  have HP := hid hp
  have HQ := hid hq
  clear hp hq
  have hab : ¬ (b : Int) < (a : Int) := by omega
  have hab' : (a : Int) < (b : Int) := by omega
  have hab2 : ((b : Int) == (a : Int)) = false := by rw [beq_eq_false_iff_ne]; omega
  have emin : min (b : Int) (a : Int) = (a : Int) := by omega
  have emax : max (b : Int) (a : Int) = (b : Int) := by omega
  obtain ⟨mn, emn⟩ : ∃ mn : Nat, min (p : Int) (q : Int) = (mn : Int) := ⟨min p q, by omega⟩
  obtain ⟨mx, emx⟩ : ∃ mx : Nat, max (p : Int) (q : Int) = (mx : Int) := ⟨max p q, by omega⟩
  have hmn : ¬ (mn : Int) < 0 := by omega
  have hmx : (mx : Int) < (s.size : Int) := by omega
  have hmn' : decide ((mn : Int) < 0) = false := decide_eq_false hmn
  have hmx' : decide ((s.size : Int) ≤ (mx : Int)) = false := decide_eq_false (by omega)
  have hmx2 : decide (s.size ≤ mx) = false := decide_eq_false (by omega)
  have hpa' : (p : Int) ≤ (s.size : Int) := by omega
  have hpb' : (q : Int) ≤ (s.size : Int) := by omega
  have hi' : (a : Int) < (s.size : Int) := by omega
  have hk' : (b : Int) < (s.size : Int) := by omega
  go_wp2
  go_quiet (fail)
  go_wp2
  go_quiet (fail)
  go_wp2
  have hu : lst (s.extract p s.size) = Sm.X (lst s) a := by rw [lst_drop, HP.out]; rfl
  have hv : lst (s.extract q s.size) = Sm.X (lst s) b := by rw [lst_drop, HQ.out]; rfl
  have zu : (s.extract p s.size).size ≤ 200 := by rw [size_ext]; omega
  have zv : (s.extract q s.size).size ≤ 200 := by rw [size_ext]; omega
  generalize s.extract p s.size = u at hu zu
  generalize s.extract q s.size = v at hv zv
  have HU := hid hu
  have HV := hid hv
  clear hu hv hca hcb emn emx emin emax
  obtain ⟨l, hl⟩ : ∃ l : Nat, min (u.size : Int) (v.size : Int) = (l : Int) := ⟨min u.size v.size, by omega⟩
  have hl2 : l = min u.size v.size := by omega
  have HL2 := hid hl2
  clear hl2
  go_loopw [13] (fun x wr => ∃ k : Nat, k ≤ l ∧ x = .int .i64 (k : Int) ∧ Hid (∀ t, t < k → byt u t = byt v t) ∧ Drew w3 wr) (fun x _ => l - (intOf x).toNat)
  case atStart => exact ⟨0, by omega, rfl, fun t ht => by omega, (Drew.is_ w3 _).more _⟩
  case round =>
    obtain ⟨k, hkl, rfl, hall, hd⟩ := hrel
    have fin : (k = l ∨ byt u k ≠ byt v k) → Hid (k = Sm.lcp (Sm.X (lst s) a) (Sm.X (lst s) b)) := by
      intro h
      have := HL2.out
      refine (Sm.lcp_is (x := Sm.X (lst s) a) (y := Sm.X (lst s) b) (n := k) (by rw [← HU.out, lst_len]; omega) (by rw [← HV.out, lst_len]; omega) (by rw [← HU.out, ← HV.out]; exact hall.out) ?_).symm
      rw [← HU.out, ← HV.out, lst_len, lst_len, lst_get, lst_get]
      rcases h with h | h
      · omega
      · exact .inr (.inr h)
    have hlt1 : k < l → k < u.size ∧ k < v.size := fun h => by have := HL2.out; omega
    by_cases h1 : k < l ∧ byt u k = byt v k
    · obtain ⟨h1, he⟩ := h1
      obtain ⟨h2, h3⟩ := hlt1 h1
      have h1' : (k : Int) < (l : Int) := by omega
      have h2' : (k : Int) < (u.size : Int) := by omega
      have h3' : (k : Int) < (v.size : Int) := by omega
      have heq : ((u[k].toNat : Int) == (v[k].toNat : Int)) = true := by rw [← byt_eq h2, ← byt_eq h3, he]; simp
      have HA : Hid (∀ t, t < k + 1 → byt u t = byt v t) := by
        intro t ht
        by_cases e : t = k
        · subst e; exact he
        · exact hall.out t (by omega)
      obtain ⟨dd, rfl⟩ := hd
      clear he fin
      go_wp2
      go_quiet (fail)
      go_wp2
      go_roundw
      case rel => exact ⟨k + 1, by omega, by go_num, HA, Drew.is_ w3 _⟩
      case measure => simp [intOf]; omega
    · have HF : Hid (k = Sm.lcp (Sm.X (lst s) a) (Sm.X (lst s) b)) := fin (by
        by_cases h2 : k = l
        · exact .inl h2
        · exact .inr fun e => h1 ⟨by omega, e⟩)
      have hlx : Op.bytesLess u.toList v.toList = true := by
        rw [bytesLess_eq, ByteArray.toList_eq, ByteArray.toList_eq]
        refine decide_eq_true ?_
        show lst u < lst v
        rw [HU.out, HV.out]
        exact Sm.X_lt hik (by rw [lst_len]; exact hk)
      obtain ⟨dd, rfl⟩ := hd
      obtain ⟨a1, ha1⟩ : ∃ a1, a1 = a + 1 := ⟨_, rfl⟩
      obtain ⟨b1, hb1⟩ : ∃ b1, b1 = b + 1 := ⟨_, rfl⟩
      have ea1 : (a : Int) + 1 = (a1 : Int) := by omega
      have eb1 : (b : Int) + 1 = (b1 : Int) := by omega
      have ea2 : (a1 : Int) ≤ (b1 : Int) := by omega
      have eb2 : (b1 : Int) ≤ (s.size : Int) := by omega
      have ea3 : (0 : Int) ≤ (a1 : Int) := by omega
      have eb3 : (0 : Int) ≤ (b1 : Int) := by omega
      have ea4 : (a1 : Int) ≤ (s.size : Int) := by omega
      have eaw : IntKind.i64.wrap (a1 : Int) = (a1 : Int) := IntWalk.i64_in _ (by omega)
      have ebw : IntKind.i64.wrap (b1 : Int) = (b1 : Int) := IntWalk.i64_in _ (by omega)
      have hcap : ¬ s.size = a1 := by omega
      have hM : ∀ c W, (∀ k, k < b1 - a1 → W.cell? ⟨B2, a1 + k, none⟩ = some (.int .i64 (Sm.C (lst s) (a1 + k) : Nat))) → Calls Try.prog 20 #[.slice (some ⟨B2, a1, none⟩) (b1 - a1) c] W fun e w' => e = .returned (.int .i64 (k : Int)) ∧ w' = W := by
        intro c W hW
        refine min_is B2 a1 (b1 - a1) c k (fun j => Sm.C (lst s) (a1 + j)) W hW (by omega) (by unfold maxLen; omega) ?_ ?_
        · have hge : ∀ j, j < b1 - a1 → k ≤ Sm.C (lst s) (a1 + j) := fun j hj => by rw [HF.out]; exact Sm.common_le (by omega) (by omega) (by rw [lst_len]; omega)
          by_cases hex : ∃ j, j < b1 - a1 ∧ Sm.C (lst s) (a1 + j) = k
          · exact hex
          · exfalso
            have hall2 : ∀ j, a < j → j ≤ a + ((b - a - 1) + 1) → k + 1 ≤ Sm.C (lst s) j := by
              intro j h1 h2
              have h3 := hge (j - a1) (by omega)
              have h4 : Sm.C (lst s) (a1 + (j - a1)) ≠ k := fun e => hex ⟨j - a1, by omega, e⟩
              rw [show a1 + (j - a1) = j by omega] at h3 h4
              omega
            have := Sm.common_ge (b - a - 1) hall2
            rw [show a + (b - a - 1 + 1) = b by omega, ← HF.out] at this
            omega
        · intro j hj
          rw [HF.out]
          exact Sm.common_le (by omega) (by omega) (by rw [lst_len]; omega)
      have hM2 : ∀ c d, Calls Try.prog 20 #[.slice (some ⟨B2, a1, none⟩) (b1 - a1) c] (w3.drewN d) fun e w' => e = .returned (.int .i64 (k : Int)) ∧ w' = w3.drewN d := fun c d => hM c _ fun j hj => by
        have := HR2.out.cell (i := a1 + j) (by omega)
        unfold cg at this
        exact this
      have HM := hid hM2
      have hkk : ((k : Int) == (k : Int)) = true := by simp
      clear hM hM2 fin HF ha1 hb1 hlt1
      by_cases h2 : k < l
      · have h1' : (k : Int) < (l : Int) := by omega
        have hm := HL2.out
        have h2' : (k : Int) < (u.size : Int) := by omega
        have h3' : (k : Int) < (v.size : Int) := by omega
        have h2s : k < u.size := by omega
        have h3s : k < v.size := by omega
        have heq : ((u[k].toNat : Int) == (v[k].toNat : Int)) = false := by rw [← byt_eq h2s, ← byt_eq h3s]; exact (byte_ne fun e => h1 ⟨h2, e⟩).2
        clear h1 hm
        go_wp2
        go_quiet (fail)
        go_wp2_with fail
        with_reducible refine (HM.out _ _).mono ?_
        rintro e w4 ⟨rfl, rfl⟩
        go_wp2
        go_ret
        exact ⟨rfl, bl_drewN HB.out _⟩
      · have h2d : decide ((k : Int) < (l : Int)) = false := decide_eq_false (by omega)
        have h2e : decide (k < l) = false := decide_eq_false (by omega)
        clear h1
        go_wp2
        go_quiet (fail)
        go_wp2_with fail
        with_reducible refine (HM.out _ _).mono ?_
        rintro e w4 ⟨rfl, rfl⟩
        go_wp2
        go_ret
        exact ⟨rfl, bl_drewN HB.out _⟩
theorem suffixCommon_same (s : ByteArray) (i k : Int) (w : World) (hs : s.size ≤ 200) (h0 : 0 < s.size) (hik : (k % (s.size : Int)).toNat = (i % (s.size : Int)).toNat) :
    Calls Try.prog 4 #[.string s, .int .i64 i, .int .i64 k] w fun e w' => e = .returned (.bool true) ∧ Below w.heap.size w w' := by
  have hne := some_bytes h0
  have hW1 := fun W => within_any i s.size W h0 (by omega)
  have hW2 := fun W => within_any k s.size W h0 (by omega)
  have hi := mod_lt i s.size h0
  rw [hik] at hW2
  clear hik
  generalize (i % (s.size : Int)).toNat = a at hW1 hW2 hi
  have hpa := sa_size hi
  go_enter Try.func4, Try.ntmps4
  go_wp2_with fail
  with_reducible refine (ends_any _).mono ?_
  rintro e w1 ⟨rfl, hb1⟩
  go_wp2_with fail
  with_reducible refine (Order_ok s _ hs).mono ?_
  rintro e w2 ⟨B1, rfl, hn1, hr1, hb2⟩
  go_wp2_with fail
  with_reducible refine (Common_ok s _ hs).mono ?_
  rintro e w3 ⟨B2, rfl, hn2, hr2, hb3⟩
  have hca := (hb3.cell (p := ⟨B1, a, none⟩) hr1.lt).trans (hr1.cell hi)
  have HB := hid (bl_then (bl_then hb1 hb2) hb3)
  unfold sg at hca
  clear hr1 hr2 hb1 hb2 hb3
  go_wp2_with fail
  with_reducible refine (hW1 _).mono ?_
  rintro e w4 ⟨rfl, rfl⟩
  go_wp2_with fail
  with_reducible refine (hW2 _).mono ?_
  rintro e w4 ⟨rfl, rfl⟩
  generalize Sm.sa (lst s) a = p at hca hpa
  have hab2 : ((a : Int) == (a : Int)) = true := by simp
  have h1 : (0 : Int) ≤ (p : Int) := by omega
  have h2 : (p : Int) < (s.size : Int) := by omega
  have hi' : (a : Int) < (s.size : Int) := by omega
  go_wp2
  go_ret
  exact ⟨rfl, HB.out⟩
theorem suffixCommon_walk (s : ByteArray) (i k : Int) (_ : s.size ≤ maxLen) (_ : (Lit.int .i64 i).wf = true) (_ : (Lit.int .i64 k).wf = true) (w : World) :
    Calls Try.prog 4 #[.string s, .int .i64 i, .int .i64 k] w fun e w' => e = .returned (.bool true) ∧ Below w.heap.size w w' := by
  by_cases hs : s.size ≤ 200
  · rcases Nat.eq_zero_or_pos s.size with h0 | h0
    · exact suffixCommon_empty s i k w h0
    · rcases Nat.lt_trichotomy (i % (s.size : Int)).toNat (k % (s.size : Int)).toNat with h | h | h
      · exact suffixCommon_up s i k w hs h0 h
      · exact suffixCommon_same s i k w hs h0 h.symm
      · exact suffixCommon_down s i k w hs h0 h
  · exact suffixCommon_large s i k w (by omega)
end Go.Proofs.Ytcnfdmpggnhlgaa
