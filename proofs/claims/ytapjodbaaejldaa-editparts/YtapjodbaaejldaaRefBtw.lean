
/-
The contracts of quillref.Alike (at any two texts) and Between.
-/
import Derived.Test.YtapjodbaaejldaaBtwMath
import Derived.Test.YtapjodbaaejldaaEvRow
import Derived.Test.YtapjodbaaejldaaApp
namespace Go.Proofs.Ytapjodbaaejldaa
open Go.RowKit

set_option maxHeartbeats 1000000 in
theorem alikeCp_any (u v : ByteArray) (w : World) (hu : u.size ≤ 1000) :
    Calls Try.prog 65 #[.string u, .string v] w fun e w' => e = .returned (.int .i64 (Es.cp (lst u) (lst v) : Nat)) ∧ Drew w w' := by
  obtain ⟨l, hl2⟩ : ∃ l, l = min u.size v.size := ⟨_, rfl⟩
  have hl : min (u.size : Int) (v.size : Int) = (l : Int) := by omega
  have hl3 : (if v.size < u.size then (v.size : Int) else (u.size : Int)) = (l : Int) := by split <;> omega
  have HL2 := hid hl2
  clear hl2
  go_enter Try.func65, Try.ntmps65
  go_wp2
  go_loopw [5] (fun x wr => ∃ k : Nat, k ≤ l ∧ x = .int .i64 (k : Int) ∧ Hid (∀ t, t < k → byt u t = byt v t) ∧ Drew w wr) (fun x _ => l - (intOf x).toNat)
  case atStart => exact ⟨0, by omega, rfl, fun t ht => by omega, Drew.refl _⟩
  case round =>
    obtain ⟨k, hkl, rfl, hall, dd, rfl⟩ := hrel
    have fin : (k = l ∨ byt u k ≠ byt v k) → Hid (Es.cp (lst u) (lst v) = k) := by
      intro h
      have := HL2.out
      refine Es.cp_is (by rw [lst_len]; omega) (by rw [lst_len]; omega) hall.out ?_
      rw [lst_len, lst_len]
      rcases h with h | h
      · omega
      · exact .inr (.inr h)
    have hlt1 : k < l → k < u.size ∧ k < v.size := fun h => by have := HL2.out; omega
    by_cases h1 : k < l
    · obtain ⟨h2, h3⟩ := hlt1 h1
      have h1' : (k : Int) < (l : Int) := by omega
      have h2' : (k : Int) < (u.size : Int) := by omega
      have h3' : (k : Int) < (v.size : Int) := by omega
      clear hlt1
      by_cases he : byt u k = byt v k
      · have heq : ((u[k].toNat : Int) == (v[k].toNat : Int)) = true := by rw [← byt_eq h2, ← byt_eq h3, he]; simp
        have HA : Hid (∀ t, t < k + 1 → byt u t = byt v t) := by
          intro t ht
          by_cases e : t = k
          · subst e; exact he
          · exact hall.out t (by omega)
        clear he fin
        go_wp2
        go_quiet (fail)
        go_wp2
        go_roundw
        case rel => exact ⟨k + 1, by omega, by go_num, HA, Drew.is_ w _⟩
        case measure => simp [intOf]; omega
      · have heq : ((u[k].toNat : Int) == (v[k].toNat : Int)) = false := by rw [← byt_eq h2, ← byt_eq h3]; exact (byte_ne he).2
        have HF := fin (.inr he)
        clear he fin
        go_wp2
        go_quiet (fail)
        go_wp2
        go_ret
        exact ⟨by rw [HF.out]; rfl, (Drew.is_ w _).more _⟩
    · have HF := fin (.inl (by omega))
      have h1' : decide ((k : Int) < (l : Int)) = false := decide_eq_false (by omega)
      clear fin hlt1
      go_wp2
      go_quiet (fail)
      go_wp2
      go_ret
      exact ⟨by rw [HF.out]; rfl, (Drew.is_ w _).more _⟩
/-- The one edit between, by the strings that are left. -/
theorem btw_is {s t a b : ByteArray} {i k : Nat} (hi : i = Es.cp (lst s) (lst t)) (ha : a = s.extract i s.size) (hb : b = t.extract i t.size) (hk : Es.cs (lst a) (lst b) = k) : Es.btw (lst s) (lst t) = ⟨(i : Int), ((a.size - k : Nat) : Int), b.extract 0 (b.size - k)⟩ := by
  have hla : lst a = (lst s).drop i := by rw [ha, lst_drop]
  have hlb : lst b = (lst t).drop i := by rw [hb, lst_drop]
  have e1 : Es.bi (lst s) (lst t) = i := hi.symm
  have e2 : Es.bj (lst s) (lst t) = k := by
    unfold Es.bj
    rw [e1, ← hla, ← hlb, hk]
  have za : a.size = (lst s).length - i := by rw [← lst_len, hla, List.length_drop]
  have zb : b.size = (lst t).length - i := by rw [← lst_len, hlb, List.length_drop]
  unfold Es.btw
  rw [e1, e2, ← hlb, za, zb]
  refine Es.Ev.eq rfl rfl ?_
  show mkS _ = _
  apply lst_inj_
  rw [lst_mk, lst_mid, List.drop_zero, Nat.sub_zero]
/-- What Between answers: a row of one edit, or none. -/
def BtwPost (s t : ByteArray) (w : World) (e : Ending) (w' : World) : Prop :=
  ∃ (A : Option Addr) (m c : Nat), e = .returned (.slice A m c) ∧ m ≤ c ∧ ((s = t ∧ m = 0) ∨ (s ≠ t ∧ m = 1)) ∧ EvRow w' A m (fun _ => Es.btw (lst s) (lst t)) ∧ Below w.heap.size w w'
set_option maxHeartbeats 2000000 in
theorem Between_any (s t : ByteArray) (w : World) (hs : s.size ≤ 200) (ht : t.size ≤ 200) :
    Calls Try.prog 26 #[.string s, .string t] w (BtwPost s t w) := by
  by_cases hst : s = t
  · have h1 : (s.toList == t.toList) = true := by rw [hst]; simp
    have HST := hid hst
    clear hst
    go_enter Try.func26, Try.ntmps26
    go_wp2
    go_ret
    exact ⟨none, 0, 0, rfl, by omega, .inl ⟨HST.out, rfl⟩, fun k hk => by omega, Below.refl _ _⟩
  · have h1 : (s.toList == t.toList) = false := beq_eq_false_iff_ne.2 fun e => hst (list_eq.1 e)
    have HST := hid hst
    obtain ⟨i, hi⟩ : ∃ i, i = Es.cp (lst s) (lst t) := ⟨_, rfl⟩
    have hile := Es.cp_le (lst s) (lst t)
    rw [lst_len, lst_len, ← hi] at hile
    have HI := hid hi
    have hi1 : (i : Int) ≤ (s.size : Int) := by omega
    have hi2 : (i : Int) ≤ (t.size : Int) := by omega
    have hi0 : (0 : Int) ≤ (i : Int) := by omega
    obtain ⟨a, ha⟩ : ∃ a, a = s.extract i s.size := ⟨_, rfl⟩
    obtain ⟨b, hb⟩ : ∃ b, b = t.extract i t.size := ⟨_, rfl⟩
    have haz : a.size = s.size - i := by rw [ha, size_ext]; omega
    have hbz : b.size = t.size - i := by rw [hb, size_ext]; omega
    have HA := hid ha
    have HB := hid hb
    clear hst hi
    go_enter Try.func26, Try.ntmps26
    go_wp2_with fail
    with_reducible refine (alikeCp_any s t _ (by omega)).mono ?_
    rintro e w1 ⟨he, hd⟩
    rw [← HI.out] at he
    subst he
    have HD := hid hd
    clear hd
    go_wp2
    go_quiet (fail)
    rw [← HA.out, ← HB.out]
    have HD2 := HD.out.more
    have HDD := hid HD2
    clear HD HD2 ha hb
    obtain ⟨l, hl2⟩ : ∃ l, l = min a.size b.size := ⟨_, rfl⟩
    have hl : min (a.size : Int) (b.size : Int) = (l : Int) := by omega
    have hl3 : (if b.size < a.size then (b.size : Int) else (a.size : Int)) = (l : Int) := by split <;> omega
    have HL2 := hid hl2
    have haz200 : a.size ≤ 200 := by omega
    have hbz200 : b.size ≤ 200 := by omega
    clear hl2 haz hbz
    go_wp2
    go_loopw [8] (fun x wr => ∃ k : Nat, k ≤ l ∧ x = .int .i64 (k : Int) ∧ Hid (∀ j, j < k → byt a (a.size - 1 - j) = byt b (b.size - 1 - j)) ∧ Drew w wr) (fun x _ => l - (intOf x).toNat)
    case atStart => exact ⟨0, by omega, rfl, fun t ht => by omega, HDD.out _⟩
    case round =>
      clear HDD
      obtain ⟨k, hkl, rfl, hall, dd, rfl⟩ := hrel
      have fin : (k = l ∨ byt a (a.size - 1 - k) ≠ byt b (b.size - 1 - k)) → Hid (Es.cs (lst a) (lst b) = k) := by
        intro h
        have := HL2.out
        refine Es.cs_is (by rw [lst_len]; omega) (by rw [lst_len]; omega) (fun j hj => by rw [lst_len, lst_len]; exact hall.out j hj) ?_
        rw [lst_len, lst_len]
        rcases h with h | h
        · omega
        · exact .inr (.inr h)
      have hk1 : k < l → k < a.size ∧ k < b.size := fun h => by have := HL2.out; omega
      have hkl2 : k ≤ a.size ∧ k ≤ b.size := by have := HL2.out; omega
      by_cases h1 : k < l
      · obtain ⟨h2, h3⟩ := hk1 h1
        have h1' : (k : Int) < (l : Int) := by omega
        obtain ⟨p, hp⟩ : ∃ p, p = a.size - 1 - k := ⟨_, rfl⟩
        obtain ⟨q, hq⟩ : ∃ q, q = b.size - 1 - k := ⟨_, rfl⟩
        have hpa : p < a.size := by omega
        have hqb : q < b.size := by omega
        have hp' : (p : Int) < (a.size : Int) := by omega
        have hq' : (q : Int) < (b.size : Int) := by omega
        have hp0 : (0 : Int) ≤ (p : Int) := by omega
        have hq0 : (0 : Int) ≤ (q : Int) := by omega
        obtain ⟨a1, ha1⟩ : ∃ a1, a1 = a.size - 1 := ⟨_, rfl⟩
        obtain ⟨b1, hb1⟩ : ∃ b1, b1 = b.size - 1 := ⟨_, rfl⟩
        have ea1 : (a.size : Int) - 1 = (a1 : Int) := by omega
        have eb1 : (b.size : Int) - 1 = (b1 : Int) := by omega
        have ea2 : (a1 : Int) - (k : Int) = (p : Int) := by omega
        have eb2 : (b1 : Int) - (k : Int) = (q : Int) := by omega
        have wa1 : IntKind.i64.wrap (a1 : Int) = (a1 : Int) := IntWalk.i64_in _ (by omega)
        have wb1 : IntKind.i64.wrap (b1 : Int) = (b1 : Int) := IntWalk.i64_in _ (by omega)
        have wp : IntKind.i64.wrap (p : Int) = (p : Int) := IntWalk.i64_in _ (by omega)
        have wq : IntKind.i64.wrap (q : Int) = (q : Int) := IntWalk.i64_in _ (by omega)
        rw [← hp, ← hq] at fin
        by_cases he : byt a p = byt b q
        · have heq : ((a[p].toNat : Int) == (b[q].toNat : Int)) = true := by rw [← byt_eq hpa, ← byt_eq hqb, he]; simp
          have HALL : Hid (∀ j, j < k + 1 → byt a (a.size - 1 - j) = byt b (b.size - 1 - j)) := by
            intro j hj
            by_cases e : j = k
            · rw [e, ← hp, ← hq]; exact he
            · exact hall.out j (by omega)
          clear he fin hk1 hp hq ha1 hb1
          go_wp2
          go_quiet (fail)
          go_wp2
          go_roundw
          case rel => exact ⟨k + 1, by omega, by go_num, HALL, Drew.is_ w _⟩
          case measure => simp [intOf]; omega
        · have heq : ((a[p].toNat : Int) == (b[q].toNat : Int)) = false := by rw [← byt_eq hpa, ← byt_eq hqb]; exact (byte_ne he).2
          have HF := fin (.inr he)
          have HX := btw_is HI.out HA.out HB.out HF.out
          obtain ⟨da, hda⟩ : ∃ da, da = a.size - k := ⟨_, rfl⟩
          obtain ⟨db, hdb⟩ : ∃ db, db = b.size - k := ⟨_, rfl⟩
          have eda : (a.size : Int) - (k : Int) = (da : Int) := by omega
          have edb : (b.size : Int) - (k : Int) = (db : Int) := by omega
          have wda : IntKind.i64.wrap (da : Int) = (da : Int) := IntWalk.i64_in _ (by omega)
          have wdb : IntKind.i64.wrap (db : Int) = (db : Int) := IntWalk.i64_in _ (by omega)
          have hdb0 : (0 : Int) ≤ (db : Int) := by omega
          have hdb1 : (db : Int) ≤ (b.size : Int) := by omega
          rw [← hda, ← hdb] at HX
          have HXX := hid HX
          clear he fin hk1 hp hq ha1 hb1 HX hda hdb HF hall
          go_wp2
          go_quiet (fail)
          go_wp2
          go_ret
          refine ⟨_, 1, 1, rfl, by omega, .inr ⟨HST.out, rfl⟩, ?_, ?_⟩
          · rw [HXX.out]
            exact EvRow.one _ ⟨(i : Int), (da : Int), b.extract 0 db⟩ _ _ rfl
          · exact (bl_drewN (Below.refl w.heap.size w) _).alloc (Nat.le_refl _) _
      · have HF := fin (.inl (by omega))
        have h1' : decide ((k : Int) < (l : Int)) = false := decide_eq_false (by omega)
        have HX := btw_is HI.out HA.out HB.out HF.out
        obtain ⟨da, hda⟩ : ∃ da, da = a.size - k := ⟨_, rfl⟩
        obtain ⟨db, hdb⟩ : ∃ db, db = b.size - k := ⟨_, rfl⟩
        have eda : (a.size : Int) - (k : Int) = (da : Int) := by omega
        have edb : (b.size : Int) - (k : Int) = (db : Int) := by omega
        have wda : IntKind.i64.wrap (da : Int) = (da : Int) := IntWalk.i64_in _ (by omega)
        have wdb : IntKind.i64.wrap (db : Int) = (db : Int) := IntWalk.i64_in _ (by omega)
        have hdb0 : (0 : Int) ≤ (db : Int) := by omega
        have hdb1 : (db : Int) ≤ (b.size : Int) := by omega
        rw [← hda, ← hdb] at HX
        have HXX := hid HX
        clear fin hk1 HX hda hdb HF hall
        go_wp2
        go_quiet (fail)
        go_wp2
        go_ret
        refine ⟨_, 1, 1, rfl, by omega, .inr ⟨HST.out, rfl⟩, ?_, ?_⟩
        · rw [HXX.out]
          exact EvRow.one _ ⟨(i : Int), (da : Int), b.extract 0 db⟩ _ _ rfl
        · exact (bl_drewN (Below.refl w.heap.size w) _).alloc (Nat.le_refl _) _
end Go.Proofs.Ytapjodbaaejldaa
