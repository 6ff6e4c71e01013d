
/-
The contract of lyndon.Split: Lyndon words, none less than a following one, that together are the word.
-/
import Derived.Test.YtapjodbaaejldaaLead
namespace Go.Proofs.Ytapjodbaaejldaa
namespace Lm
theorem Sl.congr {f f' h h' : Nat → Nat} {n m : Nat} (e1 : ∀ i, i < n → f i = f' i) (e2 : ∀ i, i < m → h i = h' i) (p : Sl f n h m) : Sl f' n h' m := by
  obtain ⟨d, h1, h2, h3, h4⟩ := p
  refine ⟨d, h1, h2, fun i hi => ?_, ?_⟩
  · rw [← e1 i (by omega), ← e2 i (by omega)]; exact h3 i hi
  · rcases h4 with h4 | ⟨h4, h5⟩
    · exact .inl h4
    · exact .inr ⟨h4, by rw [← e1 d h4, ← e2 d h2]; exact h5⟩
theorem split_lyn {l : List UInt8} {p m : Nat} (h : Dn (bn l) l.length p m) : Lyn (l.take p) := by
  have h1 := h.pe
  have h2 := h.en
  unfold Lyn
  rw [List.length_take, Nat.min_eq_left (by omega)]
  exact h.lyn.congr fun i hi => (bn_take hi).symm
theorem split_word {l : List UInt8} {p m k : Nat} (h : Dn (bn l) l.length p m) (hk : k < m / p) : k * p + p ≤ l.length ∧ (l.drop (k * p)).take p = l.take p := by
  obtain ⟨h1, h2, h3, h4, h5, h6⟩ := h.rest
  have hen := h.en
  have hk2 : (k + 1) * p ≤ m / p * p := Nat.mul_le_mul_right p hk
  rw [Nat.add_mul, Nat.one_mul] at hk2
  refine ⟨by omega, ?_⟩
  refine bn_ext (by rw [List.length_take, List.length_take, List.length_drop]; omega) fun i hi => ?_
  rw [List.length_take] at hi
  rw [bn_take (by omega), bn_take (by omega), bn_drop, h.mod _ (by omega), mod_add _ _ _ (by omega)]
theorem split_low {l : List UInt8} {p m : Nat} (h : Dn (bn l) l.length p m) (q : Nat) : ¬ l.take p < (l.drop (m / p * p)).take q := by
  rw [lt_iff]
  intro hc
  obtain ⟨h1, h2, h3, h4, h5, h6⟩ := h.rest
  have hen := h.en
  have hpe := h.pe
  rw [List.length_take, Nat.min_eq_left (by omega), List.length_take, List.length_drop] at hc
  refine h.falls (q := min q (l.length - m / p * p)) (by omega) ?_
  refine hc.congr (fun i hi => bn_take hi) fun i hi => ?_
  rw [bn_take (by omega), bn_drop]
end Lm
open Go.RowKit

def strLen : Value → Nat
  | .string s => s.size
  | _ => 0
/-- What Split knows with r to go: the words so far, and that none of them is less than a front of r. -/
structure Cut (s r : ByteArray) (N : List ByteArray) : Prop where
  fact : ∃ pre, Lm.Fact pre (N.map wd) ∧ pre ++ wd r = wd s
  low : ∀ a, a ∈ N → ∀ q, ¬ wd a < (wd r).take q
/-- And while it takes the k-th repetition of the first word of r0. -/
structure CutIn (s r0 r : ByteArray) (p k : Nat) (N : List ByteArray) : Prop where
  fact : ∃ pre, Lm.Fact pre (N.map wd) ∧ pre ++ wd r = wd s
  low : ∀ a, a ∈ N → ¬ wd a < (wd r0).take p
  at_ : wd r = (wd r0).drop (k * p)
theorem Cut.many {s r : ByteArray} {N : List ByteArray} (h : Cut s r N) : N.length ≤ s.size := by
  obtain ⟨pre, h1, h2⟩ := h.fact
  have h3 := h1.many
  have h4 := congrArg List.length h2
  rw [List.length_append, wd_len, wd_len] at h4
  rw [List.length_map] at h3
  omega
theorem CutIn.many {s r0 r : ByteArray} {p k : Nat} {N : List ByteArray} (h : CutIn s r0 r p k N) : N.length ≤ s.size := by
  obtain ⟨pre, h1, h2⟩ := h.fact
  have h3 := h1.many
  have h4 := congrArg List.length h2
  rw [List.length_append, wd_len, wd_len] at h4
  rw [List.length_map] at h3
  omega
theorem cut_start (s : ByteArray) : Cut s s [] := ⟨⟨[], Lm.fact_nil, rfl⟩, fun a ha => by simp at ha⟩
theorem Cut.in_ {s r : ByteArray} {N : List ByteArray} (h : Cut s r N) (p : Nat) : CutIn s r r p 0 N := ⟨h.fact, fun a ha => h.low a ha p, by simp⟩
theorem dn_wd {r : ByteArray} {p m : Nat} (h : Lm.Dn (Lm.bn (wd r)) r.size p m) : Lm.Dn (Lm.bn (wd r)) (wd r).length p m := by rw [wd_len]; exact h
theorem CutIn.next {s r0 r : ByteArray} {p m k : Nat} {N : List ByteArray} (h : CutIn s r0 r p k N) (hD : Lm.Dn (Lm.bn (wd r0)) r0.size p m) (hk : k < m / p) :
    CutIn s r0 (r.extract p r.size) p (k + 1) (N ++ [r.extract 0 p]) := by
  obtain ⟨h1, h2⟩ := Lm.split_word (dn_wd hD) hk
  have hw : wd (r.extract 0 p) = (wd r0).take p := by rw [wd_take, h.at_, h2]
  refine ⟨?_, ?_, ?_⟩
  · obtain ⟨pre, g1, g2⟩ := h.fact
    refine ⟨pre ++ wd (r.extract 0 p), ?_, ?_⟩
    · rw [List.map_append, List.map_singleton, hw]
      refine g1.more (Lm.split_lyn (dn_wd hD)) fun a ha => ?_
      obtain ⟨b, hb, rfl⟩ := List.mem_map.1 ha
      exact h.low b hb
    · rw [wd_take, wd_drop, List.append_assoc, List.take_append_drop, g2]
  · intro a ha
    rcases List.mem_append.1 ha with ha | ha
    · exact h.low a ha
    · rw [List.mem_singleton.1 ha, hw]; exact Lm.irr _
  · rw [wd_drop, h.at_, List.drop_drop, Nat.add_mul, Nat.one_mul]
theorem CutIn.done {s r0 r : ByteArray} {p m : Nat} {N : List ByteArray} (h : CutIn s r0 r p (m / p) N) (hD : Lm.Dn (Lm.bn (wd r0)) r0.size p m) : Cut s r N ∧ r.size < r0.size := by
  obtain ⟨h1, h2, h3, h4, h5, h6⟩ := hD.rest
  have hen := hD.en
  have hp := hD.p0
  refine ⟨⟨h.fact, fun a ha q => ?_⟩, ?_⟩
  · rw [h.at_]
    exact Lm.le_tr (Lm.split_low (dn_wd hD) q) (h.low a ha)
  · have := congrArg List.length h.at_
    rw [wd_len, List.length_drop, wd_len] at this
    omega
theorem CutIn.room {s r0 r : ByteArray} {p m k : Nat} {N : List ByteArray} (h : CutIn s r0 r p k N) (hD : Lm.Dn (Lm.bn (wd r0)) r0.size p m) (hk : k < m / p) : p ≤ r.size := by
  obtain ⟨h1, h2⟩ := Lm.split_word (dn_wd hD) hk
  have := congrArg List.length h.at_
  rw [wd_len, List.length_drop] at this
  omega

def RetSplit (s : ByteArray) (w : World) (e : Ending) (w' : World) : Prop :=
  ∃ (A : Option Addr) (c : Nat) (N : List ByteArray), e = .returned (.tuple #[.slice A N.length c, .int .i64 0]) ∧ N.length ≤ c ∧ SRow w' A N.length (fun k => N.getD k ByteArray.empty) ∧ Lm.Fact (wd s) (N.map wd) ∧ N.length ≤ s.size ∧ Below w.heap.size w w'
set_option maxHeartbeats 1000000 in
theorem Split_ok (s : ByteArray) (w : World) (hs : s.size ≤ 200) : Calls Try.prog 46 #[.string s] w (RetSplit s w) := by
  go_enter Try.func46, Try.ntmps46
  go_wp2_with fail
  with_reducible refine (check_ok s _ hs).mono ?_
  rintro e w1 ⟨rfl, rfl⟩
  go_wp2
  go_loopw [0, 5] (fun x v wr => ∃ (r : ByteArray) (N : List ByteArray), r.size ≤ 200 ∧ x = .string r ∧ Hid (Cut s r N) ∧ Hid (OwnS wr w.heap.size v N) ∧ Below w.heap.size w wr) (fun x _ _ => strLen x)
  case atStart => exact ⟨s, [], hs, rfl, hid (cut_start s), hid (OwnS.zero _ _), Below.refl _ _⟩
  case round =>
    obtain ⟨r, N, hr, rfl, HC, HO, hbel⟩ := hrel
    by_cases h0 : 0 < r.size
    · have hne := some_bytes h0
      go_wp2_with fail
      with_reducible refine (lead_any r _ (by omega) h0).mono ?_
      rintro e w1 ⟨⟨p, m, hD, rfl⟩, d, rfl⟩
      have HD := hid hD
      have hmt : m / p ≤ 200 := by have := hD.en; have := Nat.div_le_self m p; omega
      have hmp : p ≤ 200 := by have := hD.en; have := hD.pe; omega
      obtain ⟨t, ht⟩ : ∃ t, t = m / p := ⟨_, rfl⟩
      rw [← ht] at hmt ⊢
      have HT := hid ht
      clear hD ht
      have HI := hid (HC.out.in_ p)
      clear HC
      have HO1 := hid (HO.out.drewN d)
      have hbel1 := bl_drewN hbel d
      clear HO hbel
      go_wp2
      go_loopw [0, 5, 21] (fun x v y w2 => ∃ (r1 : ByteArray) (N1 : List ByteArray) (k : Nat), k ≤ t ∧ r1.size ≤ 200 ∧ x = .string r1 ∧ y = .int .i64 (k : Int) ∧ Hid (CutIn s r r1 p k N1) ∧ Hid (OwnS w2 w.heap.size v N1) ∧ Below w.heap.size w w2) (fun _ _ y _ => t - (intOf y).toNat)
      case atStart => exact ⟨r, N, 0, by omega, hr, rfl, rfl, HI, HO1, hbel1⟩
      case round =>
        obtain ⟨r1, N1, k, hk, hr1, rfl, rfl, HI1, HO2, hbel2⟩ := hrel
        by_cases hkt : k < t
        · have hroom := HI1.out.room HD.out (by rw [← HT.out]; exact hkt)
          have hN := HI1.out.many
          have HN := hid (HI1.out.next HD.out (by rw [← HT.out]; exact hkt))
          have hroom' : (p : Int) ≤ (r1.size : Int) := by omega
          have hsz := hbel2.size
          go_wp2_with (at_builtin; with_reducible refine app_str rfl _ _ rfl rfl HO2.out _ rfl rfl hsz (by omega) ?_)
          intro v' w3 hown3 hb3
          have HO3 := hid hown3
          have hbel3 := hbel2.trans hb3
          clear hown3 hb3 HO2
          go_wp2
          go_roundw
          case measure => simp [intOf]; omega
          case rel => exact ⟨_, _, k + 1, by omega, by rw [size_ext]; omega, rfl, by go_num, HN, HO3, hbel3⟩
        · have hkt' : decide ((k : Int) < (t : Int)) = false := decide_eq_false (by omega)
          obtain rfl : k = t := by omega
          have HF := hid (CutIn.done (by rw [← HT.out]; exact HI1.out) HD.out)
          go_wp2
          go_roundw
          case measure => simp [strLen]; exact HF.out.2
          case rel => exact ⟨r1, N1, hr1, rfl, hid HF.out.1, HO2, hbel2⟩
    · have hne : r.toList.isEmpty = true := no_bytes (by omega)
      go_wp2
      go_ret2
      obtain ⟨A, c, rfl, hc, hrow⟩ := HO.out.row
      obtain ⟨pre, g1, g2⟩ := HC.out.fact
      have hrn : wd r = [] := List.length_eq_zero_iff.1 (by rw [wd_len]; omega)
      rw [hrn, List.append_nil] at g2
      subst g2
      exact ⟨A, c, N, rfl, hc, hrow, g1, HC.out.many, hbel⟩
theorem Split_large (s : ByteArray) (w : World) (hs : 200 < s.size) : Calls Try.prog 46 #[.string s] w fun e w' => e = .returned (.tuple #[.slice none 0 0, .int .i64 2]) ∧ w = w' := by
  go_enter Try.func46, Try.ntmps46
  go_wp2_with fail
  with_reducible refine (check_large s _ hs).mono ?_
  rintro e w1 ⟨rfl, rfl⟩
  go_wp2
  go_ret2
  exact ⟨rfl, rfl⟩
end Go.Proofs.Ytapjodbaaejldaa
