/-
The contracts of the trie's place and step, at nodes in memory.
-/
import Derived.Test.YtcnfdmpggnhlgaaTrieRep
namespace Go.Proofs.Ytcnfdmpggnhlgaa
open Go.RowKit

theorem getD_lt {α : Type} {l : List α} {i : Nat} {d : α} (h : i < l.length) : l.getD i d = l[i] := by simp [List.getD_eq_getElem?_getD, List.getElem?_eq_getElem h]

/-- Where c stands, or would stand, among rising bytes. -/
structure Spot (l : (List UInt8)) (c : UInt8) (k : Nat) : Prop where
  le : k ≤ l.length
  lt : ∀ x ∈ l.take k, x < c
  ge : ∀ x ∈ l.drop k, c ≤ x
  at_ : c ∈ l → l[k]? = some c
  gt : c ∉ l → ∀ x ∈ l.drop k, c < x

theorem spot_of {l : (List UInt8)} {c : UInt8} {k : Nat} (hk : k ≤ l.length) (h1 : ∀ i, i < k → ((l.getD i 0).toNat : Int) < (c.toNat : Int)) (h2 : ∀ i, k ≤ i → i < l.length → (c.toNat : Int) ≤ ((l.getD i 0).toNat : Int)) (hr : l.Pairwise (· < ·)) :
    Spot l c k ∧ decide (k < l.length ∧ ((l.getD k 0).toNat : Int) = (c.toNat : Int)) = decide (c ∈ l) := by
  have hlt : ∀ x ∈ l.take k, x < c := by
    intro x hx
    obtain ⟨i, hi, rfl⟩ := List.mem_iff_getElem.1 hx
    have hi' : i < k := by have := hi; simp at this; omega
    have := h1 i hi'
    rw [getD_lt (by omega)] at this
    rw [List.getElem_take, UInt8.lt_iff_toNat_lt]
    omega
  have hge : ∀ x ∈ l.drop k, c ≤ x := by
    intro x hx
    obtain ⟨i, hi, rfl⟩ := List.mem_iff_getElem.1 hx
    have hi' : k + i < l.length := by have := hi; simp at this; omega
    have := h2 (k + i) (by omega) hi'
    rw [getD_lt (by omega)] at this
    rw [List.getElem_drop, UInt8.le_iff_toNat_le]
    omega
  have hat : c ∈ l → l[k]? = some c := by
    intro hc
    rw [← List.take_append_drop k l, List.mem_append] at hc
    rcases hc with hc | hc
    · exact absurd (hlt c hc) (by rw [UInt8.lt_iff_toNat_lt]; omega)
    · have hlen : k < l.length := by
        rcases Nat.lt_or_ge k l.length with h | h
        · exact h
        · rw [List.drop_eq_nil_of_le h] at hc; cases hc
      rw [List.drop_eq_getElem_cons hlen] at hc
      have hp : (l.drop k).Pairwise (· < ·) := hr.sublist (List.drop_sublist k l)
      rw [List.drop_eq_getElem_cons hlen, List.pairwise_cons] at hp
      rcases List.mem_cons.1 hc with hc | hc
      · rw [hc, List.getElem?_eq_getElem hlen]
      · have h3 := hp.1 c hc
        have h4 := hge l[k] (by rw [List.drop_eq_getElem_cons hlen]; exact List.mem_cons_self ..)
        rw [UInt8.lt_iff_toNat_lt] at h3
        rw [UInt8.le_iff_toNat_le] at h4
        omega
  refine ⟨⟨hk, hlt, hge, hat, ?_⟩, ?_⟩
  · intro hn x hx
    have h3 := hge x hx
    have h4 : x ≠ c := fun e => hn (e ▸ List.mem_of_mem_drop hx)
    rw [UInt8.lt_iff_toNat_lt]
    rw [UInt8.le_iff_toNat_le] at h3
    have : x.toNat ≠ c.toNat := fun e => h4 (UInt8.toNat_inj.1 e)
    omega
  · rw [decide_eq_decide]
    constructor
    · rintro ⟨h3, h4⟩
      rw [getD_lt h3] at h4
      have : l[k] = c := UInt8.toNat_inj.1 (by omega)
      rw [← this]
      exact List.getElem_mem h3
    · intro hc
      have := hat hc
      obtain ⟨h3, h4⟩ := List.getElem?_eq_some_iff.1 this
      exact ⟨h3, by rw [getD_lt h3, h4]⟩

section
variable {w : World} {B : Nat} {D : (List UInt8) → Prop} {W : (List UInt8) → Int} {ad : (List UInt8) → Nat} {ch : (List UInt8) → (List UInt8)} {bl : (List UInt8) → Value}

/-- The slice below a node, read. -/
theorem TrieIn.slice (h : TrieIn w B D W ad ch bl) {p : (List UInt8)} (hp : D p) :
    ∃ A cap, bl p = .slice A (ch p).length cap ∧ w.cell? ⟨ad p, 2, none⟩ = some (.slice A (ch p).length cap) ∧
      ∀ k, k < (ch p).length → ∃ b o, A = some ⟨b, o, none⟩ ∧ b < w.heap.size ∧ w.cell? ⟨b, o + k, none⟩ = some (ptrTo (ad (p ++ [(ch p).getD k 0]))) := by
  have hc := (h.node p hp).cell (i := 2) (by omega)
  have hl := fun k (hk : (bl p).ownBlock = some k) => h.blt hp hk
  have ho := h.own p hp
  have hcell := fun g cap (e : bl p = .slice (some ⟨g, 0, none⟩) (ch p).length cap) (k : Nat) (hk : k < (ch p).length) => World.ownsRow.cellAt (e ▸ ho) k (by omega)
  rcases ho.2 with ⟨h0, hn⟩ | ⟨g, cap, cur, h0, _⟩
  · refine ⟨none, 0, by rw [h0, hn], by rw [hc, hn]; exact congrArg some h0, fun k hk => by omega⟩
  · refine ⟨_, _, h0, by rw [hc]; exact congrArg some h0, fun k hk => ⟨g, 0, rfl, hl g (by rw [h0]; rfl), ?_⟩⟩
    rw [Nat.zero_add, hcell g cap h0 k hk]
    simp [List.getElem?_eq_getElem hk]

theorem TrieIn.last (h : TrieIn w B D W ad ch bl) {p : (List UInt8)} {c : UInt8} (hp : D (p ++ [c])) : w.cell? ⟨ad (p ++ [c]), 0, none⟩ = some (.int .u8 (c.toNat : Int)) := by
  rw [(h.node _ hp).cell (i := 0) (by omega)]
  show some (Value.int .u8 (lastB (p ++ [c]))) = _
  rw [lastB_snoc]
theorem TrieIn.whichAt (h : TrieIn w B D W ad ch bl) {p : (List UInt8)} (hp : D p) : w.cell? ⟨ad p, 1, none⟩ = some (.int .i64 (W p)) := (h.node p hp).cell (i := 1) (by omega)

theorem place_in (h : TrieIn w B D W ad ch bl) {p : (List UInt8)} (hp : D p) (c : UInt8) :
    Calls Try.prog 113 #[ptrTo (ad p), .int .u8 (c.toNat : Int)] w fun e w' =>
      w = w' ∧ ∃ k, Spot (ch p) c k ∧ e = .returned (.tuple #[.int .i64 k, .bool (decide (c ∈ ch p))]) := by
  obtain ⟨A, cap, h1, h2, h3⟩ := h.slice hp
  have hs := h.short hp
  have H := hid h
  have HP := hid hp
  have H3 := hid h3
  clear h hp h3 h1
  unfold ptrTo
  go_enter Try.func113, Try.ntmps113
  go_wp2_with fail
  with_reducible refine (bsearch (ch p).length A cap (fun k => (((ch p).getD k 0).toNat : Int)) (fun k => ad (p ++ [(ch p).getD k 0])) (c.toNat : Int) _ ?_ hs ?_).mono ?_
  · intro k hk
    obtain ⟨b, o, hA, _, hc⟩ := H3.out k hk
    refine ⟨b, o, hA, hc, H.out.last ((H.out.kids p _ HP.out).1 ?_)⟩
    rw [getD_lt hk]
    exact List.getElem_mem hk
  · intro i j hij hj
    have := List.pairwise_iff_getElem.1 (H.out.rise p HP.out) i j (by omega) hj hij
    rw [UInt8.lt_iff_toNat_lt] at this
    show (((ch p).getD i 0).toNat : Int) < (((ch p).getD j 0).toNat : Int)
    rw [getD_lt (by omega), getD_lt hj]
    omega
  · rintro e w1 ⟨rfl, k, hk, hk1, hk2, he⟩
    have hsp := spot_of hk hk1 hk2 (H.out.rise p HP.out)
    obtain rfl : e = .returned (.tuple #[.int .i64 k, .bool (decide (c ∈ ch p))]) := he.trans (ret_ib hsp.2)
    have HS := hid hsp
    clear hk1 hk2 hsp he
    go_wp2
    go_ret2
    exact ⟨rfl, k, HS.out.1, rfl⟩

theorem step_there (h : TrieIn w B D W ad ch bl) {p : (List UInt8)} (hp : D p) (c : UInt8) (hc : D (p ++ [c])) :
    Calls Try.prog 93 #[ptrTo (ad p), .int .u8 (c.toNat : Int)] w fun e w' => e = .returned (ptrTo (ad (p ++ [c]))) ∧ w = w' := by
  obtain ⟨A, cap, h1, h2, h3⟩ := h.slice hp
  have hm := (h.kids p c hp).2 hc
  have H := hid h
  have HP := hid hp
  have H3 := hid h3
  have HM := hid hm
  have hs := h.short hp
  clear h hp h3 h1 hm hc
  go_enter Try.func93, Try.ntmps93
  go_wp2_with fail
  with_reducible refine (place_in H.out HP.out c).mono ?_
  rintro e w1 ⟨rfl, k, hk, rfl⟩
  have hat := hk.at_ HM.out
  obtain ⟨hlt, hg⟩ := List.getElem?_eq_some_iff.1 hat
  obtain ⟨b, o, rfl, _, hcell⟩ := H3.out k hlt
  rw [getD_lt hlt, hg] at hcell
  unfold ptrTo at hcell ⊢
  have hd : decide (c ∈ ch p) = true := decide_eq_true HM.out
  rw [hd]
  clear hat hg hk hd H3
  go_wp2
  go_ret
  exact ⟨rfl, rfl⟩
theorem step_not (h : TrieIn w B D W ad ch bl) {p : (List UInt8)} (hp : D p) (c : UInt8) (hc : ¬ D (p ++ [c])) :
    Calls Try.prog 93 #[ptrTo (ad p), .int .u8 (c.toNat : Int)] w fun e w' => e = .returned (.pointer none) ∧ w = w' := by
  have hm : c ∉ ch p := fun hm => hc ((h.kids p c hp).1 hm)
  have H := hid h
  have HP := hid hp
  have HM := hid hm
  clear h hp hm hc
  go_enter Try.func93, Try.ntmps93
  go_wp2_with fail
  with_reducible refine (place_in H.out HP.out c).mono ?_
  rintro e w1 ⟨rfl, k, hk, rfl⟩
  have hd : decide (c ∈ ch p) = false := decide_eq_false HM.out
  rw [hd]
  clear hk hd
  go_wp2
  go_ret
  exact ⟨rfl, rfl⟩
end
end Go.Proofs.Ytcnfdmpggnhlgaa
