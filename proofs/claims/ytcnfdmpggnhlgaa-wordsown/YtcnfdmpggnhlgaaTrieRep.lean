/-
The trie in memory: what the nodes of a world say, and how they change when a node is added or a pattern's index is stored. Nothing is claimed here.
-/
import Derived.Test.YtcnfdmpggnhlgaaByte
import Derived.Test.YtcnfdmpggnhlgaaInsert
namespace Go.Proofs.Ytcnfdmpggnhlgaa
open Go.RowKit

def upd {α : Type} (f : (List UInt8) → α) (a : (List UInt8)) (b : α) : (List UInt8) → α := fun x => if x = a then b else f x
theorem upd_at {α : Type} (f : (List UInt8) → α) (a : (List UInt8)) (b : α) : upd f a b a = b := if_pos rfl
theorem upd_ne {α : Type} (f : (List UInt8) → α) {a x : (List UInt8)} (b : α) (h : x ≠ a) : upd f a b x = f x := if_neg h

/-- The last byte of a word; 0 at the root. -/
def lastB (p : (List UInt8)) : Int := ((p.getLast?.getD 0).toNat : Int)
theorem lastB_snoc (p : (List UInt8)) (c : UInt8) : lastB (p ++ [c]) = (c.toNat : Int) := by unfold lastB; simp
def nodeF (last wh : Int) (bl : Value) : Nat → Value
  | 0 => .int .u8 last
  | 1 => .int .i64 wh
  | _ => bl
def ptrTo (a : Nat) : Value := .pointer (some ⟨a, 0, none⟩)

/-- The nodes of the words in D lie at ad, from block B on; ch: the bytes that go on, rising; bl: the slices below. -/
structure TrieIn (w : World) (B : Nat) (D : (List UInt8) → Prop) (W : (List UInt8) → Int) (ad : (List UInt8) → Nat) (ch : (List UInt8) → (List UInt8)) (bl : (List UInt8) → Value) : Prop where
  root : D []
  down : ∀ p c, D (p ++ [c]) → D p
  kids : ∀ p c, D p → (c ∈ ch p ↔ D (p ++ [c]))
  rise : ∀ p, D p → (ch p).Pairwise (· < ·)
  lo : ∀ p, D p → B ≤ ad p
  inj : ∀ p q, D p → D q → ad p = ad q → p = q
  node : ∀ p, D p → w.rowIs (ad p) 111 3 (nodeF (lastB p) (W p) (bl p))
  own : ∀ p, D p → w.ownsRow B 90 1 (bl p) (ch p).length ((ch p).map fun c => ptrTo (ad (p ++ [c])))
  ap1 : ∀ p q, D p → D q → (bl p).ownBlock ≠ some (ad q)
  ap2 : ∀ p q k, D p → D q → (bl p).ownBlock = some k → (bl q).ownBlock = some k → p = q

theorem own_of_block {w w' : World} {base n : Nat} {e : TypeId} {size : Nat} {v : Value} {xs : List Value} (h : w.ownsRow base e size v n xs) (hb : ∀ k, v.ownBlock = some k → w'.heap[k]? = w.heap[k]?) : w'.ownsRow base e size v n xs := by
  refine ⟨h.1, ?_⟩
  rcases h.2 with hn | ⟨g, cap, cur, rfl, h1, h2, rest⟩
  · exact .inl hn
  · exact .inr ⟨g, cap, cur, rfl, h1, by rw [hb g rfl]; exact h2, rest⟩

section
variable {w w' : World} {B : Nat} {D : (List UInt8) → Prop} {W : (List UInt8) → Int} {ad : (List UInt8) → Nat} {ch : (List UInt8) → (List UInt8)} {bl : (List UInt8) → Value}

theorem TrieIn.lt (h : TrieIn w B D W ad ch bl) {p : (List UInt8)} (hp : D p) : ad p < w.heap.size := (h.node p hp).lt
theorem TrieIn.blt (h : TrieIn w B D W ad ch bl) {p : (List UInt8)} (hp : D p) {k : Nat} (hk : (bl p).ownBlock = some k) : k < w.heap.size := ((h.own p hp).lt k hk).2

/-- Nothing of what was there has changed. -/
theorem TrieIn.keep (h : TrieIn w B D W ad ch bl) (hb : ∀ k, k < w.heap.size → w'.heap[k]? = w.heap[k]?) : TrieIn w' B D W ad ch bl where
  root := h.root
  down := h.down
  kids := h.kids
  rise := h.rise
  lo := h.lo
  inj := h.inj
  node := fun p hp => (h.node p hp).of_block (hb _ (h.lt hp))
  own := fun p hp => own_of_block (h.own p hp) (fun k hk => hb k (h.blt hp hk))
  ap1 := h.ap1
  ap2 := h.ap2
theorem TrieIn.below (h : TrieIn w B D W ad ch bl) (hb : Below w.heap.size w w') : TrieIn w' B D W ad ch bl := h.keep hb.block

/-- The index of a pattern is stored. -/
theorem TrieIn.which (h : TrieIn w B D W ad ch bl) {p : (List UInt8)} (hp : D p) (x : Int) : TrieIn (w.setCell ⟨ad p, 1, none⟩ (.int .i64 x)) B D (upd W p x) ad ch bl where
  root := h.root
  down := h.down
  kids := h.kids
  rise := h.rise
  lo := h.lo
  inj := h.inj
  node := fun q hq => by
    by_cases e : q = p
    · subst e
      refine ((h.node q hq).set 1 (.int .i64 x)).congr fun i hi => ?_
      rw [upd_at]
      match i, hi with
      | 0, _ => rfl
      | 1, _ => rfl
      | 2, _ => rfl
    · rw [upd_ne _ _ e]
      exact (h.node q hq).setOther (fun e' => e (h.inj q p hq hp e')) _
  own := fun q hq => own_of_block (h.own q hq) (fun k hk => Below.heap_setCell _ _ _ k (fun e => h.ap1 q p hq hp (by rw [hk]; exact congrArg some e)))
  ap1 := h.ap1
  ap2 := h.ap2

/-- A node is added below p. -/
theorem TrieIn.child (h : TrieIn w B D W ad ch bl) {p : (List UInt8)} (hp : D p) {c : UInt8} (hc : ¬ D (p ++ [c])) {l1 l2 : (List UInt8)} (hl : ch p = l1 ++ l2) (h1 : ∀ x ∈ l1, x < c) (h2 : ∀ x ∈ l2, c < x)
    (N : Nat) (v' : Value) (hN : w.heap.size ≤ N) (hB : B ≤ w.heap.size) (hW : W (p ++ [c]) = -1)
    (hk : ∀ k, k < w.heap.size → k ≠ ad p → (bl p).ownBlock ≠ some k → w'.heap[k]? = w.heap[k]?)
    (hn : w'.rowIs N 111 3 (nodeF c.toNat (-1) (.slice none 0 0))) (hq : w'.rowIs (ad p) 111 3 (nodeF (lastB p) (W p) v'))
    (ho : w'.ownsRow B 90 1 v' ((ch p).length + 1) ((l1.map fun c => ptrTo (ad (p ++ [c]))) ++ ptrTo N :: (l2.map fun c => ptrTo (ad (p ++ [c])))))
    (hg : ∃ g, v'.ownBlock = some g ∧ ((bl p).ownBlock = some g ∨ (w.heap.size ≤ g ∧ g ≠ N))) :
    TrieIn w' B (fun q => D q ∨ q = p ++ [c]) W (upd ad (p ++ [c]) N) (upd (upd ch (p ++ [c]) []) p (l1 ++ c :: l2)) (upd (upd bl (p ++ [c]) (.slice none 0 0)) p v') := by
  obtain ⟨g, hg1, hg2⟩ := hg
  have hpc : p ≠ p ++ [c] := fun e => hc (e ▸ hp)
  have hne : ∀ q, D q → q ≠ p ++ [c] := fun q hq e => hc (e ▸ hq)
  have hadq : ∀ q, D q → upd ad (p ++ [c]) N q = ad q := fun q hq => upd_ne _ _ (hne q hq)
  have hbl0 : upd (upd bl (p ++ [c]) (.slice none 0 0)) p v' (p ++ [c]) = .slice none 0 0 := by rw [upd_ne _ _ hpc.symm, upd_at]
  have hblp : upd (upd bl (p ++ [c]) (.slice none 0 0)) p v' p = v' := upd_at _ _ _
  have hblq : ∀ q, D q → q ≠ p → upd (upd bl (p ++ [c]) (.slice none 0 0)) p v' q = bl q := fun q hq e => by rw [upd_ne _ _ e, upd_ne _ _ (hne q hq)]
  have hch0 : upd (upd ch (p ++ [c]) []) p (l1 ++ c :: l2) (p ++ [c]) = [] := by rw [upd_ne _ _ hpc.symm, upd_at]
  have hchp : upd (upd ch (p ++ [c]) []) p (l1 ++ c :: l2) p = l1 ++ c :: l2 := upd_at _ _ _
  have hchq : ∀ q, D q → q ≠ p → upd (upd ch (p ++ [c]) []) p (l1 ++ c :: l2) q = ch q := fun q hq e => by rw [upd_ne _ _ e, upd_ne _ _ (hne q hq)]
  have hgq : ∀ q, D q → q ≠ p → (bl q).ownBlock ≠ some g := by
    intro q hq e e'
    rcases hg2 with h' | ⟨h', _⟩
    · exact e (h.ap2 q p g hq hp e' h')
    · have := h.blt hq e'; omega
  have hga : ∀ q, D q → g ≠ ad q := by
    intro q hq e
    rcases hg2 with h' | ⟨h', _⟩
    · exact h.ap1 p q hp hq (by rw [h', e])
    · have := h.lt hq; omega
  have hgN : g ≠ N := by
    intro e
    rcases hg2 with h' | ⟨_, h'⟩
    · have := h.blt hp h'; omega
    · exact h' e
  constructor
  · exact .inl h.root
  · rintro q x (h' | h')
    · exact .inl (h.down q x h')
    · left
      obtain ⟨rfl, _⟩ := List.append_inj' h' rfl
      exact hp
  · rintro q x (hq' | rfl)
    · by_cases e : q = p
      · subst e
        rw [hchp, List.mem_append, List.mem_cons]
        constructor
        · rintro (h' | rfl | h')
          · exact .inl ((h.kids q x hq').1 (by rw [hl]; exact List.mem_append_left _ h'))
          · exact .inr rfl
          · exact .inl ((h.kids q x hq').1 (by rw [hl]; exact List.mem_append_right _ h'))
        · rintro (h' | h')
          · have := (h.kids q x hq').2 h'
            rw [hl, List.mem_append] at this
            rcases this with h'' | h''
            · exact .inl h''
            · exact .inr (.inr h'')
          · have := List.append_inj' h' rfl
            have : x = c := by simpa using this.2
            exact .inr (.inl this)
      · rw [hchq q hq' e]
        constructor
        · intro h'
          exact .inl ((h.kids q x hq').1 h')
        · rintro (h' | h')
          · exact (h.kids q x hq').2 h'
          · exact absurd (List.append_inj' h' rfl).1 e
    · rw [hch0]
      constructor
      · intro h'; cases h'
      · rintro (h' | h')
        · exact absurd (h.down _ _ h') hc
        · have := congrArg List.length h'
          simp at this
  · rintro q (hq' | rfl)
    · by_cases e : q = p
      · subst e
        rw [hchp]
        have hr := h.rise q hq'
        rw [hl, List.pairwise_append] at hr
        rw [List.pairwise_append]
        refine ⟨hr.1, List.pairwise_cons.2 ⟨h2, hr.2.1⟩, ?_⟩
        intro a ha b hb
        rcases List.mem_cons.1 hb with rfl | hb
        · exact h1 a ha
        · exact hr.2.2 a ha b hb
      · rw [hchq q hq' e]; exact h.rise q hq'
    · rw [hch0]; exact List.Pairwise.nil
  · rintro q (hq' | rfl)
    · rw [hadq q hq']; exact h.lo q hq'
    · rw [upd_at]; omega
  · rintro a b (ha | rfl) (hb | rfl) e
    · rw [hadq a ha, hadq b hb] at e; exact h.inj a b ha hb e
    · rw [hadq a ha, upd_at] at e
      have := h.lt ha; omega
    · rw [hadq b hb, upd_at] at e
      have := h.lt hb; omega
    · rfl
  · rintro q (hq' | rfl)
    · rw [hadq q hq']
      by_cases e : q = p
      · subst e
        rw [hblp]; exact hq
      · rw [hblq q hq' e]
        exact (h.node q hq').of_block (hk _ (h.lt hq') (fun e' => e (h.inj q p hq' hp e')) (h.ap1 p q hp hq'))
    · rw [hbl0, upd_at, lastB_snoc, hW]; exact hn
  · rintro q (hq' | rfl)
    · by_cases e : q = p
      · subst e
        rw [hblp, hchp]
        have e1 : (l1 ++ c :: l2).length = (ch q).length + 1 := by rw [hl]; simp; omega
        have e2 : ((l1 ++ c :: l2).map fun x => ptrTo (upd ad (q ++ [c]) N (q ++ [x]))) = (l1.map fun c => ptrTo (ad (q ++ [c]))) ++ ptrTo N :: (l2.map fun c => ptrTo (ad (q ++ [c]))) := by
          rw [List.map_append, List.map_cons, upd_at]
          congr 1
          · refine List.map_congr_left fun x hx => ?_
            rw [hadq _ ((h.kids q x hq').1 (by rw [hl]; exact List.mem_append_left _ hx))]
          · congr 1
            refine List.map_congr_left fun x hx => ?_
            rw [hadq _ ((h.kids q x hq').1 (by rw [hl]; exact List.mem_append_right _ hx))]
        rw [e1, e2]; exact ho
      · rw [hblq q hq' e, hchq q hq' e]
        have e2 : ((ch q).map fun x => ptrTo (upd ad (p ++ [c]) N (q ++ [x]))) = ((ch q).map fun x => ptrTo (ad (q ++ [x]))) := by
          refine List.map_congr_left fun x hx => ?_
          rw [hadq _ ((h.kids q x hq').1 hx)]
        rw [e2]
        exact own_of_block (h.own q hq') (fun k hk' => hk k (h.blt hq' hk') (fun e' => h.ap1 q p hq' hp (by rw [hk', e'])) (fun e' => e (h.ap2 q p k hq' hp hk' e')))
    · rw [hbl0, hch0]; exact World.ownsRow_nil _ _ _ _
  · rintro a b (ha | rfl) (hb | rfl)
    · rw [hadq b hb]
      by_cases e : a = p
      · subst e
        rw [hblp, hg1]
        intro e'
        injection e' with e'
        exact hga b hb e'
      · rw [hblq a ha e]; exact h.ap1 a b ha hb
    · rw [upd_at]
      by_cases e : a = p
      · subst e
        rw [hblp, hg1]
        intro e'
        injection e' with e'
        exact hgN e'
      · rw [hblq a ha e]
        intro e'
        have := h.blt ha e'; omega
    · rw [hbl0]; simp [Value.ownBlock]
    · rw [hbl0]; simp [Value.ownBlock]
  · rintro a b k (ha | rfl) (hb | rfl) ea eb
    · by_cases e : a = p
      · by_cases e' : b = p
        · rw [e, e']
        · subst e
          rw [hblp, hg1] at ea
          rw [hblq b hb e'] at eb
          injection ea with ea
          subst ea
          exact absurd eb (hgq b hb e')
      · by_cases e' : b = p
        · subst e'
          rw [hblp, hg1] at eb
          rw [hblq a ha e] at ea
          injection eb with eb
          subst eb
          exact absurd ea (hgq a ha e)
        · rw [hblq a ha e] at ea
          rw [hblq b hb e'] at eb
          exact h.ap2 a b k ha hb ea eb
    · rw [hbl0] at eb; simp [Value.ownBlock] at eb
    · rw [hbl0] at ea; simp [Value.ownBlock] at ea
    · rfl
end

/-- A rising row of bytes is short. -/
theorem rising_short : ∀ (l : (List UInt8)) (m : Nat), l.Pairwise (· < ·) → m ≤ 256 → (∀ x ∈ l, m ≤ x.toNat) → l.length + m ≤ 256
  | [], m, _, hm, _ => by simpa using hm
  | x :: t, m, hp, hm, hx => by
    rw [List.pairwise_cons] at hp
    have h1 := hx x (List.mem_cons_self ..)
    have h2 := x.toNat_lt
    have := rising_short t (x.toNat + 1) hp.2 (by omega) (fun y hy => UInt8.lt_iff_toNat_lt.1 (hp.1 y hy))
    simp only [List.length_cons]
    omega
theorem TrieIn.short {w : World} {B : Nat} {D : (List UInt8) → Prop} {W : (List UInt8) → Int} {ad : (List UInt8) → Nat} {ch : (List UInt8) → (List UInt8)} {bl : (List UInt8) → Value} (h : TrieIn w B D W ad ch bl) {p : (List UInt8)} (hp : D p) : (ch p).length ≤ 256 := by
  have := rising_short (ch p) 0 (h.rise p hp) (by omega) (fun x _ => by omega)
  omega
end Go.Proofs.Ytcnfdmpggnhlgaa
