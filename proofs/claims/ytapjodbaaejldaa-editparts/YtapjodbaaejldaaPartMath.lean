
/-
A script in two parts: the first so many edits, and then the others, moved. No program is named here.
-/
import Derived.Test.YtapjodbaaejldaaEdMath
namespace Go.Proofs.Ytapjodbaaejldaa.Es

theorem src_app (q : List UInt8) : ∀ A B : List Sg, src (A ++ B) q = src A (src B q)
  | [], _ => rfl
  | g :: A, B => by rw [List.cons_append]; simp only [src, src_app q A B]
theorem dst_app (q : List UInt8) : ∀ A B : List Sg, dst (A ++ B) q = dst A (dst B q)
  | [], _ => rfl
  | g :: A, B => by rw [List.cons_append]; simp only [dst, dst_app q A B]
theorem dst_tail : ∀ (A : List Sg) (r : List UInt8), dst A r = dst A [] ++ r
  | [], _ => rfl
  | g :: A, r => by
    have h := dst_tail A r
    simp only [dst, h, List.append_assoc]
theorem src_tail : ∀ (A : List Sg) (r : List UInt8), src A r = src A [] ++ r
  | [], _ => rfl
  | g :: A, r => by
    have h := src_tail A r
    simp only [src, h, List.append_assoc]
theorem evs_take : ∀ (j k : Nat) (G : List Sg), (evs j G).take k = evs j (G.take k)
  | _, 0, _ => by rw [List.take_zero, List.take_zero]; rfl
  | _, _ + 1, [] => by rw [List.take_nil]; rfl
  | j, k + 1, g :: G => by
    rw [List.take_succ_cons]
    simp only [evs, List.take_succ_cons]
    rw [evs_take _ k G]
theorem gd_take : ∀ {f : Bool} {G : List Sg} (k : Nat), Gd f G → Gd f (G.take k)
  | _, _, 0, _ => by rw [List.take_zero]; trivial
  | _, [], _ + 1, _ => by rw [List.take_nil]; trivial
  | _, g :: G, k + 1, h => by rw [List.take_succ_cons]; exact ⟨h.1, h.2.1, h.2.2.1, gd_take k h.2.2.2⟩
/-- An edit moved by m. -/
def mvE (m : Int) (x : Ev) : Ev := ⟨x.a + m, x.d, x.s⟩
theorem evs_mv (m : Int) : ∀ (j k : Nat) (G : List Sg), (k : Int) = (j : Int) + m → (evs j G).map (mvE m) = evs k G
  | _, _, [], _ => rfl
  | j, k, g :: G, h => by
    simp only [evs, List.map_cons]
    rw [evs_mv m (j + g.p.length + g.d.length) (k + g.p.length + g.d.length) G (by omega)]
    congr 1
    refine Ev.eq ?_ rfl rfl
    show ((j + g.p.length : Nat) : Int) + m = ((k + g.p.length : Nat) : Int)
    omega
/-- A script that begins somewhere is a script. -/
theorem scr_at {u P : List UInt8} {H : List Sg} {q : List UInt8} (hu : u = P ++ src H q) (hg : Gd true H) (hl : H.length ≤ 20) (h1 : u.length ≤ 200) (h2 : (P ++ dst H q).length ≤ 200) : ∃ G r, Scr u (evs P.length H) G r ∧ dst G r = P ++ dst H q := by
  cases H with
  | nil => exact ⟨[], P ++ q, ⟨hu.symm, rfl, trivial, by simp, h1, h2⟩, rfl⟩
  | cons g H =>
    refine ⟨⟨P ++ g.p, g.d, g.i⟩ :: H, q, ⟨?_, ?_, ⟨.inl rfl, hg.2⟩, hl, h1, ?_⟩, ?_⟩
    · rw [hu]; simp only [src, List.append_assoc]
    · simp only [evs, Nat.zero_add, List.length_append]
    · simp only [dst, List.append_assoc] at h2 ⊢; exact h2
    · simp only [dst, List.append_assoc]
/-- The first k edits: a script, or too much; and then the others, moved. -/
theorem Scr.parts {s : List UInt8} {L : List Ev} {G : List Sg} {q : List UInt8} (h : Scr s L G q) {k : Nat} (hk : k ≤ G.length) :
    (eErr s.length (L.take k) = 11) ∨
      ∃ u, (∃ G1 q1, Scr s (L.take k) G1 q1 ∧ dst G1 q1 = u) ∧ ∃ G2 q2, Scr u ((L.drop k).map (mvE ((u.length : Int) - (s.length : Int)))) G2 q2 ∧ dst G2 q2 = dst G q := by
  obtain ⟨P, h1, h2, _⟩ := h.at_ k hk
  have hsrc : src (G.take k) (src (G.drop k) q) = s := by rw [← src_app, List.take_append_drop, h.src_]
  have hdst : dst (G.take k) (dst (G.drop k) q) = dst G q := by rw [← dst_app, List.take_append_drop]
  have hev : evs 0 (G.take k) = L.take k := by rw [← evs_take, h.evs_]
  have hgd : Gd true (G.take k) := gd_take k h.good
  have hlen := h.few
  have hfr := h.from_
  have hto := h.to_
  have hg := gro_evs (src (G.drop k) q) 0 (G.take k)
  rw [hev, hsrc] at hg
  by_cases hf : (dst (G.take k) (src (G.drop k) q)).length ≤ 200
  · right
    have hP := src_tail (G.take k) (src (G.drop k) q)
    have hPP : P = src (G.take k) [] := by
      rw [hsrc] at hP
      rw [hP] at h1
      exact (List.append_cancel_right h1).symm
    refine ⟨dst (G.take k) (src (G.drop k) q), ⟨G.take k, src (G.drop k) q, ⟨hsrc, hev, hgd, by rw [List.length_take]; omega, hfr, hf⟩, rfl⟩, ?_⟩
    have hD := dst_tail (G.take k) (src (G.drop k) q)
    have l1 := congrArg List.length hD
    have l2 := congrArg List.length h1
    rw [List.length_append] at l1 l2
    rw [h2, evs_mv _ P.length (dst (G.take k) []).length (G.drop k) (by omega)]
    have := scr_at hD (gd_drop k h.good) (by rw [List.length_drop]; omega) hf (by rw [← dst_tail, hdst]; exact hto)
    rw [← dst_tail, hdst] at this
    exact this
  · left
    have hr : rowErr s.length (-1) (L.take k) = 0 := by
      rw [row_zero, ← hev]
      exact ch_of (src (G.drop k) q) (G.take k) 0 s.length (-1) true hgd (by rw [hsrc, Nat.zero_add]) (by decide) (fun _ => by decide)
    have hll := h.len
    unfold eErr
    rw [if_neg (by omega), if_neg (by rw [List.length_take]; omega), if_pos hr, if_pos (by omega)]
end Go.Proofs.Ytapjodbaaejldaa.Es
