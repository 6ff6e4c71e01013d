
/-
The contracts of pack.decode and pack.Get: a text is read word by word.
-/
import Derived.Test.YtapjodbaaejldaaPackPut
import Derived.Test.YtapjodbaaejldaaCodeF
import Derived.Deep.LoopGhost
import Derived.Deep.RegionHeld3
namespace Go.Proofs.Ytapjodbaaejldaa
open Go.RowKit

theorem pre_wd {s p : ByteArray} : Lib.hasPrefix s.data.toList p.data.toList = true ↔ wd p <+: wd s := by unfold Lib.hasPrefix; exact List.isPrefixOf_iff_prefix
theorem begins_one (N : Nat) (s x : ByteArray) (w : World) (hN : w.cell? ⟨N, 0, none⟩ = some (.string s)) :
    Calls Try.prog 116 #[.string x, .pointer (some ⟨N, 0, none⟩)] w fun e w' => e = .returned (.bool (Lib.hasPrefix s.data.toList x.data.toList)) ∧ w = w' := by
  go_enter Try.func116, Try.ntmps116
  go_wp2_with fail
  with_reducible refine (Try.strings_HasPrefix s x _).mono ?_
  rintro e w1 ⟨rfl, rfl⟩
  go_wp2
  go_ret
  exact ⟨rfl, rfl⟩
theorem first_begins {A : Option Addr} {n c : Nat} {g : Nat → ByteArray} (N : Nat) (s : ByteArray) (w : World) (hN : w.cell? ⟨N, 0, none⟩ = some (.string s)) (h : SRow w A n g) (hn : n ≤ 12) :
    Calls Try.prog 115 #[.slice A n c, .func (.func 116) #[] #[.pointer (some ⟨N, 0, none⟩)]] w fun e w' =>
      w = w' ∧ ((e = .returned (.int .i64 (-1)) ∧ ∀ k, k < n → ¬ wd (g k) <+: wd s) ∨ ∃ i : Nat, i < n ∧ e = .returned (.int .i64 (i : Int)) ∧ wd (g i) <+: wd s) := by
  have H := hid h
  have HN := hid hN
  clear h hN
  go_enter Try.func115, Try.ntmps115
  go_wp2
  go_loopw [8] (fun i wr => ∃ k : Nat, k ≤ n ∧ i = .int .i64 k ∧ Hid (∀ j, j < k → ¬ wd (g j) <+: wd s) ∧ wr = w) (fun i _ => n - (intOf i).toNat)
  case atStart => exact ⟨0, by omega, rfl, hid (fun j hj => by omega), rfl⟩
  case round =>
    obtain ⟨k, hk, rfl, HZ, rfl⟩ := hrel
    by_cases hkm : k < n
    · obtain ⟨b, o, rfl, _, hck⟩ := H.out k hkm
      have hkn : (k : Int) < (n : Int) := by omega
      obtain ⟨x, hx⟩ : ∃ x, x = g k := ⟨_, rfl⟩
      have HX := hid hx
      rw [← hx] at hck
      clear hx
      go_wp2_with fail
      with_reducible refine (begins_one N s x _ HN.out).mono ?_
      rintro e w1 ⟨rfl, rfl⟩
      cases hb : Lib.hasPrefix s.data.toList x.data.toList with
      | true =>
        have HL := hid (pre_wd.1 hb)
        clear hb
        go_wp2
        go_ret
        exact ⟨rfl, .inr ⟨k, hkm, rfl, by rw [← HX.out]; exact HL.out⟩⟩
      | false =>
        have HL : Hid (¬ wd x <+: wd s) := fun hc => by rw [pre_wd.2 hc] at hb; cases hb
        clear hb
        go_wp2
        go_roundw
        case measure => simp [intOf]; omega
        case rel =>
          refine ⟨k + 1, by omega, by go_num, hid (fun j hj => ?_), by trivial⟩
          by_cases hjk : j < k
          · exact HZ.out j hjk
          · obtain rfl : j = k := by omega
            rw [← HX.out]
            exact HL.out
    · have hdl : decide ((k : Int) < (n : Int)) = false := decide_eq_false (by omega)
      obtain rfl : k = n := by omega
      go_wp2
      go_ret
      exact ⟨rfl, .inl ⟨rfl, HZ.out⟩⟩
/-- The numbers that have been read. -/
def nI (L : List Nat) : List Int := L.map fun (d : Nat) => (d : Int)
theorem nI_len (L : List Nat) : (nI L).length = L.length := by unfold nI; exact List.length_map _
theorem nI_snoc (L : List Nat) (k : Nat) : nI (L ++ [k]) = nI L ++ [(k : Int)] := by unfold nI; rw [List.map_append]; rfl
theorem nI_get {L : List Nat} {k : Nat} (h : k < L.length) : (nI L).getD k 0 = ((L.getD k 0 : Nat) : Int) := by
  unfold nI
  rw [List.getD_eq_getElem?_getD, List.getD_eq_getElem?_getD, List.getElem?_map, List.getElem?_eq_getElem h]
  rfl
/-- Their words. -/
def wsL (g : Nat → ByteArray) (L : List Nat) : List (List UInt8) := L.map fun k => wd (g k)
theorem wsL_snoc (g : Nat → ByteArray) (L : List Nat) (k : Nat) : (wsL g (L ++ [k])).flatten = (wsL g L).flatten ++ wd (g k) := by unfold wsL; rw [List.map_append, List.flatten_append]; simp
theorem wsL_tx (g : Nat → ByteArray) (L : List Nat) : tx g (fun k => ((L.getD k 0 : Nat) : Int)) L.length = (wsL g L).flatten := by
  unfold tx txW wsL
  congr 1
  refine List.ext_getElem (by simp) fun i h1 h2 => ?_
  simp [List.getD_eq_getElem?_getD]
  rw [List.getElem?_eq_getElem (by simpa using h2)]
  rfl
theorem wsL_of {g : Nat → ByteArray} {n : Nat} {L : List Nat} (h : ∀ k ∈ L, k < n) : Cm.Of (cws g n) (wsL g L) := by
  intro x hx
  obtain ⟨k, hk, rfl⟩ := List.mem_map.1 hx
  exact mem_cws.2 ⟨_, h k hk, rfl⟩
theorem OwnI.setOther {w : World} {base : Nat} {v u : Value} {L : List Int} {a : Addr} (h : OwnI w base v L) (ha : a.block < base) : OwnI (w.setCell a u) base v L := by
  refine own_of_block h fun k hk => ?_
  have := (World.ownsRow.lt h k hk).1
  exact Below.heap_setCell _ _ _ k (by show k ≠ a.block; omega)
def DecPost (g : Nat → ByteArray) (n : Nat) (s : ByteArray) (w : World) (e : Ending) (w' : World) : Prop :=
  ((e = .returned (.tuple #[.slice none 0 0, .int .i64 4]) ∧ ∀ x, Cm.Of (cws g n) x → x.flatten ≠ wd s) ∨
   (∃ (A : Option Addr) (c : Nat) (L : List Nat), e = .returned (.tuple #[.slice A L.length c, .int .i64 0]) ∧ L.length ≤ c ∧ L.length ≤ 4096 ∧ IRow w' A L.length (fun k => ((L.getD k 0 : Nat) : Int)) ∧ (∀ k ∈ L, k < n) ∧ (wsL g L).flatten = wd s)) ∧ Below w.heap.size w w'
set_option maxHeartbeats 2000000 in
theorem decode_any {A : Option Addr} {n c : Nat} {g : Nat → ByteArray} (s : ByteArray) (w : World) (h : SRow w A n g) (hg : Cm.Good (cws g n)) (hp : Cm.PF (cws g n)) (hs : s.size ≤ 4096) :
    Calls Try.prog 78 #[.slice A n c, .string s] w (DecPost g n s w) := by
  obtain ⟨hn, _⟩ := good_few hg
  have HG := hid hg
  have HP := hid hp
  have H := hid h
  have hb0 := bl_new w (.cells #[.string s] 9)
  have hc0 : (w.alloc (.cells #[.string s] 9)).rowIs w.heap.size 9 1 (fun _ => .string s) := World.rowIs_alloc w #[.string s] 9 _ fun i hi => by
    obtain rfl : i = 0 := by simpa using hi
    rfl
  have hz0 : (w.alloc (.cells #[.string s] 9)).heap.size = w.heap.size + 1 := by simp
  clear h hg hp
  go_enter Try.func78, Try.ntmps78
  go_wp2
  generalize w.alloc (.cells #[.string s] 9) = w0 at hb0 hc0 hz0 ⊢
  have HB0 := hid hb0
  have HC0 := hid hc0
  clear hb0 hc0
  go_loopg [6] (s.size + 1) (fun f x wr => ∃ (v : Value) (L : List Nat) (r : ByteArray), v = x ∧ f = r.size + 1 ∧ Hid (OwnI wr (w.heap.size + 1) v (nI L)) ∧ Hid (wr.rowIs w.heap.size 9 1 (fun _ => .string r)) ∧ Hid ((wsL g L).flatten ++ wd r = wd s) ∧ Hid (∀ k ∈ L, k < n) ∧ L.length + r.size ≤ s.size ∧ Hid (Below w.heap.size w wr) ∧ w.heap.size + 1 ≤ wr.heap.size)
  case atStart => exact ⟨_, [], s, rfl, rfl, OwnI.zero _ _, HC0, rfl, fun k hk => (by cases hk), by simp, HB0, by omega⟩
  case round =>
    clear HB0 HC0
    obtain ⟨v, L, r, rfl, hf, HO, HC, HT, HL, hlen, HB, hsz⟩ := hrel
    have hcell : wr.cell? ⟨w.heap.size, 0, none⟩ = some (.string r) := HC.out.cell (i := 0) (by omega)
    have HRow := hid (H.out.keep HB.out)
    by_cases h0 : r.size = 0
    · have hnb := no_bytes h0
      have hx : Hid ((wsL g L).flatten = wd s) := by
        have h1 := HT.out
        have h2 : wd r = [] := List.length_eq_zero_iff.1 (by rw [wd_len]; exact h0)
        rw [h2, List.append_nil] at h1
        exact h1
      obtain ⟨A2, c2, rfl, hcap, hrow⟩ : ∃ A2 c2, v = .slice A2 L.length c2 ∧ L.length ≤ c2 ∧ IRow wr A2 L.length (fun k => (nI L).getD k 0) := by
        obtain ⟨A2, c2, e, hr⟩ := HO.out.irow
        rw [nI_len] at e hr
        refine ⟨A2, c2, e, ?_, hr⟩
        rcases HO.out.2 with ⟨e1, e0⟩ | ⟨_, cap, _, e1, _, _, e0, _⟩
        · rw [e] at e1
          injection e1 with _ e2 e3
          omega
        · rw [e] at e1
          injection e1 with _ e2 e3
          rw [nI_len] at e0
          omega
      have HR : Hid (IRow wr A2 L.length (fun k => ((L.getD k 0 : Nat) : Int))) := hrow.congr fun k hk => nI_get hk
      clear HO HC HT hrow h0
      go_wp2
      go_ret2
      exact ⟨.inr ⟨A2, c2, L, rfl, hcap, by omega, HR.out, HL.out, hx.out⟩, HB.out⟩
    · have hnb := some_bytes (s := r) (by omega)
      go_wp2_with fail
      with_reducible refine (first_begins w.heap.size r _ hcell HRow.out hn).mono ?_
      rintro e w1 ⟨rfl, hx⟩
      rcases hx with ⟨rfl, hno⟩ | ⟨i, hi, rfl, hyes⟩
      · have HNo : Hid (∀ x, Cm.Of (cws g n) x → x.flatten ≠ wd s) := by
          intro x hx
          rw [← HT.out]
          refine Cm.dec_none HP.out HG.out.some_ _ _ (wsL_of HL.out) (fun e => h0 (by rw [← wd_len, e]; rfl)) (fun q hq => ?_) x hx
          obtain ⟨k, hk, rfl⟩ := mem_cws.1 hq
          exact hno k hk
        clear hno HO HT HL h0
        go_wp2
        go_ret2
        exact ⟨.inl ⟨rfl, HNo.out⟩, HB.out⟩
      · have hle : (g i).size ≤ r.size := by
          have := hyes.length_le
          rwa [wd_len, wd_len] at this
        have hpos : 1 ≤ (g i).size := by
          have := List.length_pos_iff.2 (HG.out.some_ _ (mem_cws.2 ⟨i, hi, rfl⟩))
          rwa [wd_len] at this
        have HT2 : Hid ((wsL g (L ++ [i])).flatten ++ wd (r.extract (g i).size r.size) = wd s) := by
          show _ = _
          obtain ⟨t, ht⟩ := hyes
          rw [wsL_snoc, wd_drop, ← HT.out, ← ht, ← wd_len (g i), List.drop_left, List.append_assoc]
        have HL2 : Hid (∀ k ∈ L ++ [i], k < n) := by
          intro k hk
          rcases List.mem_append.1 hk with hk | hk
          · exact HL.out k hk
          · rw [List.mem_singleton.1 hk]; exact hi
        have hsz2 : (r.extract (g i).size r.size).size = r.size - (g i).size := by rw [size_ext]; omega
        have hi' : (i : Int) < (n : Int) := by omega
        have hln : (nI L).length < 1000000 := by rw [nI_len]; omega
        have hnn : decide ((i : Int) < 0) = false := decide_eq_false (by omega)
        clear hyes HT HL h0
        go_wp2_with (at_builtin; with_reducible refine app_int rfl _ _ rfl rfl HO.out _ rfl rfl hsz hln ?_)
        intro v' w3 hown3 hb3
        rw [← nI_snoc] at hown3
        have HO3 := hid hown3
        have hsz3 := Nat.le_trans hsz hb3.size
        have hC3 := HC.out.of_block (hb3.block w.heap.size (by omega))
        have hcell3 : w3.cell? ⟨w.heap.size, 0, none⟩ = some (.string r) := hC3.cell (i := 0) (by omega)
        have hfr3 : w3.frozen? ⟨w.heap.size, 0, none⟩ = false := hC3.frozen 0
        have hlt3 : w.heap.size < w3.heap.size := hC3.lt
        have HB3 := hid (HB.out.trans (hb3.mono (by omega)))
        have HRow3 := hid (H.out.keep HB3.out)
        obtain ⟨b, o, rfl, hbl, hci⟩ := HRow3.out i hi
        have HC4 : Hid ((w3.setCell ⟨w.heap.size, 0, none⟩ (.string (r.extract (g i).size r.size))).drew.rowIs w.heap.size 9 1 (fun _ => .string (r.extract (g i).size r.size))) := (World.rowIs.set (w := w3) hC3 0 _).congr fun j hj => by rw [if_pos (by omega)]
        have HO4 : Hid (OwnI (w3.setCell ⟨w.heap.size, 0, none⟩ (.string (r.extract (g i).size r.size))).drew (w.heap.size + 1) v' (nI (L ++ [i]))) := (OwnI.setOther HO3.out (by show w.heap.size < w.heap.size + 1; omega)).drewN 1
        have HB4 : Hid (Below w.heap.size w (w3.setCell ⟨w.heap.size, 0, none⟩ (.string (r.extract (g i).size r.size))).drew) := (HB3.out.setCell (Nat.le_refl _) _).drew
        clear hown3 hb3 HO HB hcell HRow hC3 HC HO3 HB3
        have hle' : ((g i).size : Int) ≤ (r.size : Int) := by omega
        obtain ⟨x, hx⟩ : ∃ x, x = g i := ⟨_, rfl⟩
        rw [← hx] at hci hle hle' hsz2 hpos HT2 HC4 HO4 HB4
        clear hx
        go_wp2
        go_region
        go_wp2
        go_roundg ((r.extract x.size r.size).size + 1)
        case measure => omega
        case rel => exact ⟨_, L ++ [i], r.extract x.size r.size, rfl, rfl, HO4, HC4, HT2, HL2, by rw [List.length_append, List.length_singleton]; omega, HB4, by simp; omega⟩
theorem Get_any {A : Option Addr} {n c : Nat} {g : Nat → ByteArray} (s : ByteArray) (w : World) (h : SRow w A n g) (hc : n ≤ c) :
    Calls Try.prog 38 #[.slice A n c, .string s] w (GetPost g n s w) := by
  have hK := Front_all w h hc
  have H := hid h
  by_cases hE : Cm.cErr (cws g n) = 0
  · have HE := hid hE
    clear hE h
    go_enter Try.func38, Try.ntmps38
    go_wp2_with fail
    with_reducible refine hK.mono ?_
    rintro e w1 ⟨⟨b, rfl, f1, _⟩, hb1⟩
    have HF := hid (f1 HE.out)
    have HB := hid hb1
    have H1 := hid (H.out.keep hb1)
    rw [HE.out]
    clear f1 hb1 H hK
    cases b with
    | false =>
      have HP : Hid (¬ Cm.PF (cws g n)) := fun hp => by have := HF.out.2 hp; cases this
      clear HF
      go_wp2
      go_ret2
      exact GetPost.no (fun L => .inr (.inl ⟨HE.out, HP.out, rfl, rfl⟩)) HB.out
    | true =>
      have HP : Hid (Cm.PF (cws g n)) := HF.out.1 rfl
      clear HF
      by_cases hs : 4096 < s.size
      · have hs' : (4096 : Int) < (s.size : Int) := by omega
        go_wp2
        go_ret2
        exact GetPost.no (fun L => .inr (.inr (.inl ⟨HE.out, HP.out, hs, rfl, rfl⟩))) HB.out
      · have hs' : decide ((4096 : Int) < (s.size : Int)) = false := decide_eq_false (by omega)
        go_wp2_with fail
        with_reducible refine (decode_any s _ H1.out (Cm.cErr_zero.1 HE.out) HP.out (by omega)).mono ?_
        rintro e w2 ⟨hx, hb2⟩
        have HB2 := hid (bl_then HB.out hb2)
        clear hb2 HB H1
        rcases hx with ⟨rfl, hno⟩ | ⟨A2, c2, L, rfl, hc2, hl2, hr2, hL2, ht2⟩
        · have HNo := hid hno
          clear hno
          go_wp2
          go_ret2
          exact GetPost.no (fun L => .inr (.inr (.inr (.inl ⟨HE.out, HP.out, by omega, rfl, rfl, HNo.out⟩)))) HB2.out
        · have HR := hid hr2
          have HG : Hid (GetIs g n s L.length (fun k => L.getD k 0) 0) := by
            refine .inr (.inr (.inr (.inr ⟨HE.out, HP.out, by omega, rfl, fun k hk => ?_, ?_⟩)))
            · show L.getD k 0 < n
              rw [getD_lt hk]
              exact hL2 _ (List.getElem_mem hk)
            · exact (wsL_tx g L).trans ht2
          clear hr2 hL2 ht2
          go_wp2
          go_ret2
          exact ⟨⟨A2, L.length, c2, fun k => L.getD k 0, 0, rfl, hc2, hl2, HR.out, HG.out⟩, HB2.out⟩
  · have HE := hid hE
    have hE' : (Cm.cErr (cws g n) != 0) = true := bne_iff_ne.2 hE
    clear hE h
    go_enter Try.func38, Try.ntmps38
    go_wp2_with fail
    with_reducible refine hK.mono ?_
    rintro e w1 ⟨⟨b, rfl, _, _⟩, hb1⟩
    have HB := hid hb1
    have HG : ∀ E, E = Cm.cErr (cws g n) → ∀ L, GetIs g n s 0 L E := fun E e L => .inl ⟨HE.out, e, rfl⟩
    have HG := hid (HG _ rfl)
    clear hb1 H hK HE
    generalize Cm.cErr (cws g n) = E at hE' HG
    go_wp2
    go_ret2
    exact GetPost.no HG.out HB.out
end Go.Proofs.Ytapjodbaaejldaa
