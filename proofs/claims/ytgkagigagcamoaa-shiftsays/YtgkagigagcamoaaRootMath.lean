
/-
Plain mathematics on roots: words that are the same in either order; powers; turns; from behind.
-/
import Derived.Test.YtgkagigagcamoaaWordMath
namespace Go.Proofs.Ytgkagigagcamoaa
namespace Wm
variable {α : Type}

/-- The first la values of f, then those of h. -/
def cat (f : Nat → α) (la : Nat) (h : Nat → α) (i : Nat) : α := if i < la then f i else h (i - la)
theorem cat_lt {f h : Nat → α} {la i : Nat} (hi : i < la) : cat f la h i = f i := if_pos hi
theorem cat_ge {f h : Nat → α} {la i : Nat} (hi : la ≤ i) : cat f la h i = h (i - la) := if_neg (by omega)

theorem Per.congr {f h : Nat → α} {n d : Nat} (e : ∀ i, i < n → f i = h i) (p : Per f n d) : Per h n d := by
  intro i hi
  rw [← e i (by omega), ← e (i + d) hi, p i hi]
theorem Rt.congr {f h : Nat → α} {n d : Nat} (e : ∀ i, i < n → f i = h i) (p : Rt f n d) : Rt h n d := ⟨p.1, p.2.1, p.2.2.congr e⟩
/-- A period that divides a period's beginning goes through. -/
theorem lift_per {f : Nat → α} {n g r : Nat} (hg : 0 < g) (_ : g ≤ n) (p : Per f n g) (q : Per f g r) (hd : r ∣ g) : Per f n r := by
  apply Per.of_mod
  intro i hi
  have := Nat.mod_lt i hg
  rw [p.mod i hi, q.mod (i % g) this, Nat.mod_mod_of_dvd _ hd]

theorem comm_root {f h : Nat → α} {la lb ra rb : Nat} (ha : 0 < la) (hb : 0 < lb) (e : ∀ i, i < la + lb → cat f la h i = cat h lb f i) (A : Root f la ra) (B : Root h lb rb) :
    ra = rb ∧ ∀ i, i < ra → f i = h i := by
  have P1 : Per (cat f la h) (la + lb) la := by
    intro i hi
    rw [cat_ge (i := i + la) (by omega), show i + la - la = i by omega, e i (by omega), cat_lt (by omega)]
  have P2 : Per (cat f la h) (la + lb) lb := by
    intro i hi
    rw [cat_lt (i := i) (by omega), e (i + lb) (by omega), cat_ge (by omega), show i + lb - lb = i by omega]
  have hgp : 0 < Nat.gcd la lb := Nat.gcd_pos_of_pos_left _ ha
  have G : Per (cat f la h) (la + lb) (Nat.gcd la lb) := fine _ la lb _ (Nat.le_refl _) ha hb P1 P2 (by omega)
  have ef : ∀ i, i < la → cat f la h i = f i := fun i hi => cat_lt hi
  have eh : ∀ i, i < lb → cat f la h i = h i := fun i hi => by rw [e i (by omega), cat_lt hi]
  have Ga : Rt f la (Nat.gcd la lb) := ⟨hgp, Nat.gcd_dvd_left _ _, (G.less (by omega)).congr ef⟩
  have Gb : Rt h lb (Nat.gcd la lb) := ⟨hgp, Nat.gcd_dvd_right _ _, (G.less (by omega)).congr eh⟩
  have hla : Nat.gcd la lb ≤ la := Nat.gcd_le_left _ ha
  have hlb : Nat.gcd la lb ≤ lb := Nat.gcd_le_right _ hb
  have ea : ∀ i, i < Nat.gcd la lb → f i = h i := fun i hi => by rw [← ef i (by omega), eh i (by omega)]
  have da := A.dvd ha Ga
  have db := B.dvd hb Gb
  have Ba : Rt h lb ra := ⟨A.1.1, Nat.dvd_trans da Gb.2.1, lift_per hgp hlb Gb.2.2 ((A.1.2.2.less hla).congr ea) da⟩
  have Ab : Rt f la rb := ⟨B.1.1, Nat.dvd_trans db Ga.2.1, lift_per hgp hla Ga.2.2 ((B.1.2.2.less hlb).congr fun i hi => (ea i hi).symm) db⟩
  have h1 := A.2 rb Ab
  have h2 := B.2 ra Ba
  have h3 := Nat.le_of_dvd hgp da
  exact ⟨by omega, fun i hi => ea i (by omega)⟩

theorem root_comm {f h : Nat → α} {la lb r : Nat} (A : Rt f la r) (B : Rt h lb r) (e : ∀ i, i < r → f i = h i) : ∀ i, i < la + lb → cat f la h i = cat h lb f i := by
  have hf : ∀ i, i < la → f i = f (i % r) := A.2.2.mod
  have hh : ∀ i, i < lb → h i = f (i % r) := fun i hi => by rw [B.2.2.mod i hi, ← e _ (Nat.mod_lt _ A.1)]
  have key : ∀ (x y : Nat → α) (n m : Nat), (∀ i, i < n → x i = f (i % r)) → (∀ i, i < m → y i = f (i % r)) → r ∣ n → ∀ i, i < n + m → cat x n y i = f (i % r) := by
    intro x y n m hx hy hd i hi
    by_cases hlt : i < n
    · rw [cat_lt hlt, hx i hlt]
    · rw [cat_ge (by omega), hy _ (by omega)]
      obtain ⟨c, rfl⟩ := hd
      congr 1
      rw [← Nat.add_mul_mod_self_left (i - r * c) r c]
      congr 1
      omega
  intro i hi
  rw [key f h la lb hf hh A.2.1 i hi, key h f lb la hh hf B.2.1 i (by omega)]

/-- The root of a root is itself. -/
theorem root_root {f : Nat → α} {n r : Nat} (hn : 0 < n) (A : Root f n r) : Root f r r := by
  refine ⟨rt_self f A.1.1, fun e he => ?_⟩
  exact A.2 e ⟨he.1, Nat.dvd_trans he.2.1 A.1.2.1, lift_per A.1.1 (A.le hn) A.1.2.2 he.2.2 he.2.1⟩
/-- Powers have the root. -/
theorem root_power {f h : Nat → α} {n r c : Nat} (hn : 0 < n) (hc : 0 < c) (A : Root f n r) (e : ∀ i, i < c * n → h i = f (i % n)) : Root h (c * n) r := by
  have hcn : n ≤ c * n := Nat.le_mul_of_pos_left n hc
  have e0 : ∀ i, i < n → f i = h i := fun i hi => by rw [e i (by omega), Nat.mod_eq_of_lt hi]
  have P : Per h (c * n) n := Per.of_mod fun i hi => by
    have := Nat.mod_lt i hn
    rw [e i hi, e0 _ this]
  refine ⟨⟨A.1.1, Nat.dvd_trans A.1.2.1 ⟨c, Nat.mul_comm c n⟩, lift_per hn hcn P (A.1.2.2.congr e0) A.1.2.1⟩, fun d hd => ?_⟩
  have G := rt_gcd (by omega) hd ⟨hn, ⟨c, Nat.mul_comm c n⟩, P⟩
  have hg : Nat.gcd d n ≤ d := Nat.gcd_le_left _ hd.1
  have := A.2 (Nat.gcd d n) ⟨G.1, Nat.gcd_dvd_right _ _, (G.2.2.less hcn).congr fun i hi => (e0 i hi).symm⟩
  omega

/-- Turned by k. -/
theorem rt_turn {f h : Nat → α} {n d k : Nat} (hn : 0 < n) (A : Rt f n d) (e : ∀ i, i < n → h i = f ((i + k) % n)) : Rt h n d := by
  refine ⟨A.1, A.2.1, fun i hi => ?_⟩
  rw [e i (by omega), e (i + d) hi]
  have h1 := Nat.mod_lt (i + k) hn
  have h2 := Nat.mod_lt (i + d + k) hn
  rw [A.2.2.mod _ h1, A.2.2.mod _ h2, Nat.mod_mod_of_dvd _ A.2.1, Nat.mod_mod_of_dvd _ A.2.1, show i + d + k = i + k + d by omega, Nat.add_mod_right]
theorem root_turn {f h : Nat → α} {n d k : Nat} (hn : 0 < n) (hk : k ≤ n) (A : Root f n d) (e : ∀ i, i < n → h i = f ((i + k) % n)) : Root h n d := by
  refine ⟨rt_turn hn A.1 e, fun d' h' => A.2 d' (rt_turn (k := n - k) hn h' fun i hi => ?_)⟩
  have h1 := Nat.mod_lt (i + (n - k)) hn
  rw [e _ h1, Nat.mod_add_mod, show i + (n - k) + k = i + n by omega, Nat.add_mod_right, Nat.mod_eq_of_lt hi]
/-- From behind. -/
theorem rt_back {f h : Nat → α} {n d : Nat} (A : Rt f n d) (e : ∀ i, i < n → h i = f (n - 1 - i)) : Rt h n d := by
  refine ⟨A.1, A.2.1, fun i hi => ?_⟩
  rw [e i (by omega), e (i + d) hi, A.2.2 (n - 1 - (i + d)) (by omega)]
  congr 1
  omega
theorem root_back {f h : Nat → α} {n d : Nat} (A : Root f n d) (e : ∀ i, i < n → h i = f (n - 1 - i)) : Root h n d := by
  refine ⟨rt_back A.1 e, fun d' h' => A.2 d' (rt_back h' fun i hi => ?_)⟩
  rw [e _ (by omega)]
  congr 1
  omega
end Wm
end Go.Proofs.Ytgkagigagcamoaa
