/-
  What groups are worth, as floats: shares of whole numbers, twice as much, and the best of some.
-/
import Derived.Test.YtdkjmpicdkfgoaaF3
namespace Go.Proofs.Ytdkjmpicdkfgoaa
open Go.RowKit Fl

/-- bits that fit -/
def Fits (b : Nat) : Prop := b < 2 ^ 64
/-- the float of a whole number -/
def ofI (n : Int) : Nat := floatOfInt .f64 n
theorem ofI_nat (n : Nat) : ofI (n : Int) = ofN n := floatOfInt_nat n

theorem ofN_zero : ofN 0 = 0 := by
  unfold ofN
  rw [Nat.zero_mul]; rfl
theorem ofN_one : ofN 1 = 4607182418800017408 := by
  have h := ofN_fin (show 1 < 2 ^ 53 by decide)
  apply val_inj
  rw [h.2.1, Nat.one_mul, U_eq, E_eq]
  decide +kernel
theorem mag_pos {r : Nat} (h : r ≠ 0) : mag r ≠ 0 := by
  intro e
  have : val r = 0 := by unfold val; rw [e, Nat.zero_mul]
  exact h (val_inj (this.trans (by decide)))
theorem ofN_pos {n : Nat} (h : n < 2 ^ 53) (hn : n ≠ 0) : ofN n ≠ 0 := by
  intro e
  have := (ofN_lt (show 0 < 2 ^ 53 by decide) h).2 (by omega)
  rw [ofN_zero] at this; omega

/-- a whole quotient -/
theorem div_whole {f t : Nat} (h : f * t < 2 ^ 53) (h53 : t < 2 ^ 53) (ht : t ≠ 0) : Ieee.double.div (ofN (f * t)) (ofN t) = some (ofN f) := by
  by_cases hf : f = 0
  · subst hf
    rw [Nat.zero_mul, ofN_zero]
    exact zero_div (ofN_fin h53).1 (mag_pos (ofN_pos h53 ht))
  · have h1 : f ≤ f * t := Nat.le_mul_of_pos_right f (by omega)
    have h2 : t ≤ f * t := Nat.le_mul_of_pos_left t (by omega)
    obtain ⟨X, k, hd, _, lo, hi, _, _⟩ := div_ofN h (show t < 2 ^ 53 by omega) (Nat.mul_ne_zero hf ht) ht
    have e : X = f * U := Nat.le_antisymm (hi f (by rw [Nat.mul_comm]; exact Nat.le_refl _)) (lo f (by rw [Nat.mul_comm]; exact Nat.le_refl _))
    rw [hd, e, (ofN_fin (show f < 2 ^ 53 by omega)).2.2]

theorem Rnd_low (X : Nat) : 2 ^ 53 * val (Rnd X) ≤ (2 ^ 53 + 1) * X ∧ 2 ^ 53 * X ≤ 2 ^ 53 * val (Rnd X) + X := by
  by_cases hX : X = 0
  · subst hX
    have e : val (Rnd 0) = 0 := by decide
    rw [e]; omega
  · have he := Rnd_err X hX
    rcases Rnd_near X hX with h | h <;> omega

def F : Nat := 1020
theorem F_eq : F = 1020 := rfl
attribute [irreducible] F
/-- the error of a quotient, against its numerator -/
theorem err_small {a t k : Nat} (ha : a ≠ 0) (hk : k + t.log2 = a.log2 + 1019) {P : Nat} (hP : P = 2 ^ F) : t * 2 ^ k ≤ a * P := by
  have h1 : t < 2 ^ (t.log2 + 1) := Nat.lt_log2_self
  have h2 : 2 ^ a.log2 ≤ a := Nat.log2_self_le ha
  have h3 : t * 2 ^ k ≤ 2 ^ (t.log2 + 1) * 2 ^ k := Nat.mul_le_mul_right _ (by omega)
  rw [← Nat.pow_add, show t.log2 + 1 + k = a.log2 + F by rw [F_eq]; omega, Nat.pow_add, ← hP] at h3
  exact Nat.le_trans h3 (Nat.mul_le_mul_right _ h2)
theorem U_P {P : Nat} (hP : P = 2 ^ F) : U = 18014398509481984 * P := by
  rw [U_eq, hP, show E = 54 + F by rw [E_eq, F_eq], Nat.pow_add]

/-- shares grow -/
theorem div_grows {f t : Nat} (hf : f < 1000000) (ht : t ≤ 1000000) (t0 : t ≠ 0) :
    ∃ r s, Ieee.double.div (ofN f) (ofN t) = some r ∧ Ieee.double.div (ofN (f + 1)) (ofN t) = some s ∧ r < s ∧ s < I := by
  obtain ⟨P, hP⟩ : ∃ P : Nat, P = 2 ^ F := ⟨_, rfl⟩
  have hP0 : 0 < P := by rw [hP]; exact Nat.two_pow_pos _
  have hU := U_P hP
  have ft := ofN_fin (show t < 2 ^ 53 by omega)
  obtain ⟨Y, j, hd2, hj, _, hi2, _, er2⟩ := div_ofN (show f + 1 < 2 ^ 53 by omega) (show t < 2 ^ 53 by omega) (by omega) t0
  have top : Rnd Y < I := by
    have h1 := Rnd_mono (hi2 (f + 1) (Nat.le_mul_of_pos_left _ (by omega)))
    have h2 := ofN_fin (show f + 1 < 2 ^ 53 by omega)
    omega
  have e2 := err_small (by omega) hj hP
  have l2 := (Rnd_low Y).2
  have m2 := Nat.mul_le_mul_left t l2
  rw [Nat.mul_add, ← Nat.mul_assoc, ← Nat.mul_assoc, Nat.mul_comm t (2 ^ 53), Nat.mul_assoc, Nat.mul_assoc] at m2
  rw [hU, Nat.add_mul, Nat.one_mul] at er2
  rw [Nat.add_mul, Nat.one_mul] at e2
  have hfU : f * (18014398509481984 * P) = 18014398509481984 * (f * P) := by ac_rfl
  rw [hfU] at er2
  have hfP : f * P ≤ 1000000 * P := Nat.mul_le_mul_right _ (by omega)
  by_cases h0 : f = 0
  · subst h0
    refine ⟨0, Rnd Y, ?_, hd2, ?_, top⟩
    · rw [ofN_zero]; exact zero_div ft.1 (mag_pos (ofN_pos (by omega) t0))
    · apply Classical.byContradiction
      intro hc
      have e : Rnd Y = 0 := by omega
      have v0 : val 0 = 0 := by decide
      rw [e, v0, Nat.mul_zero] at m2
      generalize t * Y = z at *
      generalize t * 2 ^ j = y at *
      rw [Nat.zero_mul] at *
      omega
  · obtain ⟨X, k, hd1, hk, _, _, er1, _⟩ := div_ofN (show f < 2 ^ 53 by omega) (show t < 2 ^ 53 by omega) h0 t0
    refine ⟨Rnd X, Rnd Y, hd1, hd2, ?_, top⟩
    have e1 := err_small h0 hk hP
    have l1 := (Rnd_low X).1
    have m1 := Nat.mul_le_mul_left t l1
    rw [← Nat.mul_assoc, Nat.mul_comm t (2 ^ 53), Nat.mul_assoc, ← Nat.mul_assoc t, Nat.mul_comm t (2 ^ 53 + 1), Nat.mul_assoc] at m1
    rw [hU, hfU] at er1
    apply Classical.byContradiction
    intro hc
    have hv := Nat.mul_le_mul_left t (val_le (show Rnd Y ≤ Rnd X by omega))
    generalize t * X = x at *
    generalize t * Y = z at *
    generalize t * val (Rnd X) = v at *
    generalize t * val (Rnd Y) = u at *
    generalize t * 2 ^ j = y at *
    generalize t * 2 ^ k = g at *
    generalize f * P = q at *
    omega

/-- two, as a float -/
def twoF : Nat := 4611686018427387904
/-- the place in the order of what is none -/
def kN : Int := -(2 ^ 64)
theorem key_nan {x : Nat} (h : nanB x = true) : key x = kN := by unfold key; rw [if_pos h]; rfl
theorem key_num {x : Nat} (h : nanB x = false) : kN < key x := by
  have h1 := rung_lt x
  have hS : S = 9223372036854775808 := rfl
  unfold key kN
  rw [h]
  simp only [Bool.false_eq_true, if_false]
  split <;> omega
theorem nan_key (x : Nat) : nanB x = decide (key x = kN) := by
  cases h : nanB x
  · have := key_num h
    exact (decide_eq_false (by omega)).symm
  · exact (decide_eq_true (key_nan h)).symm

theorem share_pos {f e : Nat} (h0 : 0 < f) (hf : f ≤ 1000000) (he : e ≤ 1000000) (e0 : e ≠ 0) : ∃ r, Ieee.double.div (ofN f) (ofN e) = some r ∧ 0 < r ∧ r < I := by
  obtain ⟨r, s, _, h2, h3, h4⟩ := div_grows (f := f - 1) (t := e) (by omega) he e0
  rw [show f - 1 + 1 = f by omega] at h2
  exact ⟨s, h2, by omega, h4⟩
theorem share_zero {e : Nat} (he : e ≤ 1000000) (e0 : e ≠ 0) : Ieee.double.div (ofN 0) (ofN e) = some 0 := by
  rw [ofN_zero]; exact zero_div (ofN_fin (by omega)).1 (mag_pos (ofN_pos (by omega) e0))
theorem nearest_top (f : Ieee.Format) (m : Nat) (p : Int) : f.nearest false m p ≤ f.infRung := by
  have hw : ∀ r, f.word false r = r := fun r => by simp [Ieee.Format.word]
  unfold Ieee.Format.nearest
  by_cases h : m = 0
  · rw [if_pos h, hw]; exact Nat.zero_le _
  · rw [if_neg h, hw]; exact Nat.min_le_right _ _
theorem nearest_le (m : Nat) (p : Int) : Ieee.double.nearest false m p ≤ I := by
  have h := nearest_top Ieee.double m p
  rw [fI] at h
  exact h
theorem le_num {q : Nat} (h : q ≤ I) : nanB q = false ∧ q < 2 ^ 64 := by
  have h1 := I_lt_S
  have hS : S = 9223372036854775808 := rfl
  have e : rung q = q := Nat.mod_eq_of_lt (by omega)
  refine ⟨?_, by omega⟩
  unfold nanB
  rw [e]
  exact decide_eq_false (by omega)
/-- twice a number -/
theorem twice_num {r : Nat} (hr : r < I) : ∃ q, Ieee.double.mul r twoF = some q ∧ q ≤ I := by
  unfold Ieee.Format.mul
  rw [read_fin hr, read_fin (r := twoF) (by decide)]
  exact ⟨_, rfl, nearest_le _ _⟩
/-- twice what is none -/
theorem twice_nan {r : Nat} (h : nanB r = true) : Ieee.double.mul r twoF = none := by
  unfold Ieee.Format.mul
  rw [read_nan h]
  rfl

/-- what a group is worth in which f of e are free, one that is near or not: its place in the order -/
def kS (f e : Nat) (near : Bool) : Int :=
  if f = 0 then kN else
  match Ieee.double.div (ofN f) (ofN e) with
  | none => kN
  | some r => if near then (match Ieee.double.mul r twoF with | none => kN | some q => key q) else key r
theorem kS_zero (e : Nat) (near : Bool) : kS 0 e near = kN := by unfold kS; rw [if_pos rfl]
theorem kS_pos {f e : Nat} {near : Bool} (h0 : 0 < f) (hf : f ≤ 1000000) (he : e ≤ 1000000) (e0 : e ≠ 0) : kN < kS f e near := by
  obtain ⟨r, h1, h2, h3⟩ := share_pos h0 hf he e0
  obtain ⟨q, h4, h5⟩ := twice_num h3
  unfold kS
  rw [if_neg (by omega), h1]
  simp only [h4]
  split
  · exact key_num (le_num h5).1
  · exact key_num (nan_fin h3)

/-- the best of the first k: -1, if none of them is a number -/
def bestI (K : Nat → Int) : Nat → Int
  | 0 => -1
  | k + 1 => if K k = kN then bestI K k else if bestI K k < 0 then k else if K (bestI K k).toNat < K k then k else bestI K k
theorem bestI_congr {K L : Nat → Int} : ∀ {k : Nat}, (∀ i, i < k → K i = L i) → bestI K k = bestI L k
  | 0, _ => rfl
  | k + 1, h => by
    have ih := bestI_congr (K := K) (L := L) (k := k) fun i hi => h i (by omega)
    have bd : bestI L k < k := by
      clear ih h
      induction k with
      | zero => show (-1 : Int) < 0; omega
      | succ k ih => unfold bestI; repeat' split
                     all_goals omega
    unfold bestI
    rw [ih, h k (by omega)]
    by_cases h0 : bestI L k < 0
    · simp only [if_pos h0]
    · rw [h (bestI L k).toNat (by omega)]
theorem bestI_spec (K : Nat → Int) (hK : ∀ k, kN ≤ K k) (k : Nat) : (bestI K k = -1 ∧ ∀ i, i < k → K i = kN) ∨
    ∃ j : Nat, bestI K k = j ∧ j < k ∧ kN < K j ∧ (∀ i, i < k → K i ≤ K j) ∧ ∀ i, i < j → K i < K j := by
  induction k with
  | zero => left; exact ⟨rfl, fun i h => absurd h (by omega)⟩
  | succ k ih =>
    by_cases hn : K k = kN
    · have e : bestI K (k + 1) = bestI K k := by rw [bestI, if_pos hn]
      rw [e]
      rcases ih with ⟨h1, h2⟩ | ⟨j, h1, h2, h3, h4, h5⟩
      · left
        refine ⟨h1, fun i hi => ?_⟩
        by_cases e : i = k
        · rw [e]; exact hn
        · exact h2 i (by omega)
      · right
        refine ⟨j, h1, by omega, h3, fun i hi => ?_, h5⟩
        by_cases e : i = k
        · rw [e]; omega
        · exact h4 i (by omega)
    · have hk := hK k
      rcases ih with ⟨h1, h2⟩ | ⟨j, h1, h2, h3, h4, h5⟩
      · right
        refine ⟨k, by rw [bestI, if_neg hn, if_pos (by omega)], by omega, by omega, fun i hi => ?_, fun i hi => ?_⟩
        · by_cases e : i = k
          · rw [e]; exact Int.le_refl _
          · rw [h2 i (by omega)]; omega
        · rw [h2 i hi]; omega
      · right
        have e : bestI K (k + 1) = if K j < K k then (k : Int) else j := by rw [bestI, if_neg hn, if_neg (by omega), h1]; rfl
        rw [e]
        by_cases hlt : K j < K k
        · rw [if_pos hlt]
          refine ⟨k, rfl, by omega, by omega, fun i hi => ?_, fun i hi => ?_⟩
          · by_cases e : i = k
            · rw [e]; exact Int.le_refl _
            · have := h4 i (by omega); omega
          · have := h4 i hi; omega
        · rw [if_neg hlt]
          refine ⟨j, rfl, by omega, h3, fun i hi => ?_, h5⟩
          by_cases e : i = k
          · rw [e]; omega
          · exact h4 i (by omega)
/-- the best one is what it is -/
theorem bestI_is {K : Nat → Int} (hK : ∀ k, kN ≤ K k) {k j : Nat} (h2 : j < k) (h3 : kN < K j) (h4 : ∀ i, i < k → K i ≤ K j) (h5 : ∀ i, i < j → K i < K j) : bestI K k = j := by
  rcases bestI_spec K hK k with ⟨_, h⟩ | ⟨m, g1, g2, g3, g4, g5⟩
  · have := h j h2; omega
  · by_cases e : m < j
    · have := h5 m e; have := g4 j h2; omega
    · by_cases e2 : j < m
      · have := g5 j e2; have := h4 m g2; omega
      · rw [g1]; congr 1; omega
theorem kS_ge (f e : Nat) (near : Bool) : kN ≤ kS f e near := by
  have hk : ∀ x, kN ≤ key x := fun x => by
    cases h : nanB x
    · have := key_num h; omega
    · rw [key_nan h]; exact Int.le_refl _
  unfold kS
  repeat' split
  all_goals first | exact Int.le_refl _ | exact hk _
/-- some floats, by their places, one of them twice as near -/
def fl (xs : List Nat) (k : Nat) : Nat := xs.getD k 0
end Go.Proofs.Ytdkjmpicdkfgoaa
