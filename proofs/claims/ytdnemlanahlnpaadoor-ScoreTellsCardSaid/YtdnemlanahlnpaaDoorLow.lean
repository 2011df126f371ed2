/-
  What the laws share: numbers from 0 to below n; shares of whole numbers.
-/
import Derived.Test.YtdnemlanahlnpaaDoorAwake
import Derived.Test.YtdnemlanahlnpaaDoorFb
namespace Go.Proofs.YtdnemlanahlnpaaDoor
open Go.RowKit Fl

theorem stp {w a b : World} (h : Below w.heap.size w a) (k : Below a.heap.size a b) : Below w.heap.size w b := h.trans (k.mono h.size)
theorem u64_wrap (x : Int) : IntKind.u64.wrap x = x % 18446744073709551616 := IntKind.wrap_u64 x
/-- x as an unsigned number, by n, what is left -/
def lowN (x n : Int) : Int := (x % 18446744073709551616) % n
theorem lowN_bd (x : Int) {n : Int} (hn : 0 < n) : 0 ≤ lowN x n ∧ lowN x n < n := ⟨Int.emod_nonneg _ (by omega), Int.emod_lt_of_pos _ hn⟩

theorem ofI_nat (n : Nat) : ofI (n : Int) = ofN n := floatOfInt_nat n
theorem share_is (f t : Int) (r : Nat) (h : Ieee.double.div (ofI f) (ofI t) = some r) (w : World) :
    Calls Tryd.prog 23 #[.int .i64 f, .int .i64 t] w fun e w' => e = .returned (.float .f64 r) ∧ Below w.heap.size w w' := by
  refine (share_any f t w).mono fun e w' ⟨q, he, hr, hb⟩ => ⟨?_, hb⟩
  rw [h] at hr
  have e2 : q = r := hr.2
  rw [he, e2]

theorem ofN_zero : ofN 0 = 0 := by
  unfold ofN
  rw [Nat.zero_mul]; rfl
theorem ofN_one : ofN 1 = 4607182418800017408 := by
  have h := ofN_fin (show 1 < 2 ^ 53 by decide)
  apply val_inj
  rw [h.2.1, Nat.one_mul, U_eq, E_eq]
  decide +kernel
theorem mag_pos {r : Nat} (h : r ≠ 0) : mag r ≠ 0 := by
  intro e
  have : val r = 0 := by unfold val; rw [e, Nat.zero_mul]
  exact h (val_inj (this.trans (by decide)))
theorem ofN_pos {n : Nat} (h : n < 2 ^ 53) (hn : n ≠ 0) : ofN n ≠ 0 := by
  intro e
  have := (ofN_lt (show 0 < 2 ^ 53 by decide) h).2 (by omega)
  rw [ofN_zero] at this; omega

/-- a whole quotient -/
theorem div_whole {f t : Nat} (h : f * t < 2 ^ 53) (h53 : t < 2 ^ 53) (ht : t ≠ 0) : Ieee.double.div (ofN (f * t)) (ofN t) = some (ofN f) := by
  by_cases hf : f = 0
  · subst hf
    rw [Nat.zero_mul, ofN_zero]
    exact zero_div (ofN_fin h53).1 (mag_pos (ofN_pos h53 ht))
  · have h1 : f ≤ f * t := Nat.le_mul_of_pos_right f (by omega)
    have h2 : t ≤ f * t := Nat.le_mul_of_pos_left t (by omega)
    obtain ⟨X, k, hd, _, lo, hi, _, _⟩ := div_ofN h (show t < 2 ^ 53 by omega) (Nat.mul_ne_zero hf ht) ht
    have e : X = f * U := Nat.le_antisymm (hi f (by rw [Nat.mul_comm]; exact Nat.le_refl _)) (lo f (by rw [Nat.mul_comm]; exact Nat.le_refl _))
    rw [hd, e, (ofN_fin (show f < 2 ^ 53 by omega)).2.2]

theorem Rnd_low (X : Nat) : 2 ^ 53 * val (Rnd X) ≤ (2 ^ 53 + 1) * X ∧ 2 ^ 53 * X ≤ 2 ^ 53 * val (Rnd X) + X := by
  by_cases hX : X = 0
  · subst hX
    have e : val (Rnd 0) = 0 := by decide
    rw [e]; omega
  · have he := Rnd_err X hX
    rcases Rnd_near X hX with h | h <;> omega

def F : Nat := 1020
theorem F_eq : F = 1020 := rfl
attribute [irreducible] F
/-- the error of a quotient, against its numerator -/
theorem err_small {a t k : Nat} (ha : a ≠ 0) (hk : k + t.log2 = a.log2 + 1019) {P : Nat} (hP : P = 2 ^ F) : t * 2 ^ k ≤ a * P := by
  have h1 : t < 2 ^ (t.log2 + 1) := Nat.lt_log2_self
  have h2 : 2 ^ a.log2 ≤ a := Nat.log2_self_le ha
  have h3 : t * 2 ^ k ≤ 2 ^ (t.log2 + 1) * 2 ^ k := Nat.mul_le_mul_right _ (by omega)
  rw [← Nat.pow_add, show t.log2 + 1 + k = a.log2 + F by rw [F_eq]; omega, Nat.pow_add, ← hP] at h3
  exact Nat.le_trans h3 (Nat.mul_le_mul_right _ h2)
theorem U_P {P : Nat} (hP : P = 2 ^ F) : U = 18014398509481984 * P := by
  rw [U_eq, hP, show E = 54 + F by rw [E_eq, F_eq], Nat.pow_add]

/-- shares grow -/
theorem div_grows {f t : Nat} (hf : f < 1000000) (ht : t ≤ 1000000) (t0 : t ≠ 0) :
    ∃ r s, Ieee.double.div (ofN f) (ofN t) = some r ∧ Ieee.double.div (ofN (f + 1)) (ofN t) = some s ∧ r < s ∧ s < I := by
  obtain ⟨P, hP⟩ : ∃ P : Nat, P = 2 ^ F := ⟨_, rfl⟩
  have hP0 : 0 < P := by rw [hP]; exact Nat.two_pow_pos _
  have hU := U_P hP
  have ft := ofN_fin (show t < 2 ^ 53 by omega)
  obtain ⟨Y, j, hd2, hj, _, hi2, _, er2⟩ := div_ofN (show f + 1 < 2 ^ 53 by omega) (show t < 2 ^ 53 by omega) (by omega) t0
  have top : Rnd Y < I := by
    have h1 := Rnd_mono (hi2 (f + 1) (Nat.le_mul_of_pos_left _ (by omega)))
    have h2 := ofN_fin (show f + 1 < 2 ^ 53 by omega)
    omega
  have e2 := err_small (by omega) hj hP
  have l2 := (Rnd_low Y).2
  have m2 := Nat.mul_le_mul_left t l2
  rw [Nat.mul_add, ← Nat.mul_assoc, ← Nat.mul_assoc, Nat.mul_comm t (2 ^ 53), Nat.mul_assoc, Nat.mul_assoc] at m2
  rw [hU, Nat.add_mul, Nat.one_mul] at er2
  rw [Nat.add_mul, Nat.one_mul] at e2
  have hfU : f * (18014398509481984 * P) = 18014398509481984 * (f * P) := by ac_rfl
  rw [hfU] at er2
  have hfP : f * P ≤ 1000000 * P := Nat.mul_le_mul_right _ (by omega)
  by_cases h0 : f = 0
  · subst h0
    refine ⟨0, Rnd Y, ?_, hd2, ?_, top⟩
    · rw [ofN_zero]; exact zero_div ft.1 (mag_pos (ofN_pos (by omega) t0))
    · apply Classical.byContradiction
      intro hc
      have e : Rnd Y = 0 := by omega
      have v0 : val 0 = 0 := by decide
      rw [e, v0, Nat.mul_zero] at m2
      generalize t * Y = z at *
      generalize t * 2 ^ j = y at *
      rw [Nat.zero_mul] at *
      omega
  · obtain ⟨X, k, hd1, hk, _, _, er1, _⟩ := div_ofN (show f < 2 ^ 53 by omega) (show t < 2 ^ 53 by omega) h0 t0
    refine ⟨Rnd X, Rnd Y, hd1, hd2, ?_, top⟩
    have e1 := err_small h0 hk hP
    have l1 := (Rnd_low X).1
    have m1 := Nat.mul_le_mul_left t l1
    rw [← Nat.mul_assoc, Nat.mul_comm t (2 ^ 53), Nat.mul_assoc, ← Nat.mul_assoc t, Nat.mul_comm t (2 ^ 53 + 1), Nat.mul_assoc] at m1
    rw [hU, hfU] at er1
    apply Classical.byContradiction
    intro hc
    have hv := Nat.mul_le_mul_left t (val_le (show Rnd Y ≤ Rnd X by omega))
    generalize t * X = x at *
    generalize t * Y = z at *
    generalize t * val (Rnd X) = v at *
    generalize t * val (Rnd Y) = u at *
    generalize t * 2 ^ j = y at *
    generalize t * 2 ^ k = g at *
    generalize f * P = q at *
    omega
theorem pos_by_zero {r : Nat} (hr : r < I) (h0 : r ≠ 0) : Ieee.double.div r 0 = some I := by
  unfold Ieee.Format.div
  rw [read_fin hr, read_fin (r := 0) (by decide)]
  have e : mag 0 = 0 := by decide
  simp only [Ieee.Datum.quotient, e, if_true, if_neg (mag_pos h0)]
  rfl

theorem fits_fin_pos {r : Nat} (h : r < I) : Fits r := by
  have h1 := I_lt_S
  have h2 : S = 9223372036854775808 := rfl
  unfold Fits; omega
end Go.Proofs.YtdnemlanahlnpaaDoor
