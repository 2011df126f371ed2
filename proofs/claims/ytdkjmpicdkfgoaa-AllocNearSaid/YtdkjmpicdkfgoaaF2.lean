/-
  Plain facts on how 64-bit floats are rounded: sums and quotients of whole numbers.
-/
import Derived.Test.YtdkjmpicdkfgoaaF1
namespace Go.Proofs.Ytdkjmpicdkfgoaa.Fl
open Ieee Go.RowKit

theorem log2_eq {n k : Nat} (h1 : 2 ^ k ≤ n) (h2 : n < 2 ^ (k + 1)) : n.log2 = k := by
  have hn : n ≠ 0 := by have := Nat.two_pow_pos k; omega
  have a := (Nat.le_log2 hn).2 h1
  have b := (Nat.log2_lt hn).2 h2
  omega
theorem log2_bd {n : Nat} (hn : n ≠ 0) : 2 ^ n.log2 ≤ n ∧ n < 2 ^ (n.log2 + 1) := ⟨Nat.log2_self_le hn, Nat.lt_log2_self⟩
theorem log2_scale {m : Nat} (hm : m ≠ 0) (s : Nat) : (m * 2 ^ s).log2 = m.log2 + s := by
  have ⟨h1, h2⟩ := log2_bd hm
  apply log2_eq
  · rw [Nat.pow_add]; exact Nat.mul_le_mul_right _ h1
  · rw [show m.log2 + s + 1 = (m.log2 + 1) + s by omega, Nat.pow_add]; exact Nat.mul_lt_mul_of_pos_right h2 (Nat.two_pow_pos _)

/-- to the nearest multiple of a power of two, the even one between two -/
def rne (X u : Nat) : Nat := X / 2 ^ u + (decide (2 ^ u < 2 * (X % 2 ^ u)) || (2 ^ u == 2 * (X % 2 ^ u) && X / 2 ^ u % 2 == 1)).toNat
def Rnd (X : Nat) : Nat := if X = 0 then 0 else (X.log2 - 52) * B + rne X (X.log2 - 52)

theorem rne_scale (m d s : Nat) : rne (m * 2 ^ s) (d + s) = rne m d := by
  have hs := Nat.two_pow_pos s
  unfold rne
  have e1 : m * 2 ^ s / 2 ^ (d + s) = m / 2 ^ d := by rw [Nat.pow_add, Nat.mul_div_mul_right _ _ hs]
  have e2 : m * 2 ^ s % 2 ^ (d + s) = (m % 2 ^ d) * 2 ^ s := by rw [Nat.pow_add, Nat.mul_mod_mul_right]
  rw [e1, e2, Nat.pow_add]
  have e3 : decide (2 ^ d * 2 ^ s < 2 * (m % 2 ^ d * 2 ^ s)) = decide (2 ^ d < 2 * (m % 2 ^ d)) := by
    rw [← Nat.mul_assoc]
    exact decide_eq_decide.2 (Nat.mul_lt_mul_right hs)
  have e4 : (2 ^ d * 2 ^ s == 2 * (m % 2 ^ d * 2 ^ s)) = (2 ^ d == 2 * (m % 2 ^ d)) := by
    rw [← Nat.mul_assoc, Bool.eq_iff_iff, beq_iff_eq, beq_iff_eq]
    exact Nat.mul_right_cancel_iff hs
  rw [e3, e4]
theorem rne_zero (X : Nat) : rne X 0 = X := by
  unfold rne
  simp [Nat.mod_one]

theorem cut_even (neg : Bool) (n d : Nat) (h : d ≤ n.log2 + 2) : Toward.even.cut neg n d = rne n d := by
  unfold Toward.cut rne
  rw [Nat.min_eq_left h, Nat.shiftLeft_eq, Nat.one_mul]

theorem nearest_eq (neg : Bool) (m : Nat) (s : Nat) : double.nearest neg m ((s : Int) - 1074) = double.word neg (min (Rnd (m * 2 ^ s)) I) := by
  unfold Format.nearest
  by_cases hm : m = 0
  · rw [if_pos hm, hm, Nat.zero_mul]; rfl
  · rw [if_neg hm]
    have hlp : double.leastPlace = -1074 := by decide +kernel
    have hfb : double.fractionBits = 52 := rfl
    have hX : m * 2 ^ s ≠ 0 := Nat.mul_ne_zero hm (by have := Nat.two_pow_pos s; omega)
    have hl := log2_scale hm s
    obtain ⟨u, hu⟩ : ∃ u, u = (m * 2 ^ s).log2 - 52 := ⟨_, rfl⟩
    have hlast : max ((s : Int) - 1074 + (m.log2 : Int) - (52 : Nat)) (-1074) = (u : Int) - 1074 := by omega
    simp only [hlp, hfb, fB, fI]
    rw [hlast]
    have a1 : ((s : Int) - 1074 - ((u : Int) - 1074)).toNat = s - u := by omega
    have a2 : ((u : Int) - 1074 - ((s : Int) - 1074)).toNat = u - s := by omega
    have a3 : ((u : Int) - 1074 - -1074).toNat = u := by omega
    rw [a1, a2, a3]
    unfold Rnd
    rw [if_neg hX, ← hu]
    congr 3
    by_cases h : u ≤ s
    · rw [show u - s = 0 by omega, cut_even _ _ _ (by omega), rne_zero, Nat.shiftLeft_eq]
      have : m * 2 ^ s = (m * 2 ^ (s - u)) * 2 ^ u := by rw [Nat.mul_assoc, ← Nat.pow_add]; congr 2; omega
      rw [this]
      have := rne_scale (m * 2 ^ (s - u)) 0 u
      rw [Nat.zero_add] at this
      rw [this, rne_zero]
    · rw [show s - u = 0 by omega, Nat.shiftLeft_zero, cut_even _ _ _ (by omega)]
      have := rne_scale m (u - s) s
      rw [show u - s + s = u by omega] at this
      exact this.symm

theorem rne_err (X u : Nat) : 2 * (rne X u * 2 ^ u) ≤ 2 * X + 2 ^ u ∧ 2 * X ≤ 2 * (rne X u * 2 ^ u) + 2 ^ u := by
  unfold rne
  have h := Nat.div_add_mod X (2 ^ u)
  have hm := Nat.mod_lt X (Nat.two_pow_pos u)
  generalize X / 2 ^ u = q at *
  generalize X % 2 ^ u = r at *
  generalize 2 ^ u = p at *
  subst h
  rw [Nat.mul_comm p q]
  have ht : (decide (p < 2 * r) || (p == 2 * r && q % 2 == 1)).toNat = 1 ∧ p ≤ 2 * r ∨ (decide (p < 2 * r) || (p == 2 * r && q % 2 == 1)).toNat = 0 ∧ 2 * r ≤ p := by
    cases hb : (decide (p < 2 * r) || (p == 2 * r && q % 2 == 1))
    · right
      refine ⟨rfl, ?_⟩
      simp at hb; omega
    · left
      refine ⟨rfl, ?_⟩
      simp at hb; omega
  rcases ht with ⟨h1, h2⟩ | ⟨h1, h2⟩ <;> rw [h1, Nat.add_mul] <;> omega

theorem rne_bd (X u : Nat) : X / 2 ^ u ≤ rne X u ∧ rne X u ≤ X / 2 ^ u + 1 := by
  unfold rne
  cases (decide (2 ^ u < 2 * (X % 2 ^ u)) || (2 ^ u == 2 * (X % 2 ^ u) && X / 2 ^ u % 2 == 1)) <;> simp

theorem rne_mono {X Y u : Nat} (h : X ≤ Y) : rne X u ≤ rne Y u := by
  have hq := Nat.div_le_div_right (c := 2 ^ u) h
  rcases Nat.lt_or_eq_of_le hq with hlt | he
  · have a := rne_bd X u
    have b := rne_bd Y u
    omega
  · have hX := Nat.div_add_mod X (2 ^ u)
    have hY := Nat.div_add_mod Y (2 ^ u)
    unfold rne
    rw [he] at hX ⊢
    have hr : X % 2 ^ u ≤ Y % 2 ^ u := by omega
    generalize X % 2 ^ u = r at *
    generalize Y % 2 ^ u = t at *
    generalize 2 ^ u = p at *
    generalize Y / p = q at *
    by_cases h1 : p < 2 * r
    · have h2 : p < 2 * t := by omega
      simp [h1, h2]
    · by_cases h2 : p = 2 * r
      · by_cases h3 : p < 2 * t
        · simp [h3]; cases decide (p < 2 * r) || (p == 2 * r && q % 2 == 1) <;> simp
        · have h4 : p = 2 * t := by omega
          have h5 : r = t := by omega
          rw [h5]; exact Nat.le_refl _
      · have e : (p == 2 * r) = false := by simpa using h2
        simp [h1, e]

theorem kept_bd (X : Nat) (hX : X ≠ 0) : rne X (X.log2 - 52) ≤ 2 * B ∧ (0 < X.log2 - 52 → B ≤ rne X (X.log2 - 52)) := by
  have ⟨h1, h2⟩ := log2_bd hX
  have hB : B = 2 ^ 52 := rfl
  have b := rne_bd X (X.log2 - 52)
  by_cases hu : 0 < X.log2 - 52
  · have e : X.log2 = 52 + (X.log2 - 52) := by omega
    have lo : B ≤ X / 2 ^ (X.log2 - 52) := by
      rw [Nat.le_div_iff_mul_le (Nat.two_pow_pos _), hB, ← Nat.pow_add, ← e]; exact h1
    have hi : X / 2 ^ (X.log2 - 52) < 2 * B := by
      rw [Nat.div_lt_iff_lt_mul (Nat.two_pow_pos _), show 2 * B = 2 ^ 53 from rfl, ← Nat.pow_add, show 53 + (X.log2 - 52) = X.log2 + 1 by omega]; exact h2
    omega
  · have e : X.log2 - 52 = 0 := by omega
    rw [e, rne_zero]
    have : X < 2 ^ 53 := Nat.lt_of_lt_of_le h2 (Nat.pow_le_pow_right (by decide) (by omega))
    have : 2 * B = 2 ^ 53 := rfl
    omega

theorem Rnd_mono {X Y : Nat} (h : X ≤ Y) : Rnd X ≤ Rnd Y := by
  unfold Rnd
  by_cases hX : X = 0
  · rw [if_pos hX]; exact Nat.zero_le _
  · have hY : Y ≠ 0 := by omega
    rw [if_neg hX, if_neg hY]
    have hl : X.log2 ≤ Y.log2 := (Nat.le_log2 hY).2 (Nat.le_trans (log2_bd hX).1 h)
    have kx := kept_bd X hX
    have ky := kept_bd Y hY
    rcases Nat.lt_or_eq_of_le (show X.log2 - 52 ≤ Y.log2 - 52 by omega) with hlt | he
    · have := ky.2 (by omega)
      have : (X.log2 - 52) * B + 2 * B ≤ (Y.log2 - 52) * B + B := by
        have : (X.log2 - 52 + 1) * B ≤ (Y.log2 - 52) * B := Nat.mul_le_mul_right _ hlt
        rw [Nat.add_mul] at this
        omega
      omega
    · rw [he]
      have := rne_mono (u := Y.log2 - 52) h
      omega

theorem val_step (u K : Nat) (h1 : K ≤ 2 * B) (h2 : 0 < u → B ≤ K) : val (u * B + K) = K * 2 ^ u := by
  have hB : 0 < B := by decide
  unfold val mag up
  by_cases hK : u * B + K < B
  · have hu : u = 0 := by
      apply Classical.byContradiction
      intro hu
      have := h2 (by omega)
      omega
    subst hu
    simp at hK
    simp [hK]
  · rw [if_neg hK, if_neg hK]
    have hBK : B ≤ K := by
      by_cases hu : 0 < u
      · exact h2 hu
      · have : u = 0 := by omega
        subst this; omega
    by_cases hK2 : K = 2 * B
    · subst hK2
      have e : u * B + 2 * B = B * (u + 2) := by rw [Nat.mul_add, Nat.mul_comm u]; omega
      rw [e, Nat.mul_mod_right, Nat.mul_div_cancel_left _ hB, show u + 2 - 1 = u + 1 by omega, Nat.pow_succ, Nat.add_zero, Nat.mul_comm 2 B, Nat.mul_assoc, Nat.mul_comm 2]
    · have e : u * B + K = B * (u + 1) + (K - B) := by rw [Nat.mul_add, Nat.mul_comm u]; omega
      rw [e, Nat.mul_add_mod, Nat.mul_add_div hB, Nat.mod_eq_of_lt (by omega), Nat.div_eq_of_lt (by omega)]
      rw [show B + (K - B) = K by omega, show u + 1 + 0 - 1 = u by omega]

theorem val_Rnd (X : Nat) (hX : X ≠ 0) : val (Rnd X) = rne X (X.log2 - 52) * 2 ^ (X.log2 - 52) := by
  unfold Rnd
  rw [if_neg hX]
  have k := kept_bd X hX
  exact val_step _ _ k.1 k.2

theorem val_inj {r s : Nat} (h : val r = val s) : r = s := by
  rcases Nat.lt_trichotomy r s with h1 | h1 | h1
  · have := val_lt h1; omega
  · exact h1
  · have := val_lt h1; omega

theorem Rnd_val (t : Nat) : Rnd (val t) = t := by
  have hB : 0 < B := by decide
  by_cases ht : t < B
  · have e : val t = t := by simp [val, mag, up, ht]
    rw [e]
    unfold Rnd
    by_cases h0 : t = 0
    · rw [if_pos h0, h0]
    · rw [if_neg h0]
      have : t.log2 < 52 := (Nat.log2_lt h0).2 ht
      rw [show t.log2 - 52 = 0 by omega, rne_zero]; omega
  · have hm : mag t = B + t % B := by unfold mag; rw [if_neg ht]
    have hml : mag t < 2 * B := by have := Nat.mod_lt t hB; omega
    have hv : val t = mag t * 2 ^ up t := rfl
    have h0 : mag t ≠ 0 := by omega
    have hlog : (mag t).log2 = 52 := log2_eq (by have : B = 2 ^ 52 := rfl; omega) (by have : 2 * B = 2 ^ (52 + 1) := rfl; omega)
    have hX : val t ≠ 0 := by rw [hv]; exact Nat.mul_ne_zero h0 (by have := Nat.two_pow_pos (up t); omega)
    apply val_inj
    rw [val_Rnd _ hX, hv, log2_scale h0, hlog, show 52 + up t - 52 = up t by omega]
    have := rne_scale (mag t) 0 (up t)
    rw [Nat.zero_add] at this
    rw [this, rne_zero]

theorem Rnd_err (X : Nat) (hX : X ≠ 0) : 2 * val (Rnd X) ≤ 2 * X + 2 ^ (X.log2 - 52) ∧ 2 * X ≤ 2 * val (Rnd X) + 2 ^ (X.log2 - 52) := by
  rw [val_Rnd X hX]; exact rne_err _ _
/-- half a unit, against the number itself -/
theorem Rnd_near (X : Nat) (hX : X ≠ 0) : 2 ^ 52 * 2 ^ (X.log2 - 52) ≤ X ∨ val (Rnd X) = X := by
  by_cases hu : 0 < X.log2 - 52
  · left
    have := (log2_bd hX).1
    rw [← Nat.pow_add, show 52 + (X.log2 - 52) = X.log2 by omega]; exact this
  · right
    rw [val_Rnd X hX, show X.log2 - 52 = 0 by omega, rne_zero]; omega
end Go.Proofs.Ytdkjmpicdkfgoaa.Fl
