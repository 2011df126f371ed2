/-
  Sums and quotients of floats that are whole numbers.
-/
import Derived.Test.YtdkjmpicdkfgoaaF2
import Derived.Laws.Cover2
namespace Go.Proofs.Ytdkjmpicdkfgoaa.Fl
open Ieee Go.RowKit

/-- one, in units of the least float -/
def E : Nat := 1074
def U : Nat := 2 ^ E
theorem U_eq : U = 2 ^ E := rfl
theorem E_eq : E = 1074 := rfl
theorem U_pos : 0 < U := Nat.two_pow_pos E
attribute [irreducible] U E
/-- the float of a whole number from 0 on -/
def ofN (n : Nat) : Nat := min (Rnd (n * U)) I

theorem IB : I = 2047 * B := rfl
theorem I_lt_S : I < S := by decide
theorem word_pos (r : Nat) : double.word false r = r := rfl

theorem rung_fin {r : Nat} (h : r < I) : rung r = r := Nat.mod_eq_of_lt (Nat.lt_trans h I_lt_S)
theorem neg_fin {r : Nat} (h : r < I) : neg r = false := by
  unfold neg
  rw [Nat.div_eq_of_lt (Nat.lt_trans h I_lt_S)]; rfl
theorem nan_fin {r : Nat} (h : r < I) : nanB r = false := by
  unfold nanB
  rw [rung_fin h]; simp; omega
theorem ord_fin {r : Nat} (h : r < I) : ord r = r := by
  unfold ord
  rw [neg_fin h, rung_fin h]; rfl
theorem key_fin {r : Nat} (h : r < I) : key r = r := by
  unfold key
  rw [nan_fin h, neg_fin h, rung_fin h]; rfl
theorem read_fin {r : Nat} (h : r < I) : double.read r = .number false (mag r) ((up r : Int) - 1074) := by
  have hlp : double.leastPlace = -1074 := by decide +kernel
  rw [read_num (by rw [rung_fin h]; exact h), rung_fin h, neg_fin h, hlp]
  congr 1
  all_goals omega

theorem floatOfInt_nat (n : Nat) : floatOfInt .f64 (n : Int) = ofN n := by
  show double.write (.number (decide ((n : Int) < 0)) (n : Int).natAbs 0) = _
  have e : decide ((n : Int) < 0) = false := by simp
  rw [e, Int.natAbs_natCast]
  show double.nearest false n 0 = _
  have := nearest_eq false n E
  rw [show ((E : Nat) : Int) - 1074 = 0 by rw [E_eq]; omega, word_pos, ← U_eq] at this
  exact this

theorem exact_val {n s : Nat} (h : n < 2 ^ 53) (hn : n ≠ 0) (hs : 52 ≤ s) : val (Rnd (n * 2 ^ s)) = n * 2 ^ s ∧ (Rnd (n * 2 ^ s)) ≤ (s + 2) * B := by
  have hp := Nat.two_pow_pos s
  have hX : n * 2 ^ s ≠ 0 := Nat.mul_ne_zero hn (by omega)
  have hl := log2_scale hn s
  have hlog : n.log2 ≤ 52 := by have := (Nat.log2_lt hn).2 h; omega
  have e : n * 2 ^ s = (n * 2 ^ (52 - n.log2)) * 2 ^ ((n * 2 ^ s).log2 - 52) := by
    rw [hl, Nat.mul_assoc, ← Nat.pow_add]; congr 2; omega
  have er : rne (n * 2 ^ s) ((n * 2 ^ s).log2 - 52) = n * 2 ^ (52 - n.log2) := by
    have := rne_scale (n * 2 ^ (52 - n.log2)) 0 ((n * 2 ^ s).log2 - 52)
    rw [← e, Nat.zero_add, rne_zero] at this
    exact this
  constructor
  · rw [val_Rnd _ hX, er]; exact e.symm
  · have k := (kept_bd _ hX).1
    unfold Rnd
    rw [if_neg hX]
    have : ((n * 2 ^ s).log2 - 52) * B ≤ s * B := Nat.mul_le_mul_right _ (by omega)
    rw [Nat.add_mul]; omega

theorem ofN_fin {n : Nat} (h : n < 2 ^ 53) : ofN n < I ∧ val (ofN n) = n * U ∧ ofN n = Rnd (n * U) := by
  by_cases hn : n = 0
  · subst hn
    have e : Rnd (0 * U) = 0 := by rw [Nat.zero_mul]; rfl
    have e2 : ofN 0 = 0 := by unfold ofN; rw [e]; decide
    rw [e2, e, Nat.zero_mul]
    exact ⟨by decide, by decide, rfl⟩
  · have ⟨h1, h2⟩ := exact_val (s := E) h hn (by rw [E_eq]; decide)
    rw [← U_eq] at h1 h2
    have h3 : Rnd (n * U) ≤ 1076 * B := by rw [E_eq] at h2; exact h2
    have h4 : val (Rnd (n * U)) = n * U := h1
    have hB : 0 < B := by decide
    have e : ofN n = Rnd (n * U) := by unfold ofN; rw [IB]; omega
    exact ⟨by rw [e, IB]; omega, by rw [e]; exact h4, e⟩

theorem ofN_lt {a b : Nat} (ha : a < 2 ^ 53) (hb : b < 2 ^ 53) : ofN a < ofN b ↔ a < b := by
  have x := (ofN_fin ha).2.1
  have y := (ofN_fin hb).2.1
  constructor
  · intro h
    have := val_lt h
    rw [x, y] at this
    exact Nat.lt_of_mul_lt_mul_right this
  · intro h
    apply Classical.byContradiction
    intro hn
    have := val_le (show ofN b ≤ ofN a by omega)
    rw [x, y] at this
    have := Nat.le_of_mul_le_mul_right this U_pos
    omega
theorem ofN_le {a b : Nat} (h : a ≤ b) : ofN a ≤ ofN b := by
  have := Rnd_mono (Nat.mul_le_mul_right U h)
  unfold ofN
  omega

theorem add_fin {r s : Nat} (hr : r < I) (hs : s < I) : double.add r s = some (min (Rnd (val r + val s)) I) := by
  unfold Format.add
  rw [read_fin hr, read_fin hs]
  simp only [Datum.sum, Option.map_some, Format.write]
  congr 1
  have e0 : min ((up r : Int) - 1074) ((up s : Int) - 1074) = ((min (up r) (up s) : Nat) : Int) - 1074 := by omega
  rw [e0]
  have e1 : ((up r : Int) - 1074 - (((min (up r) (up s) : Nat) : Int) - 1074)).toNat = up r - min (up r) (up s) := by omega
  have e2 : ((up s : Int) - 1074 - (((min (up r) (up s) : Nat) : Int) - 1074)).toNat = up s - min (up r) (up s) := by omega
  rw [e1, e2]
  simp only [signed, Bool.false_eq_true, if_false]
  have e3 : (((mag r <<< (up r - min (up r) (up s)) : Nat) : Int) + ((mag s <<< (up s - min (up r) (up s)) : Nat) : Int)) = ((mag r <<< (up r - min (up r) (up s)) + mag s <<< (up s - min (up r) (up s)) : Nat) : Int) := by omega
  rw [e3, Int.natAbs_natCast]
  have e4 : ∀ T : Nat, (if ((T : Nat) : Int) = 0 then (false && false) else decide ((T : Int) < 0)) = false := by
    intro T
    split
    · rfl
    · exact decide_eq_false (by omega)
  rw [e4, nearest_eq, word_pos]
  congr 2
  rw [Nat.shiftLeft_eq, Nat.shiftLeft_eq, Nat.add_mul, Nat.mul_assoc, Nat.mul_assoc, ← Nat.pow_add, ← Nat.pow_add]
  unfold val
  congr 3 <;> omega

theorem add_ofN {a b : Nat} (h : a + b < 2 ^ 53) : double.add (ofN a) (ofN b) = some (ofN (a + b)) := by
  have ha := ofN_fin (show a < 2 ^ 53 by omega)
  have hb := ofN_fin (show b < 2 ^ 53 by omega)
  rw [add_fin ha.1 hb.1, ha.2.1, hb.2.1, ← Nat.add_mul]
  rfl

theorem trunc_val {r : Nat} : mag r / (1 <<< min (1074 - up r) ((mag r).log2 + 2)) = mag r / 2 ^ (1074 - up r) := by
  rw [Nat.shiftLeft_eq, Nat.one_mul]
  rcases Nat.le_total (1074 - up r) ((mag r).log2 + 2) with h | h
  · rw [Nat.min_eq_left h]
  · rw [Nat.min_eq_right h]
    have h1 : mag r < 2 ^ ((mag r).log2 + 1) := Nat.lt_log2_self
    have h2 : 2 ^ ((mag r).log2 + 1) ≤ 2 ^ ((mag r).log2 + 2) := Nat.pow_le_pow_right (by decide) (by omega)
    have h3 : 2 ^ ((mag r).log2 + 2) ≤ 2 ^ (1074 - up r) := Nat.pow_le_pow_right (by decide) h
    rw [Nat.div_eq_of_lt (by omega), Nat.div_eq_of_lt (by omega)]

/-- the quotient of two normal numbers, before it is rounded -/
def quo (r s : Nat) : Nat := 2 * (mag r * 2 ^ 54 / mag s) + (mag r * 2 ^ 54 % mag s != 0).toNat

theorem mag_norm {r : Nat} (h : B ≤ r) : B ≤ mag r ∧ mag r < 2 * B ∧ (mag r).log2 = 52 := by
  have hB : 0 < B := by decide
  have e : mag r = B + r % B := by unfold mag; rw [if_neg (by omega)]
  have := Nat.mod_lt r hB
  have b1 : B ≤ mag r := by omega
  have b2 : mag r < 2 * B := by omega
  exact ⟨b1, b2, log2_eq b1 b2⟩

theorem quot_num (d m n : Nat) (i j : Int) (hn : n ≠ 0) (hm : m.log2 = 52) (hl : n.log2 = 52) :
    (Datum.number false m i).quotient d (.number false n j) = some (.number false (2 * (m * 2 ^ d / n) + (m * 2 ^ d % n != 0).toNat) (i - j - (d : Nat) - 1)) := by
  have e : d + 52 - 52 = d := by omega
  simp only [Datum.quotient, if_neg hn, hm, hl, e, Nat.shiftLeft_eq, Bool.xor_false]

theorem div_fin {r s k : Nat} (hr : r < I) (hs : s < I) (br : B ≤ r) (bs : B ≤ s) (hk : k + up s = up r + 1019) : double.div r s = some (min (Rnd (quo r s * 2 ^ k)) I) := by
  have mr := mag_norm br
  have ms := mag_norm bs
  have hB : 0 < B := by decide
  have hn : mag s ≠ 0 := by omega
  have e : (up r : Int) - 1074 - ((up s : Int) - 1074) - ((54 : Nat) : Int) - 1 = (k : Int) - 1074 := by omega
  have h := quot_num 54 (mag r) (mag s) ((up r : Int) - 1074) ((up s : Int) - 1074) hn mr.2.2 ms.2.2
  rw [e, ← read_fin hr, ← read_fin hs] at h
  have h2 : double.div r s = some (double.write (.number false (quo r s) ((k : Int) - 1074))) := by
    unfold Format.div
    exact congrArg (Option.map double.write) h
  rw [h2]
  have h3 := nearest_eq false (quo r s) k
  rw [word_pos] at h3
  exact congrArg some h3

theorem zero_div {s : Nat} (hs : s < I) (h0 : mag s ≠ 0) : double.div 0 s = some 0 := by
  unfold Format.div
  rw [read_fin (r := 0) (by decide), read_fin hs]
  simp only [Datum.quotient]
  rw [if_neg h0]
  have e : mag 0 = 0 := by decide
  simp only [Option.map_some, Format.write, e]
  simp [Format.nearest, Format.word]

/-- where a whole number from 1 on stands -/
theorem ofN_norm {n : Nat} (h : n < 2 ^ 53) (hn : n ≠ 0) : B ≤ ofN n ∧ up (ofN n) = n.log2 + 1022 := by
  have hf := ofN_fin h
  have hb : B ≤ ofN n := by
    apply Classical.byContradiction
    intro hlt
    have hv : val (ofN n) = ofN n := by
      have : ofN n < B := by omega
      simp [val, mag, up, this]
    rw [hf.2.1] at hv
    have h1 : 1 * U ≤ n * U := Nat.mul_le_mul_right _ (by omega)
    have h2 : B < U := by
      have e : B = 2 ^ 52 := rfl
      have : (2 : Nat) ^ 52 < 2 ^ E := Nat.pow_lt_pow_right (by decide) (by rw [E_eq]; decide)
      rw [e, U_eq]; exact this
    omega
  refine ⟨hb, ?_⟩
  have hm := mag_norm hb
  have hl : (val (ofN n)).log2 = 52 + up (ofN n) := by
    unfold val
    rw [log2_scale (by have : 0 < B := by decide
                       omega), hm.2.2]
  have hl2 : (n * U).log2 = n.log2 + E := by rw [U_eq]; exact log2_scale hn E
  have hE := E_eq
  rw [hf.2.1, hl2] at hl
  omega

/-- THE QUOTIENT OF TWO WHOLE NUMBERS from 1 on: between those whole numbers between which it lies, and near the exact one. -/
theorem div_ofN {a b : Nat} (ha : a < 2 ^ 53) (hb : b < 2 ^ 53) (a0 : a ≠ 0) (b0 : b ≠ 0) :
    ∃ X k : Nat, double.div (ofN a) (ofN b) = some (Rnd X) ∧ k + b.log2 = a.log2 + 1019 ∧ (∀ z, b * z ≤ a → z * U ≤ X) ∧ (∀ z, a ≤ b * z → X ≤ z * U) ∧
      b * X ≤ a * U + b * 2 ^ k ∧ a * U ≤ b * X + b * 2 ^ k := by
  have fa := ofN_fin ha
  have fb := ofN_fin hb
  have na := ofN_norm ha a0
  have nb := ofN_norm hb b0
  have la : a.log2 ≤ 52 := by have := (Nat.log2_lt a0).2 ha; omega
  have lb : b.log2 ≤ 52 := by have := (Nat.log2_lt b0).2 hb; omega
  obtain ⟨k, hk⟩ : ∃ k, k + b.log2 = a.log2 + 1019 := ⟨a.log2 + 1019 - b.log2, by omega⟩
  have hkk : k + up (ofN b) = up (ofN a) + 1019 := by omega
  have hm := mag_norm na.1
  have hn := mag_norm nb.1
  have vm : mag (ofN a) * 2 ^ up (ofN a) = a * U := fa.2.1
  have vn : mag (ofN b) * 2 ^ up (ofN b) = b * U := fb.2.1
  have hB : 0 < B := by decide
  have hdiv := div_fin fa.1 fb.1 na.1 nb.1 hkk
  have hq : quo (ofN a) (ofN b) = 2 * (mag (ofN a) * 2 ^ 54 / mag (ofN b)) + (mag (ofN a) * 2 ^ 54 % mag (ofN b) != 0).toNat := rfl
  have hdm := Nat.div_add_mod (mag (ofN a) * 2 ^ 54) (mag (ofN b))
  have hlt := Nat.mod_lt (mag (ofN a) * 2 ^ 54) (show 0 < mag (ofN b) by omega)
  have hbit : (mag (ofN a) * 2 ^ 54 % mag (ofN b) != 0).toNat = 0 ∧ mag (ofN a) * 2 ^ 54 % mag (ofN b) = 0 ∨ (mag (ofN a) * 2 ^ 54 % mag (ofN b) != 0).toNat = 1 ∧ 0 < mag (ofN a) * 2 ^ 54 % mag (ofN b) := by
    by_cases h : mag (ofN a) * 2 ^ 54 % mag (ofN b) = 0
    · left; simp [h]
    · right; refine ⟨by simp [h], by omega⟩
  have hE := E_eq
  generalize quo (ofN a) (ofN b) = q at *
  generalize mag (ofN a) = m at *
  generalize mag (ofN b) = n at *
  generalize up (ofN a) = ua at *
  generalize up (ofN b) = ub at *
  generalize m * 2 ^ 54 / n = d at *
  generalize m * 2 ^ 54 % n = r at *
  -- the two sides, scaled to one
  have s1 : n * 2 ^ (ub + k + 1) = b * U * 2 ^ (k + 1) := by rw [← vn, Nat.mul_assoc, ← Nat.pow_add]; congr 2
  have s2 : m * 2 ^ 54 * 2 ^ (ub + k + 1) = a * U * U := by
    rw [← vm, U_eq, Nat.mul_assoc, Nat.mul_assoc, ← Nat.pow_add, ← Nat.pow_add]
    congr 2; omega
  have hU : ∀ z : Nat, z * U = z * 2 ^ (1073 - k) * 2 ^ (k + 1) := by
    intro z
    rw [U_eq, Nat.mul_assoc, ← Nat.pow_add]; congr 2; omega
  have s3 : ∀ z : Nat, (z * 2 ^ (1073 - k) * n) * 2 ^ (ub + k + 1) = (b * z) * U * U := by
    intro z
    rw [Nat.mul_assoc, s1]
    have := hU z
    calc z * 2 ^ (1073 - k) * (b * U * 2 ^ (k + 1)) = (z * 2 ^ (1073 - k) * 2 ^ (k + 1)) * (b * U) := by ac_rfl
      _ = (z * U) * (b * U) := by rw [← this]
      _ = (b * z) * U * U := by ac_rfl
  have hP : 0 < 2 ^ (ub + k + 1) := Nat.two_pow_pos _
  have low : ∀ z, b * z ≤ a → z * U ≤ q * 2 ^ k := by
    intro z hz
    have h1 : (z * 2 ^ (1073 - k) * n) * 2 ^ (ub + k + 1) ≤ (m * 2 ^ 54) * 2 ^ (ub + k + 1) := by
      rw [s3, s2]; exact Nat.mul_le_mul_right _ (Nat.mul_le_mul_right _ hz)
    have h2 := Nat.le_of_mul_le_mul_right h1 hP
    have h3 : z * 2 ^ (1073 - k) ≤ d := by
      apply Classical.byContradiction
      intro hc
      have : n * (d + 1) ≤ n * (z * 2 ^ (1073 - k)) := Nat.mul_le_mul_left _ (by omega)
      rw [Nat.mul_add, Nat.mul_one, Nat.mul_comm n (z * 2 ^ (1073 - k))] at this
      omega
    rw [hU, Nat.pow_succ, Nat.mul_comm (2 ^ k) 2, ← Nat.mul_assoc]
    exact Nat.mul_le_mul_right _ (by omega)
  have high : ∀ z, a ≤ b * z → q * 2 ^ k ≤ z * U := by
    intro z hz
    have h1 : (m * 2 ^ 54) * 2 ^ (ub + k + 1) ≤ (z * 2 ^ (1073 - k) * n) * 2 ^ (ub + k + 1) := by
      rw [s3, s2]; exact Nat.mul_le_mul_right _ (Nat.mul_le_mul_right _ hz)
    have h2 := Nat.le_of_mul_le_mul_right h1 hP
    have h3 : n * d + r ≤ n * (z * 2 ^ (1073 - k)) := by rw [Nat.mul_comm n (z * 2 ^ (1073 - k))]; omega
    have h4 : d ≤ z * 2 ^ (1073 - k) := by
      apply Classical.byContradiction
      intro hc
      have : n * (z * 2 ^ (1073 - k) + 1) ≤ n * d := Nat.mul_le_mul_left _ (by omega)
      rw [Nat.mul_add, Nat.mul_one] at this
      omega
    have h5 : 0 < r → d < z * 2 ^ (1073 - k) := by
      intro hr
      apply Classical.byContradiction
      intro hc
      have : n * (z * 2 ^ (1073 - k)) ≤ n * d := Nat.mul_le_mul_left _ (by omega)
      omega
    rw [hU, Nat.pow_succ, Nat.mul_comm (2 ^ k) 2, ← Nat.mul_assoc]
    refine Nat.mul_le_mul_right _ ?_
    rcases hbit with ⟨e1, e2⟩ | ⟨e1, e2⟩
    · omega
    · have := h5 e2; omega
  have top : Rnd (q * 2 ^ k) < I := by
    have := Rnd_mono (high a (Nat.le_mul_of_pos_left a (by omega)))
    have e := fa.2.2
    have := fa.1
    omega
  -- the error
  have hnq : n * q ≤ m * 2 ^ 55 + n ∧ m * 2 ^ 55 ≤ n * q + n := by
    have e55 : m * 2 ^ 55 = 2 * (m * 2 ^ 54) := by rw [show (2 : Nat) ^ 55 = 2 * 2 ^ 54 from rfl]; ac_rfl
    have hnd : n * (2 * d) = 2 * (n * d) := by ac_rfl
    rcases hbit with ⟨e1, e2⟩ | ⟨e1, e2⟩
    · rw [hq, e1, Nat.add_zero, hnd, e55]; omega
    · rw [hq, e1, Nat.mul_add, Nat.mul_one, hnd, e55]; omega
  have sc1 : n * q * 2 ^ (ub + k) = (b * (q * 2 ^ k)) * U := by
    rw [Nat.pow_add]
    calc n * q * (2 ^ ub * 2 ^ k) = (n * 2 ^ ub) * (q * 2 ^ k) := by ac_rfl
      _ = (b * U) * (q * 2 ^ k) := by rw [vn]
      _ = _ := by ac_rfl
  have sc2 : m * 2 ^ 55 * 2 ^ (ub + k) = a * U * U := by
    rw [← s2, Nat.mul_assoc, Nat.mul_assoc, ← Nat.pow_add, ← Nat.pow_add]; congr 2; omega
  have sc3 : n * 2 ^ (ub + k) = (b * 2 ^ k) * U := by
    rw [Nat.pow_add]
    calc n * (2 ^ ub * 2 ^ k) = (n * 2 ^ ub) * 2 ^ k := by ac_rfl
      _ = (b * U) * 2 ^ k := by rw [vn]
      _ = _ := by ac_rfl
  refine ⟨q * 2 ^ k, k, ?_, hk, low, high, ?_, ?_⟩
  · rw [hdiv, Nat.min_eq_left (Nat.le_of_lt top)]
  · have := Nat.mul_le_mul_right (2 ^ (ub + k)) hnq.1
    rw [Nat.add_mul, sc1, sc2, sc3, ← Nat.add_mul] at this
    exact Nat.le_of_mul_le_mul_right this U_pos
  · have := Nat.mul_le_mul_right (2 ^ (ub + k)) hnq.2
    rw [Nat.add_mul, sc1, sc2, sc3, ← Nat.add_mul] at this
    exact Nat.le_of_mul_le_mul_right this U_pos
end Go.Proofs.Ytdkjmpicdkfgoaa.Fl
