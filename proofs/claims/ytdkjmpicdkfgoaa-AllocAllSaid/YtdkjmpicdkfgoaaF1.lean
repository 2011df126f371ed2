/-
  Plain facts on 64-bit floats as the model reads them: their order is the order of a whole number (key).
-/
import GoSem.Core.Float
import Derived.Laws.Entries
import Derived.Laws.FloatBits
import Derived.Laws.BitsAllLaws
import Derived.Laws.Wrap64
import Derived.RowKit
namespace Go.Proofs.Ytdkjmpicdkfgoaa.Fl
open Ieee Go.RowKit

def B : Nat := 2 ^ 52
def S : Nat := 2 ^ 63
def I : Nat := 2047 * 2 ^ 52

theorem fB : double.binade = B := rfl
theorem fS : double.signWeight = S := rfl
theorem fI : double.infRung = I := by decide +kernel

def neg (b : Nat) : Bool := b / S % 2 == 1
def rung (b : Nat) : Nat := b % S
def nanB (b : Nat) : Bool := decide (I < rung b)
/-- the magnitude and its place above the least one, of a rung -/
def mag (r : Nat) : Nat := if r < B then r else B + r % B
def up (r : Nat) : Nat := if r < B then 0 else r / B - 1
def val (r : Nat) : Nat := mag r * 2 ^ up r
/-- what a float is as a signed rung: both zeros are 0 -/
def ord (b : Nat) : Int := if neg b then -(rung b : Int) else rung b
/-- the place in the order: none first, the zeros apart -/
def key (b : Nat) : Int := if nanB b then -(2 ^ 64) else if neg b then -1 - (rung b : Int) else rung b

theorem val_succ (r : Nat) : val r < val (r + 1) := by
  unfold val mag up
  have hB : 0 < B := by decide
  by_cases h1 : r + 1 < B
  · have h0 : r < B := by omega
    simp [h0, h1]
  · by_cases h0 : r < B
    · have e : r + 1 = B := by omega
      rw [if_pos h0, if_pos h0, if_neg h1, if_neg h1, e, Nat.div_self hB, Nat.mod_self]
      simp; omega
    · simp only [h0, if_false, h1]
      have hm := Nat.div_add_mod r B
      have hlt := Nat.mod_lt r hB
      have hq : 1 ≤ r / B := (Nat.one_le_div_iff hB).2 (by omega)
      by_cases hc : r % B + 1 < B
      · have e1 : (r + 1) / B = r / B := by
          rw [← hm, Nat.add_assoc, Nat.mul_add_div hB, Nat.div_eq_of_lt hc, Nat.mul_add_div hB, Nat.div_eq_of_lt hlt]
        have e2 : (r + 1) % B = r % B + 1 := by
          rw [← hm, Nat.add_assoc, Nat.mul_add_mod, Nat.mod_eq_of_lt hc, Nat.mul_add_mod, Nat.mod_eq_of_lt hlt]
        rw [e1, e2]
        exact Nat.mul_lt_mul_of_pos_right (by omega) (Nat.two_pow_pos _)
      · have e : r + 1 = B * (r / B + 1) := by rw [Nat.mul_add, Nat.mul_one]; omega
        have e1 : (r + 1) / B = r / B + 1 := by rw [e, Nat.mul_div_cancel_left _ hB]
        have e2 : (r + 1) % B = 0 := by rw [e, Nat.mul_mod_right]
        rw [e1, e2]
        have e3 : r / B + 1 - 1 = (r / B - 1) + 1 := by omega
        rw [e3, Nat.pow_succ, Nat.add_zero, ← Nat.mul_assoc, Nat.mul_right_comm]
        exact Nat.mul_lt_mul_of_pos_right (by omega) (Nat.two_pow_pos _)

theorem val_lt {r s : Nat} (h : r < s) : val r < val s := by
  induction s with
  | zero => omega
  | succ s ih =>
    by_cases e : r = s
    · subst e; exact val_succ r
    · exact Nat.lt_trans (ih (by omega)) (val_succ s)

theorem val_le {r s : Nat} (h : r ≤ s) : val r ≤ val s := by
  rcases Nat.lt_or_eq_of_le h with h | h
  · exact Nat.le_of_lt (val_lt h)
  · rw [h]; exact Nat.le_refl _

theorem read_nan {b : Nat} (h : nanB b = true) : double.read b = .nan (neg b) (rung b - I) := by
  have h1 : I < rung b := by simpa [nanB] using h
  have hBI : B < I := by decide
  simp only [Format.read, fB, fS, fI]
  rw [if_neg (by show ¬ rung b < B; omega), if_neg (by show ¬ rung b < I; omega), if_neg (by show ¬ rung b = I; omega)]; rfl

theorem read_inf {b : Nat} (h : rung b = I) : double.read b = .infinity (neg b) := by
  have hBI : B < I := by decide
  simp only [Format.read, fB, fS, fI]
  rw [if_neg (by show ¬ rung b < B; omega), if_neg (by show ¬ rung b < I; omega), if_pos (show b % S = I from h)]; rfl

theorem read_num {b : Nat} (h : rung b < I) : double.read b = .number (neg b) (mag (rung b)) (double.leastPlace + (up (rung b) : Nat)) := by
  simp only [Format.read, fB, fS, fI]
  by_cases h1 : rung b < B
  · rw [if_pos (show b % S < B from h1)]
    rw [mag, up, if_pos h1, if_pos h1]
    simp [rung, neg]
  · rw [if_neg (show ¬ b % S < B from h1), if_pos (show b % S < I from h)]
    rw [mag, up, if_neg h1, if_neg h1]
    rfl

theorem signed_cmp (s t : Bool) (m n i j : Nat) :
    compare (signed s m (i - min i j)) (signed t n (j - min i j)) = compare (if s then -((m * 2 ^ i : Nat) : Int) else (m * 2 ^ i : Nat)) (if t then -((n * 2 ^ j : Nat) : Int) else (n * 2 ^ j : Nat)) := by
  have key : ∀ (k a b : Nat), 0 < k → ∀ s t : Bool, compare (if s then -(a : Int) else a) (if t then -(b : Int) else b) = compare (if s then -((a * k : Nat) : Int) else (a * k : Nat)) (if t then -((b * k : Nat) : Int) else (b * k : Nat)) := by
    intro k a b hk s t
    have hk' : (0 : Int) < k := by omega
    have e : ∀ (s : Bool) (a : Nat), (if s then -((a * k : Nat) : Int) else (a * k : Nat)) = (if s then -(a : Int) else a) * k := by
      intro s a; cases s <;> simp [Int.neg_mul]
    rw [e, e]
    generalize (if s then -(a : Int) else a) = x
    generalize (if t then -(b : Int) else b) = y
    rcases Int.lt_trichotomy x y with h | h | h
    · have h2 := Int.mul_lt_mul_of_pos_right h hk'
      simp [Int.compare_eq_ite_lt, h, h2]
    · rw [h]; simp
    · have h2 := Int.mul_lt_mul_of_pos_right h hk'
      have h3 : ¬ x < y := by omega
      have h4 : ¬ x * k < y * k := by omega
      simp [Int.compare_eq_ite_lt, h, h2, h3, h4]
  unfold signed
  rw [key (2 ^ min i j) _ _ (Nat.two_pow_pos _) s t]
  have e1 : (m <<< (i - min i j)) * 2 ^ min i j = m * 2 ^ i := by
    rw [Nat.shiftLeft_eq, Nat.mul_assoc, ← Nat.pow_add]; congr 2; omega
  have e2 : (n <<< (j - min i j)) * 2 ^ min i j = n * 2 ^ j := by
    rw [Nat.shiftLeft_eq, Nat.mul_assoc, ← Nat.pow_add]; congr 2; omega
  rw [e1, e2]

theorem cmp_val (s t : Bool) (r q : Nat) :
    compare (if s then -(val r : Int) else val r) (if t then -(val q : Int) else val q) = compare (if s then -(r : Int) else r) (if t then -(q : Int) else q) := by
  have v0 : val 0 = 0 := by decide
  have lt : ∀ r q, (val r < val q ↔ r < q) := fun r q => ⟨fun h => by
    by_cases hh : r < q
    · exact hh
    · exact absurd (val_le (show q ≤ r by omega)) (by omega), val_lt⟩
  have h1 := lt r q
  have h2 := lt q r
  have p1 := lt 0 r
  have p2 := lt 0 q
  rw [v0] at p1 p2
  generalize val r = vr at *
  generalize val q = vq at *
  cases s <;> cases t <;> simp only [Bool.false_eq_true, if_true, if_false] <;> (
    simp only [Int.compare_eq_ite_lt]
    repeat' split
    all_goals first | rfl | omega)

theorem order_num {x y : Nat} (hx : rung x < I) (hy : rung y < I) : double.order x y = some (compare (ord x) (ord y)) := by
  unfold Format.order
  rw [read_num hx, read_num hy]
  simp only [Datum.order]
  have e1 : (double.leastPlace + (up (rung x) : Nat) - min (double.leastPlace + (up (rung x) : Nat)) (double.leastPlace + (up (rung y) : Nat))).toNat = up (rung x) - min (up (rung x)) (up (rung y)) := by omega
  have e2 : (double.leastPlace + (up (rung y) : Nat) - min (double.leastPlace + (up (rung x) : Nat)) (double.leastPlace + (up (rung y) : Nat))).toNat = up (rung y) - min (up (rung x)) (up (rung y)) := by omega
  rw [e1, e2, signed_cmp]
  exact congrArg some (cmp_val (neg x) (neg y) (rung x) (rung y))

theorem order_nan {x y : Nat} (h : nanB x = true ∨ nanB y = true) : double.order x y = none := by
  unfold Format.order
  rcases h with h | h <;> rw [read_nan h]
  · rfl
  · cases double.read x <;> rfl

theorem order_some {x y : Nat} (hx : nanB x = false) (hy : nanB y = false) : double.order x y = some (compare (ord x) (ord y)) := by
  have hx' : rung x ≤ I := by simp [nanB] at hx; exact hx
  have hy' : rung y ≤ I := by simp [nanB] at hy; exact hy
  by_cases h1 : rung x < I
  · by_cases h2 : rung y < I
    · exact order_num h1 h2
    · have e2 : rung y = I := by omega
      unfold Format.order
      rw [read_num h1, read_inf e2]
      unfold ord
      rw [e2]
      generalize rung x = r at *
      cases neg x <;> cases neg y <;> simp [Datum.order, Int.compare_eq_ite_lt] <;> (repeat' split) <;> first | rfl | omega
  · have e1 : rung x = I := by omega
    by_cases h2 : rung y < I
    · unfold Format.order
      rw [read_num h2, read_inf e1]
      unfold ord
      rw [e1]
      generalize rung y = r at *
      cases neg x <;> cases neg y <;> simp [Datum.order, Int.compare_eq_ite_lt] <;> (repeat' split) <;> first | rfl | omega
    · have e2 : rung y = I := by omega
      unfold Format.order
      rw [read_inf e1, read_inf e2]
      unfold ord
      rw [e1, e2]
      cases neg x <;> cases neg y <;> simp [Datum.order] <;> decide

/-! the tests, as the walk spells them -/
theorem eqB (a b : Nat) : (FloatKind.f64.format.order a b == some Ordering.eq) = (!nanB a && !nanB b && decide (ord a = ord b)) := by
  show (double.order a b == some Ordering.eq) = _
  cases ha : nanB a <;> cases hb : nanB b
  · rw [order_some ha hb]
    by_cases h : ord a = ord b
    · simp [h]
    · rcases Int.lt_or_gt_of_ne h with h1 | h1
      · simp [h, Int.compare_eq_ite_lt, h1]
      · simp [h, Int.compare_eq_ite_lt, h1, show ¬ ord a < ord b by omega]
  all_goals (rw [order_nan (by simp [ha, hb])]; rfl)
theorem ltB (a b : Nat) : (FloatKind.f64.format.order a b == some Ordering.lt) = (!nanB a && !nanB b && decide (ord a < ord b)) := by
  show (double.order a b == some Ordering.lt) = _
  cases ha : nanB a <;> cases hb : nanB b
  · rw [order_some ha hb]
    by_cases h : ord a < ord b
    · simp [h, Int.compare_eq_ite_lt]
    · by_cases h1 : ord b < ord a
      · simp [h, Int.compare_eq_ite_lt, h1]
      · simp [h, Int.compare_eq_ite_lt, h1]
  all_goals (rw [order_nan (by simp [ha, hb])]; rfl)
theorem gtB (a b : Nat) : (FloatKind.f64.format.order a b == some Ordering.gt) = (!nanB a && !nanB b && decide (ord b < ord a)) := by
  show (double.order a b == some Ordering.gt) = _
  cases ha : nanB a <;> cases hb : nanB b
  · rw [order_some ha hb]
    by_cases h : ord b < ord a
    · have h1 : ¬ ord a < ord b := by omega
      simp [h, h1, Int.compare_eq_ite_lt]
    · by_cases h1 : ord a < ord b
      · simp [h, Int.compare_eq_ite_lt, h1]
      · simp [h, Int.compare_eq_ite_lt, h1]
  all_goals (rw [order_nan (by simp [ha, hb])]; rfl)

theorem neq_self (b : Nat) : (FloatKind.f64.format.order b b != some Ordering.eq) = nanB b := by
  have h := eqB b b
  unfold bne
  rw [h]
  cases nanB b <;> simp

theorem rung_lt (b : Nat) : rung b < S := Nat.mod_lt _ (by decide)
theorem ord_bd (b : Nat) : -(S : Int) < ord b ∧ ord b < S := by
  have := rung_lt b
  unfold ord; split <;> omega

theorem bits_andNot (b : Nat) (hb : b < 2 ^ 64) : (bits BinOp.andNot IntKind.u64 (b : Int) 9223372036854775808).toNat = rung b := by
  have h := u64_andNot_nat b 9223372036854775808 hb (by decide)
  rw [show ((9223372036854775808 : Int)) = ((9223372036854775808 : Nat) : Int) from rfl, h, Int.toNat_natCast]
  exact Nat.and_two_pow_sub_one_eq_mod b 63
theorem signbit_bits (b : Nat) : decide (wrap64 (b : Int) < 0) = neg b := by
  unfold wrap64 neg S
  rw [Bool.eq_iff_iff]
  simp only [decide_eq_true_eq, beq_iff_eq]
  omega
theorem bits_copysign (a b : Nat) (ha : a < 2 ^ 64) (hb : b < 2 ^ 64) :
    (bits BinOp.or IntKind.u64 (bits BinOp.andNot IntKind.u64 (a : Int) 9223372036854775808) (bits BinOp.and IntKind.u64 (b : Int) 9223372036854775808)).toNat = rung a + if neg b then S else 0 := by
  have h1 := u64_andNot_nat a 9223372036854775808 ha (by decide)
  have h2 := u64_and_nat b 9223372036854775808 hb (by decide)
  rw [show ((9223372036854775808 : Int)) = ((9223372036854775808 : Nat) : Int) from rfl, h1, h2]
  have e1 : a &&& (18446744073709551615 - 9223372036854775808) = rung a := Nat.and_two_pow_sub_one_eq_mod a 63
  have e2 : b &&& 9223372036854775808 = if neg b then S else 0 := by
    have := nat_bit 63 b
    rw [show (9223372036854775808 : Nat) = 2 ^ 63 from rfl, this]
    unfold neg S
    have : b / 2 ^ 63 % 2 < 2 := Nat.mod_lt _ (by decide)
    split
    · rename_i h
      have : b / 2 ^ 63 % 2 = 1 := by simpa using h
      rw [this]
    · rename_i h
      have h2 : ¬ (b / 2 ^ 63 % 2 = 1) := by simpa using h
      have : b / 2 ^ 63 % 2 = 0 := by omega
      rw [this]
  rw [e1, e2]
  have r := rung_lt a
  have l : (if neg b then S else 0) ≤ S := by split <;> omega
  rw [u64_or_nat _ _ (by have : S = 9223372036854775808 := rfl; omega) (by have : S = 9223372036854775808 := rfl; omega), Int.toNat_natCast, Nat.or_comm]
  rw [nat_join 63 _ _ (by split <;> rfl) r, Nat.add_comm]

theorem order_eq_iff (a b : Nat) : FloatKind.f64.format.order a b = some Ordering.eq ↔ nanB a = false ∧ nanB b = false ∧ ord a = ord b := by
  have h := eqB a b
  rw [Bool.eq_iff_iff] at h
  simpa [and_assoc] using h
theorem order_lt_iff (a b : Nat) : FloatKind.f64.format.order a b = some Ordering.lt ↔ nanB a = false ∧ nanB b = false ∧ ord a < ord b := by
  have h := ltB a b
  rw [Bool.eq_iff_iff] at h
  simpa [and_assoc] using h
theorem key_eq_iff (a b : Nat) : key a = key b ↔ (nanB a = true ∧ nanB b = true) ∨ (nanB a = false ∧ nanB b = false ∧ ord a = ord b ∧ neg a = neg b) := by
  have := rung_lt a
  have := rung_lt b
  have hS : (S : Int) = 9223372036854775808 := rfl
  unfold key ord
  cases nanB a <;> cases nanB b <;> cases neg a <;> cases neg b <;> simp <;> omega
theorem key_lt_iff (a b : Nat) : key a < key b ↔ (nanB a = true ∧ nanB b = false) ∨ (nanB a = false ∧ nanB b = false ∧ (ord a < ord b ∨ (ord a = ord b ∧ neg a = true ∧ neg b = false))) := by
  have := rung_lt a
  have := rung_lt b
  have hS : (S : Int) = 9223372036854775808 := rfl
  unfold key ord
  cases nanB a <;> cases nanB b <;> cases neg a <;> cases neg b <;> simp <;> omega

/-- what a three-way comparison answers -/
def cmp3 (x y : Int) : Int := if x < y then -1 else if y < x then 1 else 0
/-- the order of cmp.Compare: zeros alike -/
def keyc (b : Nat) : Int := if nanB b then -(2 ^ 64) else ord b

theorem key_zeros (a b : Nat) (ha : nanB a = false) (hb : nanB b = false) (h : ¬ (ord a = 0 ∧ ord b = 0)) : cmp3 (key a) (key b) = cmp3 (keyc a) (keyc b) := by
  unfold cmp3 key keyc
  rw [ha, hb]
  simp only [Bool.false_eq_true, if_false]
  unfold ord at *
  have := rung_lt a
  have := rung_lt b
  split at h <;> split at h <;> simp only [*, if_true, if_false, Bool.false_eq_true] <;> (repeat' split) <;> first | rfl | omega
theorem cmp_nan (a b : Nat) (h : nanB a = true ∨ nanB b = true) : cmp3 (key a) (key b) = cmp3 (keyc a) (keyc b) := by
  unfold cmp3 key keyc
  have ha := ord_bd a
  have hb := ord_bd b
  have := rung_lt a
  have := rung_lt b
  have hS : (S : Int) = 9223372036854775808 := rfl
  cases h1 : nanB a <;> cases h2 : nanB b <;> simp only [h1, h2, if_true, if_false, Bool.false_eq_true] at * <;> (repeat' split) <;> first | rfl | omega | simp_all

/-- both zeros, made ones by their signs -/
theorem cmp_signs (a b : Nat) (ha : ord a = 0) (hb : ord b = 0) (na : nanB a = false) (nb : nanB b = false) :
    cmp3 (keyc (rung 4607182418800017408 + if neg a then S else 0)) (keyc (rung 4607182418800017408 + if neg b then S else 0)) = cmp3 (key a) (key b) := by
  unfold key
  rw [na, nb]
  have ra : rung a = 0 := by unfold ord at ha; split at ha <;> omega
  have rb : rung b = 0 := by unfold ord at hb; split at hb <;> omega
  rw [ra, rb]
  cases neg a <;> cases neg b <;> decide

theorem copysign_lt (a b : Nat) : (rung a + if neg b then S else 0) < 2 ^ 64 := by
  have := rung_lt a
  have hS : S = 9223372036854775808 := rfl
  split <;> omega

theorem cmp3_lt (x y : Int) : decide (cmp3 x y < 0) = decide (x < y) := by
  unfold cmp3; repeat' split
  all_goals simp_all
theorem cmp3_eq (x y : Int) : (cmp3 x y == 0) = decide (x = y) := by
  unfold cmp3; repeat' split
  all_goals (rw [Bool.eq_iff_iff]; simp <;> omega)
end Go.Proofs.Ytdkjmpicdkfgoaa.Fl
