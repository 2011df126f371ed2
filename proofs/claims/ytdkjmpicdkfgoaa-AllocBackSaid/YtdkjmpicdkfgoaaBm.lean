/-
  Sets of small numbers, as bytes: is one there; put in, taken away.
-/
import Derived.Test.YtdkjmpicdkfgoaaRw
namespace Go.Proofs.Ytdkjmpicdkfgoaa
open Go.RowKit

/-- the bit of i in its byte -/
def bitN (i : Nat) : Nat := 2 ^ (i % 8)
/-- is i there? -/
def hasN (l : List Nat) (i : Nat) : Bool := (bz l (i / 8)).testBit (i % 8)
/-- a byte with i so -/
def putB (x i : Nat) (on : Bool) : Nat := if on then x ||| bitN i else x &&& (255 - bitN i)
/-- all of them, with i so -/
def putN (l : List Nat) (i : Nat) (on : Bool) : List Nat := l.set (i / 8) (putB (bz l (i / 8)) i on)

theorem bz_out {l : List Nat} {k : Nat} (h : l.length ≤ k) : bz l k = 0 := by simp [bz, List.getD, List.getElem?_eq_none h]
theorem hasN_out {l : List Nat} {i : Nat} (h : 8 * l.length ≤ i) : hasN l i = false := by
  unfold hasN
  rw [bz_out (by omega), Nat.zero_testBit]
theorem hasN_in {l : List Nat} {i : Nat} (h : hasN l i = true) : i < 8 * l.length := by
  by_cases e : i < 8 * l.length
  · exact e
  · rw [hasN_out (by omega)] at h; cases h
theorem bitN_lt (i : Nat) : bitN i < 256 := by
  unfold bitN
  have : i % 8 < 8 := Nat.mod_lt _ (by decide)
  generalize i % 8 = r at *
  match r, this with
  | 0, _ | 1, _ | 2, _ | 3, _ | 4, _ | 5, _ | 6, _ | 7, _ => decide
theorem putB_lt {x i : Nat} {on : Bool} (h : x < 256) : putB x i on < 256 := by
  unfold putB
  split
  · exact Nat.or_lt_two_pow (n := 8) h (bitN_lt i)
  · exact Nat.lt_of_le_of_lt Nat.and_le_left h
theorem putN_length (l : List Nat) (i : Nat) (on : Bool) : (putN l i on).length = l.length := by simp [putN]
theorem putN_octs {l : List Nat} (h : Octs l) (i : Nat) (on : Bool) : Octs (putN l i on) := by
  by_cases hi : i / 8 < l.length
  · exact h.set (putB_lt (h _ hi))
  · unfold putN; rw [List.set_eq_of_length_le (by omega)]; exact h
theorem putN_out {l : List Nat} {i : Nat} {on : Bool} (h : 8 * l.length ≤ i) : putN l i on = l := by
  unfold putN; exact List.set_eq_of_length_le (by omega)
theorem mask_bits : ∀ k, k < 8 → ∀ t, t < 8 → (255 - 2 ^ k).testBit t = !decide (k = t) := by decide
theorem putB_bit (x i t : Nat) (on : Bool) (ht : t < 8) : (putB x i on).testBit t = if i % 8 = t then on else x.testBit t := by
  unfold putB bitN
  have hk : i % 8 < 8 := Nat.mod_lt _ (by decide)
  cases on
  · simp only [Bool.false_eq_true, if_false, Nat.testBit_and]
    rw [mask_bits _ hk _ ht]
    by_cases e : i % 8 = t <;> simp [e]
  · simp only [if_true, Nat.testBit_or, Nat.testBit_two_pow]
    by_cases e : i % 8 = t <;> simp [e]
theorem hasN_put {l : List Nat} {i j : Nat} {on : Bool} (h : i < 8 * l.length) : hasN (putN l i on) j = if j = i then on else hasN l j := by
  unfold hasN putN
  rw [bz_set (by omega)]
  have hj : j % 8 < 8 := Nat.mod_lt _ (by decide)
  by_cases e : j / 8 = i / 8
  · rw [if_pos e, putB_bit _ _ _ _ hj]
    by_cases e2 : i % 8 = j % 8
    · rw [if_pos e2, if_pos (by omega)]
    · rw [if_neg e2, if_neg (by omega), e]
  · rw [if_neg e, if_neg (by omega)]
theorem hasN_put_any {l : List Nat} {i j : Nat} {on : Bool} : hasN (putN l i on) j = if j = i ∧ i < 8 * l.length then on else hasN l j := by
  by_cases h : i < 8 * l.length
  · rw [hasN_put h]; simp [h]
  · rw [putN_out (by omega), if_neg (by omega)]
theorem byte_ext {x y : Nat} (hx : x < 256) (hy : y < 256) (h : ∀ t, t < 8 → x.testBit t = y.testBit t) : x = y := by
  apply Nat.eq_of_testBit_eq
  intro t
  by_cases ht : t < 8
  · exact h t ht
  · have : 2 ^ 8 ≤ 2 ^ t := Nat.pow_le_pow_right (by decide) (by omega)
    rw [Nat.testBit_lt_two_pow (by omega), Nat.testBit_lt_two_pow (by omega)]
/-- bytes with the same numbers are the same -/
theorem bits_ext {l m : List Nat} (hl : Octs l) (hm : Octs m) (hlen : l.length = m.length) (h : ∀ i, i < 8 * l.length → hasN l i = hasN m i) : l = m := by
  refine bz_ext hlen fun k hk => byte_ext (hl k hk) (hm k (by omega)) fun t ht => ?_
  have := h (8 * k + t) (by omega)
  unfold hasN at this
  rwa [show (8 * k + t) / 8 = k by omega, show (8 * k + t) % 8 = t by omega] at this
theorem hasN_zs (n i : Nat) : hasN (zs n) i = false := by
  by_cases h : i < 8 * (zs n).length
  · unfold hasN zs
    rw [bz_rep n 0 _ (by rw [zs_length] at h; omega), Nat.zero_testBit]
  · exact hasN_out (by omega)

theorem has_int {x i : Nat} (hx : x < 256) : (bits .and .u8 (x : Int) ((bitN i : Nat) : Int) != 0) = x.testBit (i % 8) := by
  rw [u8_and_nat x _ hx (bitN_lt i)]
  unfold bitN
  rw [nat_bit, Nat.testBit_eq_decide_div_mod_eq]
  have h2 := Nat.mod_two_eq_zero_or_one (x / 2 ^ (i % 8))
  have h3 : 0 < 2 ^ (i % 8) := Nat.two_pow_pos _
  generalize x / 2 ^ (i % 8) % 2 = q at *
  rcases h2 with rfl | rfl
  · simp
  · simp only [Nat.one_mul, decide_true]
    rw [bne_iff_ne]
    omega
theorem put_int {x i : Nat} (hx : x < 256) : bits .or .u8 (x : Int) ((bitN i : Nat) : Int) = ((putB x i true : Nat) : Int) := by
  rw [u8_or_nat x _ hx (bitN_lt i)]; rfl
theorem take_int {x i : Nat} (hx : x < 256) : bits .andNot .u8 (x : Int) ((bitN i : Nat) : Int) = ((putB x i false : Nat) : Int) := by
  rw [u8_andNot_nat x _ hx (bitN_lt i)]; rfl
end Go.Proofs.Ytdkjmpicdkfgoaa
