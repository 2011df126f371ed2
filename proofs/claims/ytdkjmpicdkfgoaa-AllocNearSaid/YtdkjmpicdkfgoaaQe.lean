/-
  How many are free in all groups; all that is deferred made free: the lists.
-/
import Derived.Test.YtdkjmpicdkfgoaaQd
namespace Go.Proofs.Ytdkjmpicdkfgoaa
open Go.RowKit BigFrame Fl

/-- how many are free in the first k groups -/
def freeTo (X : Nat → List Nat) (o e : Nat) : Nat → Nat
  | 0 => 0
  | k + 1 => freeTo X o e k + freeN X o e k
theorem freeTo_le (X : Nat → List Nat) (o e : Nat) : ∀ k, freeTo X o e k ≤ k * e
  | 0 => Nat.zero_le _
  | k + 1 => by
    have h1 := freeTo_le X o e k
    have h2 := freeN_le X o e k
    unfold freeTo
    rw [Nat.succ_mul]; omega
/-- some numbers taken away -/
def takeOut (T : List Nat) : List Nat → List Nat
  | [] => T
  | j :: l => takeOut (putN T j false) l
theorem takeOut_length : ∀ (l T : List Nat), (takeOut T l).length = T.length
  | [], _ => rfl
  | _j :: l, _T => (takeOut_length l _).trans (putN_length _ _ _)
theorem takeOut_octs : ∀ (l T : List Nat), Octs T → Octs (takeOut T l)
  | [], _, h => h
  | _j :: l, _T, h => takeOut_octs l _ (putN_octs h _ _)
theorem takeOut_snoc : ∀ (l T : List Nat) (j : Nat), takeOut T (l ++ [j]) = putN (takeOut T l) j false
  | [], _, _ => rfl
  | _ :: l, _, j => takeOut_snoc l _ j
theorem takeOut_has : ∀ (l T : List Nat) (x : Nat), hasN (takeOut T l) x = (hasN T x && !decide (x ∈ l))
  | [], T, x => by simp [takeOut]
  | j :: l, T, x => by
    show hasN (takeOut (putN T j false) l) x = _
    rw [takeOut_has l, hasN_put_any]
    by_cases e : x = j
    · subst e
      by_cases h : x < 8 * T.length
      · simp [h]
      · rw [if_neg (by omega), hasN_out (l := T) (by omega)]; simp
    · rw [if_neg (by omega)]
      simp [e]
/-- a space's sets behind Firm, in the first k groups of a pool: T taken, D deferred -/
def firmX (X : Nat → List Nat) (o e : Nat) : Nat → Nat → List Nat
  | 0 => X
  | k + 1 => updX (updX (firmX X o e k) (o + 2 + 2 * k) (takeOut (X (o + 2 + 2 * k)) (allN (X (o + 2 + 2 * k + 1)) e))) (o + 2 + 2 * k + 1) (zs ((e + 7) / 8))
theorem firmX_off (X : Nat → List Nat) (o e : Nat) : ∀ (k c : Nat), (c < o + 2 ∨ o + 2 + 2 * k ≤ c) → firmX X o e k c = X c
  | 0, _, _ => rfl
  | k + 1, c, h => by
    unfold firmX
    rw [updX_off _ _ (by omega), updX_off _ _ (by omega), firmX_off X o e k c (by omega)]
theorem firmX_taken (X : Nat → List Nat) (o e : Nat) : ∀ {n k : Nat}, k < n → firmX X o e n (o + 2 + 2 * k) = takeOut (X (o + 2 + 2 * k)) (allN (X (o + 2 + 2 * k + 1)) e)
  | n + 1, k, h => by
    unfold firmX
    rw [updX_off _ _ (by omega)]
    by_cases e : k = n
    · subst e; rw [updX_at]
    · rw [updX_off _ _ (by omega)]; exact firmX_taken X o _ (by omega)
theorem firmX_deferred (X : Nat → List Nat) (o e : Nat) : ∀ {n k : Nat}, k < n → firmX X o e n (o + 2 + 2 * k + 1) = zs ((e + 7) / 8)
  | n + 1, k, h => by
    unfold firmX
    by_cases e : k = n
    · subst e; rw [updX_at]
    · rw [updX_off _ _ (by omega), updX_off _ _ (by omega)]; exact firmX_deferred X o _ (by omega)
/-- how many are deferred in the first k groups -/
def defTo (X : Nat → List Nat) (o e : Nat) : Nat → Nat
  | 0 => 0
  | k + 1 => defTo X o e k + countN (X (o + 2 + 2 * k + 1)) e
theorem defTo_le (X : Nat → List Nat) (o e : Nat) : ∀ k, defTo X o e k ≤ k * e
  | 0 => Nat.zero_le _
  | k + 1 => by
    have h1 := defTo_le X o e k
    have h2 := countN_le (X (o + 2 + 2 * k + 1)) e
    have h3 : (k + 1) * e = k * e + e := Nat.succ_mul k e
    unfold defTo
    omega
end Go.Proofs.Ytdkjmpicdkfgoaa
