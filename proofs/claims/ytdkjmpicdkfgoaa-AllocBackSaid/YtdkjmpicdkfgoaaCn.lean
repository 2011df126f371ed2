/-
  Those numbers that are there, as a list, and how many they are.
-/
import Derived.Test.YtdkjmpicdkfgoaaBm
namespace Go.Proofs.Ytdkjmpicdkfgoaa

/-- those below n that are there, rising -/
def allN (l : List Nat) (n : Nat) : List Nat := (List.range n).filter (hasN l)
/-- how many of them -/
def countN (l : List Nat) (n : Nat) : Nat := (allN l n).length
theorem allN_succ (l : List Nat) (k : Nat) : allN l (k + 1) = allN l k ++ (if hasN l k = true then [k] else []) := by
  unfold allN
  rw [List.range_succ, List.filter_append]
  congr 1
  cases h : hasN l k <;> simp [List.filter, h]
theorem countN_succ (l : List Nat) (k : Nat) (r : Bool) (hr : hasN l k = r) : countN l (k + 1) = countN l k + (if r = true then 1 else 0) := by
  unfold countN
  rw [allN_succ, List.length_append, hr]
  cases r <;> rfl
theorem countN_le (l : List Nat) (k : Nat) : countN l k ≤ k := by
  unfold countN allN
  exact Nat.le_trans (List.length_filter_le _ _) (by simp)
theorem allN_out (l : List Nat) (k : Nat) : ∀ d, 8 * l.length ≤ k → allN l (k + d) = allN l k
  | 0, _ => rfl
  | d + 1, h => by
    show allN l (k + d + 1) = _
    rw [allN_succ, if_neg (by rw [hasN_out (by omega)]; decide), List.append_nil]
    exact allN_out l k d h
theorem allN_min {l : List Nat} {n : Nat} (h : 8 * l.length ≤ n) : allN l n = allN l (8 * l.length) := by
  have := allN_out l (8 * l.length) (n - 8 * l.length) (Nat.le_refl _)
  rwa [show 8 * l.length + (n - 8 * l.length) = n by omega] at this
end Go.Proofs.Ytdkjmpicdkfgoaa
