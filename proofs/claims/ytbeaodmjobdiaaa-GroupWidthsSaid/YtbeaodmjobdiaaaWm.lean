/-
  Numbers that are picked from those below k, and three times them: as lists, as bytes.
-/
import Derived.Test.YtbeaodmjobdiaaaWl
namespace Go.Proofs.Ytbeaodmjobdiaaa
open Go.RowKit

/-- those below k that are picked, rising -/
def pickN (F : Nat → Bool) (k : Nat) : List Nat := (List.range k).filter F
def triN (F : Nat → Bool) (k : Nat) : List Nat := (pickN F k).map fun i => 3 * i
theorem pick_yes {F : Nat → Bool} {k : Nat} (h : F k = true) : pickN F (k + 1) = pickN F k ++ [k] := by
  unfold pickN; rw [List.range_succ, List.filter_append]; simp [List.filter, h]
theorem pick_no {F : Nat → Bool} {k : Nat} (h : F k = false) : pickN F (k + 1) = pickN F k := by
  unfold pickN; rw [List.range_succ, List.filter_append]; simp [List.filter, h]
theorem tri_yes {F : Nat → Bool} {k : Nat} (h : F k = true) : triN F (k + 1) = triN F k ++ [3 * k] := by
  unfold triN; rw [pick_yes h, List.map_append]; rfl
theorem tri_no {F : Nat → Bool} {k : Nat} (h : F k = false) : triN F (k + 1) = triN F k := by
  unfold triN; rw [pick_no h]
theorem mem_pick {F : Nat → Bool} {k i : Nat} : i ∈ pickN F k ↔ i < k ∧ F i = true := by
  unfold pickN; rw [List.mem_filter, List.mem_range]
theorem mem_tri {F : Nat → Bool} {k i : Nat} : i ∈ triN F k ↔ ∃ j, j < k ∧ F j = true ∧ i = 3 * j := by
  unfold triN
  rw [List.mem_map]
  constructor
  · rintro ⟨j, hj, rfl⟩
    obtain ⟨h1, h2⟩ := mem_pick.1 hj
    exact ⟨j, h1, h2, rfl⟩
  · rintro ⟨j, h1, h2, rfl⟩
    exact ⟨j, mem_pick.2 ⟨h1, h2⟩, rfl⟩
theorem pick_length (F : Nat → Bool) (k : Nat) : (pickN F k).length ≤ k := by
  unfold pickN
  exact Nat.le_trans (List.length_filter_le _ _) (by simp)
theorem tri_length (F : Nat → Bool) (k : Nat) : (triN F k).length ≤ k := by
  unfold triN; rw [List.length_map]; exact pick_length F k
/-- none, or one that is the greatest stands last -/
def Rising (L : List Nat) : Prop := L = [] ∨ ∃ M y, L = M ++ [y] ∧ ∀ i ∈ L, i ≤ y
theorem pick_rising (F : Nat → Bool) : ∀ k, Rising (pickN F k)
  | 0 => .inl rfl
  | k + 1 => by
    cases h : F k with
    | false => rw [pick_no h]; exact pick_rising F k
    | true =>
      rw [pick_yes h]
      refine .inr ⟨_, _, rfl, fun i hi => ?_⟩
      rw [← pick_yes h] at hi
      have := (mem_pick.1 hi).1
      omega
theorem tri_rising (F : Nat → Bool) (k : Nat) : Rising (triN F k) := by
  rcases pick_rising F k with h | ⟨M, y, h, hm⟩
  · exact .inl (by unfold triN; rw [h]; rfl)
  · refine .inr ⟨M.map (fun i => 3 * i), 3 * y, by unfold triN; rw [h, List.map_append]; rfl, fun i hi => ?_⟩
    unfold triN at hi
    obtain ⟨j, hj, rfl⟩ := List.mem_map.1 hi
    have := hm j hj
    omega

/-- some numbers as bytes -/
def asB (n : Nat) (L : List Nat) : List Nat := setsN n (zl L) L.length
theorem asB_length (n : Nat) (L : List Nat) : (asB n L).length = (n + 7) / 8 := setsN_length _ _ _
theorem asB_octs (n : Nat) (L : List Nat) : Octs (asB n L) := setsN_octs _ _ _
theorem asB_has (n : Nat) (L : List Nat) (i : Nat) : hasN (asB n L) i = (decide (i < n) && decide (i ∈ L)) := by
  unfold asB; rw [setsN_has, anyI_mem]
theorem asB_pick (F : Nat → Bool) (k : Nat) : allN (asB k (pickN F k)) k = pickN F k := by
  show (List.range k).filter _ = (List.range k).filter F
  refine List.filter_congr fun i hi => ?_
  have hi := List.mem_range.1 hi
  rw [asB_has, Bool.eq_iff_iff, Bool.and_eq_true, decide_eq_true_eq, decide_eq_true_eq, mem_pick]
  exact ⟨fun h => h.2.2, fun h => ⟨hi, hi, h⟩⟩
theorem asB_tri (F : Nat → Bool) (n : Nat) : allN (asB (3 * n) (triN F n)) (3 * n) = triN F n := by
  have key : ∀ k, k ≤ n → allN (asB (3 * n) (triN F n)) (3 * k) = triN F k := by
    intro k
    induction k with
    | zero => intro _; rfl
    | succ k ih =>
      intro hk
      have h0 : hasN (asB (3 * n) (triN F n)) (3 * k) = F k := by
        rw [asB_has, Bool.eq_iff_iff, Bool.and_eq_true, decide_eq_true_eq, decide_eq_true_eq, mem_tri]
        constructor
        · rintro ⟨_, j, _, h, e⟩
          obtain rfl : k = j := by omega
          exact h
        · exact fun h => ⟨by omega, k, by omega, h, rfl⟩
      have h1 : hasN (asB (3 * n) (triN F n)) (3 * k + 1) = false := by
        rw [asB_has]
        have : decide (3 * k + 1 ∈ triN F n) = false := by
          rw [decide_eq_false_iff_not, mem_tri]
          rintro ⟨j, _, _, e⟩; omega
        rw [this, Bool.and_false]
      have h2 : hasN (asB (3 * n) (triN F n)) (3 * k + 1 + 1) = false := by
        rw [asB_has]
        have : decide (3 * k + 1 + 1 ∈ triN F n) = false := by
          rw [decide_eq_false_iff_not, mem_tri]
          rintro ⟨j, _, _, e⟩; omega
        rw [this, Bool.and_false]
      rw [show 3 * (k + 1) = 3 * k + 1 + 1 + 1 by omega, allN_succ, allN_succ, allN_succ, h0, h1, h2, ih (by omega)]
      cases h : F k with
      | false => rw [tri_no h]; simp
      | true => rw [tri_yes h]; simp
  exact key n (Nat.le_refl _)
theorem ends_all {l : List Nat} {n : Nat} (h : endsN l n = true) : ∀ d, allN l (n + d) = allN l n
  | 0 => rfl
  | d + 1 => by
    show allN l (n + d + 1) = _
    rw [allN_succ, endsN_iff.1 h (n + d) (by omega), if_neg (by decide), List.append_nil]
    exact ends_all h d
theorem all_take (l : List Nat) {n b : Nat} (h : n ≤ 8 * b) : allN (l.take b) n = allN l n := by
  unfold allN
  refine List.filter_congr fun i hi => ?_
  have hi := List.mem_range.1 hi
  rw [hasN_take]
  have : decide (i < 8 * b) = true := by rw [decide_eq_true_eq]; omega
  rw [this, Bool.true_and]
/-- what is read of those that were laid, where none is there from m on -/
theorem all_back {L : List Nat} {k m : Nat} (hm : m ≤ k) (h : allN (asB k L) k = L) (he : endsN (asB k L) m = true) : allN ((asB k L).take ((m + 7) / 8)) m = L := by
  obtain ⟨d, rfl⟩ : ∃ d, k = m + d := ⟨k - m, by omega⟩
  rw [all_take _ (by omega), ← ends_all he d]; exact h
theorem asB_none (k m : Nat) : endsN (asB k []) m = true := by
  rw [endsN_iff]; intro i _; rw [asB_has]; simp
theorem asB_below {L M : List Nat} {k m y : Nat} (_hL : L = M ++ [y]) (hy : ∀ i ∈ L, i ≤ y) (h : y < m) : endsN (asB k L) m = true := by
  rw [endsN_iff]
  intro i hi
  rw [asB_has]
  have : decide (i ∈ L) = false := by
    rw [decide_eq_false_iff_not]
    intro hm
    have := hy i hm
    omega
  rw [this, Bool.and_false]
theorem asB_beyond {L M : List Nat} {k m y : Nat} (hL : L = M ++ [y]) (hk : y < k) (h : ¬ y < m) : endsN (asB k L) m = false := by
  refine endsN_no (i := y) (by omega) ?_
  rw [asB_has, Bool.and_eq_true, decide_eq_true_eq, decide_eq_true_eq]
  exact ⟨hk, by rw [hL]; simp⟩
end Go.Proofs.Ytbeaodmjobdiaaa
