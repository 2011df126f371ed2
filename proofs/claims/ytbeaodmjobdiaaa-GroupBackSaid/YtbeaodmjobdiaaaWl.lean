/-
  What is read of a sector that was laid.
-/
import Derived.Test.YtbeaodmjobdiaaaWd
namespace Go.Proofs.Ytbeaodmjobdiaaa
open Go.RowKit

theorem hasN_pad (l : List Nat) (k i : Nat) : hasN (l ++ zs k) i = hasN l i := by
  by_cases h : i / 8 < l.length
  · unfold hasN; rw [bz_append_left h]
  · rw [hasN_out (l := l) (by omega)]
    unfold hasN
    rw [bz_append_right (by omega)]
    by_cases h2 : i / 8 - l.length < k
    · unfold zs; rw [bz_rep _ _ _ h2, Nat.zero_testBit]
    · rw [bz_out (by rw [zs_length]; omega), Nat.zero_testBit]
theorem endsN_pad (l : List Nat) (k n : Nat) : endsN (l ++ zs k) n = endsN l n := by
  rw [Bool.eq_iff_iff, endsN_iff, endsN_iff]
  exact ⟨fun h i hi => by rw [← hasN_pad l k i]; exact h i hi, fun h i hi => by rw [hasN_pad]; exact h i hi⟩

/-- the sector of these bits -/
def laidG (p q : List Nat) : List Nat := sealed 71 (bodyG p q)
theorem laid_length {p q : List Nat} (hp : p.length ≤ 4) (hq : q.length ≤ 12) : (laidG p q).length = 128 := sealed_length (by rw [bodyG_length hp]; omega)
theorem laid_octs {p q : List Nat} (hp : Octs p) (hq : Octs q) : Octs (laidG p q) := sealed_octs (by decide) (bodyG_octs hp hq)
theorem laid_kind {p q : List Nat} (hp : p.length ≤ 4) (hq : q.length ≤ 12) : kindOf (laidG p q) = 71 := kindOf_sealed (by rw [bodyG_length hp]; omega)
theorem laid_body {p q : List Nat} (hp : p.length ≤ 4) (hq : q.length ≤ 12) : bodyOf (laidG p q) = (p ++ zs (4 - p.length)) ++ (q ++ zs (119 - q.length)) := by
  unfold laidG
  rw [bodyOf_sealed (by rw [bodyG_length hp]; omega), bodyG_length hp]
  unfold bodyG
  rw [show 123 - (4 + q.length) = 119 - q.length by omega, List.append_assoc]
theorem laid_front {p : List Nat} (hp : p.length ≤ 4) : (p ++ zs (4 - p.length)).length = 4 := by rw [List.length_append, zs_length]; omega
theorem laid_ino {p q : List Nat} (hp : p.length ≤ 4) (hq : q.length ≤ 12) : inoOf (laidG p q) = p ++ zs (4 - p.length) := by
  unfold inoOf
  have h := laid_front hp
  rw [laid_body hp hq, List.take_append_of_le_length (by omega), List.take_of_length_le (by omega)]
theorem laid_tail {p q : List Nat} (hp : p.length ≤ 4) (hq : q.length ≤ 12) : (bodyOf (laidG p q)).drop 4 = q ++ zs (119 - q.length) := by
  have h := laid_front hp
  rw [laid_body hp hq]
  generalize p ++ zs (4 - p.length) = F at *
  rw [List.drop_append, List.drop_of_length_le (by omega), List.nil_append, h]
  rfl
theorem laid_blk {p q : List Nat} (hp : p.length ≤ 4) (hq : q.length ≤ 12) : blkOf (laidG p q) = q ++ zs (12 - q.length) := by
  unfold blkOf
  rw [laid_tail hp hq, List.take_append, List.take_of_length_le (by omega)]
  congr 1
  unfold zs
  rw [List.take_replicate]
  congr 1; omega
theorem laid_rest {p q : List Nat} (hp : p.length ≤ 4) (hq : q.length ≤ 12) : blanked ((bodyOf (laidG p q)).drop 16) = true := by
  have e : (bodyOf (laidG p q)).drop 16 = zs 107 := by
    rw [show 16 = 4 + 12 by omega, ← List.drop_drop, laid_tail hp hq, List.drop_append, List.drop_of_length_le (by omega), List.nil_append]
    unfold zs
    rw [List.drop_replicate]
    congr 1; omega
  rw [e]
  unfold blanked
  rw [zs_length]
  simp
theorem laid_fine {p q : List Nat} {n m : Nat} (hp : p.length ≤ 4) (hq : q.length ≤ 12) : fineG (laidG p q) n m = (endsN p n && endsN q m) := by
  unfold fineG
  rw [laid_kind hp hq, laid_ino hp hq, laid_blk hp hq, laid_rest hp hq, endsN_pad, endsN_pad]
  simp
theorem laid_code {p q : List Nat} {n m : Nat} (h : readMay (n : Int) (m : Int) = true) (hp : p.length ≤ 4) (hq : q.length ≤ 12) : codeG (laidG p q) n m = if (endsN p n && endsN q m) = true then 0 else 3 := by
  unfold codeG
  rw [h, if_pos rfl, Int.toNat_natCast, Int.toNat_natCast, laid_fine hp hq]
theorem laid_bits {p q : List Nat} {n m : Nat} (h : readMay (n : Int) (m : Int) = true) (hp : p.length ≤ 4) (hq : q.length ≤ 12) (h1 : endsN p n = true) (h2 : endsN q m = true) :
    inoG (laidG p q) n m = (p ++ zs (4 - p.length)).take ((n + 7) / 8) ∧ blkG (laidG p q) n m = (q ++ zs (12 - q.length)).take ((m + 7) / 8) := by
  have hf : fineG (laidG p q) n m = true := by rw [laid_fine hp hq, h1, h2]; rfl
  unfold inoG blkG
  rw [Int.toNat_natCast, Int.toNat_natCast, if_pos ⟨h, hf⟩, if_pos ⟨h, hf⟩, laid_ino hp hq, laid_blk hp hq]
  exact ⟨rfl, rfl⟩
/-- what was laid is read again -/
theorem laid_back {p q : List Nat} {n m : Nat} (h : readMay (n : Int) (m : Int) = true) (hp : p.length = (n + 7) / 8) (hq : q.length = (m + 7) / 8) (h1 : endsN p n = true) (h2 : endsN q m = true) :
    codeG (laidG p q) n m = 0 ∧ inoG (laidG p q) n m = p ∧ blkG (laidG p q) n m = q := by
  have h' := h
  unfold readMay at h'
  rw [decide_eq_true_eq] at h'
  have l1 : p.length ≤ 4 := by omega
  have l2 : q.length ≤ 12 := by omega
  obtain ⟨b1, b2⟩ := laid_bits h l1 l2 h1 h2
  refine ⟨by rw [laid_code h l1 l2, h1, h2]; rfl, ?_, ?_⟩
  · rw [b1, ← hp, List.take_append_of_le_length (Nat.le_refl _), List.take_of_length_le (Nat.le_refl _)]
  · rw [b2, ← hq, List.take_append_of_le_length (Nat.le_refl _), List.take_of_length_le (Nat.le_refl _)]
end Go.Proofs.Ytbeaodmjobdiaaa
