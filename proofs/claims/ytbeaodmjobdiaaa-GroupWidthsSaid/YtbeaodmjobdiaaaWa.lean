/-
  The bits of a group: as lists of bytes, as the body of a sector; what any bytes are read as.
-/
import Derived.Test.YtbeaodmjobdiaaaCn
import Derived.Test.YtbeaodmjobdiaaaAll
import Derived.Test.YtbeaodmjobdiaaaOf
import Derived.Test.YtbeaodmjobdiaaaZx
import Derived.Test.YtbeaodmjobdiaaaPb
namespace Go.Proofs.Ytbeaodmjobdiaaa
open Go.RowKit

/-- none is there from n on -/
def endsN (l : List Nat) (n : Nat) : Bool := (List.range (8 * l.length)).all fun i => decide (i < n) || !hasN l i
theorem endsN_iff {l : List Nat} {n : Nat} : endsN l n = true ↔ ∀ i, n ≤ i → hasN l i = false := by
  unfold endsN
  rw [List.all_eq_true]
  constructor
  · intro h i hi
    by_cases e : i < 8 * l.length
    · have := h i (List.mem_range.2 e)
      have e2 : decide (i < n) = false := by rw [decide_eq_false_iff_not]; omega
      rw [e2, Bool.false_or] at this
      simpa using this
    · exact hasN_out (by omega)
  · intro h i _
    by_cases e : i < n
    · simp [e]
    · rw [h i (by omega)]; simp
theorem endsN_no {l : List Nat} {n i : Nat} (hi : n ≤ i) (h : hasN l i = true) : endsN l n = false := by
  cases e : endsN l n
  · rfl
  · have := endsN_iff.1 e i hi
    rw [h] at this; cases this

theorem anyI_iff {R : Nat → Int} {x : Int} : ∀ {k : Nat}, anyI R x k = true ↔ ∃ p, p < k ∧ R p = x
  | 0 => by simp [anyI]
  | k + 1 => by
    unfold anyI
    rw [Bool.or_eq_true, anyI_iff, beq_iff_eq]
    constructor
    · rintro (⟨p, hp, h⟩ | h)
      · exact ⟨p, by omega, h⟩
      · exact ⟨k, by omega, h⟩
    · rintro ⟨p, hp, h⟩
      by_cases e : p = k
      · subst e; exact .inr h
      · exact .inl ⟨p, by omega, h⟩
theorem anyI_mem {L : List Nat} {i : Nat} : anyI (zl L) (i : Int) L.length = decide (i ∈ L) := by
  rw [Bool.eq_iff_iff, anyI_iff, decide_eq_true_eq]
  constructor
  · rintro ⟨p, hp, h⟩
    unfold zl at h
    have : bz L p = i := by omega
    rw [bz_get hp] at this
    rw [← this]; exact List.getElem_mem hp
  · intro h
    obtain ⟨p, hp, e⟩ := List.mem_iff_getElem.1 h
    exact ⟨p, hp, by unfold zl; rw [bz_get hp, e]⟩
theorem mem_allN {l : List Nat} {n i : Nat} : i ∈ allN l n ↔ i < n ∧ hasN l i = true := by
  unfold allN; rw [List.mem_filter, List.mem_range]
/-- those below m of some, in so many bytes as m numbers take, or as k do -/
def reN (k : Nat) (l : List Nat) (m : Nat) : List Nat := setsN k (zl (allN l m)) (countN l m)
theorem reN_length (k : Nat) (l : List Nat) (m : Nat) : (reN k l m).length = (k + 7) / 8 := setsN_length _ _ _
theorem reN_octs (k : Nat) (l : List Nat) (m : Nat) : Octs (reN k l m) := setsN_octs _ _ _
theorem reN_has (k : Nat) (l : List Nat) (m i : Nat) : hasN (reN k l m) i = (decide (i < k) && (decide (i < m) && hasN l i)) := by
  unfold reN countN
  rw [setsN_has, anyI_mem]
  congr 1
  rw [Bool.eq_iff_iff, decide_eq_true_eq, mem_allN]
  simp
theorem hasN_take {l : List Nat} {k i : Nat} : hasN (l.take k) i = (decide (i < 8 * k) && hasN l i) := by
  by_cases h : i < 8 * k
  · unfold hasN
    rw [bz_take (by omega)]; simp [h]
  · rw [hasN_out (by rw [List.length_take]; omega)]; simp [h]
theorem reN_take {l : List Nat} {m : Nat} (ho : Octs l) (hl : (m + 7) / 8 ≤ l.length) (he : endsN l m = true) : reN m l m = l.take ((m + 7) / 8) := by
  refine bits_ext (reN_octs _ _ _) (ho.take _) (by rw [reN_length, List.length_take]; omega) fun i _ => ?_
  rw [reN_has, hasN_take]
  by_cases h : i < m
  · have e1 : decide (i < m) = true := by simpa using h
    have e2 : decide (i < 8 * ((m + 7) / 8)) = true := by rw [decide_eq_true_eq]; omega
    rw [e1, e2]; simp
  · rw [endsN_iff.1 he i (by omega)]; simp

theorem countN_mono (l : List Nat) (n : Nat) : ∀ d, countN l n ≤ countN l (n + d)
  | 0 => Nat.le_refl _
  | d + 1 => by
    have := countN_mono l n d
    have h := countN_succ l (n + d) _ rfl
    show _ ≤ countN l (n + d + 1)
    omega
theorem count_ends {l : List Nat} {n : Nat} : ∀ {d}, countN l (n + d) = countN l n → ∀ i, n ≤ i → i < n + d → hasN l i = false
  | 0, _, i, h1, h2 => by omega
  | d + 1, h, i, h1, h2 => by
    have hs := countN_succ l (n + d) _ rfl
    have hm := countN_mono l n d
    have h' : countN l (n + d + 1) = countN l n := h
    cases hr : hasN l (n + d) with
    | true => rw [hr, if_pos rfl] at hs; omega
    | false =>
      rw [hr, if_neg (by decide)] at hs
      by_cases e : i = n + d
      · rw [e]; exact hr
      · exact count_ends (d := d) (by omega) i h1 (by omega)
theorem ends_count {l : List Nat} {n : Nat} (h : endsN l n = true) : ∀ d, countN l (n + d) = countN l n
  | 0 => rfl
  | d + 1 => by
    have hs := countN_succ l (n + d) _ (endsN_iff.1 h (n + d) (by omega))
    rw [if_neg (by decide)] at hs
    show countN l (n + d + 1) = _
    rw [hs, ends_count h d]
    rfl
/-- they are as many below k as below n, just if none is there from n on -/
theorem endsN_count {l : List Nat} {n k : Nat} (hk : 8 * l.length ≤ k) (hn : n ≤ k) : endsN l n = decide (countN l k = countN l n) := by
  obtain ⟨d, rfl⟩ : ∃ d, k = n + d := ⟨k - n, by omega⟩
  rw [Bool.eq_iff_iff, decide_eq_true_eq]
  constructor
  · exact fun h => ends_count h d
  · intro h
    rw [endsN_iff]
    intro i hi
    by_cases e : i < n + d
    · exact count_ends h i hi e
    · exact hasN_out (by omega)

/-- may these be laid, by their lengths -/
def layMay (n m : Nat) : Bool := decide ((1 ≤ n ∧ n ≤ 4) ∧ 2 ≤ m ∧ m ≤ 12)
/-- the body: inodes, zeros up to 4, blocks -/
def bodyG (p q : List Nat) : List Nat := p ++ zs (4 - p.length) ++ q
theorem bodyG_length {p q : List Nat} (hp : p.length ≤ 4) : (bodyG p q).length = 4 + q.length := by simp [bodyG, zs]; omega
theorem bodyG_octs {p q : List Nat} (hp : Octs p) (hq : Octs q) : Octs (bodyG p q) := (hp.append (.rep _ _ (by decide))).append hq
theorem bodyG_splice {p q : List Nat} (hp : p.length ≤ 4) (hq : q.length ≤ 12) : splice (splice (zs 16) 0 p) 4 q = bodyG p q ++ zs (12 - q.length) := by
  have e1 : splice (zs 16) 0 p = (p ++ zs (4 - p.length)) ++ zs 12 := by
    unfold splice zs
    rw [List.take_zero, List.nil_append, Nat.zero_add, List.drop_replicate, List.append_assoc, List.replicate_append_replicate]
    congr 2; omega
  have l1 : (p ++ zs (4 - p.length)).length = 4 := by rw [List.length_append, zs_length]; omega
  rw [e1]
  unfold bodyG
  generalize p ++ zs (4 - p.length) = F at *
  unfold splice
  rw [List.take_append_of_le_length (by omega), List.take_of_length_le (by omega), List.drop_append, List.drop_of_length_le (by omega), List.nil_append, l1, Nat.add_sub_cancel_left]
  unfold zs
  rw [List.drop_replicate, List.append_assoc]
theorem sealed_bodyG {p q : List Nat} (hp : p.length ≤ 4) (hq : q.length ≤ 12) : sealed 71 (splice (splice (zs 16) 0 p) 4 q) = sealed 71 (bodyG p q) := by
  rw [bodyG_splice hp hq, sealed_pad (by rw [bodyG_length hp]; omega)]

/-- may it be asked for so many -/
def readMay (N M : Int) : Bool := decide ((4 ≤ N ∧ N ≤ 32) ∧ 16 ≤ M ∧ M ≤ 96)
/-- the bytes of the inodes, and of the blocks -/
def inoOf (l : List Nat) : List Nat := (bodyOf l).take 4
def blkOf (l : List Nat) : List Nat := ((bodyOf l).drop 4).take 12
/-- is it a sector of a group of so many -/
def fineG (l : List Nat) (n m : Nat) : Bool := decide (kindOf l = 71) && (endsN (inoOf l) n && endsN (blkOf l) m && blanked ((bodyOf l).drop 16))
/-- what is read: the code, the bits -/
def codeG (l : List Nat) (N M : Int) : Int := if readMay N M = true then (if fineG l N.toNat M.toNat = true then 0 else 3) else 2
def inoG (l : List Nat) (N M : Int) : List Nat := if readMay N M = true ∧ fineG l N.toNat M.toNat = true then (inoOf l).take ((N.toNat + 7) / 8) else []
def blkG (l : List Nat) (N M : Int) : List Nat := if readMay N M = true ∧ fineG l N.toNat M.toNat = true then (blkOf l).take ((M.toNat + 7) / 8) else []
/-- an answer: two slices of the call's own, apart, and a code -/
def RdPost (X Y : List Nat) (c : Int) (w : World) (e : Ending) (w' : World) : Prop :=
  ∃ v1 v2, e = .returned (.tuple #[v1, v2, .int .i64 c]) ∧ ((v1 = .slice none 0 0 ∧ X = []) ∨ ∃ g n, v1 = .slice (some ⟨g, 0, none⟩) n n ∧ X.length = n ∧ w.heap.size ≤ g ∧ Row w' g X) ∧
    ((v2 = .slice none 0 0 ∧ Y = []) ∨ ∃ g n, v2 = .slice (some ⟨g, 0, none⟩) n n ∧ Y.length = n ∧ w.heap.size ≤ g ∧ Row w' g Y) ∧ (∀ k, v2.ownBlock = some k → some k ≠ v1.ownBlock) ∧ Below w.heap.size w w'
end Go.Proofs.Ytbeaodmjobdiaaa
