/-
  Sealed sectors as lists of bytes: their kind, their body; one byte another one; zeros behind the body.
-/
import Derived.Test.YtbeaodmjobdiaaaZk
namespace Go.Proofs.Ytbeaodmjobdiaaa
open Go.RowKit BigFrame

theorem front_body {l : List Nat} (hl : l.length = 128) : front (bz l 0) (bodyOf l) = l.take 124 := by
  apply bz_ext
  · rw [front_length (by rw [bodyOf_length hl]; omega), List.length_take]; omega
  intro k hk
  rw [front_length (by rw [bodyOf_length hl]; omega)] at hk
  rw [bz_take (by omega)]
  unfold front
  cases k with
  | zero => rfl
  | succ k =>
    show bz (bodyOf l ++ _) k = _
    rw [bz_append_left (by rw [bodyOf_length hl]; omega)]
    unfold bodyOf
    rw [bz_take (by omega), bz_drop, Nat.add_comm]
theorem sealed_body {l : List Nat} (ho : Octs l) (hl : l.length = 128) : sealed (bz l 0) (bodyOf l) = l ↔ fitsB l = true := by
  have e : l = l.take 124 ++ l.drop 124 := (List.take_append_drop 124 l).symm
  unfold sealed fitsB
  rw [front_body hl, decide_eq_true_eq]
  constructor
  · intro h
    have h1 : be4 (sumOf (l.take 124)) = l.drop 124 := by
      have h2 := h.trans e
      exact List.append_cancel_left h2
    rw [← h1, rd_be4 (sumOf_lt _)]
  · intro h
    rw [← h, be4_rd (ho.drop 124) (by rw [List.length_drop]; omega)]
    exact e.symm

theorem sealed_take {kind : Nat} {l : List Nat} (h : l.length ≤ 123) : (sealed kind l).take 124 = front kind l := by
  unfold sealed
  rw [List.take_append_of_le_length (by rw [front_length h]; omega), List.take_of_length_le (by rw [front_length h]; omega)]
theorem sealed_drop {kind : Nat} {l : List Nat} (h : l.length ≤ 123) : (sealed kind l).drop 124 = be4 (sumOf (front kind l)) := by
  unfold sealed
  rw [List.drop_append_of_le_length (by rw [front_length h]; omega), List.drop_of_length_le (by rw [front_length h]; omega), List.nil_append]
theorem sealed_fits {kind : Nat} {l : List Nat} (h : l.length ≤ 123) : fitsB (sealed kind l) = true := by
  unfold fitsB
  rw [sealed_take h, sealed_drop h, rd_be4 (sumOf_lt _)]; simp
theorem sealed_zero (kind : Nat) (l : List Nat) : bz (sealed kind l) 0 = kind := rfl
theorem kindOf_sealed {kind : Nat} {l : List Nat} (h : l.length ≤ 123) : kindOf (sealed kind l) = kind := by
  unfold kindOf
  rw [if_pos ⟨sealed_length h, sealed_fits h⟩, sealed_zero]
theorem bodyOf_sealed {kind : Nat} {l : List Nat} (h : l.length ≤ 123) : bodyOf (sealed kind l) = l ++ zs (123 - l.length) := by
  have e : (sealed kind l).drop 1 = (l ++ zs (123 - l.length)) ++ be4 (sumOf (front kind l)) := rfl
  unfold bodyOf
  have hl : (l ++ zs (123 - l.length)).length = 123 := by rw [List.length_append, zs_length]; omega
  rw [e, List.take_append_of_le_length (by omega), List.take_of_length_le (by omega)]

theorem flip_ne {x d : Nat} (hd : 0 < d) : x ^^^ d ≠ x := fun h => by
  have e : x ^^^ d = x ^^^ 0 := by rw [h, Nat.xor_zero]
  have := xor_left_cancel e
  omega
theorem fits_flip {L : List Nat} {k v : Nat} (ho : Octs L) (hl : L.length = 128) (hf : fitsB L = true) (hk : k < 128) (hv : v < 256) (hne : v ≠ bz L k) : fitsB (L.set k v) = false := by
  unfold fitsB at *
  rw [decide_eq_true_eq] at hf
  rw [decide_eq_false_iff_not]
  intro h
  rw [List.take_set, List.drop_set] at h
  by_cases h1 : k < 124
  · rw [if_pos h1, hf] at h
    have h2 := sumOf_set (l := L.take 124) (k := k) (v := v) (Octs.mem (ho.take 124)) (by rw [List.length_take]; omega) hv h.symm
    rw [bz_take h1] at h2
    exact hne h2
  · rw [if_neg h1, List.set_eq_of_length_le (l := L.take 124) (by rw [List.length_take]; omega), ← hf] at h
    have l4 : (L.drop 124).length = 4 := by rw [List.length_drop]; omega
    have h2 := be4_rd (ho.drop 124) l4
    have h3 := be4_rd ((ho.drop 124).set (k := k - 124) hv) (by rw [List.length_set]; exact l4)
    rw [h, h2] at h3
    have h4 := congrArg (fun x => bz x (k - 124)) h3
    simp only [bz_set (l := L.drop 124) (k := k - 124) (j := k - 124) (x := v) (by omega), if_true] at h4
    rw [bz_drop, show 124 + (k - 124) = k by omega] at h4
    exact hne h4.symm
theorem kindOf_flip {L : List Nat} {k d : Nat} (ho : Octs L) (hl : L.length = 128) (hf : fitsB L = true) (hk : k < 128) (hd : 0 < d) (hd2 : d < 256) : kindOf (L.set k (bz L k ^^^ d)) = 0 := by
  have hv : bz L k ^^^ d < 256 := by
    have h := Nat.xor_lt_two_pow (n := 8) (x := bz L k) (y := d) (by have := ho k (by omega); simpa using this) (by simpa using hd2)
    simpa using h
  unfold kindOf
  rw [if_neg]
  intro h
  have := fits_flip ho hl hf hk hv (flip_ne hd)
  rw [this] at h
  exact absurd h.2 (by simp)

theorem front_pad {kind k : Nat} {l : List Nat} (h : l.length + k ≤ 123) : front kind (l ++ zs k) = front kind l := by
  unfold front
  rw [List.append_assoc]
  congr 2
  unfold zs
  rw [List.length_append, List.length_replicate, List.replicate_append_replicate]
  congr 1
  omega
theorem sealed_pad {kind k : Nat} {l : List Nat} (h : l.length + k ≤ 123) : sealed kind (l ++ zs k) = sealed kind l := by
  unfold sealed; rw [front_pad h]

theorem sealed_ne {j k : Nat} {l m : List Nat} (h : j ≠ k) : sealed j l ≠ sealed k m := fun e => by
  have := congrArg (fun x => bz x 0) e
  simp only [sealed_zero] at this
  exact h this
theorem splice_front {l : List Nat} : splice (zs 123) 0 l = l ++ zs (123 - l.length) := by
  unfold splice zs
  rw [List.take_zero, List.nil_append, Nat.zero_add, List.drop_replicate]
theorem sealed_same {k : Nat} {l m : List Nat} (hl : l.length ≤ 123) (hm : m.length ≤ 123) : sealed k l = sealed k m ↔ splice (zs 123) 0 l = splice (zs 123) 0 m := by
  rw [splice_front, splice_front]
  constructor
  · intro h
    have h1 : front k l = front k m := by rw [← sealed_take hl, ← sealed_take hm, h]
    exact (List.cons.inj h1).2
  · intro h
    have h1 : front k l = front k m := by unfold front; rw [h]
    unfold sealed; rw [h1]

end Go.Proofs.Ytbeaodmjobdiaaa
