/-
  Each of four inodes has bytes of its own: with one of them another one the bytes of the others stay: as lists.
-/
import Derived.Test.YtfnhngnbaigccaaJs
import Derived.Test.YtfnhngnbaigccaaLo
namespace Go.Proofs.Ytfnhngnbaigccaa
open Go.RowKit BigFrame

/-- with the k-th another one -/
def swap4 (L : List Int) (k : Nat) (I : List Int) : List Int := splice L (k * 11) I
theorem swap4_length {L I : List Int} {k : Nat} (hL : L.length = 44) (hI : I.length = 11) (hk : k < 4) : (swap4 L k I).length = 44 := by
  unfold swap4; rw [length_splice _ _ _ (by omega), hL]
theorem zi_splice {L I : List Int} {o j : Nat} (h : o + I.length ≤ L.length) : zi (splice L o I) j = if o ≤ j ∧ j < o + I.length then zi I (j - o) else zi L j := by
  have hl : (L.take o).length = o := by rw [List.length_take]; omega
  unfold splice
  by_cases h1 : j < o
  · rw [zi_append_left (by omega), zi_take h1, if_neg (by omega)]
  · rw [zi_append_right (by omega), hl]
    by_cases h2 : j < o + I.length
    · rw [zi_append_left (by omega), if_pos (by omega)]
    · rw [zi_append_right (by omega), zi_drop, if_neg (by omega)]
      congr 1
      omega
theorem inoAt_swap {L I : List Int} {k : Nat} (hL : L.length = 44) (hI : I.length = 11) (hk : k < 4) (q : Nat) (hq : q < 4) : inoAt (swap4 L k I) q = if q = k then I else inoAt L q := by
  have hl := inoAt_length (swap4_length hL hI hk) hq
  by_cases e : q = k
  · subst e
    rw [if_pos rfl]
    refine zi_ext (by omega) fun j hj => ?_
    unfold inoAt swap4
    rw [zi_take (by omega), zi_drop, zi_splice (by omega), if_pos (by omega)]
    congr 1
    omega
  · rw [if_neg e]
    refine zi_ext (by rw [hl, inoAt_length hL hq]) fun j hj => ?_
    unfold inoAt swap4
    rw [zi_take (by omega), zi_drop, zi_splice (by omega), zi_take (by omega), zi_drop, if_neg (by omega)]
theorem swap4_same {L I : List Int} {k : Nat} (hL : L.length = 44) (hI : I.length = 11) (hk : k < 4) : L = swap4 L k I ↔ inoAt L k = I := by
  constructor
  · intro h
    have := inoAt_swap hL hI hk k hk
    rw [if_pos rfl, ← h] at this
    exact this
  · intro h
    refine four_ext hL (swap4_length hL hI hk) fun q hq => ?_
    rw [inoAt_swap hL hI hk q hq]
    by_cases e : q = k
    · rw [if_pos e, e, h]
    · rw [if_neg e]
theorem bz_spellN {L : List Int} (hL : L.length = 44) {j : Nat} (hj : j < 92) : bz (spellN L 4) j = bz (spellI (inoAt L (j / 23))) (j % 23) := by
  have h := drop_spellN hL [] (k := j / 23) (n := 4) (by omega) (by omega)
  rw [List.append_nil] at h
  rw [← h, bz_take (by omega), bz_drop]
  congr 1
  omega
theorem bz_sector {L : List Int} (hL : L.length = 44) {j : Nat} (hj : j < 123) : bz (sector4 L) (1 + j) = if j < 92 then bz (spellI (inoAt L (j / 23))) (j % 23) else 0 := by
  have hb := sector4_body hL
  have h1 : bz (sector4 L) (1 + j) = bz (bodyOf (sector4 L)) j := by unfold bodyOf; rw [bz_take hj, bz_drop]
  rw [h1, hb]
  have hl := spellN_length hL 4 (by omega)
  by_cases h : j < 92
  · rw [bz_append_left (by omega), if_pos h, bz_spellN hL h]
  · rw [bz_append_right (by omega), if_neg h]
    exact bz_rep _ _ _ (by omega)
/-- the bytes that are not its own stay -/
theorem swap_stays {L I : List Int} {k : Nat} (hL : L.length = 44) (hI : I.length = 11) (hk : k < 4) {j : Nat} (hj : j < 124) (ho : ¬ (1 + 23 * k ≤ j ∧ j < 1 + 23 * (k + 1))) : bz (sector4 L) j = bz (sector4 (swap4 L k I)) j := by
  cases j with
  | zero => exact (sealed_zero 73 (spellN L 4)).trans (sealed_zero 73 (spellN (swap4 L k I) 4)).symm
  | succ j =>
    rw [show j + 1 = 1 + j by omega, bz_sector hL (by omega), bz_sector (swap4_length hL hI hk) (by omega)]
    by_cases h : j < 92
    · rw [if_pos h, if_pos h, inoAt_swap hL hI hk (j / 23) (by omega), if_neg (by omega)]
    · rw [if_neg h, if_neg h]
end Go.Proofs.Ytfnhngnbaigccaa
