/-
  Does a number fit into so many bytes?
-/
import Derived.Test.YtkeihpenelpblaaRw
import Derived.Deep.LoopGhost
namespace Go.Proofs.Ytkeihpenelpblaa
open Go.RowKit BigFrame

def fitsN (n : Int) (s : Nat) : Bool := decide (0 ≤ n ∧ n < ((256 ^ s : Nat) : Int))
def FitsRel (n : Int) (s : Nat) (v i : Value) : Prop := ∃ j : Nat, j ≤ s ∧ i = .int .i64 (((s - j : Nat) : Nat) : Int) ∧ v = .int .i64 (n / ((256 ^ j : Nat) : Int))
theorem pow_le {j s : Nat} (h : j ≤ s) : 256 ^ j ≤ 256 ^ s := Nat.pow_le_pow_right (by decide) h
theorem fits_end {n : Int} {s j : Nat} (hj : j ≤ s) (hx : j = s ∨ n / ((256 ^ j : Nat) : Int) ≤ 0) : (n / ((256 ^ j : Nat) : Int) == 0) = fitsN n s := by
  have hp : 0 < 256 ^ j := Nat.pow_pos (by decide)
  have hle := pow_le hj
  unfold fitsN
  obtain ⟨P, hP⟩ : ∃ P, 256 ^ j = P := ⟨_, rfl⟩
  obtain ⟨S, hS⟩ : ∃ S, 256 ^ s = S := ⟨_, rfl⟩
  have hjs : j = s → P = S := fun e => by rw [← hP, ← hS, e]
  rw [hP] at hp hle hx ⊢
  rw [hS] at hle ⊢
  have h1 : n / (P : Int) = 0 ↔ 0 ≤ n ∧ n < (P : Int) := by
    constructor
    · intro h
      have h2 := Int.mul_ediv_add_emod n (P : Int)
      have h3 := Int.emod_nonneg n (show (P : Int) ≠ 0 by omega)
      have h4 := Int.emod_lt_of_pos n (show (0 : Int) < P by omega)
      rw [h, Int.mul_zero] at h2
      omega
    · intro ⟨h2, h3⟩
      exact Int.ediv_eq_zero_of_lt h2 h3
  rw [Bool.eq_iff_iff, beq_iff_eq, decide_eq_true_eq, h1]
  constructor
  · rintro ⟨h2, h3⟩; exact ⟨h2, by omega⟩
  · rintro ⟨h2, h3⟩
    refine ⟨h2, ?_⟩
    rcases hx with e | h
    · rw [hjs e]; exact h3
    · have h4 : 0 ≤ n / (P : Int) := Int.ediv_nonneg h2 (by omega)
      exact (h1.1 (by omega)).2
theorem div_step (n : Int) (j : Nat) : n / ((256 ^ j : Nat) : Int) / 256 = n / ((256 ^ (j + 1) : Nat) : Int) := by
  rw [Int.ediv_ediv_of_nonneg (Int.natCast_nonneg _), Nat.pow_succ]
  congr 1
theorem div_fits {n : Int} (hn : -9223372036854775808 ≤ n ∧ n ≤ 9223372036854775807) (P : Nat) (hp : 0 < P) : -9223372036854775808 ≤ n / (P : Int) ∧ n / (P : Int) ≤ 9223372036854775807 := by
  have h2 := Int.mul_ediv_add_emod n (P : Int)
  have h3 := Int.emod_nonneg n (show (P : Int) ≠ 0 by omega)
  have h4 := Int.emod_lt_of_pos n (show (0 : Int) < P by omega)
  have h5 : n / (P : Int) = n / (P : Int) := rfl
  constructor
  · rcases Int.lt_or_le n 0 with h | h
    · exact Int.le_trans hn.1 (Int.le_ediv_of_mul_le (by omega) (by
        have : n * (P : Int) ≤ n * 1 := Int.mul_le_mul_of_nonpos_left (by omega) (by omega)
        omega))
    · have := Int.ediv_nonneg h (show (0 : Int) ≤ P by omega); omega
  · rcases Int.lt_or_le n 0 with h | h
    · have := Int.ediv_neg_of_neg_of_pos h (show (0 : Int) < P by omega); omega
    · have := Int.ediv_le_self (P : Int) h; omega

set_option maxHeartbeats 400000 in
theorem fits_any (n : Int) (s : Nat) (w : World) (hs : s ≤ 1000) :
    Calls Try.prog 38 #[.int .i64 n, .int .i64 (s : Int)] w fun e w' => e = .returned (.bool (fitsN n s)) ∧ w = w' := by
  go_enter Try.func38, Try.ntmps38
  go_wp2_with fail
  go_loop [0, 1] (fun v i => FitsRel n s v i) (fun _ i => (intOf i).toNat)
  case atStart => exact ⟨0, by omega, by simp, by simp⟩
  case round =>
    obtain ⟨j, hj, rfl, rfl⟩ := hrel
    obtain ⟨r, hr⟩ : ∃ r, s - j = r := ⟨_, rfl⟩
    obtain ⟨m, hm⟩ : ∃ m, n / ((256 ^ j : Nat) : Int) = m := ⟨_, rfl⟩
    have hend := Lib.hid (fits_end (n := n) hj)
    have hst := Lib.hid (div_step n j)
    rw [hr, hm]
    rw [hm] at hend hst
    have hr' := Lib.hid hr
    have hj' := Lib.hid hj
    have hr8 : r ≤ 1000 := by omega
    clear hr hm
    by_cases h1 : (0 : Int) < (r : Int)
    · by_cases h2 : (0 : Int) < m
      · go_wp2_with fail
        exact ⟨⟨j + 1, by have := hr'.out; omega, val_int (by have := hr'.out; omega), val_int (by rw [← hst.out])⟩, by simp [intOf]; omega⟩
      · have hE := Lib.hid (hend.out (.inr (by omega)))
        go_wp2_with fail
        go_ret
        exact ⟨by rw [hE.out]; rfl, rfl⟩
    · have hE := Lib.hid (hend.out (.inl (by have := hr'.out; have := hj'.out; omega)))
      go_wp2_with fail
      go_ret
      exact ⟨by rw [hE.out]; rfl, rfl⟩
end Go.Proofs.Ytkeihpenelpblaa
