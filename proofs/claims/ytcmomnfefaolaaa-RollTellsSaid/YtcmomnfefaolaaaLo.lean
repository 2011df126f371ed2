/-
  Numbers from 0 to below n.
-/
import Derived.Test.YtcmomnfefaolaaaRw
namespace Go.Proofs.Ytcmomnfefaolaaa
open Go.RowKit

theorem u64_wrap (x : Int) : IntKind.u64.wrap x = x % 18446744073709551616 := IntKind.wrap_u64 x
/-- x as an unsigned number, by n, what is left -/
def lowN (x n : Int) : Int := (x % 18446744073709551616) % n
theorem lowN_bd (x : Int) {n : Int} (hn : 0 < n) : 0 ≤ lowN x n ∧ lowN x n < n := ⟨Int.emod_nonneg _ (by omega), Int.emod_lt_of_pos _ hn⟩

set_option maxHeartbeats 400000 in
theorem low_any (x n : Int) (w : World) (h1 : 0 < n) (h2 : n ≤ 4611686018427387904) :
    Calls Try.prog 26 #[.int .i64 x, .int .i64 n] w fun e w' => e = .returned (.int .i64 (lowN x n)) ∧ w = w' := by
  have hb := Lib.hid (lowN_bd x h1)
  have hn0 : ¬ n = 0 := by omega
  go_enter Try.func26, Try.ntmps26
  go_wp2
  go_ret
  refine ⟨ret_int ?_, rfl⟩
  have h := hb.out
  rw [u64_wrap, tmod_of_emod]
  unfold lowN at *
  generalize x % 18446744073709551616 % n = y at *
  unfold wrap64
  omega
/-- a number from 0 to below n -/
theorem low_nat (x : Int) (n : Nat) (w : World) (h1 : 0 < n) (h2 : n ≤ 1000000) :
    Calls Try.prog 26 #[.int .i64 x, .int .i64 (n : Int)] w fun e w' => ∃ k : Nat, k < n ∧ e = .returned (.int .i64 (k : Int)) ∧ w = w' := by
  refine (low_any x n w (by omega) (by omega)).mono fun e w' ⟨he, hw⟩ => ?_
  have hb := lowN_bd x (n := (n : Int)) (by omega)
  exact ⟨(lowN x n).toNat, by omega, by rw [he]; congr 2; omega, hw⟩
theorem low_c (x C : Int) (n : Nat) (w : World) (hC : C = (n : Int)) (h1 : 0 < n) (h2 : n ≤ 1000000) :
    Calls Try.prog 26 #[.int .i64 x, .int .i64 C] w fun e w' => ∃ k : Nat, k < n ∧ e = .returned (.int .i64 (k : Int)) ∧ w = w' := by
  subst hC; exact low_nat x n w h1 h2
end Go.Proofs.Ytcmomnfefaolaaa
