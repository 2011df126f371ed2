/-
  Is a number a kind of files? Does it fit?
-/
import Derived.Test.YtpogaognobgfhaaPf
namespace Go.Proofs.Ytpogaognobgfhaa
open Go.RowKit BigFrame

theorem isKind_is (k : Int) (r : Bool) (w : World) (hr : decide (1 ≤ k ∧ k ≤ 3) = r) :
    Calls Try.prog 37 #[.int .i64 k] w fun e w' => e = .returned (.bool r) ∧ w = w' := by
  subst hr
  by_cases h1 : k = 1
  · subst h1
    go_enter Try.func37, Try.ntmps37
    go_wp2_with fail
    go_ret
    exact ⟨rfl, rfl⟩
  · by_cases h2 : k = 2
    · subst h2
      go_enter Try.func37, Try.ntmps37
      go_wp2_with fail
      go_ret
      exact ⟨rfl, rfl⟩
    · by_cases h3 : k = 3
      · subst h3
        go_enter Try.func37, Try.ntmps37
        go_wp2_with fail
        go_ret
        exact ⟨rfl, rfl⟩
      · have hv := Lib.hid (show decide (1 ≤ k ∧ k ≤ 3) = false from decide_eq_false (by omega))
        have t1 : (k == 1) = false := by rw [beq_eq_false_iff_ne]; exact h1
        have t2 : (k == 2) = false := by rw [beq_eq_false_iff_ne]; exact h2
        have t3 : (k == 3) = false := by rw [beq_eq_false_iff_ne]; exact h3
        clear h1 h2 h3
        go_enter Try.func37, Try.ntmps37
        go_wp2_with fail
        go_ret
        exact ⟨by rw [hv.out]; rfl, rfl⟩
theorem fits_is (n C : Int) (s : Nat) (r : Bool) (w : World) (hC : C = (s : Int)) (hs : s ≤ 1000) (hr : fitsN n s = r) :
    Calls Try.prog 36 #[.int .i64 n, .int .i64 C] w fun e w' => e = .returned (.bool r) ∧ w = w' := by
  subst hC hr; exact fits_any n s w hs
end Go.Proofs.Ytpogaognobgfhaa
