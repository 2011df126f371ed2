/-
  What Share gives, the document's too; twice a float.
-/
import Derived.Test.YtdkjmpicdkfgoaaF4
import Derived.Test.YtdkjmpicdkfgoaaF5
import Derived.Test.YtdkjmpicdkfgoaaTo
namespace Go.Proofs.Ytdkjmpicdkfgoaa
open Go.RowKit Fl

def nanAt (w : World) (x y : Nat) : Nat := (Question.nanBits .f64 x y).cut (w.tape w.drawn (.nanBits .f64 x y))
theorem nanAt_res (w : World) (x y : Nat) : Fits (nanAt w x y) ∧ nanB (nanAt w x y) = true := by
  unfold nanAt
  generalize w.tape w.drawn (.nanBits .f64 x y) = t
  show Fits ((t % 2) * 2 ^ 63 + 0x7ff0000000000000 + 1 + (t / 2) % (2 ^ 52 - 1)) ∧ nanB ((t % 2) * 2 ^ 63 + 0x7ff0000000000000 + 1 + (t / 2) % (2 ^ 52 - 1)) = true
  have h1 := Nat.mod_lt (t / 2) (show 0 < 2 ^ 52 - 1 by decide)
  have h2 := Nat.mod_lt t (show 0 < 2 by decide)
  generalize (t / 2) % (2 ^ 52 - 1) = a at *
  generalize t % 2 = b at *
  constructor
  · unfold Fits; omega
  · unfold nanB rung I S
    simp only [decide_eq_true_eq]
    omega
theorem run_mul_nan (t : TypeId) (x y : Nat) (h : Ieee.double.mul x y = none) (w : World) :
    (binOp .mul t (.float .f64 x) (.float .f64 y)).run Try.prog w = .ok (.float .f64 (nanAt w x y)) w.drew := by
  have h' : FloatKind.f64.format.mul x y = none := h
  simp [binOp, Op.floatArith, h', nanAt, Question.forced]
theorem run_mul_some (t : TypeId) (x y r : Nat) (h : Ieee.double.mul x y = some r) (w : World) :
    (binOp .mul t (.float .f64 x) (.float .f64 y)).run Try.prog w = .ok (.float .f64 r) w := run_float_arith w .mul t .f64 x y r h

set_option maxHeartbeats 400000 in
theorem share_c (f t : Nat) (F T : Int) (r : Nat) (w : World) (h : Ieee.double.div (ofN f) (ofN t) = some r) (hF : F = (f : Int)) (hT : T = (t : Int)) :
    Calls Try.prog 77 #[.int .i64 F, .int .i64 T] w (fun e w' => e = .returned (.float .f64 r) ∧ w = w') := by
  subst hF; subst hT
  have hq := fun w => run_float_arith (P := Try.prog) w .quo 72 .f64 (floatOfInt .f64 (f : Int)) (floatOfInt .f64 (t : Int)) r (by rw [floatOfInt_nat, floatOfInt_nat]; exact h)
  clear h
  go_enter Try.func77, Try.ntmps77
  go_wp2
  go_ret
  exact ⟨rfl, rfl⟩
set_option maxHeartbeats 400000 in
theorem refShare_c (f t : Nat) (F T : Int) (r : Nat) (w : World) (h : Ieee.double.div (ofN f) (ofN t) = some r) (hF : F = (f : Int)) (hT : T = (t : Int)) :
    Calls Try.prog 42 #[.int .i64 F, .int .i64 T] w (fun e w' => e = .returned (.float .f64 r) ∧ w = w') := by
  subst hF; subst hT
  have hq := fun w => run_float_arith (P := Try.prog) w .quo 72 .f64 (floatOfInt .f64 (f : Int)) (floatOfInt .f64 (t : Int)) r (by rw [floatOfInt_nat, floatOfInt_nat]; exact h)
  clear h
  go_enter Try.func42, Try.ntmps42
  go_wp2
  go_ret
  exact ⟨rfl, rfl⟩
end Go.Proofs.Ytdkjmpicdkfgoaa
