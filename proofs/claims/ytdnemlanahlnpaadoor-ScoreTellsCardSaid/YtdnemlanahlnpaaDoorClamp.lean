/-
  What Clamp gives, and the document's own functions beside those of package score.
-/
import Derived.Test.YtdnemlanahlnpaaDoorCmp
namespace Go.Proofs.YtdnemlanahlnpaaDoor
open Go.RowKit Fl

/-- bits that fit -/
def Fits (b : Nat) : Prop := b < 2 ^ 64
/-- the number that is none which the program hands out -/
def NaN : Nat := 9221120237041090561
theorem fits_NaN : Fits NaN := by unfold Fits NaN; decide
def clampB (x lo hi : Nat) : Nat :=
  if nanB x then NaN else if nanB lo then NaN else if nanB hi then NaN else if key hi < key lo then NaN else
  if key x < key lo then lo else if key hi < key x then hi else x

theorem clamp_any (x lo hi : Nat) (w : World) (hx : Fits x) (hl : Fits lo) (hh : Fits hi) :
    Calls Tryd.prog 19 #[.float .f64 x, .float .f64 lo, .float .f64 hi] w fun e w' => e = .returned (.float .f64 (clampB x lo hi)) ∧ w = w' := by
  go_enter Tryd.func19, Tryd.ntmps19
  go_wp2_with (first
    | (go_at_call 27; refine (isNaN_any _ _).mono ?_; rintro e w' ⟨rfl, rfl⟩)
    | (go_at_call 25; refine (nan_any _).mono ?_; rintro e w' ⟨rfl, rfl⟩)
    | (go_at_call 17; refine (less_any _ _ _ (by assumption) (by assumption)).mono ?_; rintro e w' ⟨rfl, rfl⟩))
  all_goals (go_ret; refine ⟨ret_float ?_, rfl⟩; unfold clampB NaN; (repeat' split) <;> first | rfl | (exfalso; omega) | simp_all)

theorem refAlike_any (a b : Nat) (w : World) :
    Calls Tryd.prog 12 #[.float .f64 a, .float .f64 b] w fun e w' => e = .returned (.bool (decide (key a = key b))) ∧ w = w' := by
  go_enter Tryd.func12, Tryd.ntmps12
  go_wp2_with (first
    | (go_at_call 27; refine (isNaN_any _ _).mono ?_; rintro e w' ⟨rfl, rfl⟩)
    | (go_at_call 32; refine (signbit_any _ _).mono ?_; rintro e w' ⟨rfl, rfl⟩))
  all_goals (go_ret; refine ⟨ret_bool ?_, rfl⟩; rw [Bool.eq_iff_iff]; simp only [decide_eq_true_eq, key_eq_iff, beq_iff_eq, Bool.not_eq_true, order_eq_iff] at *; simp_all)

theorem refLess_any (a b : Nat) (w : World) :
    Calls Tryd.prog 18 #[.float .f64 a, .float .f64 b] w fun e w' => e = .returned (.bool (decide (key a < key b))) ∧ w = w' := by
  go_enter Tryd.func18, Tryd.ntmps18
  go_wp2_with (first
    | (go_at_call 27; refine (isNaN_any _ _).mono ?_; rintro e w' ⟨rfl, rfl⟩)
    | (go_at_call 32; refine (signbit_any _ _).mono ?_; rintro e w' ⟨rfl, rfl⟩))
  all_goals (go_ret; refine ⟨ret_bool ?_, rfl⟩; rw [Bool.eq_iff_iff]; simp only [decide_eq_true_eq, key_lt_iff, beq_iff_eq, beq_eq_false_iff_ne, ne_eq, Bool.not_eq_true, order_eq_iff, order_lt_iff] at *; simp_all [Int.lt_irrefl] <;> omega)

theorem refClamp_any (x lo hi : Nat) (w : World) :
    Calls Tryd.prog 20 #[.float .f64 x, .float .f64 lo, .float .f64 hi] w fun e w' => e = .returned (.float .f64 (clampB x lo hi)) ∧ w = w' := by
  go_enter Tryd.func20, Tryd.ntmps20
  go_wp2_with (first
    | (go_at_call 27; refine (isNaN_any _ _).mono ?_; rintro e w' ⟨rfl, rfl⟩)
    | (go_at_call 25; refine (nan_any _).mono ?_; rintro e w' ⟨rfl, rfl⟩)
    | (go_at_call 18; refine (refLess_any _ _ _).mono ?_; rintro e w' ⟨rfl, rfl⟩))
  all_goals (go_ret; refine ⟨ret_float ?_, rfl⟩; unfold clampB NaN; (repeat' split) <;> first | rfl | (exfalso; omega) | simp_all)
end Go.Proofs.YtdnemlanahlnpaaDoor
