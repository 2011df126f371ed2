/-
  The document's own share.
-/
import Derived.Test.YtdnemlanahlnpaaDoorAwake
namespace Go.Proofs.YtdnemlanahlnpaaDoor
open Go.RowKit Fl

theorem refShare_any (f t : Int) (w : World) :
    Calls Tryd.prog 24 #[.int .i64 f, .int .i64 t] w fun e w' => ∃ r, e = .returned (.float .f64 r) ∧ FRes (Ieee.double.div (ofI f) (ofI t)) r ∧ Below w.heap.size w w' := by
  cases h : Ieee.double.div (ofI f) (ofI t) with
  | none =>
    have hq := fun w => run_quo_nan 27 (ofI f) (ofI t) h w
    have hr := Lib.hid (nanAt_res w (ofI f) (ofI t))
    unfold ofI at hq hr
    clear h
    go_enter Tryd.func24, Tryd.ntmps24
    go_wp2
    go_ret
    exact ⟨_, rfl, ⟨hr.out.1, hr.out.2⟩, (Below.refl _ _).drew⟩
  | some r =>
    have hq := fun w => run_quo_some 27 (ofI f) (ofI t) r h w
    have hr := Lib.hid (show Fits r from Ieee.Format.div_lt Ieee.double h)
    unfold ofI at hq
    clear h
    go_enter Tryd.func24, Tryd.ntmps24
    go_wp2
    go_ret
    exact ⟨_, rfl, ⟨hr.out, rfl⟩, Below.refl _ _⟩

/-- two answers of the same, a number or none: alike -/
theorem fres_key {o : Option Nat} {r q : Nat} (h : FRes o r) (k : FRes o q) : key r = key q := by
  cases o with
  | none => exact (key_eq_iff _ _).2 (.inl ⟨h.2, k.2⟩)
  | some s =>
    have e : r = q := (show r = s from h.2).trans (show q = s from k.2).symm
    rw [e]
end Go.Proofs.YtdnemlanahlnpaaDoor
