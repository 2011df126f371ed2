/-
  The document's own answers over a slice of floats: the mean.
-/
import Derived.Test.YtdnemlanahlnpaaDoorPig
namespace Go.Proofs.YtdnemlanahlnpaaDoor
open Go.RowKit Fl BigFrame

def RmRel (a : Option Addr) (xs : List Nat) (w : World) (s i : Value) (wr : World) : Prop :=
  ∃ (k r m : Nat), k + 1 ≤ xs.length ∧ i = .int .i64 ((k : Int) + 1) ∧ s = .float .f64 r ∧ FRes (sumO xs k) r ∧ wr = w.drewN m

set_option maxHeartbeats 1000000 in
theorem refMean_some (b off cap : Nat) (xs : List Nat) (w : World) (hx : FloatsAt w b off xs) (h0 : 0 < xs.length) (hl : xs.length ≤ 1000) :
    Calls Tryd.prog 14 #[.slice (some ⟨b, off, none⟩) xs.length cap] w (MeanPost xs w) := by
  have c0 := hx.cell 0 h0
  have f0 := hx.fits 0 h0
  rw [Nat.add_zero] at c0
  have e2 : ((xs.length : Int) == 0) = false := by rw [beq_eq_false_iff_ne]; omega
  have hx' := Lib.hid hx
  have hs0 := Lib.hid (fres_start f0)
  have hfo := Lib.hid (floatOfInt_nat xs.length)
  clear hx
  go_enter Tryd.func14, Tryd.ntmps14
  go_wp2_with fail
  go_loopw [3, 4] (fun s i wr => RmRel (some ⟨b, off, none⟩) xs w s i wr) (fun _ i _ => xs.length - (intOf i).toNat)
  case atStart => exact ⟨0, _, 0, by omega, rfl, rfl, hs0.out, rfl⟩
  case round =>
    obtain ⟨k, r, m, hk, rfl, rfl, hs, rfl⟩ := hrel
    by_cases hlt : k + 1 < xs.length
    · have q0 := hx'.out.cell (k + 1) hlt
      have hs' := Lib.hid hs
      have g0 : (k : Int) + 1 < (xs.length : Int) := by omega
      have q1 : w.cell? ⟨b, off + (k + 1), none⟩ = some (.float .f64 (fl xs (k + 1))) := q0
      clear hs
      cases ha : Ieee.double.add r (fl xs (k + 1)) with
      | none =>
        have hq := fun w => run_add_nan 27 r (fl xs (k + 1)) ha w
        have hr := Lib.hid (nanAt_res (w.drewN m) r (fl xs (k + 1)))
        have ha' := Lib.hid ha
        clear ha
        go_wp2_with fail
        exact ⟨⟨k + 1, _, m + 1, by omega, by go_num, rfl, fres_add hs'.out hr.out.1 (.inl ⟨ha'.out, hr.out.2⟩), rfl⟩, by simp [intOf]; omega⟩
      | some q =>
        have hq := fun w => run_add_some 27 r (fl xs (k + 1)) q ha w
        have ha' := Lib.hid ha
        clear ha
        go_wp2_with fail
        exact ⟨⟨k + 1, _, m, by omega, by go_num, rfl, fres_add hs'.out (add_fits ha'.out) (.inr ha'.out), rfl⟩, by simp [intOf]; omega⟩
    · have hk' : k + 1 = xs.length := by omega
      have hs' := Lib.hid (show FRes (sumO xs (xs.length - 1)) r by rw [← hk', Nat.add_sub_cancel]; exact hs)
      have hn0 := Lib.hid (show xs.length ≠ 0 by omega)
      have g0 : ¬ (k : Int) + 1 < (xs.length : Int) := by omega
      clear hs
      cases ha : Ieee.double.div r (floatOfInt .f64 (xs.length : Int)) with
      | none =>
        have hq := fun w => run_quo_nan 27 r (floatOfInt .f64 (xs.length : Int)) ha w
        have hr := Lib.hid (nanAt_res (w.drewN m) r (floatOfInt .f64 (xs.length : Int)))
        rw [hfo.out] at ha
        have ha' := Lib.hid ha
        clear ha
        go_wp2_with fail
        go_ret
        exact ⟨_, rfl, fres_div hn0.out hs'.out hr.out.1 (.inl ⟨ha'.out, hr.out.2⟩), below_drewN _ (m + 1)⟩
      | some q =>
        have hq := fun w => run_quo_some 27 r (floatOfInt .f64 (xs.length : Int)) q ha w
        rw [hfo.out] at ha
        have ha' := Lib.hid ha
        clear ha
        go_wp2_with fail
        go_ret
        exact ⟨_, rfl, fres_div hn0.out hs'.out (div_fits ha'.out) (.inr ha'.out), below_drewN _ m⟩

theorem refMean_none (a : Option Addr) (cap : Nat) (w : World) :
    Calls Tryd.prog 14 #[.slice a 0 cap] w (MeanPost [] w) := by
  go_enter Tryd.func14, Tryd.ntmps14
  go_wp2_with (go_at_call 25; refine (nan_any _).mono ?_; rintro e w' ⟨rfl, rfl⟩)
  go_ret
  exact ⟨NaN, rfl, ⟨fits_NaN, by show nanB NaN = true; decide⟩, Below.refl _ _⟩

theorem refMean_any (a : Option Addr) (cap : Nat) (xs : List Nat) (w : World) (hx : FAt w a xs) (hl : xs.length ≤ 1000) :
    Calls Tryd.prog 14 #[.slice a xs.length cap] w (MeanPost xs w) := by
  rcases hx with rfl | ⟨b, off, rfl, hx⟩
  · exact refMean_none a cap w
  · by_cases h0 : 0 < xs.length
    · exact refMean_some b off cap xs w hx h0 hl
    · obtain rfl : xs = [] := List.eq_nil_of_length_eq_zero (by omega)
      exact refMean_none _ cap w
end Go.Proofs.YtdnemlanahlnpaaDoor
