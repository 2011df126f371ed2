/-
  Slices of floats; what Mean gives.
-/
import Derived.Test.YtdnemlanahlnpaaDoorLow
namespace Go.Proofs.YtdnemlanahlnpaaDoor
open Go.RowKit Fl

/-- a slice value that holds these floats -/
def FSlice (w : World) (v : Value) (xs : List Nat) : Prop :=
  (v = .slice none 0 0 ∧ xs = []) ∨ ∃ b off cap, v = .slice (some ⟨b, off, none⟩) xs.length cap ∧ xs.length ≤ cap ∧ cap ≤ maxLen ∧ FloatsAt w b off xs

/-- the sum of the first k + 1; none, once one is none -/
def sumO (xs : List Nat) : Nat → Option Nat
  | 0 => if nanB (fl xs 0) then none else some (fl xs 0)
  | k + 1 => match sumO xs k with
    | none => none
    | some s => Ieee.double.add s (fl xs (k + 1))
/-- the mean; none, where it is none -/
def meanO (xs : List Nat) : Option Nat :=
  if xs.length = 0 then none else match sumO xs (xs.length - 1) with
    | none => none
    | some s => Ieee.double.div s (ofN xs.length)

theorem add_nan {r x : Nat} (h : nanB r = true) : Ieee.double.add r x = none := by
  unfold Ieee.Format.add
  rw [read_nan h]
  cases Ieee.double.read x <;> rfl
theorem div_nan {r x : Nat} (h : nanB r = true) : Ieee.double.div r x = none := by
  unfold Ieee.Format.div
  rw [read_nan h]
  cases Ieee.double.read x <;> rfl
theorem sum_step {xs : List Nat} {k r : Nat} (h : FRes (sumO xs k) r) : sumO xs (k + 1) = Ieee.double.add r (fl xs (k + 1)) := by
  show (match sumO xs k with | none => none | some s => Ieee.double.add s (fl xs (k + 1))) = _
  cases hs : sumO xs k with
  | none => rw [hs] at h; exact (add_nan h.2).symm
  | some s => rw [hs] at h; have := h.2; simp only at this; rw [this]
theorem sum_last {xs : List Nat} {r : Nat} (hn : xs.length ≠ 0) (h : FRes (sumO xs (xs.length - 1)) r) : meanO xs = Ieee.double.div r (ofN xs.length) := by
  unfold meanO
  rw [if_neg hn]
  cases hs : sumO xs (xs.length - 1) with
  | none => rw [hs] at h; exact (div_nan h.2).symm
  | some s => rw [hs] at h; have := h.2; simp only at this; rw [this]

theorem run_add_nan (t : TypeId) (x y : Nat) (h : Ieee.double.add x y = none) (w : World) :
    (binOp .add t (.float .f64 x) (.float .f64 y)).run Tryd.prog w = .ok (.float .f64 (nanAt w x y)) w.drew := by
  have h' : FloatKind.f64.format.add x y = none := h
  simp [binOp, Op.floatArith, h', nanAt, Question.forced]
theorem run_add_some (t : TypeId) (x y r : Nat) (h : Ieee.double.add x y = some r) (w : World) :
    (binOp .add t (.float .f64 x) (.float .f64 y)).run Tryd.prog w = .ok (.float .f64 r) w := run_float_arith w .add t .f64 x y r h

theorem mean_none (a : Option Addr) (cap : Nat) (w : World) :
    Calls Tryd.prog 13 #[.slice a 0 cap] w fun e w' => e = .returned (.float .f64 NaN) ∧ w = w' := by
  go_enter Tryd.func13, Tryd.ntmps13
  go_wp2_with (go_at_call 25; refine (nan_any _).mono ?_; rintro e w' ⟨rfl, rfl⟩)
  go_ret
  exact ⟨rfl, rfl⟩

theorem fres_start {xs : List Nat} (h : Fits (fl xs 0)) : FRes (sumO xs 0) (fl xs 0) := by
  refine ⟨h, ?_⟩
  unfold sumO
  cases hn : nanB (fl xs 0) <;> simp [hn]
theorem fres_add {xs : List Nat} {k r q : Nat} (h : FRes (sumO xs k) r) (hq : Fits q) (ho : (Ieee.double.add r (fl xs (k + 1)) = none ∧ nanB q = true) ∨ Ieee.double.add r (fl xs (k + 1)) = some q) : FRes (sumO xs (k + 1)) q := by
  refine ⟨hq, ?_⟩
  rw [sum_step h]
  rcases ho with ⟨e, hn⟩ | e <;> rw [e]
  exact hn
theorem fres_div {xs : List Nat} {r q : Nat} (hn : xs.length ≠ 0) (h : FRes (sumO xs (xs.length - 1)) r) (hq : Fits q) (ho : (Ieee.double.div r (ofN xs.length) = none ∧ nanB q = true) ∨ Ieee.double.div r (ofN xs.length) = some q) : FRes (meanO xs) q := by
  refine ⟨hq, ?_⟩
  rw [sum_last hn h]
  rcases ho with ⟨e, hn⟩ | e <;> rw [e]
  exact hn
theorem add_fits {x y q : Nat} (h : Ieee.double.add x y = some q) : Fits q := Ieee.Format.add_lt Ieee.double h
theorem div_fits {x y q : Nat} (h : Ieee.double.div x y = some q) : Fits q := Ieee.Format.div_lt Ieee.double h

/-- what holds ahead of each round of the sum -/
def MeanRel (xs : List Nat) (w : World) (s i : Value) (wr : World) : Prop :=
  ∃ k r m : Nat, k ≤ xs.length - 1 ∧ i = .int .i64 k ∧ s = .float .f64 r ∧ FRes (sumO xs k) r ∧ wr = w.drewN m
def MeanPost (xs : List Nat) (w : World) (e : Ending) (w' : World) : Prop := ∃ r, e = .returned (.float .f64 r) ∧ FRes (meanO xs) r ∧ Below w.heap.size w w'
theorem below_drewN (w : World) (m : Nat) : Below w.heap.size w (w.drewN m) := ⟨rfl, rfl, rfl, Nat.le_refl _, fun _ _ => rfl⟩

set_option maxHeartbeats 400000 in
theorem mean_some (b off cap : Nat) (xs : List Nat) (w : World) (hx : FloatsAt w b off xs) (hl : xs.length ≤ 1000) (h0 : xs.length ≠ 0) (hc : xs.length ≤ cap) (hm : cap ≤ maxLen) (h1 : 1 < cap) :
    Calls Tryd.prog 13 #[.slice (some ⟨b, off, none⟩) xs.length cap] w (MeanPost xs w) := by
  have h00 : ((xs.length : Int) == 0) = false := by rw [beq_eq_false_iff_ne]; omega
  have hc0 := hx.cell 0 (by omega)
  have hf0 := hx.fits 0 (by omega)
  have hlpos : 0 < xs.length := by omega
  have hcap : ¬ cap = 1 := by omega
  have hfo := Lib.hid (floatOfInt_nat xs.length)
  rw [Nat.add_zero] at hc0
  unfold maxLen at hm
  go_enter Tryd.func13, Tryd.ntmps13
  go_wp2_with fail
  go_loopw [3, 5, 16] (fun s _ i wr => MeanRel xs w s i wr) (fun _ _ i _ => xs.length - 1 - (intOf i).toNat)
  case atStart => exact ⟨0, fl xs 0, 0, by omega, rfl, rfl, fres_start hf0, rfl⟩
  case round =>
    obtain ⟨k, r, m, hk, rfl, rfl, hs, rfl⟩ := hrel
    by_cases hlt : k < xs.length - 1
    · have hck : w.cell? ⟨b, off + 1 + k, none⟩ = some (.float .f64 (fl xs (k + 1))) := by
        have := hx.cell (k + 1) (by omega)
        rw [show off + 1 + k = off + (k + 1) by omega]; exact this
      have hs' := Lib.hid hs
      clear hs
      cases ha : Ieee.double.add r (fl xs (k + 1)) with
      | none =>
        have hq := fun w => run_add_nan 27 r (fl xs (k + 1)) ha w
        have hr := Lib.hid (nanAt_res (w.drewN m) r (fl xs (k + 1)))
        have ha' := Lib.hid ha
        clear ha
        go_wp2_with fail
        exact ⟨⟨k + 1, _, m + 1, by omega, by go_num, rfl, fres_add hs'.out hr.out.1 (.inl ⟨ha'.out, hr.out.2⟩), rfl⟩, by simp [intOf]; omega⟩
      | some q =>
        have hq := fun w => run_add_some 27 r (fl xs (k + 1)) q ha w
        have ha' := Lib.hid ha
        clear ha
        go_wp2_with fail
        exact ⟨⟨k + 1, _, m, by omega, by go_num, rfl, fres_add hs'.out (add_fits ha'.out) (.inr ha'.out), rfl⟩, by simp [intOf]; omega⟩
    · have hk' : k = xs.length - 1 := by omega
      subst hk'
      have hs' := Lib.hid hs
      clear hs
      cases ha : Ieee.double.div r (floatOfInt .f64 (xs.length : Int)) with
      | none =>
        have hq := fun w => run_quo_nan 27 r (floatOfInt .f64 (xs.length : Int)) ha w
        have hr := Lib.hid (nanAt_res (w.drewN m) r (floatOfInt .f64 (xs.length : Int)))
        rw [hfo.out] at ha
        have ha' := Lib.hid ha
        clear ha
        go_wp2_with fail
        go_ret
        exact ⟨_, rfl, fres_div h0 hs'.out hr.out.1 (.inl ⟨ha'.out, hr.out.2⟩), below_drewN _ (m + 1)⟩
      | some q =>
        have hq := fun w => run_quo_some 27 r (floatOfInt .f64 (xs.length : Int)) q ha w
        rw [hfo.out] at ha
        have ha' := Lib.hid ha
        clear ha
        go_wp2_with fail
        go_ret
        exact ⟨_, rfl, fres_div h0 hs'.out (div_fits ha'.out) (.inr ha'.out), below_drewN _ m⟩

set_option maxHeartbeats 400000 in
theorem mean_one (b off : Nat) (xs : List Nat) (w : World) (hx : FloatsAt w b off xs) (hl : xs.length = 1) :
    Calls Tryd.prog 13 #[.slice (some ⟨b, off, none⟩) 1 1] w (MeanPost xs w) := by
  have hc0 := hx.cell 0 (by omega)
  have hf0 := hx.fits 0 (by omega)
  have hs' := Lib.hid (show FRes (sumO xs (xs.length - 1)) (fl xs 0) by rw [hl]; exact fres_start hf0)
  have hfo := Lib.hid (show floatOfInt .f64 1 = ofN xs.length by rw [hl]; exact floatOfInt_nat 1)
  have h0 : xs.length ≠ 0 := by omega
  have h0' := Lib.hid h0
  rw [Nat.add_zero] at hc0
  clear hl hx h0
  cases ha : Ieee.double.div (fl xs 0) (floatOfInt .f64 1) with
  | none =>
    have hq := fun w => run_quo_nan 27 (fl xs 0) (floatOfInt .f64 1) ha w
    have hr := Lib.hid (nanAt_res w (fl xs 0) (floatOfInt .f64 1))
    rw [hfo.out] at ha
    have ha' := Lib.hid ha
    clear ha
    go_enter Tryd.func13, Tryd.ntmps13
    go_wp2_with fail
    refine wp_loop_rounds 1 ?_
    rw [rounds_succ]
    go_wp2_with fail
    go_ret
    exact ⟨_, rfl, fres_div h0'.out hs'.out hr.out.1 (.inl ⟨ha'.out, hr.out.2⟩), below_drewN _ 1⟩
  | some q =>
    have hq := fun w => run_quo_some 27 (fl xs 0) (floatOfInt .f64 1) q ha w
    rw [hfo.out] at ha
    have ha' := Lib.hid ha
    clear ha
    go_enter Tryd.func13, Tryd.ntmps13
    go_wp2_with fail
    refine wp_loop_rounds 1 ?_
    rw [rounds_succ]
    go_wp2_with fail
    go_ret
    exact ⟨_, rfl, fres_div h0'.out hs'.out (div_fits ha'.out) (.inr ha'.out), Below.refl _ _⟩

theorem mean_any (v : Value) (xs : List Nat) (w : World) (hv : FSlice w v xs) (hl : xs.length ≤ 1000) :
    Calls Tryd.prog 13 #[v] w (MeanPost xs w) := by
  rcases hv with ⟨rfl, rfl⟩ | ⟨b, off, cap, rfl, hc, hm, hx⟩
  · exact (mean_none _ _ w).mono fun e w' ⟨he, hw⟩ => ⟨NaN, he, ⟨fits_NaN, by show nanB NaN = true; decide⟩, hw ▸ Below.refl _ _⟩
  · by_cases h0 : xs.length = 0
    · have e : xs = [] := List.eq_nil_of_length_eq_zero h0
      subst e
      exact (mean_none _ _ w).mono fun e w' ⟨he, hw⟩ => ⟨NaN, he, ⟨fits_NaN, by show nanB NaN = true; decide⟩, hw ▸ Below.refl _ _⟩
    · by_cases h1 : 1 < cap
      · exact mean_some b off cap xs w hx hl h0 hc hm h1
      · have e1 : xs.length = 1 := by omega
        have e2 : cap = 1 := by omega
        rw [e2, e1]
        exact mean_one b off xs w hx e1
end Go.Proofs.YtdnemlanahlnpaaDoor
