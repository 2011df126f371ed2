/-
  Shares; and what every law of layer 1 asks besides (awake).
-/
import Derived.Test.YtdnemlanahlnpaaDoorBest
import Derived.Test.YtdnemlanahlnpaaDoorText
namespace Go.Proofs.YtdnemlanahlnpaaDoor
open Go.RowKit Fl

/-- the float of a whole number -/
def ofI (n : Int) : Nat := floatOfInt .f64 n
theorem ofI_fits (n : Int) : Fits (ofI n) := by
  have h := floatOfInt_wf .f64 n
  unfold Fits ofI; simpa [Lit.wf] using h
/-- what an operation on floats gives: the one number, or any of those that are none -/
def FRes (o : Option Nat) (r : Nat) : Prop := Fits r ∧ (match o with | some q => r = q | none => nanB r = true)

def nanAt (w : World) (x y : Nat) : Nat := (Question.nanBits .f64 x y).cut (w.tape w.drawn (.nanBits .f64 x y))
theorem nanAt_res (w : World) (x y : Nat) : Fits (nanAt w x y) ∧ nanB (nanAt w x y) = true := by
  unfold nanAt
  generalize w.tape w.drawn (.nanBits .f64 x y) = t
  show Fits ((t % 2) * 2 ^ 63 + 0x7ff0000000000000 + 1 + (t / 2) % (2 ^ 52 - 1)) ∧ nanB ((t % 2) * 2 ^ 63 + 0x7ff0000000000000 + 1 + (t / 2) % (2 ^ 52 - 1)) = true
  have h1 := Nat.mod_lt (t / 2) (show 0 < 2 ^ 52 - 1 by decide)
  have h2 := Nat.mod_lt t (show 0 < 2 by decide)
  generalize (t / 2) % (2 ^ 52 - 1) = a at *
  generalize t % 2 = b at *
  constructor
  · unfold Fits; omega
  · unfold nanB rung I S
    simp only [decide_eq_true_eq]
    omega

theorem run_quo_nan (t : TypeId) (x y : Nat) (h : Ieee.double.div x y = none) (w : World) :
    (binOp .quo t (.float .f64 x) (.float .f64 y)).run Tryd.prog w = .ok (.float .f64 (nanAt w x y)) w.drew := by
  have h' : FloatKind.f64.format.div x y = none := h
  simp [binOp, Op.floatArith, h', nanAt, Question.forced]
theorem run_quo_some (t : TypeId) (x y r : Nat) (h : Ieee.double.div x y = some r) (w : World) :
    (binOp .quo t (.float .f64 x) (.float .f64 y)).run Tryd.prog w = .ok (.float .f64 r) w := run_float_arith w .quo t .f64 x y r h

set_option maxHeartbeats 400000 in
theorem share_any (f t : Int) (w : World) :
    Calls Tryd.prog 23 #[.int .i64 f, .int .i64 t] w fun e w' => ∃ r, e = .returned (.float .f64 r) ∧ FRes (Ieee.double.div (ofI f) (ofI t)) r ∧ Below w.heap.size w w' := by
  cases h : Ieee.double.div (ofI f) (ofI t) with
  | none =>
    have hq := fun w => run_quo_nan 27 (ofI f) (ofI t) h w
    have hr := Lib.hid (nanAt_res w (ofI f) (ofI t))
    unfold ofI at hq hr
    clear h
    go_enter Tryd.func23, Tryd.ntmps23
    go_wp2
    go_ret
    exact ⟨_, rfl, ⟨hr.out.1, hr.out.2⟩, (Below.refl _ _).drew⟩
  | some r =>
    have hq := fun w => run_quo_some 27 (ofI f) (ofI t) r h w
    have hr := Lib.hid (show Fits r from Ieee.Format.div_lt Ieee.double h)
    unfold ofI at hq
    clear h
    go_enter Tryd.func23, Tryd.ntmps23
    go_wp2
    go_ret
    exact ⟨_, rfl, ⟨hr.out, rfl⟩, Below.refl _ _⟩

set_option maxHeartbeats 400000 in
theorem inf_pos (w : World) :
    Calls Tryd.prog 26 #[.int .i64 1] w fun e w' => e = .returned (.float .f64 9218868437227405312) ∧ w = w' := by
  have hf := frombits_run
  go_enter Tryd.func26, Tryd.ntmps26
  go_wp2
  go_ret
  exact ⟨rfl, rfl⟩

def four : List Nat := [9221120237041090561, 4611686018427387904, 9218868437227405312, 13830554455654793216]
theorem best_four (w : World) :
    Calls Tryd.prog 10 #[.slice (some { block := w.heap.size, off := 0 }) 4 4]
      (w.alloc (.cells #[.float .f64 9221120237041090561, .float .f64 4611686018427387904, .float .f64 9218868437227405312, .float .f64 13830554455654793216] 27))
      fun e w' => e = .returned (.int .i64 2) ∧ Below w.heap.size w w' := by
  have hx : FloatsAt (w.alloc (.cells #[.float .f64 9221120237041090561, .float .f64 4611686018427387904, .float .f64 9218868437227405312, .float .f64 13830554455654793216] 27)) w.heap.size 0 four := by
    constructor
    · intro k hk
      have : k = 0 ∨ k = 1 ∨ k = 2 ∨ k = 3 := by simp [four] at hk; omega
      rcases this with rfl | rfl | rfl | rfl <;> simp [fl, four]
    · intro k hk
      have : k = 0 ∨ k = 1 ∨ k = 2 ∨ k = 3 := by simp [four] at hk; omega
      rcases this with rfl | rfl | rfl | rfl <;> (unfold Fits; decide)
  have hb : bestOf four four.length = 2 := by decide +kernel
  have h := best_any w.heap.size 0 4 four _ hx (by decide)
  rw [hb] at h
  exact h.mono fun e w' ⟨he, hw⟩ => ⟨he, hw ▸ (Below.refl _ _).alloc (Nat.le_refl _) _⟩

theorem text_half (w : World) {B0 : Nat} (ht : Tab B0 w) :
    Calls Tryd.prog 21 #[.float .f64 13826050856027422720] w fun e w' => e = .returned (.string ⟨#[45, 48]⟩) ∧ Below w.heap.size w w' := by
  have h := text_any 13826050856027422720 w ht (by unfold Fits; decide)
  rw [show textB 13826050856027422720 = [45, 48] by decide +kernel] at h
  exact h
theorem alike_nan (w : World) :
    Calls Tryd.prog 16 #[.float .f64 9221120237041090561, .float .f64 9221120237041090561] w fun e w' => e = .returned (.bool true) ∧ w = w' := by
  have h := alike_any 9221120237041090561 9221120237041090561 w (by decide) (by decide)
  rw [show decide (key 9221120237041090561 = key 9221120237041090561) = true by decide] at h
  exact h
theorem alike_zeros (w : World) :
    Calls Tryd.prog 16 #[.float .f64 0, .float .f64 (signOf 0 13830554455654793216)] w fun e w' => e = .returned (.bool false) ∧ w = w' := by
  have h := alike_any 0 (signOf 0 13830554455654793216) w (by decide) (signOf_lt _ _)
  rw [show decide (key 0 = key (signOf 0 13830554455654793216)) = false by decide] at h
  exact h
theorem less_12 (w : World) :
    Calls Tryd.prog 17 #[.float .f64 4607182418800017408, .float .f64 4611686018427387904] w fun e w' => e = .returned (.bool true) ∧ w = w' := by
  have h := less_any 4607182418800017408 4611686018427387904 w (by decide) (by decide)
  rw [show decide (key 4607182418800017408 < key 4611686018427387904) = true by decide] at h
  exact h

set_option maxHeartbeats 400000 in
theorem awake_any (w : World) {B0 : Nat} (ht : Tab B0 w) :
    Calls Tryd.prog 4 #[] w fun e w' => e = .returned (.bool true) ∧ Below w.heap.size w w' := by
  have ht' := Lib.hid ht
  clear ht
  go_enter Tryd.func4, Tryd.ntmps4
  go_wp2_with (first
    | (go_at_call 25; refine (nan_any _).mono ?_; rintro e w' ⟨rfl, rfl⟩)
    | (go_at_call 26; refine (inf_pos _).mono ?_; rintro e w' ⟨rfl, rfl⟩)
    | (go_at_call 10; refine (best_four _).mono ?_; rintro e w1 ⟨rfl, hb1⟩))
  refine (share_any _ _ _).mono ?_
  rintro e w2 ⟨r, rfl, hr, hb2⟩
  have hn : nanB r = true := by
    have e : Ieee.double.div (ofI 0) (ofI 0) = none := by decide +kernel
    rw [e] at hr; exact hr.2
  have hn' := Lib.hid hn
  clear hn hr
  go_wp2_with (go_at_call 27; refine (isNaN_any _ _).mono ?_; rintro e w' ⟨rfl, rfl⟩; rw [hn'.out])
  refine (text_half _ ((ht'.out.on hb1).on hb2)).mono ?_
  rintro e w3 ⟨rfl, hb3⟩
  go_wp2_with (first
    | (go_at_call 25; refine (nan_any _).mono ?_; rintro e w' ⟨rfl, rfl⟩)
    | (go_at_call 28; refine (copysign_any _ _ _ (by decide) (by decide)).mono ?_; rintro e w' ⟨rfl, rfl⟩)
    | (go_at_call_of 16 (Value.float FloatKind.f64 9221120237041090561); refine (alike_nan _).mono ?_; rintro e w' ⟨rfl, rfl⟩)
    | (go_at_call_of 16 (Value.float FloatKind.f64 0); refine (alike_zeros _).mono ?_; rintro e w' ⟨rfl, rfl⟩)
    | (go_at_call 17; refine (less_12 _).mono ?_; rintro e w' ⟨rfl, rfl⟩))
  go_ret
  exact ⟨rfl, hb1.trans ((hb2.trans (hb3.mono hb2.size)).mono hb1.size)⟩
end Go.Proofs.YtdnemlanahlnpaaDoor
