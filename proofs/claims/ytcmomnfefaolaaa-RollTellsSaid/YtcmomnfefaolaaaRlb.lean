/-
  May an object be?
-/
import Derived.Test.YtcmomnfefaolaaaRla
namespace Go.Proofs.Ytcmomnfefaolaaa
open Go.RowKit BigFrame
set_option maxRecDepth 100000

theorem ret_bool {a b : Bool} (h : a = b) : Ending.returned (.bool a) = .returned (.bool b) := by rw [h]
theorem may_c (x : Ob) (v : Value) (w : World) (hs : SlB w v x.b) (hl : x.b.length ≤ 100000) : Calls Try.prog 18 #[ov x v] w (Tells (.bool (mayO x)) w) := by
  obtain ⟨s, p, b⟩ := x
  obtain ⟨a, cap, rfl, -⟩ := hs
  simp only at hl
  obtain ⟨r, hr⟩ : ∃ r, mayO ⟨s, p, b⟩ = r := ⟨_, rfl⟩
  rw [hr]
  have hr' : decide (0 ≤ s ∧ 0 ≤ p ∧ 0 < b.length ∧ p + (b.length : Int) ≤ 128) = r := hr
  clear hr
  obtain ⟨n, hn⟩ : ∃ n, b.length = n := ⟨_, rfl⟩
  rw [hn] at hl hr' ⊢
  unfold ov oc
  have hr := Lib.hid hr'
  clear hn hr'
  go_enter Try.func18, Try.ntmps18
  go_wp2_with fail
  all_goals
    go_ret
    refine ⟨?_, (Below.refl _ _).alloc (Nat.le_refl _) _⟩
    rw [← hr.out]
    exact ret_bool (by first | (rw [decide_eq_decide]; omega) | (symm; rw [decide_eq_false_iff_not]; omega))
theorem refMay_c (x : Ob) (v : Value) (w : World) (hs : SlB w v x.b) (hl : x.b.length ≤ 100000) : Calls Try.prog 19 #[ov x v] w (Tells (.bool (mayO x)) w) := by
  obtain ⟨s, p, b⟩ := x
  obtain ⟨a, cap, rfl, -⟩ := hs
  simp only at hl
  obtain ⟨r, hr⟩ : ∃ r, mayO ⟨s, p, b⟩ = r := ⟨_, rfl⟩
  rw [hr]
  have hr' : decide (0 ≤ s ∧ 0 ≤ p ∧ 0 < b.length ∧ p + (b.length : Int) ≤ 128) = r := hr
  clear hr
  obtain ⟨n, hn⟩ : ∃ n, b.length = n := ⟨_, rfl⟩
  rw [hn] at hl hr' ⊢
  unfold ov oc
  have hr := Lib.hid hr'
  clear hn hr'
  go_enter Try.func19, Try.ntmps19
  go_wp2_with fail
  all_goals
    go_ret
    refine ⟨?_, (Below.refl _ _).alloc (Nat.le_refl _) _⟩
    rw [← hr.out]
    exact ret_bool (by first | (rw [decide_eq_decide]; omega) | (symm; rw [decide_eq_false_iff_not]; omega))
/-- where an object that may be ends -/
theorem end_c (x : Ob) (v : Value) (w : World) (hs : SlB w v x.b) (h0 : mayO x = true) (e : Int) (he : x.p + (x.b.length : Int) = e) : Calls Try.prog 33 #[ov x v] w (Tells (.int .i64 e) w) := by
  obtain ⟨h1, h2, h3, h4⟩ := mayO_is.1 h0
  obtain ⟨s, p, b⟩ := x
  obtain ⟨a, cap, rfl, -⟩ := hs
  simp only at h2 h3 h4 he
  obtain ⟨n, hn⟩ : ∃ n, b.length = n := ⟨_, rfl⟩
  rw [hn] at he h3 h4 ⊢
  unfold ov oc
  have he' := Lib.hid he
  clear hn he h0 h1
  go_enter Try.func33, Try.ntmps33
  go_wp2_with fail
  go_ret
  exact ⟨ret_int he'.out, (Below.refl _ _).alloc (Nat.le_refl _) _⟩
end Go.Proofs.Ytcmomnfefaolaaa
