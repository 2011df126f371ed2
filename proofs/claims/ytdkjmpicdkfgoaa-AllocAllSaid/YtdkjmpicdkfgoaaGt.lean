/-
  Where things stand: a geometry as three numbers; whether it may be; how long a group is.
-/
import Derived.Test.YtdkjmpicdkfgoaaTe
namespace Go.Proofs.Ytdkjmpicdkfgoaa
open Go.RowKit BigFrame

/-- a geometry -/
def geo (g i b : Int) : Value := .agg #[.int .i64 g, .int .i64 i, .int .i64 b]
/-- a geometry lies in block a -/
def BoxAt (w : World) (a : Nat) (g i b : Int) : Prop := w.cell? ⟨a, 0, none⟩ = some (.int .i64 g) ∧ w.cell? ⟨a, 1, none⟩ = some (.int .i64 i) ∧ w.cell? ⟨a, 2, none⟩ = some (.int .i64 b) ∧ a < w.heap.size

theorem boxAt_alloc (w : World) (g i b : Int) (t : TypeId) : BoxAt (w.alloc (.cells #[.int .i64 g, .int .i64 i, .int .i64 b] t)) w.heap.size g i b := by
  have h := heap_alloc_new w (.cells #[.int .i64 g, .int .i64 i, .int .i64 b] t)
  refine ⟨?_, ?_, ?_, (Array.getElem?_eq_some_iff.1 h).1⟩ <;> rw [cell_of_row _ w.heap.size _ _ _ _ h] <;> rfl
theorem BoxAt.on {w w' : World} {a B : Nat} {g i b : Int} (h : BoxAt w a g i b) (hb : Below B w w') (hB : w.heap.size ≤ B) : BoxAt w' a g i b := by
  obtain ⟨h0, h1, h2, h3⟩ := h
  refine ⟨?_, ?_, ?_, ?_⟩
  · rw [hb.cell (p := ⟨a, 0, none⟩) (by show a < B; omega)]; exact h0
  · rw [hb.cell (p := ⟨a, 1, none⟩) (by show a < B; omega)]; exact h1
  · rw [hb.cell (p := ⟨a, 2, none⟩) (by show a < B; omega)]; exact h2
  · exact Nat.lt_of_lt_of_le h3 hb.size
theorem box_on {w w' : World} {a : Nat} {g i b : Int} (hb : Below w.heap.size w w') (h : BoxAt w a g i b) : BoxAt w' a g i b := h.on hb (Nat.le_refl _)

/-- may it be? -/
def mayZ (g i b : Int) : Bool := decide (1 ≤ g ∧ g ≤ 8 ∧ 4 ≤ i ∧ i ≤ 32 ∧ i % 4 = 0 ∧ 16 ≤ b ∧ b ≤ 96)
/-- one that may be -/
structure Ok (g i b : Nat) : Prop where
  g1 : 1 ≤ g
  g2 : g ≤ 8
  i1 : 4 ≤ i
  i2 : i ≤ 32
  i4 : i % 4 = 0
  b1 : 16 ≤ b
  b2 : b ≤ 96
theorem Ok.may {g i b : Nat} (h : Ok g i b) : mayZ g i b = true := by
  obtain ⟨h1, h2, h3, h4, h5, h6, h7⟩ := h
  exact decide_eq_true (by omega)
theorem may_ok {G I B : Int} (h : mayZ G I B = true) : ∃ g i b : Nat, G = (g : Int) ∧ I = (i : Int) ∧ B = (b : Int) ∧ Ok g i b := by
  have h := of_decide_eq_true h
  exact ⟨G.toNat, I.toNat, B.toNat, by omega, by omega, by omega, by omega, by omega, by omega, by omega, by omega, by omega, by omega⟩
/-- how many sectors a group has -/
def spanN (i b : Nat) : Nat := 1 + i / 4 + b


theorem within_is (x l m : Int) (r : Bool) (w : World) (hr : decide (l ≤ x ∧ x ≤ m) = r) :
    Calls Try.prog 56 #[.int .i64 x, .int .i64 l, .int .i64 m] w fun e w' => e = .returned (.bool r) ∧ w = w' := by
  subst hr
  by_cases h1 : l ≤ x
  · have h1' : decide (l ≤ x) = true := decide_eq_true h1
    go_enter Try.func56, Try.ntmps56
    go_wp2_with fail
    go_ret
    exact ⟨ret_bl (by simp [h1]), rfl⟩
  · go_enter Try.func56, Try.ntmps56
    go_wp2_with fail
    go_ret
    exact ⟨ret_bl (by simp; omega), rfl⟩
theorem may_is (g i b : Int) (r : Bool) (w : World) (hr : mayZ g i b = r) :
    Calls Try.prog 30 #[geo g i b] w (Tells (.bool r) w) := by
  subst hr
  unfold mayZ geo
  obtain ⟨r1, h1⟩ : ∃ r, decide (1 ≤ g ∧ g ≤ 8) = r := ⟨_, rfl⟩
  obtain ⟨r2, h2⟩ : ∃ r, decide (4 ≤ i ∧ i ≤ 32) = r := ⟨_, rfl⟩
  obtain ⟨r3, h3⟩ : ∃ r, decide (16 ≤ b ∧ b ≤ 96) = r := ⟨_, rfl⟩
  have k1 := Lib.hid h1
  have k2 := Lib.hid h2
  have k3 := Lib.hid h3
  clear h1 h2 h3
  cases r1
  · go_enter Try.func30, Try.ntmps30
    go_wp2_with (go_at_call 56; refine (within_is _ _ _ false _ k1.out).mono ?_; rintro e w1 ⟨rfl, rfl⟩)
    go_ret
    have h := of_decide_eq_false k1.out
    exact ⟨ret_bl (decide_eq_false (by omega)).symm, (Below.refl _ _).alloc (Nat.le_refl _) _⟩
  · cases r2
    · go_enter Try.func30, Try.ntmps30
      go_wp2_with (first | (go_at_call_of 56 g; refine (within_is _ _ _ true _ k1.out).mono ?_; rintro e w1 ⟨rfl, rfl⟩) | (go_at_call_of 56 i; refine (within_is _ _ _ false _ k2.out).mono ?_; rintro e w1 ⟨rfl, rfl⟩))
      go_ret
      have h := of_decide_eq_false k2.out
      exact ⟨ret_bl (decide_eq_false (by omega)).symm, (Below.refl _ _).alloc (Nat.le_refl _) _⟩
    · obtain ⟨n, rfl⟩ : ∃ n : Nat, i = (n : Int) := by have h := of_decide_eq_true k2.out; exact ⟨i.toNat, by omega⟩
      by_cases hn : n % 4 = 0
      · have d4 : decide ((n : Int) % 4 = 0) = true := decide_eq_true (by omega)
        cases r3
        · go_enter Try.func30, Try.ntmps30
          go_wp2_with (first | (go_at_call_of 56 g; refine (within_is _ _ _ true _ k1.out).mono ?_; rintro e w1 ⟨rfl, rfl⟩) | (go_at_call_of 56 n; refine (within_is _ _ _ true _ k2.out).mono ?_; rintro e w1 ⟨rfl, rfl⟩) | (go_at_call_of 56 b; refine (within_is _ _ _ false _ k3.out).mono ?_; rintro e w1 ⟨rfl, rfl⟩))
          go_ret
          have h := of_decide_eq_false k3.out
          exact ⟨ret_bl (decide_eq_false (by omega)).symm, (Below.refl _ _).alloc (Nat.le_refl _) _⟩
        · go_enter Try.func30, Try.ntmps30
          go_wp2_with (first | (go_at_call_of 56 g; refine (within_is _ _ _ true _ k1.out).mono ?_; rintro e w1 ⟨rfl, rfl⟩) | (go_at_call_of 56 n; refine (within_is _ _ _ true _ k2.out).mono ?_; rintro e w1 ⟨rfl, rfl⟩) | (go_at_call_of 56 b; refine (within_is _ _ _ true _ k3.out).mono ?_; rintro e w1 ⟨rfl, rfl⟩))
          go_ret
          have h := of_decide_eq_true k1.out
          have h2 := of_decide_eq_true k2.out
          have h3 := of_decide_eq_true k3.out
          exact ⟨ret_bl (decide_eq_true (by omega)).symm, (Below.refl _ _).alloc (Nat.le_refl _) _⟩
      · have d4 : decide ((n : Int) % 4 = 0) = false := decide_eq_false (by omega)
        go_enter Try.func30, Try.ntmps30
        go_wp2_with (first | (go_at_call_of 56 g; refine (within_is _ _ _ true _ k1.out).mono ?_; rintro e w1 ⟨rfl, rfl⟩) | (go_at_call_of 56 n; refine (within_is _ _ _ true _ k2.out).mono ?_; rintro e w1 ⟨rfl, rfl⟩))
        go_ret
        exact ⟨ret_bl (decide_eq_false (by omega)).symm, (Below.refl _ _).alloc (Nat.le_refl _) _⟩

end Go.Proofs.Ytdkjmpicdkfgoaa
