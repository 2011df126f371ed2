/-
  Whether a geometry may be, by the document's own answer.
-/
import Derived.Test.YtmoclgijjmmdjaaGt
namespace Go.Proofs.Ytmoclgijjmmdjaa
open Go.RowKit BigFrame

set_option maxHeartbeats 1000000 in
theorem refMay_is (g i b : Int) (r : Bool) (w : World) (hr : mayZ g i b = r) :
    Calls Try.prog 18 #[geo g i b] w (Tells (.bool r) w) := by
  have hr' := Lib.hid hr
  clear hr
  unfold geo
  by_cases h0 : (1 ≤ g)
  · have d0 : decide (1 ≤ g) = true := decide_eq_true h0
    by_cases h1 : (g ≤ 8)
    · have d1 : decide (g ≤ 8) = true := decide_eq_true h1
      by_cases h2 : (4 ≤ i)
      · have d2 : decide (4 ≤ i) = true := decide_eq_true h2
        by_cases h3 : (i ≤ 32)
        · have d3 : decide (i ≤ 32) = true := decide_eq_true h3
          obtain ⟨n, rfl⟩ : ∃ n : Nat, i = (n : Int) := ⟨i.toNat, by omega⟩
          by_cases h4 : ((n : Int) % 4 = 0)
          · have d4 : decide ((n : Int) % 4 = 0) = true := decide_eq_true h4
            by_cases h5 : (16 ≤ b)
            · have d5 : decide (16 ≤ b) = true := decide_eq_true h5
              by_cases h6 : (b ≤ 96)
              · have d6 : decide (b ≤ 96) = true := decide_eq_true h6
                go_enter Try.func18, Try.ntmps18
                go_wp2_with fail
                go_ret
                exact ⟨ret_bl ((decide_eq_true (by omega)).symm.trans hr'.out), (Below.refl _ _).alloc (Nat.le_refl _) _⟩
              · have d6 : decide (b ≤ 96) = false := decide_eq_false h6
                go_enter Try.func18, Try.ntmps18
                go_wp2_with fail
                go_ret
                exact ⟨ret_bl ((decide_eq_false (by omega)).symm.trans hr'.out), (Below.refl _ _).alloc (Nat.le_refl _) _⟩
            · have d5 : decide (16 ≤ b) = false := decide_eq_false h5
              go_enter Try.func18, Try.ntmps18
              go_wp2_with fail
              go_ret
              exact ⟨ret_bl ((decide_eq_false (by omega)).symm.trans hr'.out), (Below.refl _ _).alloc (Nat.le_refl _) _⟩
          · have d4 : decide ((n : Int) % 4 = 0) = false := decide_eq_false h4
            go_enter Try.func18, Try.ntmps18
            go_wp2_with fail
            go_ret
            exact ⟨ret_bl ((decide_eq_false (by omega)).symm.trans hr'.out), (Below.refl _ _).alloc (Nat.le_refl _) _⟩
        · have d3 : decide (i ≤ 32) = false := decide_eq_false h3
          go_enter Try.func18, Try.ntmps18
          go_wp2_with fail
          go_ret
          exact ⟨ret_bl ((decide_eq_false (by omega)).symm.trans hr'.out), (Below.refl _ _).alloc (Nat.le_refl _) _⟩
      · have d2 : decide (4 ≤ i) = false := decide_eq_false h2
        go_enter Try.func18, Try.ntmps18
        go_wp2_with fail
        go_ret
        exact ⟨ret_bl ((decide_eq_false (by omega)).symm.trans hr'.out), (Below.refl _ _).alloc (Nat.le_refl _) _⟩
    · have d1 : decide (g ≤ 8) = false := decide_eq_false h1
      go_enter Try.func18, Try.ntmps18
      go_wp2_with fail
      go_ret
      exact ⟨ret_bl ((decide_eq_false (by omega)).symm.trans hr'.out), (Below.refl _ _).alloc (Nat.le_refl _) _⟩
  · have d0 : decide (1 ≤ g) = false := decide_eq_false h0
    go_enter Try.func18, Try.ntmps18
    go_wp2_with fail
    go_ret
    exact ⟨ret_bl ((decide_eq_false (by omega)).symm.trans hr'.out), (Below.refl _ _).alloc (Nat.le_refl _) _⟩

end Go.Proofs.Ytmoclgijjmmdjaa
