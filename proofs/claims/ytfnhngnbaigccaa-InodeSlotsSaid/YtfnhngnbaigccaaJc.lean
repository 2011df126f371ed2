/-
  How many blocks a size takes, and where a block's pointer stands: the program's answer, and the document's own.
-/
import Derived.Test.YtfnhngnbaigccaaRw
namespace Go.Proofs.Ytfnhngnbaigccaa
open Go.RowKit BigFrame

def needZ (n : Int) : Int := if n < 1 then 0 else if 20736 ≤ n then 162 else (n + 127) / 128
def placeZ (k : Int) : Value :=
  if k < 0 ∨ 162 ≤ k then .tuple #[.int .i64 (-1), .int .i64 (-1), .int .i64 (-1)]
  else if k < 6 then .tuple #[.int .i64 0, .int .i64 k, .int .i64 0]
  else if k < 18 then .tuple #[.int .i64 1, .int .i64 (k - 6), .int .i64 0]
  else .tuple #[.int .i64 2, .int .i64 ((k - 18) / 12), .int .i64 ((k - 18) % 12)]

theorem need_any (n : Int) (w : World) :
    Calls Try.prog 17 #[.int .i64 n] w fun e w' => e = .returned (.int .i64 (needZ n)) ∧ w = w' := by
  by_cases h1 : n < 1
  · have hv := Lib.hid (show needZ n = 0 by unfold needZ; rw [if_pos h1])
    go_enter Try.func17, Try.ntmps17
    go_wp2_with fail
    go_ret
    exact ⟨by rw [hv.out]; rfl, rfl⟩
  · by_cases h2 : 20736 ≤ n
    · have hv := Lib.hid (show needZ n = 162 by unfold needZ; rw [if_neg h1, if_pos h2])
      go_enter Try.func17, Try.ntmps17
      go_wp2_with fail
      go_ret
      exact ⟨by rw [hv.out]; rfl, rfl⟩
    · obtain ⟨m, rfl⟩ : ∃ m : Nat, n = (m : Int) := ⟨n.toNat, by omega⟩
      have hv := Lib.hid (show needZ (m : Int) = ((m : Int) + 127) / 128 by unfold needZ; rw [if_neg h1, if_neg h2])
      have e : (m : Int) + 128 - 1 = (m : Int) + 127 := by omega
      go_enter Try.func17, Try.ntmps17
      go_wp2_with fail
      go_ret
      refine ⟨ret_int ?_, rfl⟩
      rw [hv.out]
theorem place_any (k : Int) (w : World) :
    Calls Try.prog 14 #[.int .i64 k] w fun e w' => e = .returned (placeZ k) ∧ w = w' := by
  by_cases h1 : k < 0
  · have hv := Lib.hid (show placeZ k = .tuple #[.int .i64 (-1), .int .i64 (-1), .int .i64 (-1)] by unfold placeZ; rw [if_pos (.inl h1)])
    go_enter Try.func14, Try.ntmps14
    go_wp2_with fail
    go_ret3
    exact ⟨by rw [hv.out]; rfl, rfl⟩
  · by_cases h2 : 162 ≤ k
    · have hv := Lib.hid (show placeZ k = .tuple #[.int .i64 (-1), .int .i64 (-1), .int .i64 (-1)] by unfold placeZ; rw [if_pos (.inr h2)])
      go_enter Try.func14, Try.ntmps14
      go_wp2_with fail
      go_ret3
      exact ⟨by rw [hv.out]; rfl, rfl⟩
    · by_cases h3 : k < 6
      · have hv := Lib.hid (show placeZ k = .tuple #[.int .i64 0, .int .i64 k, .int .i64 0] by unfold placeZ; rw [if_neg (by omega), if_pos h3])
        go_enter Try.func14, Try.ntmps14
        go_wp2_with fail
        go_ret3
        exact ⟨by rw [hv.out]; rfl, rfl⟩
      · by_cases h4 : k < 18
        · have hv := Lib.hid (show placeZ k = .tuple #[.int .i64 1, .int .i64 (k - 6), .int .i64 0] by unfold placeZ; rw [if_neg (by omega), if_neg h3, if_pos h4])
          go_enter Try.func14, Try.ntmps14
          go_wp2_with fail
          go_ret3
          exact ⟨by rw [hv.out]; rfl, rfl⟩
        · obtain ⟨m, hm⟩ : ∃ m : Nat, k - 18 = (m : Int) := ⟨(k - 18).toNat, by omega⟩
          have hv := Lib.hid (show placeZ k = .tuple #[.int .i64 2, .int .i64 ((k - 18) / 12), .int .i64 ((k - 18) % 12)] by unfold placeZ; rw [if_neg (by omega), if_neg h3, if_neg h4])
          rw [hm] at hv
          go_enter Try.func14, Try.ntmps14
          go_wp2_with fail
          go_ret3
          exact ⟨by rw [hv.out]; rfl, rfl⟩
theorem refNeed_any (n : Int) (w : World) :
    Calls Try.prog 18 #[.int .i64 n] w fun e w' => e = .returned (.int .i64 (needZ n)) ∧ w = w' := by
  by_cases h1 : n < 1
  · have hv := Lib.hid (show needZ n = 0 by unfold needZ; rw [if_pos h1])
    go_enter Try.func18, Try.ntmps18
    go_wp2_with fail
    go_ret
    exact ⟨by rw [hv.out]; rfl, rfl⟩
  · by_cases h2 : 20736 ≤ n
    · have hv := Lib.hid (show needZ n = 162 by unfold needZ; rw [if_neg h1, if_pos h2])
      go_enter Try.func18, Try.ntmps18
      go_wp2_with fail
      go_ret
      exact ⟨by rw [hv.out]; rfl, rfl⟩
    · obtain ⟨m, rfl⟩ : ∃ m : Nat, n = (m : Int) := ⟨n.toNat, by omega⟩
      have hv := Lib.hid (show needZ (m : Int) = ((m : Int) + 127) / 128 by unfold needZ; rw [if_neg h1, if_neg h2])
      have e : (m : Int) + 128 - 1 = (m : Int) + 127 := by omega
      go_enter Try.func18, Try.ntmps18
      go_wp2_with fail
      go_ret
      refine ⟨ret_int ?_, rfl⟩
      rw [hv.out]
theorem refPlace_any (k : Int) (w : World) :
    Calls Try.prog 15 #[.int .i64 k] w fun e w' => e = .returned (placeZ k) ∧ w = w' := by
  by_cases h1 : k < 0
  · have hv := Lib.hid (show placeZ k = .tuple #[.int .i64 (-1), .int .i64 (-1), .int .i64 (-1)] by unfold placeZ; rw [if_pos (.inl h1)])
    go_enter Try.func15, Try.ntmps15
    go_wp2_with fail
    go_ret3
    exact ⟨by rw [hv.out]; rfl, rfl⟩
  · by_cases h2 : 162 ≤ k
    · have hv := Lib.hid (show placeZ k = .tuple #[.int .i64 (-1), .int .i64 (-1), .int .i64 (-1)] by unfold placeZ; rw [if_pos (.inr h2)])
      go_enter Try.func15, Try.ntmps15
      go_wp2_with fail
      go_ret3
      exact ⟨by rw [hv.out]; rfl, rfl⟩
    · by_cases h3 : k < 6
      · have hv := Lib.hid (show placeZ k = .tuple #[.int .i64 0, .int .i64 k, .int .i64 0] by unfold placeZ; rw [if_neg (by omega), if_pos h3])
        go_enter Try.func15, Try.ntmps15
        go_wp2_with fail
        go_ret3
        exact ⟨by rw [hv.out]; rfl, rfl⟩
      · by_cases h4 : k < 18
        · have hv := Lib.hid (show placeZ k = .tuple #[.int .i64 1, .int .i64 (k - 6), .int .i64 0] by unfold placeZ; rw [if_neg (by omega), if_neg h3, if_pos h4])
          go_enter Try.func15, Try.ntmps15
          go_wp2_with fail
          go_ret3
          exact ⟨by rw [hv.out]; rfl, rfl⟩
        · obtain ⟨m, hm⟩ : ∃ m : Nat, k - 18 = (m : Int) := ⟨(k - 18).toNat, by omega⟩
          have hv := Lib.hid (show placeZ k = .tuple #[.int .i64 2, .int .i64 ((k - 18) / 12), .int .i64 ((k - 18) % 12)] by unfold placeZ; rw [if_neg (by omega), if_neg h3, if_neg h4])
          rw [hm] at hv
          go_enter Try.func15, Try.ntmps15
          go_wp2_with fail
          go_ret3
          refine ⟨show Ending.returned (.tuple #[.int .i64 2, .int .i64 ((k - 6 - 12) / 12), .int .i64 ((k - 6) % 12)]) = _ from ?_, rfl⟩
          rw [hv.out, show (k - 6 - 12) / 12 = (m : Int) / 12 by omega, show (k - 6) % 12 = (m : Int) % 12 by omega]
end Go.Proofs.Ytfnhngnbaigccaa
