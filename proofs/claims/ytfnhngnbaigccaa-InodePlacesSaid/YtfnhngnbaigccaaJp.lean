/-
  Each block of a file has a place of its own; as many as a file needs stand one behind the other: the walk.
-/
import Derived.Test.YtfnhngnbaigccaaJo
import Derived.Test.YtfnhngnbaigccaaLo
namespace Go.Proofs.Ytfnhngnbaigccaa
open Go.RowKit BigFrame

/-- a place: behind how many pointer blocks, and its numbers on the way -/
def Within (x y z : Int) : Prop := (x = 0 ∧ 0 ≤ y ∧ y < 6 ∧ z = 0) ∨ (x = 1 ∧ 0 ≤ y ∧ y < 12 ∧ z = 0) ∨ (x = 2 ∧ 0 ≤ y ∧ y < 12 ∧ 0 ≤ z ∧ z < 12)
theorem place_within {a : Nat} (h : a < 162) : ∃ x y z : Int, placeZ (a : Int) = .tuple #[.int .i64 x, .int .i64 y, .int .i64 z] ∧ Within x y z ∧ (a : Int) = (if x = 0 then y else if x = 1 then 6 + y else 18 + 12 * y + z) := by
  unfold placeZ Within
  rw [if_neg (by omega)]
  by_cases h1 : (a : Int) < 6
  · rw [if_pos h1]
    exact ⟨0, a, 0, rfl, .inl ⟨rfl, by omega, h1, rfl⟩, by simp⟩
  · rw [if_neg h1]
    by_cases h2 : (a : Int) < 18
    · rw [if_pos h2]
      exact ⟨1, (a : Int) - 6, 0, rfl, .inr (.inl ⟨rfl, by omega, by omega, rfl⟩), by simp; omega⟩
    · rw [if_neg h2]
      exact ⟨2, ((a : Int) - 18) / 12, ((a : Int) - 18) % 12, rfl, .inr (.inr ⟨rfl, by omega, by omega, by omega, by omega⟩), by simp; omega⟩
theorem need_facts {s : Nat} (h : s < 20737) : ∃ N : Int, needZ (s : Int) = N ∧ N ≤ 162 ∧ (s : Int) ≤ N * 128 ∧ (N = 0 ∨ 1 ≤ N ∧ (N - 1) * 128 < (s : Int)) := by
  unfold needZ
  by_cases h1 : (s : Int) < 1
  · rw [if_pos h1]
    exact ⟨0, rfl, by omega, by omega, .inl rfl⟩
  · rw [if_neg h1]
    by_cases h2 : 20736 ≤ (s : Int)
    · rw [if_pos h2]
      exact ⟨162, rfl, by omega, by omega, .inr ⟨by omega, by omega⟩⟩
    · rw [if_neg h2]
      exact ⟨((s : Int) + 127) / 128, rfl, by omega, by omega, .inr ⟨by omega, by omega⟩⟩

set_option maxRecDepth 100000 in
set_option maxHeartbeats 4000000 in
theorem places_any (x0 x1 x2 : Int) (w : World) : Calls Try.prog 5 #[.int .i64 x0, .int .i64 x1, .int .i64 x2] w (Tells (.bool true) w) := by
  go_enter Try.func5, Try.ntmps5
  have hp162 := Lib.hid (show placeZ 162 = .tuple #[.int .i64 (-1), .int .i64 (-1), .int .i64 (-1)] from rfl)
  have tk0 : True := trivial
  go_upto_region 3 with (first
    | (go_at_call_of 23 x0; refine (low_c x0 _ 162 _ (by omega) (by omega) (by omega)).mono ?_; rintro e w1 ⟨a, ha, rfl, rfl⟩)
    | (go_at_call_of 23 x1; refine (low_c x1 _ 162 _ (by omega) (by omega) (by omega)).mono ?_; rintro e w1 ⟨b, hb, rfl, rfl⟩)
    | (go_at_call_of 23 x2; refine (low_c x2 _ 20737 _ (by omega) (by omega) (by omega)).mono ?_; rintro e w1 ⟨s, hs, rfl, rfl⟩; obtain ⟨x, y, z, hpa, hwa, hea⟩ := place_within ha; obtain ⟨u, v, t, hpb, hwb, heb⟩ := place_within hb; obtain ⟨N, hN, hN1, hN2, hN3⟩ := need_facts hs; have hPa := Lib.hid hpa; have hPb := Lib.hid hpb; have hNN := Lib.hid hN; have hEa := Lib.hid hea; have hEb := Lib.hid heb; have hWa := Lib.hid hwa; have hWb := Lib.hid hwb; have hN4 := Lib.hid hN3; have hN5 := Lib.hid hN2; clear hpa hpb hN hea heb hwa hwb hN3 hN2)
    | (go_at_call 14; clear tk0; refine (place_c (a : Int) _ _ rfl).mono ?_; rw [hPa.out]; rintro e w1 ⟨rfl, rfl⟩))
  have n2 := hN5.out
  have key : (a = b ∧ x = u ∧ y = v ∧ z = t) ∨ (a ≠ b ∧ x ≠ u) ∨ (a ≠ b ∧ x = u ∧ y ≠ v) ∨ (a ≠ b ∧ x = u ∧ y = v ∧ z ≠ t) := by
    by_cases hab : a = b
    · have h1 := hPa.out
      rw [hab, hPb.out] at h1
      simp only [Value.tuple.injEq, Array.mk.injEq, List.cons.injEq, Value.int.injEq, true_and, and_true] at h1
      exact .inl ⟨hab, h1.1.symm, h1.2.1.symm, h1.2.2.symm⟩
    · have h2 : ¬ (x = u ∧ y = v ∧ z = t) := fun ⟨e1, e2, e3⟩ => by
        have h3 := hEa.out
        rw [e1, e2, e3, ← hEb.out] at h3
        omega
      by_cases e1 : x = u
      · by_cases e2 : y = v
        · exact .inr (.inr (.inr ⟨hab, e1, e2, fun e3 => h2 ⟨e1, e2, e3⟩⟩))
        · exact .inr (.inr (.inl ⟨hab, e1, e2⟩))
      · exact .inr (.inl ⟨hab, e1⟩)
  rcases hN4.out with rfl | ⟨n3, n4⟩
  · have n5 : (s : Int) ≤ 0 := by omega
    rcases key with ⟨rfl, rfl, rfl, rfl⟩ | ⟨k1, k2⟩ | ⟨k1, rfl, k2⟩ | ⟨k1, rfl, rfl, k2⟩
    · clear hEa hEb hWb
      rcases hWa.out with ⟨rfl, y0, y6, rfl⟩ | ⟨rfl, y0, y6, rfl⟩ | ⟨rfl, y0, y6, z0, z6⟩
      · go_wp2_with (first
          | (go_at_call_of 14 a; refine (place_c (a : Int) _ _ rfl).mono ?_; rw [hPb.out]; rintro e w1 ⟨rfl, rfl⟩)
          | (go_at_call 17; refine (need_c (s : Int) _ _ _ rfl hNN.out).mono ?_; rintro e w1 ⟨rfl, rfl⟩)
          | (go_at_call 14; refine (place_c 162 _ _ rfl).mono ?_; rw [hp162.out]; rintro e w1 ⟨rfl, rfl⟩)
          | (go_at_call 8; refine (inoAwake_any _).mono ?_; rintro e w9 ⟨rfl, hb9⟩; have hend := Lib.hid hb9; clear hb9))
        go_ret
        exact ⟨rfl, hend.out⟩
      · go_wp2_with (first
          | (go_at_call_of 14 a; refine (place_c (a : Int) _ _ rfl).mono ?_; rw [hPb.out]; rintro e w1 ⟨rfl, rfl⟩)
          | (go_at_call 17; refine (need_c (s : Int) _ _ _ rfl hNN.out).mono ?_; rintro e w1 ⟨rfl, rfl⟩)
          | (go_at_call 14; refine (place_c 162 _ _ rfl).mono ?_; rw [hp162.out]; rintro e w1 ⟨rfl, rfl⟩)
          | (go_at_call 8; refine (inoAwake_any _).mono ?_; rintro e w9 ⟨rfl, hb9⟩; have hend := Lib.hid hb9; clear hb9))
        go_ret
        exact ⟨rfl, hend.out⟩
      · go_wp2_with (first
          | (go_at_call_of 14 a; refine (place_c (a : Int) _ _ rfl).mono ?_; rw [hPb.out]; rintro e w1 ⟨rfl, rfl⟩)
          | (go_at_call 17; refine (need_c (s : Int) _ _ _ rfl hNN.out).mono ?_; rintro e w1 ⟨rfl, rfl⟩)
          | (go_at_call 14; refine (place_c 162 _ _ rfl).mono ?_; rw [hp162.out]; rintro e w1 ⟨rfl, rfl⟩)
          | (go_at_call 8; refine (inoAwake_any _).mono ?_; rintro e w9 ⟨rfl, hb9⟩; have hend := Lib.hid hb9; clear hb9))
        go_ret
        exact ⟨rfl, hend.out⟩
    · have kb : (x == u) = false := by rw [beq_eq_false_iff_ne]; exact k2
      have kab : ((a : Int) == (b : Int)) = false := by rw [beq_eq_false_iff_ne]; omega
      clear hEa hEb hWb k1
      rcases hWa.out with ⟨rfl, y0, y6, rfl⟩ | ⟨rfl, y0, y6, rfl⟩ | ⟨rfl, y0, y6, z0, z6⟩
      · go_wp2_with (first
          | (go_at_call_of 14 b; refine (place_c (b : Int) _ _ rfl).mono ?_; rw [hPb.out]; rintro e w1 ⟨rfl, rfl⟩)
          | (go_at_call 17; refine (need_c (s : Int) _ _ _ rfl hNN.out).mono ?_; rintro e w1 ⟨rfl, rfl⟩)
          | (go_at_call 14; refine (place_c 162 _ _ rfl).mono ?_; rw [hp162.out]; rintro e w1 ⟨rfl, rfl⟩)
          | (go_at_call 8; refine (inoAwake_any _).mono ?_; rintro e w9 ⟨rfl, hb9⟩; have hend := Lib.hid hb9; clear hb9))
        go_ret
        exact ⟨rfl, hend.out⟩
      · go_wp2_with (first
          | (go_at_call_of 14 b; refine (place_c (b : Int) _ _ rfl).mono ?_; rw [hPb.out]; rintro e w1 ⟨rfl, rfl⟩)
          | (go_at_call 17; refine (need_c (s : Int) _ _ _ rfl hNN.out).mono ?_; rintro e w1 ⟨rfl, rfl⟩)
          | (go_at_call 14; refine (place_c 162 _ _ rfl).mono ?_; rw [hp162.out]; rintro e w1 ⟨rfl, rfl⟩)
          | (go_at_call 8; refine (inoAwake_any _).mono ?_; rintro e w9 ⟨rfl, hb9⟩; have hend := Lib.hid hb9; clear hb9))
        go_ret
        exact ⟨rfl, hend.out⟩
      · go_wp2_with (first
          | (go_at_call_of 14 b; refine (place_c (b : Int) _ _ rfl).mono ?_; rw [hPb.out]; rintro e w1 ⟨rfl, rfl⟩)
          | (go_at_call 17; refine (need_c (s : Int) _ _ _ rfl hNN.out).mono ?_; rintro e w1 ⟨rfl, rfl⟩)
          | (go_at_call 14; refine (place_c 162 _ _ rfl).mono ?_; rw [hp162.out]; rintro e w1 ⟨rfl, rfl⟩)
          | (go_at_call 8; refine (inoAwake_any _).mono ?_; rintro e w9 ⟨rfl, hb9⟩; have hend := Lib.hid hb9; clear hb9))
        go_ret
        exact ⟨rfl, hend.out⟩
    · have kb : (y == v) = false := by rw [beq_eq_false_iff_ne]; exact k2
      have kab : ((a : Int) == (b : Int)) = false := by rw [beq_eq_false_iff_ne]; omega
      clear hEa hEb hWb k1
      rcases hWa.out with ⟨rfl, y0, y6, rfl⟩ | ⟨rfl, y0, y6, rfl⟩ | ⟨rfl, y0, y6, z0, z6⟩
      · go_wp2_with (first
          | (go_at_call_of 14 b; refine (place_c (b : Int) _ _ rfl).mono ?_; rw [hPb.out]; rintro e w1 ⟨rfl, rfl⟩)
          | (go_at_call 17; refine (need_c (s : Int) _ _ _ rfl hNN.out).mono ?_; rintro e w1 ⟨rfl, rfl⟩)
          | (go_at_call 14; refine (place_c 162 _ _ rfl).mono ?_; rw [hp162.out]; rintro e w1 ⟨rfl, rfl⟩)
          | (go_at_call 8; refine (inoAwake_any _).mono ?_; rintro e w9 ⟨rfl, hb9⟩; have hend := Lib.hid hb9; clear hb9))
        go_ret
        exact ⟨rfl, hend.out⟩
      · go_wp2_with (first
          | (go_at_call_of 14 b; refine (place_c (b : Int) _ _ rfl).mono ?_; rw [hPb.out]; rintro e w1 ⟨rfl, rfl⟩)
          | (go_at_call 17; refine (need_c (s : Int) _ _ _ rfl hNN.out).mono ?_; rintro e w1 ⟨rfl, rfl⟩)
          | (go_at_call 14; refine (place_c 162 _ _ rfl).mono ?_; rw [hp162.out]; rintro e w1 ⟨rfl, rfl⟩)
          | (go_at_call 8; refine (inoAwake_any _).mono ?_; rintro e w9 ⟨rfl, hb9⟩; have hend := Lib.hid hb9; clear hb9))
        go_ret
        exact ⟨rfl, hend.out⟩
      · go_wp2_with (first
          | (go_at_call_of 14 b; refine (place_c (b : Int) _ _ rfl).mono ?_; rw [hPb.out]; rintro e w1 ⟨rfl, rfl⟩)
          | (go_at_call 17; refine (need_c (s : Int) _ _ _ rfl hNN.out).mono ?_; rintro e w1 ⟨rfl, rfl⟩)
          | (go_at_call 14; refine (place_c 162 _ _ rfl).mono ?_; rw [hp162.out]; rintro e w1 ⟨rfl, rfl⟩)
          | (go_at_call 8; refine (inoAwake_any _).mono ?_; rintro e w9 ⟨rfl, hb9⟩; have hend := Lib.hid hb9; clear hb9))
        go_ret
        exact ⟨rfl, hend.out⟩
    · have kb : (z == t) = false := by rw [beq_eq_false_iff_ne]; exact k2
      have kab : ((a : Int) == (b : Int)) = false := by rw [beq_eq_false_iff_ne]; omega
      clear hEa hEb hWb k1
      rcases hWa.out with ⟨rfl, y0, y6, rfl⟩ | ⟨rfl, y0, y6, rfl⟩ | ⟨rfl, y0, y6, z0, z6⟩
      · go_wp2_with (first
          | (go_at_call_of 14 b; refine (place_c (b : Int) _ _ rfl).mono ?_; rw [hPb.out]; rintro e w1 ⟨rfl, rfl⟩)
          | (go_at_call 17; refine (need_c (s : Int) _ _ _ rfl hNN.out).mono ?_; rintro e w1 ⟨rfl, rfl⟩)
          | (go_at_call 14; refine (place_c 162 _ _ rfl).mono ?_; rw [hp162.out]; rintro e w1 ⟨rfl, rfl⟩)
          | (go_at_call 8; refine (inoAwake_any _).mono ?_; rintro e w9 ⟨rfl, hb9⟩; have hend := Lib.hid hb9; clear hb9))
        go_ret
        exact ⟨rfl, hend.out⟩
      · go_wp2_with (first
          | (go_at_call_of 14 b; refine (place_c (b : Int) _ _ rfl).mono ?_; rw [hPb.out]; rintro e w1 ⟨rfl, rfl⟩)
          | (go_at_call 17; refine (need_c (s : Int) _ _ _ rfl hNN.out).mono ?_; rintro e w1 ⟨rfl, rfl⟩)
          | (go_at_call 14; refine (place_c 162 _ _ rfl).mono ?_; rw [hp162.out]; rintro e w1 ⟨rfl, rfl⟩)
          | (go_at_call 8; refine (inoAwake_any _).mono ?_; rintro e w9 ⟨rfl, hb9⟩; have hend := Lib.hid hb9; clear hb9))
        go_ret
        exact ⟨rfl, hend.out⟩
      · go_wp2_with (first
          | (go_at_call_of 14 b; refine (place_c (b : Int) _ _ rfl).mono ?_; rw [hPb.out]; rintro e w1 ⟨rfl, rfl⟩)
          | (go_at_call 17; refine (need_c (s : Int) _ _ _ rfl hNN.out).mono ?_; rintro e w1 ⟨rfl, rfl⟩)
          | (go_at_call 14; refine (place_c 162 _ _ rfl).mono ?_; rw [hp162.out]; rintro e w1 ⟨rfl, rfl⟩)
          | (go_at_call 8; refine (inoAwake_any _).mono ?_; rintro e w9 ⟨rfl, hb9⟩; have hend := Lib.hid hb9; clear hb9))
        go_ret
        exact ⟨rfl, hend.out⟩
  · have n5 : ¬ N = 0 := by omega
    have n6 : (N == 0) = false := by rw [beq_eq_false_iff_ne]; omega
    rcases key with ⟨rfl, rfl, rfl, rfl⟩ | ⟨k1, k2⟩ | ⟨k1, rfl, k2⟩ | ⟨k1, rfl, rfl, k2⟩
    · clear hEa hEb hWb
      rcases hWa.out with ⟨rfl, y0, y6, rfl⟩ | ⟨rfl, y0, y6, rfl⟩ | ⟨rfl, y0, y6, z0, z6⟩
      · go_wp2_with (first
          | (go_at_call_of 14 a; refine (place_c (a : Int) _ _ rfl).mono ?_; rw [hPb.out]; rintro e w1 ⟨rfl, rfl⟩)
          | (go_at_call 17; refine (need_c (s : Int) _ _ _ rfl hNN.out).mono ?_; rintro e w1 ⟨rfl, rfl⟩)
          | (go_at_call 14; refine (place_c 162 _ _ rfl).mono ?_; rw [hp162.out]; rintro e w1 ⟨rfl, rfl⟩)
          | (go_at_call 8; refine (inoAwake_any _).mono ?_; rintro e w9 ⟨rfl, hb9⟩; have hend := Lib.hid hb9; clear hb9))
        go_ret
        exact ⟨rfl, hend.out⟩
      · go_wp2_with (first
          | (go_at_call_of 14 a; refine (place_c (a : Int) _ _ rfl).mono ?_; rw [hPb.out]; rintro e w1 ⟨rfl, rfl⟩)
          | (go_at_call 17; refine (need_c (s : Int) _ _ _ rfl hNN.out).mono ?_; rintro e w1 ⟨rfl, rfl⟩)
          | (go_at_call 14; refine (place_c 162 _ _ rfl).mono ?_; rw [hp162.out]; rintro e w1 ⟨rfl, rfl⟩)
          | (go_at_call 8; refine (inoAwake_any _).mono ?_; rintro e w9 ⟨rfl, hb9⟩; have hend := Lib.hid hb9; clear hb9))
        go_ret
        exact ⟨rfl, hend.out⟩
      · go_wp2_with (first
          | (go_at_call_of 14 a; refine (place_c (a : Int) _ _ rfl).mono ?_; rw [hPb.out]; rintro e w1 ⟨rfl, rfl⟩)
          | (go_at_call 17; refine (need_c (s : Int) _ _ _ rfl hNN.out).mono ?_; rintro e w1 ⟨rfl, rfl⟩)
          | (go_at_call 14; refine (place_c 162 _ _ rfl).mono ?_; rw [hp162.out]; rintro e w1 ⟨rfl, rfl⟩)
          | (go_at_call 8; refine (inoAwake_any _).mono ?_; rintro e w9 ⟨rfl, hb9⟩; have hend := Lib.hid hb9; clear hb9))
        go_ret
        exact ⟨rfl, hend.out⟩
    · have kb : (x == u) = false := by rw [beq_eq_false_iff_ne]; exact k2
      have kab : ((a : Int) == (b : Int)) = false := by rw [beq_eq_false_iff_ne]; omega
      clear hEa hEb hWb k1
      rcases hWa.out with ⟨rfl, y0, y6, rfl⟩ | ⟨rfl, y0, y6, rfl⟩ | ⟨rfl, y0, y6, z0, z6⟩
      · go_wp2_with (first
          | (go_at_call_of 14 b; refine (place_c (b : Int) _ _ rfl).mono ?_; rw [hPb.out]; rintro e w1 ⟨rfl, rfl⟩)
          | (go_at_call 17; refine (need_c (s : Int) _ _ _ rfl hNN.out).mono ?_; rintro e w1 ⟨rfl, rfl⟩)
          | (go_at_call 14; refine (place_c 162 _ _ rfl).mono ?_; rw [hp162.out]; rintro e w1 ⟨rfl, rfl⟩)
          | (go_at_call 8; refine (inoAwake_any _).mono ?_; rintro e w9 ⟨rfl, hb9⟩; have hend := Lib.hid hb9; clear hb9))
        go_ret
        exact ⟨rfl, hend.out⟩
      · go_wp2_with (first
          | (go_at_call_of 14 b; refine (place_c (b : Int) _ _ rfl).mono ?_; rw [hPb.out]; rintro e w1 ⟨rfl, rfl⟩)
          | (go_at_call 17; refine (need_c (s : Int) _ _ _ rfl hNN.out).mono ?_; rintro e w1 ⟨rfl, rfl⟩)
          | (go_at_call 14; refine (place_c 162 _ _ rfl).mono ?_; rw [hp162.out]; rintro e w1 ⟨rfl, rfl⟩)
          | (go_at_call 8; refine (inoAwake_any _).mono ?_; rintro e w9 ⟨rfl, hb9⟩; have hend := Lib.hid hb9; clear hb9))
        go_ret
        exact ⟨rfl, hend.out⟩
      · go_wp2_with (first
          | (go_at_call_of 14 b; refine (place_c (b : Int) _ _ rfl).mono ?_; rw [hPb.out]; rintro e w1 ⟨rfl, rfl⟩)
          | (go_at_call 17; refine (need_c (s : Int) _ _ _ rfl hNN.out).mono ?_; rintro e w1 ⟨rfl, rfl⟩)
          | (go_at_call 14; refine (place_c 162 _ _ rfl).mono ?_; rw [hp162.out]; rintro e w1 ⟨rfl, rfl⟩)
          | (go_at_call 8; refine (inoAwake_any _).mono ?_; rintro e w9 ⟨rfl, hb9⟩; have hend := Lib.hid hb9; clear hb9))
        go_ret
        exact ⟨rfl, hend.out⟩
    · have kb : (y == v) = false := by rw [beq_eq_false_iff_ne]; exact k2
      have kab : ((a : Int) == (b : Int)) = false := by rw [beq_eq_false_iff_ne]; omega
      clear hEa hEb hWb k1
      rcases hWa.out with ⟨rfl, y0, y6, rfl⟩ | ⟨rfl, y0, y6, rfl⟩ | ⟨rfl, y0, y6, z0, z6⟩
      · go_wp2_with (first
          | (go_at_call_of 14 b; refine (place_c (b : Int) _ _ rfl).mono ?_; rw [hPb.out]; rintro e w1 ⟨rfl, rfl⟩)
          | (go_at_call 17; refine (need_c (s : Int) _ _ _ rfl hNN.out).mono ?_; rintro e w1 ⟨rfl, rfl⟩)
          | (go_at_call 14; refine (place_c 162 _ _ rfl).mono ?_; rw [hp162.out]; rintro e w1 ⟨rfl, rfl⟩)
          | (go_at_call 8; refine (inoAwake_any _).mono ?_; rintro e w9 ⟨rfl, hb9⟩; have hend := Lib.hid hb9; clear hb9))
        go_ret
        exact ⟨rfl, hend.out⟩
      · go_wp2_with (first
          | (go_at_call_of 14 b; refine (place_c (b : Int) _ _ rfl).mono ?_; rw [hPb.out]; rintro e w1 ⟨rfl, rfl⟩)
          | (go_at_call 17; refine (need_c (s : Int) _ _ _ rfl hNN.out).mono ?_; rintro e w1 ⟨rfl, rfl⟩)
          | (go_at_call 14; refine (place_c 162 _ _ rfl).mono ?_; rw [hp162.out]; rintro e w1 ⟨rfl, rfl⟩)
          | (go_at_call 8; refine (inoAwake_any _).mono ?_; rintro e w9 ⟨rfl, hb9⟩; have hend := Lib.hid hb9; clear hb9))
        go_ret
        exact ⟨rfl, hend.out⟩
      · go_wp2_with (first
          | (go_at_call_of 14 b; refine (place_c (b : Int) _ _ rfl).mono ?_; rw [hPb.out]; rintro e w1 ⟨rfl, rfl⟩)
          | (go_at_call 17; refine (need_c (s : Int) _ _ _ rfl hNN.out).mono ?_; rintro e w1 ⟨rfl, rfl⟩)
          | (go_at_call 14; refine (place_c 162 _ _ rfl).mono ?_; rw [hp162.out]; rintro e w1 ⟨rfl, rfl⟩)
          | (go_at_call 8; refine (inoAwake_any _).mono ?_; rintro e w9 ⟨rfl, hb9⟩; have hend := Lib.hid hb9; clear hb9))
        go_ret
        exact ⟨rfl, hend.out⟩
    · have kb : (z == t) = false := by rw [beq_eq_false_iff_ne]; exact k2
      have kab : ((a : Int) == (b : Int)) = false := by rw [beq_eq_false_iff_ne]; omega
      clear hEa hEb hWb k1
      rcases hWa.out with ⟨rfl, y0, y6, rfl⟩ | ⟨rfl, y0, y6, rfl⟩ | ⟨rfl, y0, y6, z0, z6⟩
      · go_wp2_with (first
          | (go_at_call_of 14 b; refine (place_c (b : Int) _ _ rfl).mono ?_; rw [hPb.out]; rintro e w1 ⟨rfl, rfl⟩)
          | (go_at_call 17; refine (need_c (s : Int) _ _ _ rfl hNN.out).mono ?_; rintro e w1 ⟨rfl, rfl⟩)
          | (go_at_call 14; refine (place_c 162 _ _ rfl).mono ?_; rw [hp162.out]; rintro e w1 ⟨rfl, rfl⟩)
          | (go_at_call 8; refine (inoAwake_any _).mono ?_; rintro e w9 ⟨rfl, hb9⟩; have hend := Lib.hid hb9; clear hb9))
        go_ret
        exact ⟨rfl, hend.out⟩
      · go_wp2_with (first
          | (go_at_call_of 14 b; refine (place_c (b : Int) _ _ rfl).mono ?_; rw [hPb.out]; rintro e w1 ⟨rfl, rfl⟩)
          | (go_at_call 17; refine (need_c (s : Int) _ _ _ rfl hNN.out).mono ?_; rintro e w1 ⟨rfl, rfl⟩)
          | (go_at_call 14; refine (place_c 162 _ _ rfl).mono ?_; rw [hp162.out]; rintro e w1 ⟨rfl, rfl⟩)
          | (go_at_call 8; refine (inoAwake_any _).mono ?_; rintro e w9 ⟨rfl, hb9⟩; have hend := Lib.hid hb9; clear hb9))
        go_ret
        exact ⟨rfl, hend.out⟩
      · go_wp2_with (first
          | (go_at_call_of 14 b; refine (place_c (b : Int) _ _ rfl).mono ?_; rw [hPb.out]; rintro e w1 ⟨rfl, rfl⟩)
          | (go_at_call 17; refine (need_c (s : Int) _ _ _ rfl hNN.out).mono ?_; rintro e w1 ⟨rfl, rfl⟩)
          | (go_at_call 14; refine (place_c 162 _ _ rfl).mono ?_; rw [hp162.out]; rintro e w1 ⟨rfl, rfl⟩)
          | (go_at_call 8; refine (inoAwake_any _).mono ?_; rintro e w9 ⟨rfl, hb9⟩; have hend := Lib.hid hb9; clear hb9))
        go_ret
        exact ⟨rfl, hend.out⟩
end Go.Proofs.Ytfnhngnbaigccaa
