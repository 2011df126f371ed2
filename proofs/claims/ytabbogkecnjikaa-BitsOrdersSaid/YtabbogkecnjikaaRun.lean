/-
  The first row of numbers that are not there.
-/
import Derived.Test.YtabbogkecnjikaaHas
import Derived.Deep.LoopGhost
namespace Go.Proofs.Ytabbogkecnjikaa
open Go.RowKit BigFrame

/-- from i on so many are not there -/
def FreeRow (l : List Nat) (i long : Nat) : Prop := ∀ k, i ≤ k → k < i + long → hasN l k = false
/-- r is where the first row lies, from k on and below n, or -1 -/
def IsRun (l : List Nat) (k n long : Nat) (r : Int) : Prop :=
  (∃ j : Nat, r = (j : Int) ∧ k ≤ j ∧ j + long ≤ n ∧ FreeRow l j long ∧ ∀ i, k ≤ i → i < j → ¬ FreeRow l i long) ∨ (r = -1 ∧ ∀ i, k ≤ i → i + long ≤ n → ¬ FreeRow l i long)
def RunPost (l : List Nat) (k n long : Nat) (w : World) (e : Ending) (w' : World) : Prop := ∃ r, IsRun l k n long r ∧ e = .returned (.int .i64 r) ∧ ∃ m, w' = w.drewN m

def RunRel (l : List Nat) (k n long : Nat) (w : World) (g : Nat) (i : Value) (wr : World) : Prop :=
  ∃ j q : Nat, n + 1 ≤ j + g ∧ k ≤ j ∧ (j ≤ n ∨ j = k) ∧ i = .int .i64 j ∧ wr = w.drewN q ∧ ∀ i, k ≤ i → i < j → ¬ FreeRow l i long
def RunIn (l : List Nat) (j long : Nat) (w : World) (g : Nat) (s i : Value) (wr : World) : Prop :=
  ∃ t q : Nat, j + long + 1 ≤ t + g ∧ j ≤ t ∧ t ≤ j + long ∧ s = .int .i64 j ∧ i = .int .i64 t ∧ wr = w.drewN q ∧ ∀ i, j ≤ i → i < t → hasN l i = false

set_option maxHeartbeats 1000000 in
theorem run_any (a : Option Addr) (cap n k m long : Nat) (l : List Nat) (w : World) (ho : Octs l) (hl : l.length = n) (hn : n ≤ 1000000) (hx : BAt w a l) (hk : k ≤ 1000000000) (hm : m ≤ 1000000000) (hlong : 0 < long) (hlm : long ≤ m) :
    Calls Try.prog 8 #[.slice a n cap, .int .i64 (k : Int), .int .i64 (m : Int), .int .i64 (long : Int)] w (RunPost l k m long w) := by
  have ho' := Lib.hid ho
  have hl' := Lib.hid hl
  have hx' := Lib.hid hx
  clear ho hl hx
  have t1 : decide ((k : Int) < 0) = false := by rw [decide_eq_false_iff_not]; omega
  have t2 : decide ((long : Int) < 1) = false := by rw [decide_eq_false_iff_not]; omega
  have t3 : decide (m < long) = false := by rw [decide_eq_false_iff_not]; omega
  go_enter Try.func8, Try.ntmps8
  go_wp2_with fail
  go_step3
  go_wp2_with fail
  go_step3
  go_wp2_with fail
  go_loopg [9] (m + 1) (fun g i wr => RunRel l k m long w g i wr)
  case atStart => exact ⟨k, 0, by omega, by omega, .inr rfl, rfl, rfl, fun i h1 h2 => by omega⟩
  case round =>
    obtain ⟨j, q, hg, hkj, hj, rfl, rfl, hb⟩ := hrel
    have hb' := Lib.hid hb
    clear hb
    by_cases hlt : j + long ≤ m
    · obtain ⟨g, rfl⟩ : ∃ g, gk = g + 1 := ⟨gk - 1, by omega⟩
      have t4 : decide ((j : Int) ≤ (m : Int) - (long : Int)) = true := by rw [decide_eq_true_eq]; omega
      go_wp2_with fail
      go_loopg [9, 10] (long + 1) (fun g s i wr => RunIn l j long w g s i wr)
      case atStart => exact ⟨j, q, by omega, by omega, by omega, rfl, rfl, rfl, fun i h1 h2 => by omega⟩
      case round =>
        obtain ⟨t, q2, hg2, hjt, htl, rfl, rfl, rfl, hc⟩ := hrel
        have hc' := Lib.hid hc
        clear hc
        by_cases hin : t < j + long ∧ t < 8 * n
        · obtain ⟨g2, rfl⟩ : ∃ g, gk = g + 1 := ⟨gk - 1, by omega⟩
          obtain ⟨hi1, hi2⟩ := hin
          obtain ⟨r, hr⟩ : ∃ r, hasN l t = r := ⟨_, rfl⟩
          have hr' := Lib.hid hr
          clear hr
          cases r
          · go_wp2_with (first
              | (go_at_call 16; refine (room_any _ _ _ _ hn).mono ?_; rintro e w1 ⟨rfl, rfl⟩)
              | (go_at_call 9; refine (has_is _ _ _ t l _ _ hr'.out ho'.out hl'.out hn hx'.out.drew).mono ?_; rintro e w1 ⟨rfl, q1, rfl⟩))
            all_goals (
              go_roundg g2
              case measure => omega
              case rel =>
                exact ⟨t + 1, q2 + q1, by omega, by omega, by omega, rfl, by go_num, rfl, fun i h1 h2 => by
                  by_cases e : i = t
                  · rw [e]; exact hr'.out
                  · exact hc'.out i h1 (by omega)⟩)
          · go_wp2_with (first
              | (go_at_call 16; refine (room_any _ _ _ _ hn).mono ?_; rintro e w1 ⟨rfl, rfl⟩)
              | (go_at_call 9; refine (has_is _ _ _ t l _ _ hr'.out ho'.out hl'.out hn hx'.out.drew).mono ?_; rintro e w1 ⟨rfl, q1, rfl⟩))
            all_goals (
              go_roundg g
              case measure => omega
              case rel =>
                exact ⟨t + 1, q2 + q1, by omega, by omega, by omega, by go_num, rfl, fun i h1 h2 hf => by
                  by_cases e : i < j
                  · exact hb'.out i h1 e hf
                  · have := hf t (by omega) (by omega)
                    rw [hr'.out] at this; cases this⟩)
        · have hfr := Lib.hid (show FreeRow l j long from fun i h1 h2 => by
            by_cases e : i < t
            · exact hc'.out i h1 e
            · exact hasN_out (by rw [hl'.out]; omega))
          go_wp2_with (go_at_call 16; refine (room_any _ _ _ _ hn).mono ?_; rintro e w1 ⟨rfl, rfl⟩)
          all_goals (
            go_ret
            exact ⟨j, .inl ⟨j, rfl, hkj, hlt, hfr.out, hb'.out⟩, rfl, _, rfl⟩)
    · go_wp2_with fail
      go_ret
      exact ⟨-1, .inr ⟨rfl, fun i h1 h2 => hb'.out i h1 (by omega)⟩, rfl, _, rfl⟩
set_option maxHeartbeats 1000000 in
theorem run_short (a : Option Addr) (cap n k m long : Nat) (l : List Nat) (w : World) (hlong : 0 < long) (hlm : m < long) :
    Calls Try.prog 8 #[.slice a n cap, .int .i64 (k : Int), .int .i64 (m : Int), .int .i64 (long : Int)] w (RunPost l k m long w) := by
  have t1 : decide ((k : Int) < 0) = false := by rw [decide_eq_false_iff_not]; omega
  have t2 : decide ((long : Int) < 1) = false := by rw [decide_eq_false_iff_not]; omega
  have t3 : decide (m < long) = true := by rw [decide_eq_true_eq]; omega
  go_enter Try.func8, Try.ntmps8
  go_wp2_with fail
  go_step3
  go_wp2_with fail
  try rw [Exit.noGoto_ret]
  go_ret
  exact ⟨-1, .inr ⟨rfl, fun i h1 h2 => by omega⟩, rfl, 0, rfl⟩
theorem run_c (a : Option Addr) (cap n k m long : Nat) (K M G : Int) (l : List Nat) (w : World) (hK : K = (k : Int)) (hM : M = (m : Int)) (hG : G = (long : Int)) (ho : Octs l) (hl : l.length = n) (hn : n ≤ 1000000) (hx : BAt w a l) (hk : k ≤ 1000000000) (hm : m ≤ 1000000000) (hlong : 0 < long) :
    Calls Try.prog 8 #[.slice a n cap, .int .i64 K, .int .i64 M, .int .i64 G] w (RunPost l k m long w) := by
  subst hK; subst hM; subst hG
  by_cases h : long ≤ m
  · exact run_any a cap n k m long l w ho hl hn hx hk hm hlong h
  · exact run_short a cap n k m long l w hlong (by omega)
theorem IsRun.unique {l : List Nat} {k n long : Nat} {r s : Int} (h : IsRun l k n long r) (h2 : IsRun l k n long s) : r = s := by
  rcases h with ⟨j, rfl, h1, h2a, h3, h4⟩ | ⟨rfl, h1⟩
  · rcases h2 with ⟨j2, rfl, g1, g2, g3, g4⟩ | ⟨rfl, g1⟩
    · by_cases e : j < j2
      · exact absurd h3 (g4 j h1 e)
      · by_cases e2 : j2 < j
        · exact absurd g3 (h4 j2 g1 e2)
        · omega
    · exact absurd h3 (g1 j h1 h2a)
  · rcases h2 with ⟨j2, rfl, g1, g2, g3, g4⟩ | ⟨rfl, g1⟩
    · exact absurd g3 (h1 j2 g1 g2)
    · rfl
/-- where the first row lies, where it is known -/
theorem run_is (a : Option Addr) (cap n k m long : Nat) (K M G : Int) (r : Int) (l : List Nat) (w : World) (hr : IsRun l k m long r) (hK : K = (k : Int)) (hM : M = (m : Int)) (hG : G = (long : Int)) (ho : Octs l) (hl : l.length = n) (hn : n ≤ 1000000) (hx : BAt w a l) (hk : k ≤ 1000000000) (hm : m ≤ 1000000000) (hlong : 0 < long) (hlm : long ≤ m) :
    Calls Try.prog 8 #[.slice a n cap, .int .i64 K, .int .i64 M, .int .i64 G] w (Told (.int .i64 r) w) := by
  subst hK; subst hM; subst hG
  refine (run_any a cap n k m long l w ho hl hn hx hk hm hlong hlm).mono fun e w' ⟨r2, h2, he, hw⟩ => ?_
  rw [hr.unique h2]
  exact ⟨he, hw⟩
end Go.Proofs.Ytabbogkecnjikaa
