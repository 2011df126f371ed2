/-
  The law on rows of numbers that are not there.
-/
import Derived.Test.YtabbogkecnjikaaAwake
import Derived.Test.YtabbogkecnjikaaLo
namespace Go.Proofs.Ytabbogkecnjikaa
open Go.RowKit BigFrame

theorem isRun_one {l : List Nat} {k n : Nat} {r : Int} (h : IsRun l k n 1 r) : IsFirst l k n r := by
  have hrow : ∀ i, ¬ FreeRow l i 1 → hasN l i = true := fun i h => by
    cases e : hasN l i
    · exfalso
      refine h fun j h1 h2 => ?_
      have e2 : j = i := by omega
      rw [e2]; exact e
    · rfl
  rcases h with ⟨j, rfl, h1, h2, h3, h4⟩ | ⟨rfl, h1⟩
  · exact .inl ⟨j, rfl, h1, by omega, h3 j (by omega) (by omega), fun i g1 g2 => hrow i (h4 i g1 g2)⟩
  · exact .inr ⟨rfl, fun i g1 g2 => hrow i (h1 i g1 (by omega))⟩

/-- from k on, below i: the last t are not there, and no row of so many lies there -/
def Tail (l : List Nat) (k long i t : Nat) : Prop :=
  k + t ≤ i ∧ t < long ∧ (∀ j, i ≤ j + t → j < i → hasN l j = false) ∧ (k + t = i ∨ hasN l (i - t - 1) = true) ∧ ∀ s, k ≤ s → s + long ≤ i → ¬ FreeRow l s long
theorem Tail.start (l : List Nat) (k : Nat) {long : Nat} (h : 0 < long) : Tail l k long k 0 :=
  ⟨by omega, h, fun j h1 h2 => by omega, .inl (by omega), fun s h1 h2 => by omega⟩
theorem Tail.taken {l : List Nat} {k long i t : Nat} (h : Tail l k long i t) (hi : hasN l i = true) : Tail l k long (i + 1) 0 := by
  obtain ⟨h1, h2, h3, h4, h5⟩ := h
  refine ⟨by omega, by omega, fun j g1 g2 => by omega, .inr hi, fun s g1 g2 hf => ?_⟩
  by_cases e : s + long ≤ i
  · exact h5 s g1 e hf
  · have := hf i (by omega) (by omega)
    rw [hi] at this; cases this
theorem Tail.more {l : List Nat} {k long i t : Nat} (h : Tail l k long i t) (hi : hasN l i = false) (ht : t + 1 < long) : Tail l k long (i + 1) (t + 1) := by
  obtain ⟨h1, h2, h3, h4, h5⟩ := h
  refine ⟨by omega, ht, fun j g1 g2 => ?_, ?_, fun s g1 g2 hf => ?_⟩
  · by_cases e : j = i
    · rw [e]; exact hi
    · exact h3 j (by omega) (by omega)
  · rcases h4 with h4 | h4
    · exact .inl (by omega)
    · exact .inr (by rw [show i + 1 - (t + 1) - 1 = i - t - 1 by omega]; exact h4)
  · by_cases e : s + long ≤ i
    · exact h5 s g1 e hf
    · rcases h4 with h4 | h4
      · omega
      · have := hf (i - t - 1) (by omega) (by omega)
        rw [h4] at this; cases this
theorem Tail.found {l : List Nat} {k n long i t : Nat} (h : Tail l k long i t) (hi : hasN l i = false) (ht : t + 1 = long) (hn : i < n) : IsRun l k n long ((i : Int) - (long : Int) + 1) := by
  obtain ⟨h1, h2, h3, h4, h5⟩ := h
  refine .inl ⟨i + 1 - long, by omega, by omega, by omega, fun j g1 g2 => ?_, fun s g1 g2 => h5 s g1 (by omega)⟩
  by_cases e : j = i
  · rw [e]; exact hi
  · exact h3 j (by omega) (by omega)
theorem Tail.none {l : List Nat} {k n long i t : Nat} (h : Tail l k long i t) (hn : n ≤ i) : IsRun l k n long (-1) :=
  .inr ⟨rfl, fun s g1 g2 => h.2.2.2.2 s g1 (by omega)⟩

def RunsRel (l : List Nat) (k n long : Nat) (w : World) (g : Nat) (s i : Value) (wr : World) : Prop :=
  ∃ j t q : Nat, j + g = n ∧ s = .int .i64 t ∧ i = .int .i64 j ∧ wr = w.drewN q ∧ Tail l k long j t

set_option maxRecDepth 100000 in
set_option maxHeartbeats 1000000 in
theorem runs_in (a : Option Addr) (cap n : Nat) (x y : Int) (l : List Nat) (w : World) (hl : l.length = n) (hn : n ≤ 30) (ho : Octs l) (hx : BAt w a l) :
    Calls Try.prog 3 #[.slice a n cap, .int .i64 x, .int .i64 y] w (Woke w) := by
  have hx' := Lib.hid hx
  have ho' := Lib.hid ho
  have hl' := Lib.hid hl
  clear hx ho hl
  go_enter Try.func3, Try.ntmps3
  go_wp2_with (first
    | (go_at_call_of 7 x; refine (low_c x _ (8 * n + 1) _ (by omega) (by omega) (by omega)).mono ?_; rintro e w1 ⟨k, hk, rfl, rfl⟩)
    | (go_at_call_of 7 y; refine (low_c y _ 20 _ rfl (by omega) (by omega)).mono ?_; rintro e w1 ⟨k2, hk2, rfl, rfl⟩)
    | (go_at_call 8; refine (run_c a cap n k (8 * n) (1 + k2) _ _ _ l _ rfl (by omega) (by omega) ho'.out hl'.out (by omega) hx'.out (by omega) (by omega) (by omega)).mono ?_; rintro e w2 ⟨r, hr, rfl, q0, rfl⟩; have hr' := Lib.hid hr; clear hr))
  go_loopg [9, 10] (8 * n - k) (fun g s i wr => RunsRel l k (8 * n) (1 + k2) w g s i wr)
  case atStart => exact ⟨k, 0, q0, by omega, rfl, rfl, rfl, Tail.start l k (by omega)⟩
  case round =>
    obtain ⟨j, t, q, hg, rfl, rfl, rfl, ht⟩ := hrel
    have htl := ht.2.1
    have htj := ht.1
    have ht' := Lib.hid ht
    clear ht
    by_cases hlt : j < 8 * n
    · obtain ⟨g, rfl⟩ : ∃ g, gk = g + 1 := ⟨gk - 1, by omega⟩
      obtain ⟨v, hv0⟩ : ∃ v, hasN l j = v := ⟨_, rfl⟩
      have hv := Lib.hid hv0
      clear hv0
      cases v
      · by_cases hfull : t + 1 = 1 + k2
        · have e0 := hr'.out.unique (ht'.out.found hv.out hfull hlt)
          have e1 : (r == (j : Int) - (1 + (k2 : Int)) + 1) = true := by rw [beq_iff_eq, e0]; omega
          have e2 : (((t : Int) + 1) == (1 + (k2 : Int))) = true := by rw [beq_iff_eq]; omega
          clear e0
          go_wp2_with (first
            | (go_at_call 9; refine (has_is _ _ _ j l _ _ hv.out ho'.out hl'.out (by omega) hx'.out.drew).mono ?_; rintro e w1 ⟨rfl, q1, rfl⟩)
            | (go_at_call 8; refine (run_c a cap n k (8 * n) 1 _ _ _ l _ rfl (by omega) rfl ho'.out hl'.out (by omega) hx'.out.drew (by omega) (by omega) (by omega)).mono ?_; rintro e w2 ⟨r1, hr1, rfl, q2, rfl⟩; have hr1' := Lib.hid hr1; clear hr1)
            | (go_at_call 10; refine (first_c a cap n k (8 * n) _ _ l _ rfl (by omega) ho'.out hl'.out (by omega) hx'.out.drew (by omega) (by omega)).mono ?_; rintro e w3 ⟨f, hf, rfl, q3, rfl⟩; obtain rfl := hf.unique (isRun_one hr1'.out); clear hf)
            | (go_at_call 6; refine (awake_any _).mono ?_; rintro e w4 ⟨rfl, hb4⟩; have hb4' := Lib.hid hb4; clear hb4))
          go_ret
          exact ⟨rfl, (below_drewN w _).trans hb4'.out⟩
        · have e2 : (((t : Int) + 1) == (1 + (k2 : Int))) = false := by rw [beq_eq_false_iff_ne]; omega
          go_wp2_with (go_at_call 9; refine (has_is _ _ _ j l _ _ hv.out ho'.out hl'.out (by omega) hx'.out.drew).mono ?_; rintro e w1 ⟨rfl, q1, rfl⟩)
          go_roundg g
          case measure => omega
          case rel => exact ⟨j + 1, t + 1, q + q1, by omega, by go_num, by go_num, rfl, ht'.out.more hv.out (by omega)⟩
      · have e2 : ((0 : Int) == (1 + (k2 : Int))) = false := by rw [beq_eq_false_iff_ne]; omega
        go_wp2_with (go_at_call 9; refine (has_is _ _ _ j l _ _ hv.out ho'.out hl'.out (by omega) hx'.out.drew).mono ?_; rintro e w1 ⟨rfl, q1, rfl⟩)
        go_roundg g
        case measure => omega
        case rel => exact ⟨j + 1, 0, q + q1, by omega, rfl, by go_num, rfl, ht'.out.taken hv.out⟩
    · have e0 := hr'.out.unique (ht'.out.none (by omega))
      have hv : True := trivial
      have e1 : (r == -1) = true := by rw [beq_iff_eq, e0]
      clear e0
      go_wp2_with (first
        | (go_at_call 9; refine (has_is _ _ _ j l _ _ hv.out ho'.out hl'.out (by omega) hx'.out.drew).mono ?_; rintro e w1 ⟨rfl, q1, rfl⟩)
        | (go_at_call 8; refine (run_c a cap n k (8 * n) 1 _ _ _ l _ rfl (by omega) rfl ho'.out hl'.out (by omega) hx'.out.drew (by omega) (by omega) (by omega)).mono ?_; rintro e w2 ⟨r1, hr1, rfl, q2, rfl⟩; have hr1' := Lib.hid hr1; clear hr1)
        | (go_at_call 10; refine (first_c a cap n k (8 * n) _ _ l _ rfl (by omega) ho'.out hl'.out (by omega) hx'.out.drew (by omega) (by omega)).mono ?_; rintro e w3 ⟨f, hf, rfl, q3, rfl⟩; obtain rfl := hf.unique (isRun_one hr1'.out); clear hf)
        | (go_at_call 6; refine (awake_any _).mono ?_; rintro e w4 ⟨rfl, hb4⟩; have hb4' := Lib.hid hb4; clear hb4))
      go_ret
      exact ⟨rfl, (below_drewN w _).trans hb4'.out⟩
theorem runs_long (a : Option Addr) (cap n : Nat) (x y : Int) (w : World) (hn : 30 < n) :
    Calls Try.prog 3 #[.slice a n cap, .int .i64 x, .int .i64 y] w (Woke w) := by
  go_enter Try.func3, Try.ntmps3
  go_wp2_with (go_at_call 6; refine (awake_any _).mono ?_; rintro e w1 ⟨rfl, hb⟩)
  go_ret
  exact ⟨rfl, by assumption⟩
theorem runs_law (a : Option Addr) (cap : Nat) (x y : Int) (l : List Nat) (w : World) (ho : Octs l) (hx : BAt w a l) :
    Calls Try.prog 3 #[.slice a l.length cap, .int .i64 x, .int .i64 y] w (Woke w) := by
  by_cases h : l.length ≤ 30
  · exact runs_in a cap _ x y l w rfl h ho hx
  · exact runs_long a cap _ x y w (by omega)
end Go.Proofs.Ytabbogkecnjikaa
