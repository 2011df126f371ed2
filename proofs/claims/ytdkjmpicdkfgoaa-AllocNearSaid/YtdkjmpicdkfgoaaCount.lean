/-
  How many numbers are there.
-/
import Derived.Test.YtdkjmpicdkfgoaaHas
import Derived.Test.YtdkjmpicdkfgoaaCn
import Derived.Deep.LoopGhost
namespace Go.Proofs.Ytdkjmpicdkfgoaa
open Go.RowKit BigFrame

def CountRel (l : List Nat) (lim : Nat) (w : World) (g : Nat) (s i : Value) (wr : World) : Prop :=
  ∃ k q : Nat, k + g = lim ∧ s = .int .i64 ((countN l k : Nat) : Int) ∧ i = .int .i64 k ∧ wr = w.drewN q

set_option maxHeartbeats 1000000 in
theorem count_lo (a : Option Addr) (cap n m : Nat) (l : List Nat) (w : World) (ho : Octs l) (hl : l.length = n) (hn : n ≤ 1000000) (hx : BAt w a l) (hm : m ≤ 1000000000) (hc : m ≤ 8 * n) :
    Calls Try.prog 76 #[.slice a n cap, .int .i64 (m : Int)] w (Told (.int .i64 ((countN l m : Nat) : Int)) w) := by
  have ho' := Lib.hid ho
  have hl' := Lib.hid hl
  have hx' := Lib.hid hx
  clear ho hl hx
  go_enter Try.func76, Try.ntmps76
  go_wp2_with (go_at_call 81; refine (room_any _ _ _ _ hn).mono ?_; rintro e w1 ⟨rfl, rfl⟩)
  go_loopg [5, 11] m (fun g s i wr => CountRel l m w g s i wr)
  case atStart => exact ⟨0, 0, by omega, rfl, rfl, rfl⟩
  case round =>
    obtain ⟨k, q, hg, rfl, rfl, rfl⟩ := hrel
    have hle := countN_le l k
    by_cases hlt : k < m
    · obtain ⟨g, rfl⟩ : ∃ g, gk = g + 1 := ⟨gk - 1, by omega⟩
      obtain ⟨r, hr⟩ : ∃ r, hasN l k = r := ⟨_, rfl⟩
      have hs := Lib.hid (countN_succ l k r hr)
      have hr' := Lib.hid hr
      clear hr
      obtain ⟨c, hc0⟩ : ∃ c, countN l k = c := ⟨_, rfl⟩
      rw [hc0] at hs hle ⊢
      clear hc0
      cases r
      · go_wp2_with (go_at_call 70; refine (has_is _ _ _ k l _ _ hr'.out ho'.out hl'.out hn hx'.out.drew).mono ?_; rintro e w1 ⟨rfl, q1, rfl⟩)
        go_roundg g
        case measure => omega
        case rel => exact ⟨k + 1, q + q1, by omega, val_int (by rw [hs.out]; simp), by go_num, rfl⟩
      · go_wp2_with (go_at_call 70; refine (has_is _ _ _ k l _ _ hr'.out ho'.out hl'.out hn hx'.out.drew).mono ?_; rintro e w1 ⟨rfl, q1, rfl⟩)
        go_roundg g
        case measure => omega
        case rel => exact ⟨k + 1, q + q1, by omega, val_int (by rw [hs.out]; simp), by go_num, rfl⟩
    · obtain rfl : k = m := by omega
      go_wp2_with fail
      go_ret
      exact ⟨rfl, _, rfl⟩

set_option maxHeartbeats 1000000 in
theorem count_hi (a : Option Addr) (cap n m : Nat) (l : List Nat) (w : World) (ho : Octs l) (hl : l.length = n) (hn : n ≤ 1000000) (hx : BAt w a l) (hm : m ≤ 1000000000) (hc : 8 * n < m) :
    Calls Try.prog 76 #[.slice a n cap, .int .i64 (m : Int)] w (Told (.int .i64 ((countN l (8 * n) : Nat) : Int)) w) := by
  have ho' := Lib.hid ho
  have hl' := Lib.hid hl
  have hx' := Lib.hid hx
  clear ho hl hx
  go_enter Try.func76, Try.ntmps76
  go_wp2_with (go_at_call 81; refine (room_any _ _ _ _ hn).mono ?_; rintro e w1 ⟨rfl, rfl⟩)
  go_loopg [5, 11] (8 * n) (fun g s i wr => CountRel l (8 * n) w g s i wr)
  case atStart => exact ⟨0, 0, by omega, rfl, rfl, rfl⟩
  case round =>
    obtain ⟨k, q, hg, rfl, rfl, rfl⟩ := hrel
    have hle := countN_le l k
    by_cases hlt : k < 8 * n
    · obtain ⟨g, rfl⟩ : ∃ g, gk = g + 1 := ⟨gk - 1, by omega⟩
      obtain ⟨r, hr⟩ : ∃ r, hasN l k = r := ⟨_, rfl⟩
      have hs := Lib.hid (countN_succ l k r hr)
      have hr' := Lib.hid hr
      clear hr
      obtain ⟨c, hc0⟩ : ∃ c, countN l k = c := ⟨_, rfl⟩
      rw [hc0] at hs hle ⊢
      clear hc0
      cases r
      · go_wp2_with (go_at_call 70; refine (has_is _ _ _ k l _ _ hr'.out ho'.out hl'.out hn hx'.out.drew).mono ?_; rintro e w1 ⟨rfl, q1, rfl⟩)
        go_roundg g
        case measure => omega
        case rel => exact ⟨k + 1, q + q1, by omega, val_int (by rw [hs.out]; simp), by go_num, rfl⟩
      · go_wp2_with (go_at_call 70; refine (has_is _ _ _ k l _ _ hr'.out ho'.out hl'.out hn hx'.out.drew).mono ?_; rintro e w1 ⟨rfl, q1, rfl⟩)
        go_roundg g
        case measure => omega
        case rel => exact ⟨k + 1, q + q1, by omega, val_int (by rw [hs.out]; simp), by go_num, rfl⟩
    · obtain rfl : k = 8 * n := by omega
      go_wp2_with fail
      go_ret
      exact ⟨rfl, _, rfl⟩

/-- how many of 0 to below m there are -/
theorem count_any (a : Option Addr) (cap n m : Nat) (l : List Nat) (w : World) (ho : Octs l) (hl : l.length = n) (hn : n ≤ 1000000) (hx : BAt w a l) (hm : m ≤ 1000000000) :
    Calls Try.prog 76 #[.slice a n cap, .int .i64 (m : Int)] w (Told (.int .i64 ((countN l m : Nat) : Int)) w) := by
  by_cases h : m ≤ 8 * n
  · exact count_lo a cap n m l w ho hl hn hx hm h
  · have e : countN l m = countN l (8 * n) := by unfold countN; rw [allN_min (by omega), hl]
    rw [e]
    exact count_hi a cap n m l w ho hl hn hx hm (by omega)
theorem count_is (a : Option Addr) (cap n m c : Nat) (M : Int) (l : List Nat) (w : World) (hc : countN l m = c) (hM : M = (m : Int)) (ho : Octs l) (hl : l.length = n) (hn : n ≤ 1000000) (hx : BAt w a l) (hm : m ≤ 1000000000) :
    Calls Try.prog 76 #[.slice a n cap, .int .i64 M] w (Told (.int .i64 (c : Int)) w) := by
  subst hM; subst hc
  exact count_any a cap n m l w ho hl hn hx hm
end Go.Proofs.Ytdkjmpicdkfgoaa
