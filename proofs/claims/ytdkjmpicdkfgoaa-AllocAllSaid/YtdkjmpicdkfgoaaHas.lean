/-
  Is a number there?
-/
import Derived.Test.YtdkjmpicdkfgoaaBm
import Derived.Test.YtdkjmpicdkfgoaaTo
namespace Go.Proofs.Ytdkjmpicdkfgoaa
open Go.RowKit BigFrame

theorem bit_int (i : Nat) : ((2 : Int) ^ (i % 8) % 256) = ((bitN i : Nat) : Int) := by
  have h := bitN_lt i
  have e : ((2 : Int) ^ (i % 8)) = ((bitN i : Nat) : Int) := by unfold bitN; simp
  rw [e]; omega

theorem ret_bool {a b : Bool} (h : a = b) : Ending.returned (.bool a) = .returned (.bool b) := by rw [h]

set_option maxHeartbeats 400000 in
theorem mask_any (i : Nat) (w : World) (hi : i < 4611686018427387904) :
    Calls Try.prog 73 #[.int .i64 (i : Int)] w fun e w' => e = .returned (.int .u8 ((bitN i : Nat) : Int)) ∧ w = w' := by
  go_enter Try.func73, Try.ntmps73
  go_wp2_with fail
  go_ret
  exact ⟨ret_int (bit_int i), rfl⟩
theorem room_any (a : Option Addr) (cap n : Nat) (w : World) (hn : n ≤ 1000000) :
    Calls Try.prog 81 #[.slice a n cap] w fun e w' => e = .returned (.int .i64 ((8 * n : Nat) : Int)) ∧ w = w' := by
  go_enter Try.func81, Try.ntmps81
  go_wp2_with fail
  go_ret
  exact ⟨ret_int (by omega), rfl⟩
theorem holds_any (a : Option Addr) (cap n i : Nat) (w : World) (hn : n ≤ 1000000) :
    Calls Try.prog 80 #[.slice a n cap, .int .i64 (i : Int)] w fun e w' => e = .returned (.bool (decide (i < 8 * n))) ∧ w = w' := by
  go_enter Try.func80, Try.ntmps80
  go_wp2_with (go_at_call 81; refine (room_any _ _ _ _ hn).mono ?_; rintro e w1 ⟨rfl, rfl⟩)
  go_ret
  exact ⟨ret_bool (by rw [decide_eq_decide]; omega), rfl⟩

set_option maxHeartbeats 400000 in
theorem has_in (a : Option Addr) (cap n i : Nat) (l : List Nat) (w : World) (ho : Octs l) (hl : l.length = n) (hn : n ≤ 1000000) (hx : BAt w a l) (hi : i < 8 * n) :
    Calls Try.prog 70 #[.slice a n cap, .int .i64 (i : Int)] w (Told (.bool (hasN l i)) w) := by
  obtain ⟨b, off, rfl⟩ := hx.addr (by omega)
  have c := hx.cell (k := i / 8) (by omega)
  have h8 : i / 8 < n := by omega
  have hd : decide (i < 8 * n) = true := by simpa using hi
  have ho' := Lib.hid (ho (i / 8) (by omega))
  have hh := Lib.hid (has_int (x := bz l (i / 8)) (i := i) (ho (i / 8) (by omega)))
  have hl' := Lib.hid hl
  have hx' := Lib.hid hx
  clear ho hl hx
  go_enter Try.func70, Try.ntmps70
  go_wp2_with fail
  go_big_quiet ((first
      | (go_at_call 80; exact quiet_told (v := .bool true) ((holds_any _ _ _ i _ hn).mono fun _ _ ⟨he, hw⟩ => ⟨he.trans (by rw [hd]), hw⟩))
      | (go_at_call 73; exact quiet_told (v := .int .u8 ((bitN i : Nat) : Int)) (mask_any i _ (by omega)))))
  go_wp2_with fail
  go_ret
  exact ⟨ret_bool hh.out, _, rfl⟩

set_option maxHeartbeats 400000 in
theorem has_out (a : Option Addr) (cap n i : Nat) (l : List Nat) (w : World) (hl : l.length = n) (hn : n ≤ 1000000) (hi : 8 * n ≤ i) :
    Calls Try.prog 70 #[.slice a n cap, .int .i64 (i : Int)] w (Told (.bool (hasN l i)) w) := by
  have hd : decide (i < 8 * n) = false := by simpa using hi
  have hh := Lib.hid (hasN_out (l := l) (i := i) (by omega))
  go_enter Try.func70, Try.ntmps70
  go_wp2_with fail
  go_big_quiet (((go_at_call 80; exact quiet_told (v := .bool false) ((holds_any _ _ _ i _ hn).mono fun _ _ ⟨he, hw⟩ => ⟨he.trans (by rw [hd]), hw⟩))))
  go_wp2_with fail
  go_ret
  exact ⟨ret_bool hh.out.symm, _, rfl⟩
/-- is a number there? -/
theorem has_any (a : Option Addr) (cap n i : Nat) (l : List Nat) (w : World) (ho : Octs l) (hl : l.length = n) (hn : n ≤ 1000000) (hx : BAt w a l) :
    Calls Try.prog 70 #[.slice a n cap, .int .i64 (i : Int)] w (Told (.bool (hasN l i)) w) := by
  by_cases h : i < 8 * n
  · exact has_in a cap n i l w ho hl hn hx h
  · exact has_out a cap n i l w hl hn (by omega)
theorem has_is (a : Option Addr) (cap n i : Nat) (l : List Nat) (r : Bool) (w : World) (hr : hasN l i = r) (ho : Octs l) (hl : l.length = n) (hn : n ≤ 1000000) (hx : BAt w a l) :
    Calls Try.prog 70 #[.slice a n cap, .int .i64 (i : Int)] w (Told (.bool r) w) := by
  subst hr; exact has_any a cap n i l w ho hl hn hx
theorem has_c (a : Option Addr) (cap n i : Nat) (I : Int) (l : List Nat) (r : Bool) (w : World) (hr : hasN l i = r) (hI : I = (i : Int)) (ho : Octs l) (hl : l.length = n) (hn : n ≤ 1000000) (hx : BAt w a l) :
    Calls Try.prog 70 #[.slice a n cap, .int .i64 I] w (Told (.bool r) w) := by
  subst hI; exact has_is a cap n i l r w hr ho hl hn hx
end Go.Proofs.Ytdkjmpicdkfgoaa
