/-
  The document's own: is a number there?
-/
import Derived.Test.YtbeaodmjobdiaaaBm
import Derived.Test.YtbeaodmjobdiaaaTe
namespace Go.Proofs.Ytbeaodmjobdiaaa
open Go.RowKit BigFrame

theorem shr_bit {x s : Nat} (hx : x < 256) : (bits .and .u8 ((x : Int) / 2 ^ s) 1 == 1) = x.testBit s := by
  have e : (x : Int) / 2 ^ s = ((x / 2 ^ s : Nat) : Int) := by simp
  have hlt : x / 2 ^ s < 256 := Nat.lt_of_le_of_lt (Nat.div_le_self _ _) hx
  rw [e, show (1 : Int) = ((1 : Nat) : Int) from rfl, u8_and_nat _ _ hlt (by omega), Nat.and_one_is_mod, Nat.testBit_eq_decide_div_mod_eq]
  rw [Bool.eq_iff_iff, beq_iff_eq, decide_eq_true_eq]
  omega

set_option maxHeartbeats 400000 in
theorem refHas_in (a : Option Addr) (cap n i : Nat) (l : List Nat) (w : World) (ho : Octs l) (hl : l.length = n) (hn : n ≤ 1000000) (hx : BAt w a l) (hi : i < 8 * n) :
    Calls Try.prog 39 #[.slice a n cap, .int .i64 (i : Int)] w fun e w' => e = .returned (.bool (hasN l i)) ∧ w = w' := by
  obtain ⟨b, off, rfl⟩ := hx.addr (by omega)
  obtain ⟨q, hq⟩ : ∃ q, q = i / 8 := ⟨_, rfl⟩
  have h8 : q < n := by omega
  have c := hx.cell (k := q) (by omega)
  have hi2 : i < 8000000 := by omega
  have hb := ho q (by omega)
  have hq2 : IntKind.i64.wrap ((i : Int) / 8) = ((q : Nat) : Int) := by rw [IntKind.wrap_i64]; omega
  have hq3 : (i : Int) / 8 = ((q : Nat) : Int) := by omega
  have hh := Lib.hid (show hasN l i = (bz l q).testBit (i % 8) by rw [hq]; rfl)
  clear ho hl hx hi hq
  go_enter Try.func39, Try.ntmps39
  go_wp2_with fail
  go_ret
  exact ⟨ret_bl (by rw [hh.out]; exact shr_bit hb), rfl⟩
set_option maxHeartbeats 400000 in
theorem refHas_out (a : Option Addr) (cap n i : Nat) (l : List Nat) (w : World) (hl : l.length = n) (_hn : n ≤ 1000000) (hi : 8 * n ≤ i) (hi2 : i ≤ 1000000000) :
    Calls Try.prog 39 #[.slice a n cap, .int .i64 (i : Int)] w fun e w' => e = .returned (.bool (hasN l i)) ∧ w = w' := by
  have hh := Lib.hid (hasN_out (l := l) (i := i) (by omega))
  obtain ⟨q, hq⟩ : ∃ q, q = i / 8 := ⟨_, rfl⟩
  have t1 : decide (q < n) = false := by rw [decide_eq_false_iff_not]; omega
  have hq2 : IntKind.i64.wrap ((i : Int) / 8) = ((q : Nat) : Int) := by rw [IntKind.wrap_i64]; omega
  have hq3 : (i : Int) / 8 = ((q : Nat) : Int) := by omega
  clear hl hi hq
  go_enter Try.func39, Try.ntmps39
  go_wp2_with fail
  go_ret
  exact ⟨ret_bl hh.out.symm, rfl⟩
theorem refHas_is (a : Option Addr) (cap n i : Nat) (l : List Nat) (r : Bool) (w : World) (hr : hasN l i = r) (ho : Octs l) (hl : l.length = n) (hn : n ≤ 1000000) (hi2 : i ≤ 1000000000) (hx : BAt w a l) :
    Calls Try.prog 39 #[.slice a n cap, .int .i64 (i : Int)] w fun e w' => e = .returned (.bool r) ∧ w = w' := by
  subst hr
  by_cases h : i < 8 * n
  · exact refHas_in a cap n i l w ho hl hn hx h
  · exact refHas_out a cap n i l w hl hn (by omega) hi2
end Go.Proofs.Ytbeaodmjobdiaaa
