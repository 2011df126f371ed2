/-
  What Kind and Open tell of any bytes.
-/
import Derived.Test.YtbeaodmjobdiaaaZl
import Derived.Test.YtbeaodmjobdiaaaTo
import Derived.Deep.QuietTactic
import Derived.BigQuiet
namespace Go.Proofs.Ytbeaodmjobdiaaa
open Go.RowKit BigFrame

def fitsB (l : List Nat) : Bool := decide (rdN (l.drop 124) = sumOf (l.take 124))
/-- the kind of a sealed sector, and 0 of all else -/
def kindOf (l : List Nat) : Nat := if l.length = 128 ∧ fitsB l = true then bz l 0 else 0

set_option maxHeartbeats 400000 in
theorem kind_128 (b off cap : Nat) (l : List Nat) (w : World) (ho : Octs l) (hl : l.length = 128) (hc : 128 ≤ cap) (hx : BAt w (some ⟨b, off, none⟩) l) :
    Calls Try.prog 37 #[.slice (some ⟨b, off, none⟩) 128 cap] w (Told (.int .u8 ((kindOf l : Nat) : Int)) w) := by
  have c0 := hx.cell (k := 0) (by omega)
  rw [Nat.add_zero] at c0
  have hx1 : BAt w (some ⟨b, off, none⟩) (l.take 124) := by have := hx.sub 0 124; rwa [List.drop_zero] at this
  have hx2 : BAt w (some ⟨b, off + 124, none⟩) (l.drop 124) := by have := hx.sub 124 4; rwa [List.take_of_length_le (by rw [List.length_drop]; omega)] at this
  have hx1' := Lib.hid hx1
  have hx2' := Lib.hid hx2
  have ho1 := Lib.hid (ho.take 124)
  have ho2 := Lib.hid (ho.drop 124)
  have n1 := Lib.hid (show (l.take 124).length = 124 by rw [List.length_take]; omega)
  have n2 := Lib.hid (show (l.drop 124).length = 4 by rw [List.length_drop]; omega)
  have hl' := Lib.hid hl
  clear hx hx1 hx2 ho hl
  obtain ⟨r, hr⟩ : ∃ r, r = rdN (l.drop 124) := ⟨_, rfl⟩
  obtain ⟨s, hs⟩ : ∃ s, s = sumOf (l.take 124) := ⟨_, rfl⟩
  by_cases he : r = s
  · have t1 : (((r : Nat) : Int) != ((s : Nat) : Int)) = false := by rw [bne_eq_false_iff_eq]; omega
    have hk := Lib.hid (show kindOf l = bz l 0 by unfold kindOf fitsB; rw [← hr, ← hs]; simp [hl'.out, he])
    have hr' := Lib.hid hr
    have hs' := Lib.hid hs
    clear he hr hs
    go_enter Try.func37, Try.ntmps37
    go_wp2_with fail
    go_big_quiet ((first
      | (go_at_call 40; exact quiet_told (v := .int .u32 (r : Int)) ((readSum_any _ _ _ _ ho2.out n2.out hx2'.out.drew).mono fun _ _ ⟨he, hw⟩ => ⟨he.trans (by rw [hr'.out]), hw⟩))
      | (go_at_call 35; exact quiet_told (v := .int .u32 (s : Int)) ((sum_n _ _ _ _ n1.out ho1.out (by omega) hx1'.out.drew).mono fun _ _ ⟨he, hw⟩ => ⟨he.trans (by rw [hs'.out]), hw⟩))))
    go_wp2_with fail
    go_ret
    exact ⟨ret_int (by rw [hk.out]), _, rfl⟩
  · have t1 : (((r : Nat) : Int) != ((s : Nat) : Int)) = true := by rw [bne_iff_ne]; omega
    have hk := Lib.hid (show kindOf l = 0 by unfold kindOf fitsB; rw [← hr, ← hs]; simp [hl'.out, he])
    have hr' := Lib.hid hr
    have hs' := Lib.hid hs
    clear he hr hs
    go_enter Try.func37, Try.ntmps37
    go_wp2_with fail
    go_big_quiet ((first
      | (go_at_call 40; exact quiet_told (v := .int .u32 (r : Int)) ((readSum_any _ _ _ _ ho2.out n2.out hx2'.out.drew).mono fun _ _ ⟨he, hw⟩ => ⟨he.trans (by rw [hr'.out]), hw⟩))
      | (go_at_call 35; exact quiet_told (v := .int .u32 (s : Int)) ((sum_n _ _ _ _ n1.out ho1.out (by omega) hx1'.out.drew).mono fun _ _ ⟨he, hw⟩ => ⟨he.trans (by rw [hs'.out]), hw⟩))))
    go_wp2_with fail
    go_ret
    exact ⟨ret_int (by rw [hk.out]; rfl), _, rfl⟩

theorem kind_other (a : Option Addr) (cap n : Nat) (w : World) (hn : n ≠ 128) :
    Calls Try.prog 37 #[.slice a n cap] w (Told (.int .u8 0) w) := by
  have t1 : ((n : Int) != 128) = true := by rw [bne_iff_ne]; omega
  go_enter Try.func37, Try.ntmps37
  go_wp2_with fail
  go_big_quiet (fail)
  go_wp2_with fail
  go_ret
  exact ⟨rfl, _, rfl⟩
theorem kind_any (a : Option Addr) (cap n : Nat) (l : List Nat) (w : World) (hn : l.length = n) (ho : Octs l) (hc : n ≤ cap) (hx : BAt w a l) :
    Calls Try.prog 37 #[.slice a n cap] w (Told (.int .u8 ((kindOf l : Nat) : Int)) w) := by
  by_cases h : n = 128
  · subst h
    obtain ⟨b, off, rfl⟩ := hx.addr (by omega)
    exact kind_128 b off cap l w ho hn hc hx
  · have e : kindOf l = 0 := by unfold kindOf; rw [if_neg (by omega)]
    rw [e]
    exact kind_other a cap n w h
theorem kind_is {k n : Nat} (a : Option Addr) (cap : Nat) (l : List Nat) (w : World) (hk : kindOf l = k) (hn : l.length = n) (ho : Octs l) (hc : n ≤ cap) (hx : BAt w a l) :
    Calls Try.prog 37 #[.slice a n cap] w (Told (.int .u8 (k : Int)) w) := by
  subst hk; exact kind_any a cap n l w hn ho hc hx
theorem kindOf_len {l : List Nat} (h : kindOf l ≠ 0) : l.length = 128 := by
  unfold kindOf at h
  split at h
  · rename_i h'; exact h'.1
  · exact absurd rfl h
/-- the body of a sealed sector -/
def bodyOf (l : List Nat) : List Nat := (l.drop 1).take 123
theorem bodyOf_length {l : List Nat} (h : l.length = 128) : (bodyOf l).length = 123 := by simp [bodyOf, h]
end Go.Proofs.Ytbeaodmjobdiaaa
