/-
  A number put in, or taken away: a copy.
-/
import Derived.Test.YtdkjmpicdkfgoaaHas
import Derived.Test.YtdkjmpicdkfgoaaBc
import Derived.WalkSpells
import Derived.Deep.RegionWith
namespace Go.Proofs.Ytdkjmpicdkfgoaa
open Go.RowKit BigFrame

def WithPost (l : List Nat) (i : Nat) (on : Bool) (w : World) (e : Ending) (w' : World) : Prop := GivesB (putN l i on) w e w'

set_option maxHeartbeats 1000000 in
theorem with_put (a : Option Addr) (cap n i : Nat) (l : List Nat) (w : World) (ho : Octs l) (hl : l.length = n) (hn : n ≤ 100000) (hx : BAt w a l) (hnil : a = none → cap = 0) (hi : i < 8 * n) :
    Calls Try.prog 71 #[.slice a n cap, .int .i64 (i : Int), .bool true] w (WithPost l i true w) := by
  have hx' := Lib.hid hx
  have hl' := Lib.hid hl
  have ho' := Lib.hid ho
  have hd : decide (i < 8 * n) = true := by simpa using hi
  obtain ⟨q, hq⟩ : ∃ q, q = i / 8 := ⟨_, rfl⟩
  have h8 : q < n := by omega
  have hq2 : IntKind.i64.wrap ((i : Int) / 8) = ((q : Nat) : Int) := by rw [IntKind.wrap_i64]; omega
  have hi2 : i < 4611686018427387904 := by omega
  have hp := Lib.hid (put_int (x := bz l q) (i := i) (ho q (by omega)))
  have hq' := Lib.hid hq
  clear hx hl ho hq
  go_enter Try.func71, Try.ntmps71
  go_wp2_with (first
    | (go_at_call 45; refine (clone_any a cap n l w hl'.out hn hx'.out hnil).mono ?_; rintro e w1 ⟨v1, rfl, ho1, hb1⟩; obtain ⟨g, cap1, rfl, hc1, hg1, hg2⟩ := ho1.at hl'.out (by omega); have O1 := Lib.hid ho1; have B1 := Lib.hid hb1; have c1 := ho1.cell (k := q) (by rw [hl'.out]; omega); have f1 := ho1.frozen q; clear ho1 hb1)
    | (go_at_call 80; refine (holds_any _ _ _ i _ (by omega)).mono ?_; rw [hd]; rintro e w2 ⟨rfl, rfl⟩))
  go_region_with ((go_at_call 73; refine (mask_any i _ hi2).mono ?_; rintro e w2 ⟨rfl, rfl⟩))
  all_goals go_wp2_with fail
  all_goals (
    go_ret
    refine ⟨_, rfl, ?_, ?_⟩
    · rw [hp.out]
      have := O1.out.set q (putB (bz l q) i true)
      unfold putN
      rw [← hq'.out]
      exact this
    · exact B1.out.trans (below_set hg1).drew)

set_option maxHeartbeats 1000000 in
theorem with_take (a : Option Addr) (cap n i : Nat) (l : List Nat) (w : World) (ho : Octs l) (hl : l.length = n) (hn : n ≤ 100000) (hx : BAt w a l) (hnil : a = none → cap = 0) (hi : i < 8 * n) :
    Calls Try.prog 71 #[.slice a n cap, .int .i64 (i : Int), .bool false] w (WithPost l i false w) := by
  have hx' := Lib.hid hx
  have hl' := Lib.hid hl
  have ho' := Lib.hid ho
  have hd : decide (i < 8 * n) = true := by simpa using hi
  obtain ⟨q, hq⟩ : ∃ q, q = i / 8 := ⟨_, rfl⟩
  have h8 : q < n := by omega
  have hq2 : IntKind.i64.wrap ((i : Int) / 8) = ((q : Nat) : Int) := by rw [IntKind.wrap_i64]; omega
  have hi2 : i < 4611686018427387904 := by omega
  have hp := Lib.hid (take_int (x := bz l q) (i := i) (ho q (by omega)))
  have hq' := Lib.hid hq
  clear hx hl ho hq
  go_enter Try.func71, Try.ntmps71
  go_wp2_with (first
    | (go_at_call 45; refine (clone_any a cap n l w hl'.out hn hx'.out hnil).mono ?_; rintro e w1 ⟨v1, rfl, ho1, hb1⟩; obtain ⟨g, cap1, rfl, hc1, hg1, hg2⟩ := ho1.at hl'.out (by omega); have O1 := Lib.hid ho1; have B1 := Lib.hid hb1; have c1 := ho1.cell (k := q) (by rw [hl'.out]; omega); have f1 := ho1.frozen q; clear ho1 hb1)
    | (go_at_call 80; refine (holds_any _ _ _ i _ (by omega)).mono ?_; rw [hd]; rintro e w2 ⟨rfl, rfl⟩))
  go_region_with ((go_at_call 73; refine (mask_any i _ hi2).mono ?_; rintro e w2 ⟨rfl, rfl⟩))
  all_goals go_wp2_with fail
  all_goals (
    go_ret
    refine ⟨_, rfl, ?_, ?_⟩
    · rw [hp.out]
      have := O1.out.set q (putB (bz l q) i false)
      unfold putN
      rw [← hq'.out]
      exact this
    · exact B1.out.trans (below_set hg1).drew)

theorem with_out (a : Option Addr) (cap n i : Nat) (on : Bool) (l : List Nat) (w : World) (hl : l.length = n) (hn : n ≤ 100000) (hx : BAt w a l) (hnil : a = none → cap = 0) (hi : 8 * n ≤ i) :
    Calls Try.prog 71 #[.slice a n cap, .int .i64 (i : Int), .bool on] w (WithPost l i on w) := by
  have hx' := Lib.hid hx
  have hl' := Lib.hid hl
  have hd : decide (i < 8 * n) = false := by simpa using hi
  have hp := Lib.hid (putN_out (l := l) (i := i) (on := on) (by omega))
  clear hx hl
  go_enter Try.func71, Try.ntmps71
  go_wp2_with (first
    | (go_at_call 45; refine (clone_any a cap n l w hl'.out hn hx'.out hnil).mono ?_; rintro e w1 ⟨v1, rfl, ho1, hb1⟩; obtain ⟨g, cap1, rfl, hbt1, hn1, hc1⟩ := ho1.slice; have O1 := Lib.hid ho1; have B1 := Lib.hid hb1; rw [hl'.out] at O1 ⊢; clear ho1 hb1 hbt1 hn1 hc1)
    | (go_at_call 80; refine (holds_any _ _ _ i _ (by omega)).mono ?_; rw [hd]; rintro e w2 ⟨rfl, rfl⟩))
  go_ret
  exact ⟨_, rfl, by rw [hp.out]; exact O1.out, B1.out⟩
/-- a copy, with a number put in, or taken away -/
theorem with_any (a : Option Addr) (cap n i : Nat) (on : Bool) (l : List Nat) (w : World) (ho : Octs l) (hl : l.length = n) (hn : n ≤ 100000) (hx : BAt w a l) (hnil : a = none → cap = 0) :
    Calls Try.prog 71 #[.slice a n cap, .int .i64 (i : Int), .bool on] w (WithPost l i on w) := by
  by_cases h : i < 8 * n
  · cases on
    · exact with_take a cap n i l w ho hl hn hx hnil h
    · exact with_put a cap n i l w ho hl hn hx hnil h
  · exact with_out a cap n i on l w hl hn hx hnil (by omega)
theorem with_c (a : Option Addr) (cap n i : Nat) (I : Int) (on : Bool) (l m : List Nat) (w : World) (hm : putN l i on = m) (hI : I = (i : Int)) (ho : Octs l) (hl : l.length = n) (hn : n ≤ 100000) (hx : BAt w a l) (hnil : a = none → cap = 0) :
    Calls Try.prog 71 #[.slice a n cap, .int .i64 I, .bool on] w (GivesB m w) := by
  subst hm; subst hI; exact with_any a cap n i on l w ho hl hn hx hnil
end Go.Proofs.Ytdkjmpicdkfgoaa
