/-
  A number put in, or taken away: a copy.
-/
import Derived.Test.YtbeaodmjobdiaaaHas
import Derived.Test.YtbeaodmjobdiaaaOx
import Derived.WalkSpells
import Derived.Deep.RegionWith
namespace Go.Proofs.Ytbeaodmjobdiaaa
open Go.RowKit BigFrame

set_option maxHeartbeats 400000 in
theorem clone_any (a : Option Addr) (cap n : Nat) (l : List Nat) (w : World) (hl : l.length = n) (hn : n ≤ 100000) (hx : BAt w a l) (hnil : a = none → cap = 0) :
    Calls Try.prog 30 #[.slice a n cap] w (GivesB l w) := by
  have q22 : ∀ (w : World) (a : Option Addr) (n c n' c' : Nat), (binOp .eql 22 (.slice a n c) (.slice none n' c')).run Try.prog w = .ok (.bool a.isNone) w := fun w a n c n' c' => Lib.run_eql_slice_nil w _ _ a n c n' c' Try.underlying22
  cases a with
  | none =>
    have e : l = [] := by
      rcases hx with h | ⟨_, _, e, _⟩
      · exact List.eq_nil_of_length_eq_zero h
      · cases e
    subst e
    go_enter Try.func30, Try.ntmps30
    go_wp2_with fail
    go_ret
    exact ⟨_, rfl, OwnB.nil _ _, Below.refl _ _⟩
  | some ad =>
    have hx' := Lib.hid hx
    have hl' := Lib.hid hl
    have O0 := Lib.hid (show OwnB (w.alloc (.cells #[] 5)) w.heap.size (.slice (some ⟨w.heap.size, 0, none⟩) 0 0) [] from OwnB.made w [] w.heap.size (Nat.le_refl _) (by simp))
    have B0 := Lib.hid ((Below.refl w.heap.size w).alloc (Nat.le_refl _) (.cells #[] 5))
    clear hx hl
    go_enter Try.func30, Try.ntmps30
    go_wp2_with (at_builtin; refine wpList_append_bytes rfl (.tmp 5) (.tmp 6) rfl w.heap.size _ [] rfl O0.out (some ad) n cap l rfl hl'.out (hx'.out.on B0.out (Nat.le_refl _)) (fun h => by cases h) (by simpa using by omega) B0.out.size ?_; intro v2 w2 ho2 hg2 hb2; have B2 := Lib.hid (B0.out.trans hb2); clear hb2 hg2)
    go_ret
    exact ⟨_, rfl, ho2.out, B2.out⟩

def WithPost (l : List Nat) (i : Nat) (on : Bool) (w : World) (e : Ending) (w' : World) : Prop := GivesB (putN l i on) w e w'

set_option maxHeartbeats 1000000 in
theorem with_put (a : Option Addr) (cap n i : Nat) (l : List Nat) (w : World) (ho : Octs l) (hl : l.length = n) (hn : n ≤ 100000) (hx : BAt w a l) (hnil : a = none → cap = 0) (hi : i < 8 * n) :
    Calls Try.prog 17 #[.slice a n cap, .int .i64 (i : Int), .bool true] w (WithPost l i true w) := by
  have hx' := Lib.hid hx
  have hl' := Lib.hid hl
  have ho' := Lib.hid ho
  have hd : decide (i < 8 * n) = true := by simpa using hi
  obtain ⟨q, hq⟩ : ∃ q, q = i / 8 := ⟨_, rfl⟩
  have h8 : q < n := by omega
  have hq2 : IntKind.i64.wrap ((i : Int) / 8) = ((q : Nat) : Int) := by rw [IntKind.wrap_i64]; omega
  have hi2 : i < 4611686018427387904 := by omega
  have hp := Lib.hid (put_int (x := bz l q) (i := i) (ho q (by omega)))
  have hq' := Lib.hid hq
  clear hx hl ho hq
  go_enter Try.func17, Try.ntmps17
  go_wp2_with (first
    | (go_at_call 30; refine (clone_any a cap n l w hl'.out hn hx'.out hnil).mono ?_; rintro e w1 ⟨v1, rfl, ho1, hb1⟩; obtain ⟨g, cap1, rfl, hc1, hg1, hg2⟩ := ho1.at hl'.out (by omega); have O1 := Lib.hid ho1; have B1 := Lib.hid hb1; have c1 := ho1.cell (k := q) (by rw [hl'.out]; omega); have f1 := ho1.frozen q; clear ho1 hb1)
    | (go_at_call 31; refine (holds_any _ _ _ i _ (by omega)).mono ?_; rw [hd]; rintro e w2 ⟨rfl, rfl⟩))
  go_region_with ((go_at_call 29; refine (mask_any i _ hi2).mono ?_; rintro e w2 ⟨rfl, rfl⟩))
  all_goals go_wp2_with fail
  all_goals (
    go_ret
    refine ⟨_, rfl, ?_, ?_⟩
    · rw [hp.out]
      have := O1.out.set q (putB (bz l q) i true)
      unfold putN
      rw [← hq'.out]
      exact this
    · exact B1.out.trans (below_set hg1).drew)

set_option maxHeartbeats 1000000 in
theorem with_take (a : Option Addr) (cap n i : Nat) (l : List Nat) (w : World) (ho : Octs l) (hl : l.length = n) (hn : n ≤ 100000) (hx : BAt w a l) (hnil : a = none → cap = 0) (hi : i < 8 * n) :
    Calls Try.prog 17 #[.slice a n cap, .int .i64 (i : Int), .bool false] w (WithPost l i false w) := by
  have hx' := Lib.hid hx
  have hl' := Lib.hid hl
  have ho' := Lib.hid ho
  have hd : decide (i < 8 * n) = true := by simpa using hi
  obtain ⟨q, hq⟩ : ∃ q, q = i / 8 := ⟨_, rfl⟩
  have h8 : q < n := by omega
  have hq2 : IntKind.i64.wrap ((i : Int) / 8) = ((q : Nat) : Int) := by rw [IntKind.wrap_i64]; omega
  have hi2 : i < 4611686018427387904 := by omega
  have hp := Lib.hid (take_int (x := bz l q) (i := i) (ho q (by omega)))
  have hq' := Lib.hid hq
  clear hx hl ho hq
  go_enter Try.func17, Try.ntmps17
  go_wp2_with (first
    | (go_at_call 30; refine (clone_any a cap n l w hl'.out hn hx'.out hnil).mono ?_; rintro e w1 ⟨v1, rfl, ho1, hb1⟩; obtain ⟨g, cap1, rfl, hc1, hg1, hg2⟩ := ho1.at hl'.out (by omega); have O1 := Lib.hid ho1; have B1 := Lib.hid hb1; have c1 := ho1.cell (k := q) (by rw [hl'.out]; omega); have f1 := ho1.frozen q; clear ho1 hb1)
    | (go_at_call 31; refine (holds_any _ _ _ i _ (by omega)).mono ?_; rw [hd]; rintro e w2 ⟨rfl, rfl⟩))
  go_region_with ((go_at_call 29; refine (mask_any i _ hi2).mono ?_; rintro e w2 ⟨rfl, rfl⟩))
  all_goals go_wp2_with fail
  all_goals (
    go_ret
    refine ⟨_, rfl, ?_, ?_⟩
    · rw [hp.out]
      have := O1.out.set q (putB (bz l q) i false)
      unfold putN
      rw [← hq'.out]
      exact this
    · exact B1.out.trans (below_set hg1).drew)

theorem with_out (a : Option Addr) (cap n i : Nat) (on : Bool) (l : List Nat) (w : World) (hl : l.length = n) (hn : n ≤ 100000) (hx : BAt w a l) (hnil : a = none → cap = 0) (hi : 8 * n ≤ i) :
    Calls Try.prog 17 #[.slice a n cap, .int .i64 (i : Int), .bool on] w (WithPost l i on w) := by
  have hx' := Lib.hid hx
  have hl' := Lib.hid hl
  have hd : decide (i < 8 * n) = false := by simpa using hi
  have hp := Lib.hid (putN_out (l := l) (i := i) (on := on) (by omega))
  clear hx hl
  go_enter Try.func17, Try.ntmps17
  go_wp2_with (first
    | (go_at_call 30; refine (clone_any a cap n l w hl'.out hn hx'.out hnil).mono ?_; rintro e w1 ⟨v1, rfl, ho1, hb1⟩; obtain ⟨g, cap1, rfl, hbt1, hn1, hc1⟩ := ho1.slice; have O1 := Lib.hid ho1; have B1 := Lib.hid hb1; rw [hl'.out] at O1 ⊢; clear ho1 hb1 hbt1 hn1 hc1)
    | (go_at_call 31; refine (holds_any _ _ _ i _ (by omega)).mono ?_; rw [hd]; rintro e w2 ⟨rfl, rfl⟩))
  go_ret
  exact ⟨_, rfl, by rw [hp.out]; exact O1.out, B1.out⟩
/-- a copy, with a number put in, or taken away -/
theorem with_any (a : Option Addr) (cap n i : Nat) (on : Bool) (l : List Nat) (w : World) (ho : Octs l) (hl : l.length = n) (hn : n ≤ 100000) (hx : BAt w a l) (hnil : a = none → cap = 0) :
    Calls Try.prog 17 #[.slice a n cap, .int .i64 (i : Int), .bool on] w (WithPost l i on w) := by
  by_cases h : i < 8 * n
  · cases on
    · exact with_take a cap n i l w ho hl hn hx hnil h
    · exact with_put a cap n i l w ho hl hn hx hnil h
  · exact with_out a cap n i on l w hl hn hx hnil (by omega)
theorem with_c (a : Option Addr) (cap n i : Nat) (I : Int) (on : Bool) (l m : List Nat) (w : World) (hm : putN l i on = m) (hI : I = (i : Int)) (ho : Octs l) (hl : l.length = n) (hn : n ≤ 100000) (hx : BAt w a l) (hnil : a = none → cap = 0) :
    Calls Try.prog 17 #[.slice a n cap, .int .i64 I, .bool on] w (GivesB m w) := by
  subst hm; subst hI; exact with_any a cap n i on l w ho hl hn hx hnil
end Go.Proofs.Ytbeaodmjobdiaaa
