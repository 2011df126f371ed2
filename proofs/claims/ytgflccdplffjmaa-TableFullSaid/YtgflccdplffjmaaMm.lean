/-
  As many are open as may be, each by the least number that is free; one more is refused: the walk.
-/
import Derived.Test.YtgflccdplffjmaaMl
import Derived.Test.YtgflccdplffjmaaMk
import Derived.Test.YtgflccdplffjmaaLo
namespace Go.Proofs.Ytgflccdplffjmaa
open Go.RowKit BigFrame

theorem close_c (a k : Nat) (K N : Int) (L L' : List Plc) (w : World) (h : TabAt w a L) (hK : K = (k : Int)) (hk : k < 16) (ho : (pl L k).on = true) (hN : (pl L k).nd = N) (hL : L.set k p0 = L') :
    Calls Try.prog 10 #[.pointer (some ⟨a, 0, none⟩), .int .i64 K] w (GivesT (.tuple #[.int .i64 N, .int .i64 0]) a L' w) := by
  subst hK hN hL; exact close_on a k L w h hk ho
/-- behind it all -/
def fullL (q : Nat) : List Plc := openL ((fillL 1 16).set q p0) q 99 0
theorem fullL_at {q : Nat} (hq : q < 16) (j : Nat) (hj : j < 16) : pl (fullL q) j = if j = q then ⟨true, 99, 0, 0⟩ else fillP 1 j := by
  unfold fullL
  rw [open_at (fillL_length 1 16) hq, fillL_at 1 16 j (by omega), if_pos hj]
theorem full_no {q : Nat} (hq : q < 16) : heldB (fullL q) ((q : Int) + 1) 16 = false := by
  refine held_no fun j hj => ?_
  rw [fullL_at hq j hj]
  by_cases e : j = q
  · rw [if_pos e]
    have : ((99 : Int) == (q : Int) + 1) = false := by rw [beq_eq_false_iff_ne]; omega
    simp [this]
  · rw [if_neg e]
    have : (((1 + j : Nat) : Int) == (q : Int) + 1) = false := by rw [beq_eq_false_iff_ne]; omega
    simp only [fillP, this, Bool.and_false]
theorem full_yes {q : Nat} (hq : q < 16) : heldB (fullL q) 99 16 = true :=
  held_yes hq (by rw [fullL_at hq q hq, if_pos rfl]) (by rw [fullL_at hq q hq, if_pos rfl]; rfl)

def FuRel (a : Nat) (w : World) (i : Value) (wr : World) : Prop := ∃ k : Nat, k ≤ 16 ∧ i = .int .i64 k ∧ TabAt wr a (fillL 1 k) ∧ Below a w wr
attribute [local go_sem ↓] ldG_of stG_of bdG_of eqG_of
set_option maxRecDepth 100000 in
set_option maxHeartbeats 2000000 in
theorem full_law (z : Int) (w : World) : Calls Try.prog 4 #[.int .i64 z] w (Tells (.bool true) w) := by
  go_enter Try.func4, Try.ntmps4
  go_wp2_with (go_at_call 7; refine (new_any _).mono ?_; rintro e w1 ⟨rfl, hT, hb⟩; have T1 := Lib.hid hT; have B1 := Lib.hid hb; clear hT hb)
  go_loopw [4] (fun i wr => FuRel w.heap.size w i wr) (fun i _ => 16 - (intOf i).toNat)
  case atStart => exact ⟨0, by omega, rfl, T1.out, B1.out⟩
  case round =>
    obtain ⟨k, hk, rfl, hT, hb⟩ := hrel
    have T2 := Lib.hid hT
    have B2 := Lib.hid hb
    clear hT hb T1 B1
    by_cases hlt : k < 16
    · have hla := Lib.hid (fillL_least 1 (show k ≤ 16 by omega))
      go_wp2_with (go_at_call 8; refine (open_c _ k _ _ (k : Int) (fillL 1 k) (fillL 1 (k + 1)) _ T2.out hla.out hlt rfl (by show openL _ _ _ _ = openL _ _ _ _; congr 1; omega)).mono ?_; rintro e w3 ⟨rfl, hT, hb⟩; have T3 := Lib.hid hT; have B3 := Lib.hid (B2.out.trans (hb.below B2.out.size (Nat.le_refl _))); clear hT hb)
      exact ⟨⟨k + 1, by omega, by go_num, T3.out, B3.out⟩, by simp [intOf]; omega⟩
    · obtain rfl : k = 16 := by omega
      have tk0 : True := trivial
      go_wp2_with (first
        | (clear tk0; go_at_call 8; refine (open_full _ 1 1 (fillL 1 16) _ T2.out (fillL_least 1 (Nat.le_refl _))).mono ?_; rintro e w3 ⟨rfl, hT, hb⟩; have T3 := Lib.hid hT; have B3 := Lib.hid (B2.out.trans (hb.below B2.out.size (Nat.le_refl _))); clear hT hb T2 B2)
        | (go_at_call 22; refine (low_c z _ 16 _ rfl (by omega) (by omega)).mono ?_; rintro e w4 ⟨q, hq, rfl, rfl⟩)
        | (go_at_call 10; refine (close_c _ q (q : Int) ((q : Int) + 1) (fillL 1 16) _ _ T3.out rfl hq (by rw [fillL_at 1 16 q (by omega), if_pos hq]; rfl) (by rw [fillL_at 1 16 q (by omega), if_pos hq]; show ((1 + q : Nat) : Int) = _; omega) rfl).mono ?_; rintro e w5 ⟨rfl, hT, hb⟩; have T5 := Lib.hid hT; have B5 := Lib.hid (B3.out.trans (hb.below B3.out.size (Nat.le_refl _))); have tk1 : True := trivial; clear hT hb T3 B3)
        | (clear tk1; go_at_call 8; refine (open_c _ q 99 0 (q : Int) _ (fullL q) _ T5.out (least_set (fillL_length 1 16) (fillL_least 1 (Nat.le_refl _)) hq) hq rfl rfl).mono ?_; rintro e w6 ⟨rfl, hT, hb⟩; have T6 := Lib.hid hT; have B6 := Lib.hid (B5.out.trans (hb.below B5.out.size (Nat.le_refl _))); have tk2 : True := trivial; clear hT hb T5 B5)
        | (clear tk2; go_at_call 8; refine (open_nil _ _ _).mono ?_; rintro e w7 ⟨rfl, rfl⟩)
        | (go_at_call 14; refine (get_nil _ _).mono ?_; unfold gv; rintro e w8 ⟨rfl, hb⟩; have T8 := Lib.hid (T6.out.on' hb); have B8 := Lib.hid (B6.out.trans (hb.mono (Nat.le_of_lt T6.out.lt))); have tk3 : True := trivial; clear hb T6 B6)
        | (clear tk3; refine wpList_alloc_file rfl rfl ?_; intro g2 w9 hv9 hg9 hb9; have hst := run_stG (s := p0) (hv9.out.there (o := 0) (n := 3) (by simp [gc])); have hbs := below_setCells hb9 hg9 0 (gc p0); have T9 := Lib.hid (T8.out.on' hbs); have B9 := Lib.hid (B8.out.trans (hbs.mono (Nat.le_of_lt T8.out.lt))); have tk4 : True := trivial; have tk5 : True := trivial; unfold gv at hst; clear hb9 hbs hv9 T8 B8)
        | (clear tk4; go_at_call 19; refine (holds_is _ ((q : Int) + 1) (fullL q) false _ T9.out (full_no hq)).mono ?_; rintro e w10 ⟨rfl, hb⟩; have T10 := Lib.hid (T9.out.on' hb); have B10 := Lib.hid (B9.out.trans (hb.mono (Nat.le_of_lt T9.out.lt))); clear hb T9 B9)
        | (clear tk5; go_at_call 19; refine (holds_is _ 99 (fullL q) true _ T10.out (full_yes hq)).mono ?_; rintro e w11 ⟨rfl, hb⟩; have T11 := Lib.hid (T10.out.on' hb); have B11 := Lib.hid (B10.out.trans (hb.mono (Nat.le_of_lt T10.out.lt))); clear hb T10 B10)
        | (go_at_call 12; refine (move_nil _ _ _).mono ?_; rintro e w12 ⟨rfl, rfl⟩; have tk6 : True := trivial)
        | (clear tk6; go_at_call 19; refine (holds_nil _ _).mono ?_; rintro e w13 ⟨rfl, rfl⟩)
        | (go_at_call 16; refine (list_nil _).mono ?_; rintro e w14 ⟨rfl, rfl⟩)
        | (go_at_call 6; refine (awake_any _).mono ?_; rintro e w15 ⟨rfl, hb⟩; have B15 := Lib.hid (B11.out.trans (hb.mono (Nat.le_of_lt T11.out.lt))); clear hb))
      go_ret
      exact ⟨rfl, B15.out⟩
end Go.Proofs.Ytgflccdplffjmaa
