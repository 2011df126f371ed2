/-
  What the document's own Lay makes.
-/
import Derived.Test.YtmoclgijjmmdjaaUa
import Derived.Test.YtmoclgijjmmdjaaYl
import Derived.Test.YtmoclgijjmmdjaaGv
namespace Go.Proofs.Ytmoclgijjmmdjaa
open Go.RowKit BigFrame

theorem refLay_no (g i b : Int) (o : Bool) (w : World) (h : mayZ g i b = false) :
    Calls Try.prog 9 #[geo g i b, .bool o] w (Tells (.tuple #[.slice none 0 0, .int .i64 2]) w) := by
  have h' := Lib.hid h
  clear h
  unfold geo
  go_enter Try.func9, Try.ntmps9
  go_wp2_with (go_at_call 18; refine (refMay_is _ _ _ false _ h'.out).mono ?_; rintro e w1 ⟨rfl, hb⟩; have hb' := Lib.hid hb; clear hb)
  go_ret2
  exact ⟨rfl, below_box hb'.out⟩
theorem bytes8 (g i b o : Nat) : (bv (body8 g i b o)).toArray = #[Value.int .u8 80, .int .u8 82, .int .u8 76, .int .u8 1, .int .u8 (g : Int), .int .u8 (i : Int), .int .u8 (b : Int), .int .u8 (o : Int)] := rfl
set_option maxHeartbeats 1000000 in
theorem refLay_ok (g i b : Nat) (o : Bool) (w : World) (h : Ok g i b) :
    Calls Try.prog 9 #[geo g i b, .bool o] w (RefSealPost 83 (body8 g i b o.toNat) w) := by
  have hi : i ≤ 32 := h.i2
  have hbb : b ≤ 96 := h.b2
  have hg : g ≤ 8 := h.g2
  have ho := Lib.hid (h.octs o)
  have h' := Lib.hid h.may
  clear h
  unfold geo
  cases o
  · go_enter Try.func9, Try.ntmps9
    go_wp2_with (first
      | (go_at_call 18; refine (refMay_is _ _ _ true _ h'.out).mono ?_; rintro e w1 ⟨rfl, hb⟩; obtain ⟨c0, c1, c2, hlt⟩ := box_on hb (boxAt_alloc w g i b 23); have hr := row_alloc w1 (body8 g i b 0); have hz2 : w.heap.size ≤ w1.heap.size := (below_box hb).size; have hb2 := (below_box hb).alloc hz2 (.cells (bv (body8 g i b 0)).toArray 5); rw [bytes8] at hr hb2; have hr' := Lib.hid hr; have hb2' := Lib.hid hb2; clear hb hr hb2)
      | (go_at_call 19; refine (refSeal_any 83 _ _ 8 (body8 g i b 0) _ rfl (by decide) (by decide) ho.out (by decide) hr'.out.bat (fun h => by cases h)).mono ?_; rintro e w5 ⟨g5, c5, rfl, hg5, hc5, hr5, hb5⟩; have hend := Lib.hid (show RefSealPost 83 (body8 g i b 0) w _ w5 from ⟨g5, c5, rfl, Nat.le_trans hb2'.out.size hg5, hc5, hr5, below_two hb2'.out hb5⟩); clear hr5 hb5))
    go_ret2
    exact hend.out
  · go_enter Try.func9, Try.ntmps9
    go_wp2_with (first
      | (go_at_call 18; refine (refMay_is _ _ _ true _ h'.out).mono ?_; rintro e w1 ⟨rfl, hb⟩; obtain ⟨c0, c1, c2, hlt⟩ := box_on hb (boxAt_alloc w g i b 23); have hr := row_alloc w1 (body8 g i b 0); have hz2 : w.heap.size ≤ w1.heap.size := (below_box hb).size; have hb2 := (below_box hb).alloc hz2 (.cells (bv (body8 g i b 0)).toArray 5); rw [bytes8] at hr hb2; have d7 := hr.cell (k := 7) (by simp [body8]); have f7 := hr.frozen 7; have e7 : bz (body8 g i b 0) 7 = 0 := rfl; rw [e7] at d7; clear e7; have hr1 := row_alloc w1 (body8 g i b 1); have hb1 := (below_box hb).alloc hz2 (.cells (bv (body8 g i b 1)).toArray 5); rw [bytes8] at hr1 hb1; have hr5 := Lib.hid hr1; have hb5 := Lib.hid hb1; clear hr1 hb1; have hr' := Lib.hid hr; have hb2' := Lib.hid hb2; clear hb hr hb2)
      | (go_at_call 19; refine (refSeal_any 83 _ _ 8 (body8 g i b 1) _ rfl (by decide) (by decide) ho.out (by decide) hr5.out.bat (fun h => by cases h)).mono ?_; rintro e w6 ⟨g5, c5, rfl, hg6, hc6, hr6, hb6⟩; have hend := Lib.hid (show RefSealPost 83 (body8 g i b 1) w _ w6 from ⟨g5, c5, rfl, Nat.le_trans hb5.out.size hg6, hc6, hr6, below_two hb5.out hb6⟩); clear hr6 hb6))
    go_ret2
    exact hend.out
end Go.Proofs.Ytmoclgijjmmdjaa
