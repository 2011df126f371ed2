/-
  What Lay makes.
-/
import Derived.Test.YtmoclgijjmmdjaaUa
import Derived.Test.YtmoclgijjmmdjaaCt
import Derived.RegionTactic
namespace Go.Proofs.Ytmoclgijjmmdjaa
open Go.RowKit BigFrame

def laidNo : Value := .tuple #[.slice none 0 0, .int .i64 2]
theorem lay_no (g i b : Int) (o : Bool) (w : World) (h : mayZ g i b = false) :
    Calls Try.prog 8 #[geo g i b, .bool o] w (Tells laidNo w) := by
  have h' := Lib.hid h
  clear h
  unfold geo
  go_enter Try.func8, Try.ntmps8
  go_wp2_with (go_at_call 16; refine (may_is _ _ _ false _ h'.out).mono ?_; rintro e w1 ⟨rfl, hb⟩; have hb' := Lib.hid hb; clear hb)
  go_ret2
  exact ⟨rfl, below_box hb'.out⟩
set_option maxHeartbeats 1000000 in
theorem lay_ok (g i b : Nat) (o : Bool) (w : World) (h : Ok g i b) :
    Calls Try.prog 8 #[geo g i b, .bool o] w (SealPost 83 (body8 g i b o.toNat) w) := by
  have hi : i ≤ 32 := h.i2
  have hbb : b ≤ 96 := h.b2
  have hg : g ≤ 8 := h.g2
  have ho := Lib.hid (h.octs o)
  have h' := Lib.hid h.may
  clear h
  unfold geo
  go_enter Try.func8, Try.ntmps8
  go_wp2_with (first
    | (go_at_call 16; refine (may_is _ _ _ true _ h'.out).mono ?_; rintro e w1 ⟨rfl, hb⟩; have hX := Lib.hid (box_on hb (boxAt_alloc w g i b 23)); have hb' := Lib.hid (below_box hb); clear hb)
    | (at_make; refine wpList_make_bytes rfl _ _ rfl 8 rfl rfl (by decide) ?_))
  intro g1 w2 hr hg1 hb2
  have hb2' := Lib.hid hb2
  clear hb2
  go_wp2_with (refine wpList_copy_text rfl (.tmp 11) (.const (.string ⟨#[80, 82, 76, 1]⟩)) rfl g1 0 8 8 ⟨#[80, 82, 76, 1]⟩ (zs 8) [80, 82, 76, 1] rfl rfl rfl rfl hr.out (by decide) (by decide) w1.heap.size w1 hb2'.out hg1 ?_)
  intro w3 hr3 hb3
  have hb3' := Lib.hid (below_two hb'.out hb3)
  have e8 : splice (zs 8) 0 [80, 82, 76, 1] = [80, 82, 76, 1, 0, 0, 0, 0] := rfl
  rw [e8] at hr3
  have hr3' := Lib.hid hr3.out
  obtain ⟨c0, c1, c2, hlt⟩ := box_on hb3 hX.out
  have d4 := hr3'.out.cell (k := 4) (by decide)
  have d5 := hr3'.out.cell (k := 5) (by decide)
  have d6 := hr3'.out.cell (k := 6) (by decide)
  have f4 := hr3'.out.frozen 4
  have f5 := hr3'.out.frozen 5
  have f6 := hr3'.out.frozen 6
  have hlt1 := hX.out.2.2.2
  have hne : ¬ w.heap.size = g1 := by omega
  have hne2 : ¬ g1 = w.heap.size := by omega
  simp [bz] at d4 d5 d6
  clear hb3 hr3 hr hb2' e8
  go_wp2_with fail
  go_region
  obtain ⟨w4, hw4⟩ : ∃ w4, w4 = (((w3.setCell ⟨g1, 4, none⟩ (.int .u8 (g : Int))).setCell ⟨g1, 5, none⟩ (.int .u8 (i : Int))).setCell ⟨g1, 6, none⟩ (.int .u8 (b : Int))).drew := ⟨_, rfl⟩
  rw [← hw4]
  have hr4 := Lib.hid (show Row w4 g1 (body8 g i b 0) by rw [hw4]; exact (((hr3'.out.set 4 g).set 5 i).set 6 b).drew1)
  have hgw : w.heap.size ≤ g1 := by omega
  have hb4 := Lib.hid (show Below w.heap.size w w4 by rw [hw4]; exact (((hb3'.out.setCell (p := ⟨g1, 4, none⟩) hgw _).setCell (p := ⟨g1, 5, none⟩) hgw _).setCell (p := ⟨g1, 6, none⟩) hgw _).drew)
  clear hw4 hr3' hb3' c0 c1 c2 d4 d5 d6 f4 f5 f6 hlt
  cases o
  · go_wp2_with (go_at_call 17; refine (seal_n (n := 8) 83 _ _ (body8 g i b 0) _ rfl (by decide) (by decide) ho.out (by decide) hr4.out.bat).mono ?_; rintro e w5 ⟨g5, rfl, hg5, hr5, hb5⟩; have hend := Lib.hid (show SealPost 83 (body8 g i b 0) w _ w5 from ⟨g5, rfl, Nat.le_trans hb4.out.size hg5, hr5, below_two hb4.out hb5⟩); clear hr5 hb5)
    go_ret2
    exact hend.out
  · have d7 := hr4.out.cell (k := 7) (by simp [body8])
    have f7 := hr4.out.frozen 7
    have hr5 := Lib.hid (show Row (w4.setCell ⟨g1, 7, none⟩ (.int .u8 1)) g1 (body8 g i b 1) from hr4.out.set 7 1)
    have hb5 := Lib.hid (hb4.out.setCell (p := ⟨g1, 7, none⟩) hgw (.int .u8 1))
    have e7 : bz (body8 g i b 0) 7 = 0 := rfl
    rw [e7] at d7
    clear e7
    go_wp2_with (go_at_call 17; refine (seal_n (n := 8) 83 _ _ (body8 g i b 1) _ rfl (by decide) (by decide) ho.out (by decide) hr5.out.bat).mono ?_; rintro e w6 ⟨g5, rfl, hg6, hr6, hb6⟩; have hend := Lib.hid (show SealPost 83 (body8 g i b 1) w _ w6 from ⟨g5, rfl, Nat.le_trans hb5.out.size hg6, hr6, below_two hb5.out hb6⟩); clear hr6 hb6)
    go_ret2
    exact hend.out
/-- these bytes, in a row of the call's own -/
def LaidPost (L : List Nat) (w : World) (e : Ending) (w' : World) : Prop :=
  ∃ g, e = .returned (.tuple #[.slice (some ⟨g, 0, none⟩) 128 128, .int .i64 0]) ∧ w.heap.size ≤ g ∧ Row w' g L ∧ Below w.heap.size w w'
theorem lay_c (g i b : Nat) (o : Bool) {G I B : Int} {L : List Nat} (w : World) (h : Ok g i b) (hG : G = (g : Int)) (hI : I = (i : Int)) (hB : B = (b : Int)) (hL : L = superS g i b o) :
    Calls Try.prog 8 #[geo G I B, .bool o] w (LaidPost L w) := by
  subst hG hI hB hL
  exact lay_ok g i b o w h
end Go.Proofs.Ytmoclgijjmmdjaa
