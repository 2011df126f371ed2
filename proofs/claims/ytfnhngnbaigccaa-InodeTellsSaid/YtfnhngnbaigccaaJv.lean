/-
  Whether any inodes may be, their sector, and what any bytes are read as, is the document's; so are places and needs: the walk.
-/
import Derived.Test.YtfnhngnbaigccaaJs
import Derived.Test.YtfnhngnbaigccaaJn
import Derived.Test.YtfnhngnbaigccaaKb
import Derived.Deep.QuietTactic
import Derived.BigQuiet
namespace Go.Proofs.Ytfnhngnbaigccaa
open Go.RowKit BigFrame

theorem refInoLay_u (L : List Int) (w : World) (hL : L.length = 44) :
    Calls Try.prog 11 #[av L] w fun e w' => ∃ v, e = .returned (.tuple #[v, .int .i64 (lc4 L)]) ∧ BV w' v (ly4 L) ∧ Below w.heap.size w w' := by
  unfold ly4 lc4
  cases h : may4 L
  · exact (refInoLay_no L w hL h).mono fun e w' ⟨he, hb⟩ => ⟨_, he, ⟨none, 0, 0, rfl, rfl, .inl rfl⟩, hb⟩
  · exact (refInoLay_ok L w hL h).mono fun e w' ⟨g1, cp, he, hg, hc, hr, hb⟩ => ⟨_, he, ⟨_, 128, cp, rfl, sector4_length hL, hr⟩, hb⟩
theorem place_form (k : Int) : ∃ x y z : Int, placeZ k = .tuple #[.int .i64 x, .int .i64 y, .int .i64 z] := by
  unfold placeZ
  split
  · exact ⟨_, _, _, rfl⟩
  · split
    · exact ⟨_, _, _, rfl⟩
    · split <;> exact ⟨_, _, _, rfl⟩
/-- the worlds in which all lies where it lay -/
structure TeC (w w1 : World) (L R : List Int) (l X : List Nat) (B1 G2 G4 gl : Nat) (v1 v2 : Value) (w' : World) : Prop where
  va : Vi w' 25 B1 L
  vb : Vi w' 25 G2 R
  vc : Vi w' 25 G4 R
  x : Ans w1 w' v1 X
  y : BV w' v2 X
  rl : Row w' gl (marked l)
  wb : Below w.heap.size w w'
theorem TeC.on {w w1 : World} {L R : List Int} {l X : List Nat} {B1 G2 G4 gl : Nat} {v1 v2 : Value} {w' w'' : World} (h : TeC w w1 L R l X B1 G2 G4 gl v1 v2 w') (hb : Below w'.heap.size w' w'') : TeC w w1 L R l X B1 G2 G4 gl v1 v2 w'' :=
  ⟨h.va.on' hb, h.vb.on' hb, h.vc.on' hb, h.x.on hb, h.y.on hb, h.rl.on hb h.rl.lt, below_two h.wb hb⟩
theorem TeC.told {w w1 : World} {L R : List Int} {l X : List Nat} {B1 G2 G4 gl : Nat} {v1 v2 v : Value} {w' : World} {f : FuncId} {args : Array Value} (hc : Calls Try.prog f args w' (Tells v w')) (h : TeC w w1 L R l X B1 G2 G4 gl v1 v2 w') :
    Calls Try.prog f args w' fun e w'' => e = .returned v ∧ TeC w w1 L R l X B1 G2 G4 gl v1 v2 w'' := hc.mono fun _ _ ⟨he, hd⟩ => ⟨he, h.on hd⟩
theorem TeC.still {w w1 : World} {L R : List Int} {l X : List Nat} {B1 G2 G4 gl : Nat} {v1 v2 v : Value} {w' : World} {f : FuncId} {args : Array Value} (hc : Calls Try.prog f args w' (fun e w'' => e = .returned v ∧ w' = w'')) (h : TeC w w1 L R l X B1 G2 G4 gl v1 v2 w') :
    Calls Try.prog f args w' fun e w'' => e = .returned v ∧ TeC w w1 L R l X B1 G2 G4 gl v1 v2 w'' := hc.mono fun _ _ ⟨he, hw⟩ => ⟨he, hw ▸ h⟩
theorem TeC.same {w w1 : World} {L R : List Int} {l X : List Nat} {B1 G2 G4 gl : Nat} {v1 v2 : Value} {w' : World} (hX : X.length ≤ 100000) (h : TeC w w1 L R l X B1 G2 G4 gl v1 v2 w') :
    Calls Try.prog 16 #[v1, v2] w' fun e w'' => e = .returned (.bool true) ∧ TeC w w1 L R l X B1 G2 G4 gl v1 v2 w'' := h.told (same_u v1 v2 X w' hX h.x.bv h.y)

theorem inoTells_long (L : List Int) (a : Option Addr) (cap n : Nat) (k : Int) (w : World) (hn : 200 < n) :
    Calls Try.prog 3 #[av L, .slice a n cap, .int .i64 k] w (Tells (.bool true) w) := by
  unfold av
  go_enter Try.func3, Try.ntmps3
  go_wp2_with (go_at_call 8; refine (inoAwake_any _).mono ?_; rintro e w1 ⟨rfl, hb⟩; have hend := Lib.hid (below_box hb); clear hb)
  go_ret
  exact ⟨rfl, hend.out⟩

attribute [local go_sem ↓] ldI_of ldF_of stI_of stF_of bdF_of bdI_of eqI_of eqF_of
set_option maxRecDepth 100000 in
set_option maxHeartbeats 4000000 in
theorem inoTells_main (L : List Int) (a : Option Addr) (cap n : Nat) (l : List Nat) (k : Int) (w : World) (hL : L.length = 44) (hn : l.length = n) (h200 : n ≤ 200) (ho : Octs l) (hc : n ≤ cap) (hx : BAt w a l) (hnil : a = none → cap = 0) :
    Calls Try.prog 3 #[av L, .slice a n cap, .int .i64 k] w (Tells (.bool true) w) := by
  obtain ⟨X, hX⟩ : ∃ X, ly4 L = X := ⟨_, rfl⟩
  obtain ⟨cd, hcd⟩ : ∃ cd, lc4 L = cd := ⟨_, rfl⟩
  obtain ⟨R, hR⟩ : ∃ R, (readN l).1 = R := ⟨_, rfl⟩
  obtain ⟨rc, hrc⟩ : ∃ rc, (readN l).2 = rc := ⟨_, rfl⟩
  obtain ⟨px, py, pz, hp⟩ := place_form k
  obtain ⟨I, hI⟩ : ∃ I, inoAt L 0 = I := ⟨_, rfl⟩
  obtain ⟨m0, hm0⟩ : ∃ m, mayI I = m := ⟨_, rfl⟩
  have lI := Lib.hid (show I.length = 11 by rw [← hI]; exact inoAt_length hL (by omega))
  have hI' := Lib.hid hI
  have hmI := Lib.hid hm0
  have lR := Lib.hid (show R.length = 44 by rw [← hR]; exact readN_length l)
  have hXl := Lib.hid (show X.length ≤ 100000 by rw [← hX]; exact ly4_length hL)
  have hrd := Lib.hid (show readV l = .tuple #[av R, .int .i64 rc] by unfold readV; rw [hR, hrc])
  have hP := Lib.hid hp
  have q1 := Lib.hid (fun w => inoLay_u L w hL)
  have q2 := Lib.hid (fun w => refInoLay_u L w hL)
  rw [hX, hcd] at q1 q2
  have lL := Lib.hid hL
  have hn' := Lib.hid hn
  have ho' := Lib.hid ho
  have hnil' := Lib.hid hnil
  have hA0 := (Below.refl w.heap.size w).alloc (Nat.le_refl _) (.cells (iv L).toArray 25)
  have V0 := Lib.hid (Vi.alloc w L 25)
  have hx' := Lib.hid (hx.on hA0 (Nat.le_refl _))
  have hb0 := Lib.hid hA0
  have hxw := Lib.hid hx
  have heq := fun w => run_eqF R R w lR.out lR.out
  rw [show decide (R = R) = true from decide_eq_true rfl] at heq
  have hgd := Try.eqGuardF
  unfold av at q1 q2 heq ⊢
  clear hX hcd hR hrc hp hI hm0 hn ho hnil hx hA0 hL
  go_enter Try.func3, Try.ntmps3
  have tk0 : True := trivial
  go_upto_region 10 with (first
    | (go_at_call 9
       refine (lend_any a cap n l _ hn'.out (by omega) hx'.out hnil'.out).mono ?_
       rintro e w1 ⟨gl, rfl, hgl, hr, hb⟩
       have R1 := Lib.hid hr
       have g1 := Lib.hid hr.lt
       have V1 := Lib.hid (V0.out.on' hb)
       have B1 := Lib.hid (below_two hb0.out hb)
       have hld1 := run_ldF V1.out.whole lL.out
       unfold av at hld1
       clear hr hb hgl)
    | (go_at_call 10
       refine (q1.out _).mono ?_
       rintro e w2 ⟨v1, rfl, hA, hb⟩
       have A2 := Lib.hid hA
       have R2 := Lib.hid (R1.out.on hb R1.out.lt)
       have V2 := Lib.hid (V1.out.on' hb)
       have B2 := Lib.hid (below_two B1.out hb)
       have hld2 := run_ldF V2.out.whole lL.out
       unfold av at hld2
       clear hA hb)
    | (go_at_call 11
       refine (q2.out _).mono ?_
       rintro e w3 ⟨v2, rfl, hV, hb⟩
       have A3 := Lib.hid (A2.out.on hb)
       have Y3 := Lib.hid hV
       have R3 := Lib.hid (R2.out.on hb R2.out.lt)
       have V3 := Lib.hid (V2.out.on' hb)
       have B3 := Lib.hid (below_two B2.out hb)
       clear hV hb)
    | (go_at_call 12
       refine (inoRead_any _ _ n l _ hn'.out ho'.out (by omega) R3.out.bat_front).mono ?_
       rw [hrd.out]
       unfold av
       rintro e w4 ⟨rfl, hb⟩
       have A4 := Lib.hid (A3.out.on hb)
       have Y4 := Lib.hid (Y3.out.on hb)
       have R4 := Lib.hid (R3.out.on hb R3.out.lt)
       have V4 := Lib.hid (V3.out.on' hb)
       have B4 := Lib.hid (below_two B3.out hb)
       clear hb)
    | (clear tk0
       refine wpList_alloc_four rfl rfl ?_
       intro G2 w5 hv5 hG2 hb
       have hst := run_stF (w := w5) lR.out (hv5.out.there (o := 0) (n := 44) (by rw [zz_length]; omega))
       have hbb := below_setCells ((Below.refl w4.heap.size w4).trans hb) hG2 0 (iv R)
       have W5 := Lib.hid (hv5.out.over (m := R) (by rw [lR.out, zz_length]))
       have A5 := Lib.hid (A4.out.on hbb)
       have Y5 := Lib.hid (Y4.out.on hbb)
       have R5 := Lib.hid (R4.out.on hbb R4.out.lt)
       have V5 := Lib.hid (V4.out.on' hbb)
       have B5 := Lib.hid (below_two B4.out hbb)
       have hx5 := Lib.hid (hxw.out.on B5.out (Nat.le_refl _))
       unfold av at hst
       clear hb hbb)
    | (go_at_call 13
       refine (refInoRead_any a cap n l _ hn'.out ho'.out hc hx5.out).mono ?_
       rw [hrd.out]
       unfold av
       rintro e w6 ⟨rfl, hb⟩
       have W6 := Lib.hid (W5.out.on' hb)
       have A6 := Lib.hid (A5.out.on hb)
       have Y6 := Lib.hid (Y5.out.on hb)
       have R6 := Lib.hid (R5.out.on hb R5.out.lt)
       have V6 := Lib.hid (V5.out.on' hb)
       have B6 := Lib.hid (below_two B5.out hb)
       clear hb)
    | (refine wpList_alloc_four rfl rfl ?_
       intro G4 w7 hv7 hG4 hb
       have hst := run_stF (w := w7) lR.out (hv7.out.there (o := 0) (n := 44) (by rw [zz_length]; omega))
       have hbb := below_setCells ((Below.refl w6.heap.size w6).trans hb) hG4 0 (iv R)
       have U7 := Lib.hid (hv7.out.over (m := R) (by rw [lR.out, zz_length]))
       have W7 := Lib.hid (W6.out.on' hbb)
       have A7 := Lib.hid (A6.out.on hbb)
       have Y7 := Lib.hid (Y6.out.on hbb)
       have R7 := Lib.hid (R6.out.on hbb R6.out.lt)
       have V7 := Lib.hid (V6.out.on' hbb)
       have B7 := Lib.hid (below_two B6.out hbb)
       unfold av at hst
       clear hb hbb)
    | (go_at_call 14; refine (place_any k _).mono ?_; rw [hP.out]; rintro e w8 ⟨rfl, rfl⟩)
    | (go_at_call 15; refine (refPlace_any k _).mono ?_; rw [hP.out]; rintro e w9 ⟨rfl, rfl⟩))
  obtain ⟨C, hCe⟩ : ∃ C, TeC w w1 L R l X w.heap.size G2 G4 gl v1 v2 = C := ⟨_, rfl⟩
  obtain ⟨nd, hnd0⟩ : ∃ nd, needZ k = nd := ⟨_, rfl⟩
  have hnd := Lib.hid hnd0
  have hC7 := Lib.hid (show C (w7.setCells G4 0 (iv R)).drew by rw [← hCe]; exact TeC.on ⟨V7.out, W7.out, U7.out, A7.out, Y7.out, R7.out, B7.out⟩ ((Below.refl _ _).drew))
  have hCC := Lib.hid hCe
  clear hCe hnd0 hld1 hld2 hst
  refine wp_region_at (C := C) (by kernel_rfl) (by kernel_rfl) hC7.out ?_
  rw [← hCC.out]
  go_big_quiet_want; go_big_quiet_op; go_big_quiet_on
  go_big_quiet_want; go_big_quiet_op; go_big_quiet_on
  go_big_quiet_want; refine quiet_val (.bool true) (fun _ hC => by unfold Oper.quietAt Oper.quietUpon; go_simp; exact hC.same hXl.out) ?_; go_simp; try go_big_quiet_on
  go_big_quiet_want; go_big_quiet_op; go_big_quiet_on
  go_big_quiet_want; go_big_quiet_op; go_big_quiet_on
  go_big_quiet_want; go_big_quiet_op; go_big_quiet_on
  go_big_quiet_want; refine quiet_val (.bool true) (fun _ _ => by unfold Oper.quietAt Oper.quietUpon; go_simp) ?_; go_simp; try go_big_quiet_on
  go_big_quiet_want; refine quiet_val (.bool true) (fun _ _ => by unfold Oper.quietAt Oper.quietUpon; go_simp) ?_; go_simp; try go_big_quiet_on
  go_big_quiet_want; go_big_quiet_op; go_big_quiet_on
  go_big_quiet_want; refine quiet_val (.agg (iv R).toArray) (fun _ hC => by have hq := run_ldF hC.vb.whole lR.out; unfold av at hq; unfold Oper.quietAt Oper.quietUpon; go_simp) ?_; go_simp; try go_big_quiet_on
  go_big_quiet_want; refine quiet_val (.agg (iv R).toArray) (fun _ hC => by have hq := run_ldF hC.vc.whole lR.out; unfold av at hq; unfold Oper.quietAt Oper.quietUpon; go_simp) ?_; go_simp; try go_big_quiet_on
  go_big_quiet_want; refine quiet_val (.bool true) (fun _ _ => by unfold Oper.quietAt Oper.quietUpon; go_simp) ?_; go_simp; try go_big_quiet_on
  go_big_quiet_want; refine quiet_val (.bool true) (fun _ _ => by unfold Oper.quietAt Oper.quietUpon; go_simp) ?_; go_simp; try go_big_quiet_on
  go_big_quiet_want; go_big_quiet_op; go_big_quiet_on
  go_big_quiet_want; go_big_quiet_op; go_big_quiet_on
  go_big_quiet_want; go_big_quiet_op; go_big_quiet_on
  go_big_quiet_want; refine quiet_val (.bool true) (fun _ _ => by unfold Oper.quietAt Oper.quietUpon; go_simp) ?_; go_simp; try go_big_quiet_on
  go_big_quiet_want; refine quiet_val (.bool true) (fun _ _ => by unfold Oper.quietAt Oper.quietUpon; go_simp) ?_; go_simp; try go_big_quiet_on
  go_big_quiet_want; go_big_quiet_op; go_big_quiet_on
  go_big_quiet_want; go_big_quiet_op; go_big_quiet_on
  go_big_quiet_want; go_big_quiet_op; go_big_quiet_on
  go_big_quiet_want; refine quiet_val (.bool true) (fun _ _ => by unfold Oper.quietAt Oper.quietUpon; go_simp) ?_; go_simp; try go_big_quiet_on
  go_big_quiet_want; refine quiet_val (.bool true) (fun _ _ => by unfold Oper.quietAt Oper.quietUpon; go_simp) ?_; go_simp; try go_big_quiet_on
  go_big_quiet_want; go_big_quiet_op; go_big_quiet_on
  go_big_quiet_want; go_big_quiet_op; go_big_quiet_on
  go_big_quiet_want; go_big_quiet_op; go_big_quiet_on
  go_big_quiet_want; refine quiet_val (.bool true) (fun _ _ => by unfold Oper.quietAt Oper.quietUpon; go_simp) ?_; go_simp; try go_big_quiet_on
  go_big_quiet_want; refine quiet_val (.bool true) (fun _ _ => by unfold Oper.quietAt Oper.quietUpon; go_simp) ?_; go_simp; try go_big_quiet_on
  go_big_quiet_want; go_big_quiet_op; go_big_quiet_on
  go_big_quiet_want; go_big_quiet_op; go_big_quiet_on
  go_big_quiet_want; go_big_quiet_op; go_big_quiet_on
  go_big_quiet_want; refine quiet_val (.bool true) (fun _ _ => by unfold Oper.quietAt Oper.quietUpon; go_simp) ?_; go_simp; try go_big_quiet_on
  go_big_quiet_want; refine quiet_val (.bool true) (fun _ _ => by unfold Oper.quietAt Oper.quietUpon; go_simp) ?_; go_simp; try go_big_quiet_on
  go_big_quiet_want; go_big_quiet_op; go_big_quiet_on
  go_big_quiet_want; go_big_quiet_op; go_big_quiet_on
  go_big_quiet_want; refine quiet_val (.int .i64 nd) (fun _ hC => by unfold Oper.quietAt Oper.quietUpon; go_simp; exact hC.still ((need_c k k nd _ rfl hnd.out).mono fun _ _ h => h)) ?_; go_simp; try go_big_quiet_on
  go_big_quiet_want; go_big_quiet_op; go_big_quiet_on
  go_big_quiet_want; refine quiet_val (.int .i64 nd) (fun _ hC => by unfold Oper.quietAt Oper.quietUpon; go_simp; exact hC.still ((refNeed_any k _).mono fun _ _ h => ⟨by rw [h.1, hnd.out], h.2⟩)) ?_; go_simp; try go_big_quiet_on
  go_big_quiet_want; refine quiet_val (.bool true) (fun _ _ => by unfold Oper.quietAt Oper.quietUpon; go_simp) ?_; go_simp; try go_big_quiet_on
  go_big_quiet_want; refine quiet_val (.bool true) (fun _ _ => by unfold Oper.quietAt Oper.quietUpon; go_simp) ?_; go_simp; try go_big_quiet_on
  go_big_quiet_want; go_big_quiet_op; go_big_quiet_on
  go_big_quiet_want; refine quiet_val (.pointer (some ⟨w.heap.size, 0, none⟩)) (fun _ _ => by unfold Oper.quietAt Oper.quietUpon; go_simp) ?_; go_simp; try go_big_quiet_on
  go_big_quiet_want; refine quiet_val (.agg (iv I).toArray) (fun _ hC => by have hq := run_ldI (ino_at lL.out (by omega) hC.va hI'.out) lI.out; unfold av at hq; unfold Oper.quietAt Oper.quietUpon; go_simp) ?_; go_simp; try go_big_quiet_on
  go_big_quiet_want; refine quiet_val (.bool m0) (fun _ hC => by unfold Oper.quietAt Oper.quietUpon; go_simp; exact hC.told (inoMay_is I m0 _ lI.out hmI.out)) ?_; go_simp; try go_big_quiet_on
  go_big_quiet_want; refine quiet_val (.pointer (some ⟨w.heap.size, 0, none⟩)) (fun _ _ => by unfold Oper.quietAt Oper.quietUpon; go_simp) ?_; go_simp; try go_big_quiet_on
  go_big_quiet_want; refine quiet_val (.agg (iv I).toArray) (fun _ hC => by have hq := run_ldI (ino_at lL.out (by omega) hC.va hI'.out) lI.out; unfold av at hq; unfold Oper.quietAt Oper.quietUpon; go_simp) ?_; go_simp; try go_big_quiet_on
  go_big_quiet_want; refine quiet_val (.bool m0) (fun _ hC => by unfold Oper.quietAt Oper.quietUpon; go_simp; exact hC.told (refInoMay_is I m0 _ lI.out hmI.out)) ?_; go_simp; try go_big_quiet_on
  go_big_quiet_want; refine quiet_val (.bool true) (fun _ _ => by unfold Oper.quietAt Oper.quietUpon; go_simp) ?_; go_simp; try go_big_quiet_on
  go_big_quiet_want; refine quiet_val (.bool true) (fun _ _ => by unfold Oper.quietAt Oper.quietUpon; go_simp) ?_; go_simp; try go_big_quiet_on
  go_big_quiet_want; go_big_quiet_op; go_big_quiet_on
  refine wpQuiet_nil ?_
  intro w10 hC
  have xA := Lib.hid hC.x
  have xR := Lib.hid hC.rl
  have xB := Lib.hid hC.wb
  have xw := Lib.hid B1.out.size
  clear hC
  go_wp2_with (first
    | (go_at_call_of 21 v1
       refine (over_u v1 X w10 hXl.out xA.out).mono ?_
       rintro e w11 ⟨rfl, hg⟩
       have hbk := xA.out.block
       have R11 := Lib.hid (xR.out.grown hg (fun e => by have h1 := (hbk gl e.symm).1; have h2 := g1.out; omega))
       have B11 := Lib.hid (xB.out.trans (grownBy_below hg xB.out.size (fun j hj => Nat.le_trans xw.out (hbk j hj).1)))
       clear hg hbk)
    | (go_at_call_of 22 gl
       refine (kept_b gl cap n a l w11 hn'.out (by omega) R11.out (hxw.out.on B11.out (Nat.le_refl _))).mono ?_
       rintro e w12 ⟨rfl, hb⟩
       have B12 := Lib.hid (below_two B11.out hb)
       clear hb)
    | (go_at_call 8
       refine (inoAwake_any w12).mono ?_
       rintro e w13 ⟨rfl, hb⟩
       have hend := Lib.hid (below_two B12.out hb)
       clear hb))
  go_ret
  exact ⟨rfl, hend.out⟩
theorem inoTells_any (L : List Int) (a : Option Addr) (cap : Nat) (l : List Nat) (k : Int) (w : World) (hL : L.length = 44) (ho : Octs l) (hc : l.length ≤ cap) (hx : BAt w a l) (hnil : a = none → cap = 0) :
    Calls Try.prog 3 #[av L, .slice a l.length cap, .int .i64 k] w (Tells (.bool true) w) := by
  by_cases h : 200 < l.length
  · exact inoTells_long L a cap _ k w h
  · exact inoTells_main L a cap _ l k w hL rfl (by omega) ho hc hx hnil
end Go.Proofs.Ytfnhngnbaigccaa
