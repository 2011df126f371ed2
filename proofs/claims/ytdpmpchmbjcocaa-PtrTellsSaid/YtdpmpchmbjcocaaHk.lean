/-
  The block of any pointers, and what any bytes are read as, is the document's; what may be is read again: the walk.
-/
import Derived.Test.YtdpmpchmbjcocaaHj
import Derived.Test.YtdpmpchmbjcocaaHh
import Derived.Test.YtdpmpchmbjcocaaKb
import Derived.Deep.QuietTactic
import Derived.Deep.DeepCutAuto
import Derived.BigQuiet
namespace Go.Proofs.Ytdpmpchmbjcocaa
open Go.RowKit BigFrame

theorem refPtrLay_u (L : List Int) (w : World) (hL : L.length = 12) :
    Calls Try.prog 8 #[av L] w fun e w' => ∃ v, e = .returned (.tuple #[v, .int .i64 (lc12 L)]) ∧ BV w' v (ly12 L) ∧ Below w.heap.size w w' := by
  unfold ly12 lc12
  cases h : may12 L
  · exact (refPtrLay_no L w hL h).mono fun e w' ⟨he, hb⟩ => ⟨_, he, ⟨none, 0, 0, rfl, rfl, .inl rfl⟩, hb⟩
  · exact (refPtrLay_ok L w hL h).mono fun e w' ⟨g1, cp, he, hg, hc, hr, hb⟩ => ⟨_, he, ⟨_, 128, cp, rfl, sec12_length L, hr⟩, hb⟩
theorem ptrRead_u {w0 : World} (v : Value) (X : List Nat) (w : World) (ho : Octs X) (h : Ans w0 w v X) : Calls Try.prog 9 #[v] w (Tells (readPV X) w) := by
  rcases h with ⟨rfl, rfl⟩ | ⟨g, n, rfl, hn, _, hr⟩
  · exact ptrRead_any none 0 0 [] w rfl ho (Nat.le_refl _) (.inl rfl)
  · exact ptrRead_any _ n n X w hn ho (Nat.le_refl _) hr.bat
/-- what was laid is read again -/
theorem again12 {L : List Int} (hL : L.length = 12) : (lc12 L = 0 ∧ (readP (ly12 L)).2 = 0 ∧ decide ((readP (ly12 L)).1 = L) = true) ∨ lc12 L = 2 := by
  unfold lc12 ly12
  cases h : may12 L
  · exact .inr rfl
  · refine .inl ⟨rfl, ?_, ?_⟩
    · rw [if_pos rfl, readP_sec hL (may12_iff.1 h)]
    · rw [if_pos rfl, readP_sec hL (may12_iff.1 h)]; exact decide_eq_true rfl
/-- the worlds in which all lies where it lay -/
structure TpC (w w1 : World) (L R U : List Int) (l X : List Nat) (B1 G2 G4 G6 gl : Nat) (v1 v2 : Value) (w' : World) : Prop where
  va : Vi w' 22 B1 L
  vb : Vi w' 22 G2 R
  vc : Vi w' 22 G4 R
  vd : Vi w' 22 G6 U
  x : Ans w1 w' v1 X
  y : BV w' v2 X
  rl : Row w' gl (marked l)
  wb : Below w.heap.size w w'
theorem TpC.on {w w1 : World} {L R U : List Int} {l X : List Nat} {B1 G2 G4 G6 gl : Nat} {v1 v2 : Value} {w' w'' : World} (h : TpC w w1 L R U l X B1 G2 G4 G6 gl v1 v2 w') (hb : Below w'.heap.size w' w'') : TpC w w1 L R U l X B1 G2 G4 G6 gl v1 v2 w'' :=
  ⟨h.va.on' hb, h.vb.on' hb, h.vc.on' hb, h.vd.on' hb, h.x.on hb, h.y.on hb, h.rl.on hb h.rl.lt, below_two h.wb hb⟩
theorem TpC.told {w w1 : World} {L R U : List Int} {l X : List Nat} {B1 G2 G4 G6 gl : Nat} {v1 v2 v : Value} {w' : World} {f : FuncId} {args : Array Value} (hc : Calls Try.prog f args w' (Tells v w')) (h : TpC w w1 L R U l X B1 G2 G4 G6 gl v1 v2 w') :
    Calls Try.prog f args w' fun e w'' => e = .returned v ∧ TpC w w1 L R U l X B1 G2 G4 G6 gl v1 v2 w'' := hc.mono fun _ _ ⟨he, hd⟩ => ⟨he, h.on hd⟩
theorem TpC.same {w w1 : World} {L R U : List Int} {l X : List Nat} {B1 G2 G4 G6 gl : Nat} {v1 v2 : Value} {w' : World} (hX : X.length ≤ 100000) (h : TpC w w1 L R U l X B1 G2 G4 G6 gl v1 v2 w') :
    Calls Try.prog 11 #[v1, v2] w' fun e w'' => e = .returned (.bool true) ∧ TpC w w1 L R U l X B1 G2 G4 G6 gl v1 v2 w'' := h.told (same_u v1 v2 X w' hX h.x.bv h.y)

theorem ptrTells_long (L : List Int) (a : Option Addr) (cap n : Nat) (w : World) (hn : 200 < n) :
    Calls Try.prog 3 #[av L, .slice a n cap] w (Tells (.bool true) w) := by
  unfold av
  go_enter Try.func3, Try.ntmps3
  go_wp2_with (go_at_call 5; refine (ptrAwake_any _).mono ?_; rintro e w1 ⟨rfl, hb⟩; have hend := Lib.hid (below_box hb); clear hb)
  go_ret
  exact ⟨rfl, hend.out⟩

attribute [local go_sem ↓] ldT_of stT_of bdT_of eqT_of
set_option maxRecDepth 100000 in
set_option maxHeartbeats 4000000 in
theorem ptrTells_main (L : List Int) (a : Option Addr) (cap n : Nat) (l : List Nat) (w : World) (hL : L.length = 12) (hn : l.length = n) (h200 : n ≤ 200) (ho : Octs l) (hc : n ≤ cap) (hx : BAt w a l) (hnil : a = none → cap = 0) :
    Calls Try.prog 3 #[av L, .slice a n cap] w (Tells (.bool true) w) := by
  have hag := Lib.hid (again12 hL)
  have hXo := Lib.hid (ly12_octs L)
  obtain ⟨X, hX⟩ : ∃ X, ly12 L = X := ⟨_, rfl⟩
  obtain ⟨cd, hcd⟩ : ∃ cd, lc12 L = cd := ⟨_, rfl⟩
  rw [hX] at hag hXo
  rw [hcd] at hag
  obtain ⟨R, hR⟩ : ∃ R, (readP l).1 = R := ⟨_, rfl⟩
  obtain ⟨rc, hrc⟩ : ∃ rc, (readP l).2 = rc := ⟨_, rfl⟩
  obtain ⟨U, hU⟩ : ∃ U, (readP X).1 = U := ⟨_, rfl⟩
  obtain ⟨uc, huc⟩ : ∃ uc, (readP X).2 = uc := ⟨_, rfl⟩
  obtain ⟨r0, hr0⟩ : ∃ r, decide (L = zz 12) = r := ⟨_, rfl⟩
  obtain ⟨Z, hZ⟩ : ∃ Z, zz 12 = Z := ⟨_, rfl⟩
  have lZ := Lib.hid (show Z.length = 12 by rw [← hZ]; rfl)
  have lR := Lib.hid (show R.length = 12 by rw [← hR]; exact readP_length l)
  have lU := Lib.hid (show U.length = 12 by rw [← hU]; exact readP_length X)
  have hXl := Lib.hid (show X.length ≤ 100000 by rw [← hX]; exact ly12_length)
  have hrd := Lib.hid (show readPV l = .tuple #[av R, .int .i64 rc] by unfold readPV; rw [hR, hrc])
  have hru := Lib.hid (show readPV X = .tuple #[av U, .int .i64 uc] by unfold readPV; rw [hU, huc])
  rw [hU, huc] at hag
  have q1 := Lib.hid (fun w => ptrLay_u L w hL)
  have q2 := Lib.hid (fun w => refPtrLay_u L w hL)
  rw [hX, hcd] at q1 q2
  have hE := Lib.hid (fun w => ptrEmpty_any L r0 w hL hr0)
  have lL := Lib.hid hL
  have hn' := Lib.hid hn
  have ho' := Lib.hid ho
  have hnil' := Lib.hid hnil
  have hA0 := (Below.refl w.heap.size w).alloc (Nat.le_refl _) (.cells (iv L).toArray 22)
  have V0 := Lib.hid (Vi.alloc w L 22)
  have hx' := Lib.hid (hx.on hA0 (Nat.le_refl _))
  have hb0 := Lib.hid hA0
  have hxw := Lib.hid hx
  have heq := fun w => run_eqT R R w lR.out lR.out
  rw [show decide (R = R) = true from decide_eq_true rfl] at heq
  rw [hZ] at hr0
  have hez := fun w => run_eqT L Z w lL.out lZ.out
  rw [hr0] at hez
  have heu := fun w => run_eqT U L w lU.out lL.out
  have hgd := Try.eqGuardT
  have hbd := run_bd0T
  rw [hZ] at hbd
  unfold av at q1 q2 heq hez heu hE hbd ⊢
  clear hX hcd hR hrc hU huc hr0 hZ hn ho hnil hx hA0 hL
  go_enter Try.func3, Try.ntmps3
  have tk0 : True := trivial
  have tk1 : True := trivial
  have tk2 : True := trivial
  go_upto_region 9 with (first
    | (go_at_call 6
       refine (lend_any a cap n l _ hn'.out (by omega) hx'.out hnil'.out).mono ?_
       rintro e w1 ⟨gl, rfl, hgl, hr, hb⟩
       have R1 := Lib.hid hr
       have g1 := Lib.hid hr.lt
       have V1 := Lib.hid (V0.out.on' hb)
       have B1 := Lib.hid (below_two hb0.out hb)
       have hld1 := run_ldT V1.out.whole lL.out
       unfold av at hld1
       clear hr hb hgl)
    | (go_at_call 7
       refine (q1.out _).mono ?_
       rintro e w2 ⟨v1, rfl, hA, hb⟩
       have A2 := Lib.hid hA
       have R2 := Lib.hid (R1.out.on hb R1.out.lt)
       have V2 := Lib.hid (V1.out.on' hb)
       have B2 := Lib.hid (below_two B1.out hb)
       have hld2 := run_ldT V2.out.whole lL.out
       unfold av at hld2
       clear hA hb)
    | (go_at_call 8
       refine (q2.out _).mono ?_
       rintro e w3 ⟨v2, rfl, hV, hb⟩
       have A3 := Lib.hid (A2.out.on hb)
       have Y3 := Lib.hid hV
       have R3 := Lib.hid (R2.out.on hb R2.out.lt)
       have V3 := Lib.hid (V2.out.on' hb)
       have B3 := Lib.hid (below_two B2.out hb)
       clear hV hb)
    | (go_at_call 9
       clear tk0
       refine (ptrRead_any _ _ n l _ hn'.out ho'.out (by omega) R3.out.bat_front).mono ?_
       rw [hrd.out]
       unfold av
       rintro e w4 ⟨rfl, hb⟩
       have A4 := Lib.hid (A3.out.on hb)
       have Y4 := Lib.hid (Y3.out.on hb)
       have R4 := Lib.hid (R3.out.on hb R3.out.lt)
       have V4 := Lib.hid (V3.out.on' hb)
       have B4 := Lib.hid (below_two B3.out hb)
       clear hb)
    | (clear tk1
       refine wpList_alloc_tw rfl rfl ?_
       intro G2 w5 hv5 hG2 hb
       have hst := run_stT (w := w5) lR.out (hv5.out.there (o := 0) (n := 12) (by rw [zz_length]; omega))
       have hbb := below_setCells ((Below.refl w4.heap.size w4).trans hb) hG2 0 (iv R)
       have W5 := Lib.hid (hv5.out.over (m := R) (by rw [lR.out, zz_length]))
       have A5 := Lib.hid (A4.out.on hbb)
       have Y5 := Lib.hid (Y4.out.on hbb)
       have R5 := Lib.hid (R4.out.on hbb R4.out.lt)
       have V5 := Lib.hid (V4.out.on' hbb)
       have B5 := Lib.hid (below_two B4.out hbb)
       have hx5 := Lib.hid (hxw.out.on B5.out (Nat.le_refl _))
       unfold av at hst
       clear hb hbb)
    | (go_at_call 10
       refine (refPtrRead_any a cap n l _ hn'.out ho'.out hc hx5.out).mono ?_
       rw [hrd.out]
       unfold av
       rintro e w6 ⟨rfl, hb⟩
       have W6 := Lib.hid (W5.out.on' hb)
       have A6 := Lib.hid (A5.out.on hb)
       have Y6 := Lib.hid (Y5.out.on hb)
       have R6 := Lib.hid (R5.out.on hb R5.out.lt)
       have V6 := Lib.hid (V5.out.on' hb)
       have B6 := Lib.hid (below_two B5.out hb)
       clear hb)
    | (clear tk2
       refine wpList_alloc_tw rfl rfl ?_
       intro G4 w7 hv7 hG4 hb
       have hst := run_stT (w := w7) lR.out (hv7.out.there (o := 0) (n := 12) (by rw [zz_length]; omega))
       have hbb := below_setCells ((Below.refl w6.heap.size w6).trans hb) hG4 0 (iv R)
       have U7 := Lib.hid (hv7.out.over (m := R) (by rw [lR.out, zz_length]))
       have W7 := Lib.hid (W6.out.on' hbb)
       have A7 := Lib.hid (A6.out.on hbb)
       have Y7 := Lib.hid (Y6.out.on hbb)
       have R7 := Lib.hid (R6.out.on hbb R6.out.lt)
       have V7 := Lib.hid (V6.out.on' hbb)
       have B7 := Lib.hid (below_two B6.out hbb)
       unfold av at hst
       clear hb hbb)
    | (go_at_call 9
       refine (ptrRead_u v1 X _ hXo.out A7.out).mono ?_
       rw [hru.out]
       unfold av
       rintro e w8 ⟨rfl, hb⟩
       have U8 := Lib.hid (U7.out.on' hb)
       have W8 := Lib.hid (W7.out.on' hb)
       have A8 := Lib.hid (A7.out.on hb)
       have Y8 := Lib.hid (Y7.out.on hb)
       have R8 := Lib.hid (R7.out.on hb R7.out.lt)
       have V8 := Lib.hid (V7.out.on' hb)
       have B8 := Lib.hid (below_two B7.out hb)
       clear hb)
    | (refine wpList_alloc_tw rfl rfl ?_
       intro G6 w9 hv9 hG6 hb
       have hst := run_stT (w := w9) lU.out (hv9.out.there (o := 0) (n := 12) (by rw [zz_length]; omega))
       have hbb := below_setCells ((Below.refl w8.heap.size w8).trans hb) hG6 0 (iv U)
       have T9 := Lib.hid (hv9.out.over (m := U) (by rw [lU.out, zz_length]))
       have U9 := Lib.hid (U8.out.on' hbb)
       have W9 := Lib.hid (W8.out.on' hbb)
       have A9 := Lib.hid (A8.out.on hbb)
       have Y9 := Lib.hid (Y8.out.on hbb)
       have R9 := Lib.hid (R8.out.on hbb R8.out.lt)
       have V9 := Lib.hid (V8.out.on' hbb)
       have B9 := Lib.hid (below_two B8.out hbb)
       unfold av at hst
       clear hb hbb))
  obtain ⟨C, hCe⟩ : ∃ C, TpC w w1 L R U l X w.heap.size G2 G4 G6 gl v1 v2 = C := ⟨_, rfl⟩
  have hC7 := Lib.hid (show C (w9.setCells G6 0 (iv U)).drew by rw [← hCe]; exact TpC.on ⟨V9.out, W9.out, U9.out, T9.out, A9.out, Y9.out, R9.out, B9.out⟩ ((Below.refl _ _).drew))
  have hCC := Lib.hid hCe
  clear hCe hld1 hld2 hst
  refine wp_region_at (C := C) (by kernel_rfl) (by kernel_rfl) hC7.out ?_
  rw [← hCC.out]
  rcases hag.out with ⟨e1, e2, e3⟩ | e1
  · subst e1 e2
    rw [e3] at heu
    clear e3
    go_big_quiet_want; go_big_quiet_op; go_big_quiet_on
    go_big_quiet_want; go_big_quiet_op; go_big_quiet_on
    go_big_quiet_want; refine quiet_val (.bool true) (fun _ hC => by unfold Oper.quietAt Oper.quietUpon; go_simp; exact hC.same hXl.out) ?_; go_simp; try go_big_quiet_on
    go_big_quiet_want; go_big_quiet_op; go_big_quiet_on
    go_big_quiet_want; go_big_quiet_op; go_big_quiet_on
    go_big_quiet_want; go_big_quiet_op; go_big_quiet_on
    go_big_quiet_want; refine quiet_val (.bool true) (fun _ _ => by unfold Oper.quietAt Oper.quietUpon; go_simp) ?_; go_simp; try go_big_quiet_on
    go_big_quiet_want; refine quiet_val (.bool true) (fun _ _ => by unfold Oper.quietAt Oper.quietUpon; go_simp) ?_; go_simp; try go_big_quiet_on
    go_big_quiet_want; go_big_quiet_op; go_big_quiet_on
    go_big_quiet_want; refine quiet_val (.agg (iv R).toArray) (fun _ hC => by have hq := run_ldT hC.vb.whole lR.out; unfold av at hq; unfold Oper.quietAt Oper.quietUpon; go_simp) ?_; go_simp; try go_big_quiet_on
    go_big_quiet_want; refine quiet_val (.agg (iv R).toArray) (fun _ hC => by have hq := run_ldT hC.vc.whole lR.out; unfold av at hq; unfold Oper.quietAt Oper.quietUpon; go_simp) ?_; go_simp; try go_big_quiet_on
    go_big_quiet_want; refine quiet_val (.bool true) (fun _ _ => by unfold Oper.quietAt Oper.quietUpon; go_simp) ?_; go_simp; try go_big_quiet_on
    go_big_quiet_want; refine quiet_val (.bool true) (fun _ _ => by unfold Oper.quietAt Oper.quietUpon; go_simp) ?_; go_simp; try go_big_quiet_on
    go_big_quiet_want; go_big_quiet_op; go_big_quiet_on
    go_big_quiet_want; go_big_quiet_op; go_big_quiet_on
    go_big_quiet_want; go_big_quiet_op; go_big_quiet_on
    go_big_quiet_want; refine quiet_val (.bool true) (fun _ _ => by unfold Oper.quietAt Oper.quietUpon; go_simp) ?_; go_simp; try go_big_quiet_on
    go_big_quiet_want; refine quiet_val (.bool true) (fun _ _ => by unfold Oper.quietAt Oper.quietUpon; go_simp) ?_; go_simp; try go_big_quiet_on
    go_big_quiet_want; go_big_quiet_op; go_big_quiet_on
    go_big_quiet_want; refine quiet_val (.agg (iv L).toArray) (fun _ hC => by have hq := run_ldT hC.va.whole lL.out; unfold av at hq; unfold Oper.quietAt Oper.quietUpon; go_simp) ?_; go_simp; try go_big_quiet_on
    go_big_quiet_want; refine quiet_val (.bool r0) (fun _ hC => by unfold Oper.quietAt Oper.quietUpon; go_simp; exact hC.told (hE.out _)) ?_; go_simp; try go_big_quiet_on
    go_big_quiet_want; refine quiet_val (.agg (iv L).toArray) (fun _ hC => by have hq := run_ldT hC.va.whole lL.out; unfold av at hq; unfold Oper.quietAt Oper.quietUpon; go_simp) ?_; go_simp; try go_big_quiet_on
    go_big_quiet_want; refine quiet_val (.agg (iv Z).toArray) (fun _ _ => by unfold Oper.quietAt Oper.quietUpon; go_simp) ?_; go_simp; try go_big_quiet_on
    go_big_quiet_want; refine quiet_val (.bool r0) (fun _ _ => by unfold Oper.quietAt Oper.quietUpon; go_simp) ?_; go_simp; try go_big_quiet_on
    go_big_quiet_want; refine quiet_val (.bool true) (fun _ _ => by unfold Oper.quietAt Oper.quietUpon; go_simp) ?_; go_simp; try go_big_quiet_on
    go_big_quiet_want; refine quiet_val (.bool true) (fun _ _ => by unfold Oper.quietAt Oper.quietUpon; go_simp) ?_; go_simp; try go_big_quiet_on
    go_big_quiet_want; go_big_quiet_op; go_big_quiet_on
    go_big_quiet_want; go_big_quiet_op; go_big_quiet_on
    go_big_quiet_want; refine quiet_val (.bool false) (fun _ _ => by unfold Oper.quietAt Oper.quietUpon; go_simp) ?_; go_simp; try go_big_quiet_on
    go_big_quiet_want; go_big_quiet_op; go_big_quiet_on
    go_big_quiet_want; go_big_quiet_op; go_big_quiet_on
    go_big_quiet_want; refine quiet_val (.bool true) (fun _ _ => by unfold Oper.quietAt Oper.quietUpon; go_simp) ?_; go_simp; try go_big_quiet_on
    go_big_quiet_want; go_big_quiet_op; go_big_quiet_on
    go_big_quiet_want; refine quiet_val (.agg (iv U).toArray) (fun _ hC => by have hq := run_ldT hC.vd.whole lU.out; unfold av at hq; unfold Oper.quietAt Oper.quietUpon; go_simp) ?_; go_simp; try go_big_quiet_on
    go_big_quiet_want; refine quiet_val (.agg (iv L).toArray) (fun _ hC => by have hq := run_ldT hC.va.whole lL.out; unfold av at hq; unfold Oper.quietAt Oper.quietUpon; go_simp) ?_; go_simp; try go_big_quiet_on
    go_big_quiet_want; refine quiet_val (.bool true) (fun _ _ => by unfold Oper.quietAt Oper.quietUpon; go_simp) ?_; go_simp; try go_big_quiet_on
    go_big_quiet_want; refine quiet_val (.bool true) (fun _ _ => by unfold Oper.quietAt Oper.quietUpon; go_simp) ?_; go_simp; try go_big_quiet_on
    go_big_quiet_want; refine quiet_val (.bool true) (fun _ _ => by unfold Oper.quietAt Oper.quietUpon; go_simp) ?_; go_simp; try go_big_quiet_on
    go_big_quiet_want; refine quiet_val (.bool true) (fun _ _ => by unfold Oper.quietAt Oper.quietUpon; go_simp) ?_; go_simp; try go_big_quiet_on
    go_big_quiet_want; go_big_quiet_op; go_big_quiet_on
    refine wpQuiet_nil ?_
    intro w10 hC
    have xA := Lib.hid hC.x
    have xR := Lib.hid hC.rl
    have xB := Lib.hid hC.wb
    have xw := Lib.hid B1.out.size
    clear hC
    go_wp2_with (first
      | (go_at_call_of 13 v1
         refine (over_u v1 X w10 hXl.out xA.out).mono ?_
         rintro e w11 ⟨rfl, hg⟩
         have hbk := xA.out.block
         have R11 := Lib.hid (xR.out.grown hg (fun e => by have h1 := (hbk gl e.symm).1; have h2 := g1.out; omega))
         have B11 := Lib.hid (xB.out.trans (grownBy_below hg xB.out.size (fun j hj => Nat.le_trans xw.out (hbk j hj).1)))
         clear hg hbk)
      | (go_at_call_of 14 gl
         refine (kept_b gl cap n a l w11 hn'.out (by omega) R11.out (hxw.out.on B11.out (Nat.le_refl _))).mono ?_
         rintro e w12 ⟨rfl, hb⟩
         have B12 := Lib.hid (below_two B11.out hb)
         clear hb)
      | (go_at_call 5
         refine (ptrAwake_any w12).mono ?_
         rintro e w13 ⟨rfl, hb⟩
         have hend := Lib.hid (below_two B12.out hb)
         clear hb))
    go_ret
    exact ⟨rfl, hend.out⟩
  · subst e1
    clear heu
    go_big_quiet_want; go_big_quiet_op; go_big_quiet_on
    go_big_quiet_want; go_big_quiet_op; go_big_quiet_on
    go_big_quiet_want; refine quiet_val (.bool true) (fun _ hC => by unfold Oper.quietAt Oper.quietUpon; go_simp; exact hC.same hXl.out) ?_; go_simp; try go_big_quiet_on
    go_big_quiet_want; go_big_quiet_op; go_big_quiet_on
    go_big_quiet_want; go_big_quiet_op; go_big_quiet_on
    go_big_quiet_want; go_big_quiet_op; go_big_quiet_on
    go_big_quiet_want; refine quiet_val (.bool true) (fun _ _ => by unfold Oper.quietAt Oper.quietUpon; go_simp) ?_; go_simp; try go_big_quiet_on
    go_big_quiet_want; refine quiet_val (.bool true) (fun _ _ => by unfold Oper.quietAt Oper.quietUpon; go_simp) ?_; go_simp; try go_big_quiet_on
    go_big_quiet_want; go_big_quiet_op; go_big_quiet_on
    go_big_quiet_want; refine quiet_val (.agg (iv R).toArray) (fun _ hC => by have hq := run_ldT hC.vb.whole lR.out; unfold av at hq; unfold Oper.quietAt Oper.quietUpon; go_simp) ?_; go_simp; try go_big_quiet_on
    go_big_quiet_want; refine quiet_val (.agg (iv R).toArray) (fun _ hC => by have hq := run_ldT hC.vc.whole lR.out; unfold av at hq; unfold Oper.quietAt Oper.quietUpon; go_simp) ?_; go_simp; try go_big_quiet_on
    go_big_quiet_want; refine quiet_val (.bool true) (fun _ _ => by unfold Oper.quietAt Oper.quietUpon; go_simp) ?_; go_simp; try go_big_quiet_on
    go_big_quiet_want; refine quiet_val (.bool true) (fun _ _ => by unfold Oper.quietAt Oper.quietUpon; go_simp) ?_; go_simp; try go_big_quiet_on
    go_big_quiet_want; go_big_quiet_op; go_big_quiet_on
    go_big_quiet_want; go_big_quiet_op; go_big_quiet_on
    go_big_quiet_want; go_big_quiet_op; go_big_quiet_on
    go_big_quiet_want; refine quiet_val (.bool true) (fun _ _ => by unfold Oper.quietAt Oper.quietUpon; go_simp) ?_; go_simp; try go_big_quiet_on
    go_big_quiet_want; refine quiet_val (.bool true) (fun _ _ => by unfold Oper.quietAt Oper.quietUpon; go_simp) ?_; go_simp; try go_big_quiet_on
    go_big_quiet_want; go_big_quiet_op; go_big_quiet_on
    go_big_quiet_want; refine quiet_val (.agg (iv L).toArray) (fun _ hC => by have hq := run_ldT hC.va.whole lL.out; unfold av at hq; unfold Oper.quietAt Oper.quietUpon; go_simp) ?_; go_simp; try go_big_quiet_on
    go_big_quiet_want; refine quiet_val (.bool r0) (fun _ hC => by unfold Oper.quietAt Oper.quietUpon; go_simp; exact hC.told (hE.out _)) ?_; go_simp; try go_big_quiet_on
    go_big_quiet_want; refine quiet_val (.agg (iv L).toArray) (fun _ hC => by have hq := run_ldT hC.va.whole lL.out; unfold av at hq; unfold Oper.quietAt Oper.quietUpon; go_simp) ?_; go_simp; try go_big_quiet_on
    go_big_quiet_want; refine quiet_val (.agg (iv Z).toArray) (fun _ _ => by unfold Oper.quietAt Oper.quietUpon; go_simp) ?_; go_simp; try go_big_quiet_on
    go_big_quiet_want; refine quiet_val (.bool r0) (fun _ _ => by unfold Oper.quietAt Oper.quietUpon; go_simp) ?_; go_simp; try go_big_quiet_on
    go_big_quiet_want; refine quiet_val (.bool true) (fun _ _ => by unfold Oper.quietAt Oper.quietUpon; go_simp) ?_; go_simp; try go_big_quiet_on
    go_big_quiet_want; refine quiet_val (.bool true) (fun _ _ => by unfold Oper.quietAt Oper.quietUpon; go_simp) ?_; go_simp; try go_big_quiet_on
    go_big_quiet_want; go_big_quiet_op; go_big_quiet_on
    go_big_quiet_want; go_big_quiet_op; go_big_quiet_on
    go_big_quiet_want; refine quiet_val (.bool true) (fun _ _ => by unfold Oper.quietAt Oper.quietUpon; go_simp) ?_; go_simp; try go_big_quiet_on
    go_big_quiet_want; go_big_quiet_op; go_big_quiet_on
    go_big_quiet_skip
    go_big_quiet_skip
    go_big_quiet_skip
    go_big_quiet_skip
    go_big_quiet_skip
    go_big_quiet_skip
    go_big_quiet_skip
    go_big_quiet_want; refine quiet_val (.bool true) (fun _ _ => by unfold Oper.quietAt Oper.quietUpon; go_simp) ?_; go_simp; try go_big_quiet_on
    go_big_quiet_want; refine quiet_val (.bool true) (fun _ _ => by unfold Oper.quietAt Oper.quietUpon; go_simp) ?_; go_simp; try go_big_quiet_on
    go_big_quiet_want; go_big_quiet_op; go_big_quiet_on
    refine wpQuiet_nil ?_
    intro w10 hC
    have xA := Lib.hid hC.x
    have xR := Lib.hid hC.rl
    have xB := Lib.hid hC.wb
    have xw := Lib.hid B1.out.size
    clear hC
    go_wp2_with (first
      | (go_at_call_of 13 v1
         refine (over_u v1 X w10 hXl.out xA.out).mono ?_
         rintro e w11 ⟨rfl, hg⟩
         have hbk := xA.out.block
         have R11 := Lib.hid (xR.out.grown hg (fun e => by have h1 := (hbk gl e.symm).1; have h2 := g1.out; omega))
         have B11 := Lib.hid (xB.out.trans (grownBy_below hg xB.out.size (fun j hj => Nat.le_trans xw.out (hbk j hj).1)))
         clear hg hbk)
      | (go_at_call_of 14 gl
         refine (kept_b gl cap n a l w11 hn'.out (by omega) R11.out (hxw.out.on B11.out (Nat.le_refl _))).mono ?_
         rintro e w12 ⟨rfl, hb⟩
         have B12 := Lib.hid (below_two B11.out hb)
         clear hb)
      | (go_at_call 5
         refine (ptrAwake_any w12).mono ?_
         rintro e w13 ⟨rfl, hb⟩
         have hend := Lib.hid (below_two B12.out hb)
         clear hb))
    go_ret
    exact ⟨rfl, hend.out⟩
theorem ptrTells_any (L : List Int) (a : Option Addr) (cap : Nat) (l : List Nat) (w : World) (hL : L.length = 12) (ho : Octs l) (hc : l.length ≤ cap) (hx : BAt w a l) (hnil : a = none → cap = 0) :
    Calls Try.prog 3 #[av L, .slice a l.length cap] w (Tells (.bool true) w) := by
  by_cases h : 200 < l.length
  · exact ptrTells_long L a cap _ w h
  · exact ptrTells_main L a cap _ l w hL rfl (by omega) ho hc hx hnil
end Go.Proofs.Ytdpmpchmbjcocaa
