/-
  Whether any record may be, its sector, and what any bytes are read as, is the document's; what may be is read again: the walk.
-/
import Derived.Test.YtkeihpenelpblaaVj
import Derived.Test.YtkeihpenelpblaaVi
import Derived.Test.YtkeihpenelpblaaKb
import Derived.Test.YtkeihpenelpblaaQv
import Derived.Deep.QuietTactic
import Derived.Deep.DeepCutAuto
import Derived.BigQuiet
namespace Go.Proofs.Ytkeihpenelpblaa
open Go.RowKit BigFrame

theorem refRecLay_u (r : Rcd) (w : World) :
    Calls Try.prog 8 #[rv r] w fun e w' => ∃ v, e = .returned (.tuple #[v, .int .i64 (lcR r)]) ∧ BV w' v (lyR r) ∧ Below w.heap.size w w' := by
  unfold lyR lcR
  cases h : mayR r
  · exact (refRecLay_no r w h).mono fun e w' ⟨he, hb⟩ => ⟨_, he, ⟨none, 0, 0, rfl, rfl, .inl rfl⟩, hb⟩
  · exact (refRecLay_ok r w h).mono fun e w' ⟨g1, cp, he, hg, hc, hr, hb⟩ => ⟨_, he, ⟨_, 128, cp, rfl, secR_length (mayR_len h), hr⟩, hb⟩
/-- what was laid is read again -/
theorem againR (r : Rcd) : (mayR r = true ∧ lcR r = 0 ∧ (readR (lyR r)).2 = 0 ∧ (readR (lyR r)).1 = r) ∨ (mayR r = false ∧ lcR r = 2) := by
  unfold lcR lyR
  cases h : mayR r
  · exact .inr ⟨rfl, rfl⟩
  · refine .inl ⟨rfl, rfl, ?_, ?_⟩ <;> rw [if_pos rfl, readR_sec h]
/-- the worlds in which all lies where it lay -/
structure RtC (w w1 : World) (P R U : List Value) (l X : List Nat) (B1 G2 G4 G6 gl : Nat) (v1 v2 : Value) (w' : World) : Prop where
  va : Vw w' 23 B1 P
  vb : Vw w' 23 G2 R
  vc : Vw w' 23 G4 R
  vd : Vw w' 23 G6 U
  x : Ans w1 w' v1 X
  y : BV w' v2 X
  rl : Row w' gl (marked l)
  wb : Below w.heap.size w w'
theorem RtC.on {w w1 : World} {P R U : List Value} {l X : List Nat} {B1 G2 G4 G6 gl : Nat} {v1 v2 : Value} {w' w'' : World} (h : RtC w w1 P R U l X B1 G2 G4 G6 gl v1 v2 w') (hb : Below w'.heap.size w' w'') : RtC w w1 P R U l X B1 G2 G4 G6 gl v1 v2 w'' :=
  ⟨h.va.on' hb, h.vb.on' hb, h.vc.on' hb, h.vd.on' hb, h.x.on hb, h.y.on hb, h.rl.on hb h.rl.lt, below_two h.wb hb⟩
theorem RtC.told {w w1 : World} {P R U : List Value} {l X : List Nat} {B1 G2 G4 G6 gl : Nat} {v1 v2 v : Value} {w' : World} {f : FuncId} {args : Array Value} (hc : Calls Try.prog f args w' (fun e w'' => e = .returned v ∧ Below w'.heap.size w' w'')) (h : RtC w w1 P R U l X B1 G2 G4 G6 gl v1 v2 w') :
    Calls Try.prog f args w' fun e w'' => e = .returned v ∧ RtC w w1 P R U l X B1 G2 G4 G6 gl v1 v2 w'' := hc.mono fun _ _ ⟨he, hd⟩ => ⟨he, h.on hd⟩
theorem RtC.same {w w1 : World} {P R U : List Value} {l X : List Nat} {B1 G2 G4 G6 gl : Nat} {v1 v2 : Value} {w' : World} (hX : X.length ≤ 100000) (h : RtC w w1 P R U l X B1 G2 G4 G6 gl v1 v2 w') :
    Calls Try.prog 11 #[v1, v2] w' fun e w'' => e = .returned (.bool true) ∧ RtC w w1 P R U l X B1 G2 G4 G6 gl v1 v2 w'' := h.told (same_u v1 v2 X w' hX h.x.bv h.y)

set_option maxHeartbeats 1000000 in
theorem recTells_long (r : Rcd) (a : Option Addr) (cap n : Nat) (w : World) (h : 100 < r.fn.size ∨ 100 < r.tn.size ∨ 200 < n) :
    Calls Try.prog 3 #[rv r, .slice a n cap] w (Tells (.bool true) w) := by
  have hA0 := (Below.refl w.heap.size w).alloc (Nat.le_refl _) (.cells (rc r).toArray 23)
  have vA := Vw.alloc w (rc r) 23
  have c5 := vA.cell (k := 5) (v := .string r.fn) rfl
  have c6 := vA.cell (k := 6) (v := .string r.tn) rfl
  obtain ⟨s5, e5⟩ : ∃ s, r.fn = s := ⟨_, rfl⟩
  obtain ⟨s6, e6⟩ : ∃ s, r.tn = s := ⟨_, rfl⟩
  rw [e5] at c5
  rw [e6] at c6
  obtain ⟨n5, m5⟩ : ∃ n, s5.size = n := ⟨_, rfl⟩
  obtain ⟨n6, m6⟩ : ∃ n, s6.size = n := ⟨_, rfl⟩
  rw [e5, e6, m5, m6] at h
  have B0 := Lib.hid hA0
  unfold rv
  obtain ⟨P, hP⟩ : ∃ P, rc r = P := ⟨_, rfl⟩
  rw [hP] at B0 c5 c6 ⊢
  clear hA0 vA e5 e6 hP
  by_cases hn5 : 100 < n5
  · clear h
    go_enter Try.func3, Try.ntmps3
    go_wp2_with (go_at_call 5; refine (recAwake_any _).mono ?_; rintro e w3 ⟨rfl, hd⟩; have hend := Lib.hid (below_two B0.out hd); clear hd)
    go_ret
    exact ⟨rfl, hend.out⟩
  by_cases hn6 : 100 < n6
  · clear h
    go_enter Try.func3, Try.ntmps3
    go_wp2_with (go_at_call 5; refine (recAwake_any _).mono ?_; rintro e w3 ⟨rfl, hd⟩; have hend := Lib.hid (below_two B0.out hd); clear hd)
    go_ret
    exact ⟨rfl, hend.out⟩
  have hn : 200 < n := by omega
  clear h
  go_enter Try.func3, Try.ntmps3
  go_wp2_with (go_at_call 5; refine (recAwake_any _).mono ?_; rintro e w3 ⟨rfl, hd⟩; have hend := Lib.hid (below_two B0.out hd); clear hd)
  go_ret
  exact ⟨rfl, hend.out⟩

attribute [local go_sem ↓] ldR_of stR_of bdR_of eqR_of
set_option maxRecDepth 100000 in
set_option maxHeartbeats 4000000 in
theorem recTells_main (r : Rcd) (a : Option Addr) (cap n : Nat) (l : List Nat) (w : World) (h5 : r.fn.size ≤ 100) (h6 : r.tn.size ≤ 100) (hn : l.length = n) (h200 : n ≤ 200) (ho : Octs l) (hc : n ≤ cap) (hx : BAt w a l) (hnil : a = none → cap = 0) :
    Calls Try.prog 3 #[rv r, .slice a n cap] w (Tells (.bool true) w) := by
  have hA0 := (Below.refl w.heap.size w).alloc (Nat.le_refl _) (.cells (rc r).toArray 23)
  have vA := Vw.alloc w (rc r) 23
  have c5 := vA.cell (k := 5) (v := .string r.fn) rfl
  have c6 := vA.cell (k := 6) (v := .string r.tn) rfl
  obtain ⟨s5, e5⟩ : ∃ s, r.fn = s := ⟨_, rfl⟩
  obtain ⟨s6, e6⟩ : ∃ s, r.tn = s := ⟨_, rfl⟩
  rw [e5] at c5
  rw [e6] at c6
  obtain ⟨n5, m5⟩ : ∃ n, s5.size = n := ⟨_, rfl⟩
  obtain ⟨n6, m6⟩ : ∃ n, s6.size = n := ⟨_, rfl⟩
  rw [e5, m5] at h5
  rw [e6, m6] at h6
  have hag := Lib.hid (againR r)
  have hXo := Lib.hid (lyR_octs r)
  obtain ⟨X, hX⟩ : ∃ X, lyR r = X := ⟨_, rfl⟩
  obtain ⟨cd, hcd⟩ : ∃ cd, lcR r = cd := ⟨_, rfl⟩
  obtain ⟨b, hb0⟩ : ∃ b, mayR r = b := ⟨_, rfl⟩
  rw [hX, hb0, hcd] at hag
  rw [hX] at hXo
  obtain ⟨R, hR⟩ : ∃ R, (readR l).1 = R := ⟨_, rfl⟩
  obtain ⟨rcd, hrc⟩ : ∃ c, (readR l).2 = c := ⟨_, rfl⟩
  obtain ⟨U, hU⟩ : ∃ U, (readR X).1 = U := ⟨_, rfl⟩
  obtain ⟨uc, huc⟩ : ∃ c, (readR X).2 = c := ⟨_, rfl⟩
  have hXl := Lib.hid (show X.length ≤ 100000 by rw [← hX]; exact lyR_length)
  have hrd := Lib.hid (show readRV l = .tuple #[rv R, .int .i64 rcd] by unfold readRV; rw [hR, hrc])
  have hru := Lib.hid (show readRV X = .tuple #[rv U, .int .i64 uc] by unfold readRV; rw [hU, huc])
  rw [hU, huc] at hag
  have q1 := Lib.hid (fun w => recLay_u r w)
  have q2 := Lib.hid (fun w => refRecLay_u r w)
  rw [hX, hcd] at q1 q2
  have ma := Lib.hid (fun w => recMay_is r b w hb0)
  have mb := Lib.hid (fun w => refRecMay_is r b w hb0)
  have hn' := Lib.hid hn
  have ho' := Lib.hid ho
  have hnil' := Lib.hid hnil
  have V0 := Lib.hid vA
  have hx' := Lib.hid (hx.on hA0 (Nat.le_refl _))
  have hb0' := Lib.hid hA0
  have hxw := Lib.hid hx
  have heq := fun w => run_eqR R R w
  rw [show decide (R = R) = true from decide_eq_true rfl] at heq
  have heu := fun w => run_eqR r r w
  rw [show decide (r = r) = true from decide_eq_true rfl] at heu
  have hgd := Try.eqGuardR
  obtain ⟨P, hP⟩ : ∃ P, rc r = P := ⟨_, rfl⟩
  obtain ⟨Cr, hCr⟩ : ∃ C, rc R = C := ⟨_, rfl⟩
  obtain ⟨Cu, hCu⟩ : ∃ C, rc U = C := ⟨_, rfl⟩
  unfold rv at q1 q2 ma mb heq heu hrd hru ⊢
  have lP := Lib.hid hP
  have lR := Lib.hid hCr
  have lU := Lib.hid hCu
  rw [hP] at q1 q2 ma mb heu c5 c6 V0 hx' hb0' ⊢
  rw [hCr] at heq hrd
  rw [hCu] at hru
  have hUP := Lib.hid (show U = r → Cu = P from fun e => by rw [← hCu, e, hP])
  clear hA0 vA e5 e6 hX hcd hb0 hR hrc hU huc hn ho hnil hx hP hCr hCu
  go_enter Try.func3, Try.ntmps3
  have tk0 : True := trivial
  have tk1 : True := trivial
  have tk2 : True := trivial
  have tk3 : True := trivial
  go_upto_region 9 with (first
    | (go_at_call 6
       refine (lend_any a cap n l _ hn'.out (by omega) hx'.out hnil'.out).mono ?_
       rintro e w1 ⟨gl, rfl, hgl, hr, hb⟩
       have R1 := Lib.hid hr
       have g1 := Lib.hid hr.lt
       have V1 := Lib.hid (V0.out.on' hb)
       have B1 := Lib.hid (below_two hb0'.out hb)
       have hld1 := run_ldR (r := r) (by rw [lP.out]; exact V1.out.whole)
       unfold rv at hld1
       rw [lP.out] at hld1
       clear hr hb hgl)
    | (go_at_call 7
       refine (q1.out _).mono ?_
       rintro e w2 ⟨v1, rfl, hA, hb⟩
       have A2 := Lib.hid hA
       have R2 := Lib.hid (R1.out.on hb R1.out.lt)
       have V2 := Lib.hid (V1.out.on' hb)
       have B2 := Lib.hid (below_two B1.out hb)
       have hld2 := run_ldR (r := r) (by rw [lP.out]; exact V2.out.whole)
       unfold rv at hld2
       rw [lP.out] at hld2
       clear hA hb)
    | (go_at_call 8
       refine (q2.out _).mono ?_
       rintro e w3 ⟨v2, rfl, hV, hb⟩
       have A3 := Lib.hid (A2.out.on hb)
       have Y3 := Lib.hid hV
       have R3 := Lib.hid (R2.out.on hb R2.out.lt)
       have V3 := Lib.hid (V2.out.on' hb)
       have B3 := Lib.hid (below_two B2.out hb)
       clear hV hb)
    | (go_at_call 9
       clear tk0
       refine (recRead_any _ _ n l _ hn'.out ho'.out (by omega) R3.out.bat_front).mono ?_
       rw [hrd.out]
       rintro e w4 ⟨rfl, hb⟩
       have A4 := Lib.hid (A3.out.on hb)
       have Y4 := Lib.hid (Y3.out.on hb)
       have R4 := Lib.hid (R3.out.on hb R3.out.lt)
       have V4 := Lib.hid (V3.out.on' hb)
       have B4 := Lib.hid (below_two B3.out hb)
       clear hb)
    | (clear tk1
       refine wpList_alloc_rec rfl rfl ?_
       intro G2 w5 hv5 hG2 hb
       have hst := run_stR (w := w5) (r := R) (hv5.out.there (o := 0) (n := 7) (by rw [rc_length]; omega))
       have hbb := below_setCells ((Below.refl w4.heap.size w4).trans hb) hG2 0 (rc R)
       have x5 := hv5.out.over (m := rc R) rfl
       unfold rv at hst
       rw [lR.out] at hst hbb x5
       have W5 := Lib.hid x5
       have A5 := Lib.hid (A4.out.on hbb)
       have Y5 := Lib.hid (Y4.out.on hbb)
       have R5 := Lib.hid (R4.out.on hbb R4.out.lt)
       have V5 := Lib.hid (V4.out.on' hbb)
       have B5 := Lib.hid (below_two B4.out hbb)
       have hx5 := Lib.hid (hxw.out.on B5.out (Nat.le_refl _))
       clear hb hbb x5)
    | (go_at_call 10
       refine (refRecRead_any a cap n l _ hn'.out ho'.out hc hx5.out).mono ?_
       rw [hrd.out]
       rintro e w6 ⟨rfl, hb⟩
       have W6 := Lib.hid (W5.out.on' hb)
       have A6 := Lib.hid (A5.out.on hb)
       have Y6 := Lib.hid (Y5.out.on hb)
       have R6 := Lib.hid (R5.out.on hb R5.out.lt)
       have V6 := Lib.hid (V5.out.on' hb)
       have B6 := Lib.hid (below_two B5.out hb)
       clear hb)
    | (clear tk2
       refine wpList_alloc_rec rfl rfl ?_
       intro G4 w7 hv7 hG4 hb
       have hst := run_stR (w := w7) (r := R) (hv7.out.there (o := 0) (n := 7) (by rw [rc_length]; omega))
       have hbb := below_setCells ((Below.refl w6.heap.size w6).trans hb) hG4 0 (rc R)
       have x7 := hv7.out.over (m := rc R) rfl
       unfold rv at hst
       rw [lR.out] at hst hbb x7
       have U7 := Lib.hid x7
       have W7 := Lib.hid (W6.out.on' hbb)
       have A7 := Lib.hid (A6.out.on hbb)
       have Y7 := Lib.hid (Y6.out.on hbb)
       have R7 := Lib.hid (R6.out.on hbb R6.out.lt)
       have V7 := Lib.hid (V6.out.on' hbb)
       have B7 := Lib.hid (below_two B6.out hbb)
       clear hb hbb x7)
    | (go_at_call 9
       refine (recRead_u v1 X _ hXo.out A7.out).mono ?_
       rw [hru.out]
       rintro e w8 ⟨rfl, hb⟩
       have U8 := Lib.hid (U7.out.on' hb)
       have W8 := Lib.hid (W7.out.on' hb)
       have A8 := Lib.hid (A7.out.on hb)
       have Y8 := Lib.hid (Y7.out.on hb)
       have R8 := Lib.hid (R7.out.on hb R7.out.lt)
       have V8 := Lib.hid (V7.out.on' hb)
       have B8 := Lib.hid (below_two B7.out hb)
       clear hb)
    | (clear tk3
       refine wpList_alloc_rec rfl rfl ?_
       intro G6 w9 hv9 hG6 hb
       have hst := run_stR (w := w9) (r := U) (hv9.out.there (o := 0) (n := 7) (by rw [rc_length]; omega))
       have hbb := below_setCells ((Below.refl w8.heap.size w8).trans hb) hG6 0 (rc U)
       have x9 := hv9.out.over (m := rc U) rfl
       unfold rv at hst
       rw [lU.out] at hst hbb x9
       have T9 := Lib.hid x9
       have U9 := Lib.hid (U8.out.on' hbb)
       have W9 := Lib.hid (W8.out.on' hbb)
       have A9 := Lib.hid (A8.out.on hbb)
       have Y9 := Lib.hid (Y8.out.on hbb)
       have R9 := Lib.hid (R8.out.on hbb R8.out.lt)
       have V9 := Lib.hid (V8.out.on' hbb)
       have B9 := Lib.hid (below_two B8.out hbb)
       clear hb hbb x9))
  obtain ⟨C, hCe⟩ : ∃ C, RtC w w1 P Cr Cu l X w.heap.size G2 G4 G6 gl v1 v2 = C := ⟨_, rfl⟩
  have hC7 := Lib.hid (show C (w9.setCells G6 0 Cu).drew by rw [← hCe]; exact RtC.on ⟨V9.out, W9.out, U9.out, T9.out, A9.out, Y9.out, R9.out, B9.out⟩ ((Below.refl _ _).drew))
  have hCC := Lib.hid hCe
  clear hCe hld1 hld2 hst c5 c6
  refine wp_region_at (C := C) (by kernel_rfl) (by kernel_rfl) hC7.out ?_
  rw [← hCC.out]
  rcases hag.out with ⟨e0, e1, e2, e3⟩ | ⟨e0, e1⟩
  · subst e0 e1 e2
    have hcu := (hUP.out e3).symm
    subst hcu
    clear e3
    go_big_quiet_want; go_big_quiet_op; go_big_quiet_on
    go_big_quiet_want; go_big_quiet_op; go_big_quiet_on
    go_big_quiet_want; refine quiet_val (.bool true) (fun _ hC => by unfold Oper.quietAt Oper.quietUpon; go_simp; exact hC.same hXl.out) ?_; go_simp; try go_big_quiet_on
    go_big_quiet_want; go_big_quiet_op; go_big_quiet_on
    go_big_quiet_want; go_big_quiet_op; go_big_quiet_on
    go_big_quiet_want; go_big_quiet_op; go_big_quiet_on
    go_big_quiet_want; refine quiet_val (.bool true) (fun _ _ => by unfold Oper.quietAt Oper.quietUpon; go_simp) ?_; go_simp; try go_big_quiet_on
    go_big_quiet_want; refine quiet_val (.bool true) (fun _ _ => by unfold Oper.quietAt Oper.quietUpon; go_simp) ?_; go_simp; try go_big_quiet_on
    go_big_quiet_want; go_big_quiet_op; go_big_quiet_on
    go_big_quiet_want; refine quiet_val (.agg Cr.toArray) (fun _ hC => by have hq := run_ldR (r := R) (by rw [lR.out]; exact hC.vb.whole); unfold rv at hq; rw [lR.out] at hq; unfold Oper.quietAt Oper.quietUpon; go_simp) ?_; go_simp; try go_big_quiet_on
    go_big_quiet_want; refine quiet_val (.agg Cr.toArray) (fun _ hC => by have hq := run_ldR (r := R) (by rw [lR.out]; exact hC.vc.whole); unfold rv at hq; rw [lR.out] at hq; unfold Oper.quietAt Oper.quietUpon; go_simp) ?_; go_simp; try go_big_quiet_on
    go_big_quiet_want; refine quiet_val (.bool true) (fun _ _ => by unfold Oper.quietAt Oper.quietUpon; go_simp) ?_; go_simp; try go_big_quiet_on
    go_big_quiet_want; refine quiet_val (.bool true) (fun _ _ => by unfold Oper.quietAt Oper.quietUpon; go_simp) ?_; go_simp; try go_big_quiet_on
    go_big_quiet_want; go_big_quiet_op; go_big_quiet_on
    go_big_quiet_want; go_big_quiet_op; go_big_quiet_on
    go_big_quiet_want; go_big_quiet_op; go_big_quiet_on
    go_big_quiet_want; refine quiet_val (.bool true) (fun _ _ => by unfold Oper.quietAt Oper.quietUpon; go_simp) ?_; go_simp; try go_big_quiet_on
    go_big_quiet_want; refine quiet_val (.bool true) (fun _ _ => by unfold Oper.quietAt Oper.quietUpon; go_simp) ?_; go_simp; try go_big_quiet_on
    go_big_quiet_want; go_big_quiet_op; go_big_quiet_on
    go_big_quiet_want; refine quiet_val (.agg P.toArray) (fun _ hC => by have hq := run_ldR (r := r) (by rw [lP.out]; exact hC.va.whole); unfold rv at hq; rw [lP.out] at hq; unfold Oper.quietAt Oper.quietUpon; go_simp) ?_; go_simp; try go_big_quiet_on
    go_big_quiet_want; refine quiet_val (.bool true) (fun _ hC => by unfold Oper.quietAt Oper.quietUpon; go_simp; exact hC.told (ma.out _)) ?_; go_simp; try go_big_quiet_on
    go_big_quiet_want; refine quiet_val (.agg P.toArray) (fun _ hC => by have hq := run_ldR (r := r) (by rw [lP.out]; exact hC.va.whole); unfold rv at hq; rw [lP.out] at hq; unfold Oper.quietAt Oper.quietUpon; go_simp) ?_; go_simp; try go_big_quiet_on
    go_big_quiet_want; refine quiet_val (.bool true) (fun _ hC => by unfold Oper.quietAt Oper.quietUpon; go_simp; exact hC.told (mb.out _)) ?_; go_simp; try go_big_quiet_on
    go_big_quiet_want; refine quiet_val (.bool true) (fun _ _ => by unfold Oper.quietAt Oper.quietUpon; go_simp) ?_; go_simp; try go_big_quiet_on
    go_big_quiet_want; refine quiet_val (.bool true) (fun _ _ => by unfold Oper.quietAt Oper.quietUpon; go_simp) ?_; go_simp; try go_big_quiet_on
    go_big_quiet_want; go_big_quiet_op; go_big_quiet_on
    go_big_quiet_want; go_big_quiet_op; go_big_quiet_on
    go_big_quiet_want; refine quiet_val (.bool true) (fun _ _ => by unfold Oper.quietAt Oper.quietUpon; go_simp) ?_; go_simp; try go_big_quiet_on
    go_big_quiet_want; refine quiet_val (.agg P.toArray) (fun _ hC => by have hq := run_ldR (r := r) (by rw [lP.out]; exact hC.va.whole); unfold rv at hq; rw [lP.out] at hq; unfold Oper.quietAt Oper.quietUpon; go_simp) ?_; go_simp; try go_big_quiet_on
    go_big_quiet_want; refine quiet_val (.bool true) (fun _ hC => by unfold Oper.quietAt Oper.quietUpon; go_simp; exact hC.told (ma.out _)) ?_; go_simp; try go_big_quiet_on
    go_big_quiet_want; refine quiet_val (.bool true) (fun _ _ => by unfold Oper.quietAt Oper.quietUpon; go_simp) ?_; go_simp; try go_big_quiet_on
    go_big_quiet_want; refine quiet_val (.bool true) (fun _ _ => by unfold Oper.quietAt Oper.quietUpon; go_simp) ?_; go_simp; try go_big_quiet_on
    go_big_quiet_want; go_big_quiet_op; go_big_quiet_on
    go_big_quiet_want; go_big_quiet_op; go_big_quiet_on
    go_big_quiet_want; refine quiet_val (.bool false) (fun _ _ => by unfold Oper.quietAt Oper.quietUpon; go_simp) ?_; go_simp; try go_big_quiet_on
    go_big_quiet_want; go_big_quiet_op; go_big_quiet_on
    go_big_quiet_want; go_big_quiet_op; go_big_quiet_on
    go_big_quiet_want; refine quiet_val (.bool true) (fun _ _ => by unfold Oper.quietAt Oper.quietUpon; go_simp) ?_; go_simp; try go_big_quiet_on
    go_big_quiet_want; go_big_quiet_op; go_big_quiet_on
    go_big_quiet_want; refine quiet_val (.agg P.toArray) (fun _ hC => by have hq := run_ldR (r := r) (by rw [lP.out]; exact hC.vd.whole); unfold rv at hq; rw [lP.out] at hq; unfold Oper.quietAt Oper.quietUpon; go_simp) ?_; go_simp; try go_big_quiet_on
    go_big_quiet_want; refine quiet_val (.agg P.toArray) (fun _ hC => by have hq := run_ldR (r := r) (by rw [lP.out]; exact hC.va.whole); unfold rv at hq; rw [lP.out] at hq; unfold Oper.quietAt Oper.quietUpon; go_simp) ?_; go_simp; try go_big_quiet_on
    go_big_quiet_want; refine quiet_val (.bool true) (fun _ _ => by unfold Oper.quietAt Oper.quietUpon; go_simp) ?_; go_simp; try go_big_quiet_on
    go_big_quiet_want; refine quiet_val (.bool true) (fun _ _ => by unfold Oper.quietAt Oper.quietUpon; go_simp) ?_; go_simp; try go_big_quiet_on
    go_big_quiet_want; refine quiet_val (.bool true) (fun _ _ => by unfold Oper.quietAt Oper.quietUpon; go_simp) ?_; go_simp; try go_big_quiet_on
    go_big_quiet_want; refine quiet_val (.bool true) (fun _ _ => by unfold Oper.quietAt Oper.quietUpon; go_simp) ?_; go_simp; try go_big_quiet_on
    go_big_quiet_want; go_big_quiet_op; go_big_quiet_on
    refine wpQuiet_nil ?_
    intro w10 hC
    have xA := Lib.hid hC.x
    have xR := Lib.hid hC.rl
    have xB := Lib.hid hC.wb
    have xw := Lib.hid B1.out.size
    clear hC
    go_wp2_with (first
      | (go_at_call_of 14 v1
         refine (over_u v1 X w10 hXl.out xA.out).mono ?_
         rintro e w11 ⟨rfl, hg⟩
         have hbk := xA.out.block
         have R11 := Lib.hid (xR.out.grown hg (fun e => by have h1 := (hbk gl e.symm).1; have h2 := g1.out; omega))
         have B11 := Lib.hid (xB.out.trans (grownBy_below hg xB.out.size (fun j hj => Nat.le_trans xw.out (hbk j hj).1)))
         clear hg hbk)
      | (go_at_call_of 15 gl
         refine (kept_b gl cap n a l w11 hn'.out (by omega) R11.out (hxw.out.on B11.out (Nat.le_refl _))).mono ?_
         rintro e w12 ⟨rfl, hb⟩
         have B12 := Lib.hid (below_two B11.out hb)
         clear hb)
      | (go_at_call 5
         refine (recAwake_any w12).mono ?_
         rintro e w13 ⟨rfl, hb⟩
         have hend := Lib.hid (below_two B12.out hb)
         clear hb))
    go_ret
    exact ⟨rfl, hend.out⟩
  · subst e0 e1
    go_big_quiet_want; go_big_quiet_op; go_big_quiet_on
    go_big_quiet_want; go_big_quiet_op; go_big_quiet_on
    go_big_quiet_want; refine quiet_val (.bool true) (fun _ hC => by unfold Oper.quietAt Oper.quietUpon; go_simp; exact hC.same hXl.out) ?_; go_simp; try go_big_quiet_on
    go_big_quiet_want; go_big_quiet_op; go_big_quiet_on
    go_big_quiet_want; go_big_quiet_op; go_big_quiet_on
    go_big_quiet_want; go_big_quiet_op; go_big_quiet_on
    go_big_quiet_want; refine quiet_val (.bool true) (fun _ _ => by unfold Oper.quietAt Oper.quietUpon; go_simp) ?_; go_simp; try go_big_quiet_on
    go_big_quiet_want; refine quiet_val (.bool true) (fun _ _ => by unfold Oper.quietAt Oper.quietUpon; go_simp) ?_; go_simp; try go_big_quiet_on
    go_big_quiet_want; go_big_quiet_op; go_big_quiet_on
    go_big_quiet_want; refine quiet_val (.agg Cr.toArray) (fun _ hC => by have hq := run_ldR (r := R) (by rw [lR.out]; exact hC.vb.whole); unfold rv at hq; rw [lR.out] at hq; unfold Oper.quietAt Oper.quietUpon; go_simp) ?_; go_simp; try go_big_quiet_on
    go_big_quiet_want; refine quiet_val (.agg Cr.toArray) (fun _ hC => by have hq := run_ldR (r := R) (by rw [lR.out]; exact hC.vc.whole); unfold rv at hq; rw [lR.out] at hq; unfold Oper.quietAt Oper.quietUpon; go_simp) ?_; go_simp; try go_big_quiet_on
    go_big_quiet_want; refine quiet_val (.bool true) (fun _ _ => by unfold Oper.quietAt Oper.quietUpon; go_simp) ?_; go_simp; try go_big_quiet_on
    go_big_quiet_want; refine quiet_val (.bool true) (fun _ _ => by unfold Oper.quietAt Oper.quietUpon; go_simp) ?_; go_simp; try go_big_quiet_on
    go_big_quiet_want; go_big_quiet_op; go_big_quiet_on
    go_big_quiet_want; go_big_quiet_op; go_big_quiet_on
    go_big_quiet_want; go_big_quiet_op; go_big_quiet_on
    go_big_quiet_want; refine quiet_val (.bool true) (fun _ _ => by unfold Oper.quietAt Oper.quietUpon; go_simp) ?_; go_simp; try go_big_quiet_on
    go_big_quiet_want; refine quiet_val (.bool true) (fun _ _ => by unfold Oper.quietAt Oper.quietUpon; go_simp) ?_; go_simp; try go_big_quiet_on
    go_big_quiet_want; go_big_quiet_op; go_big_quiet_on
    go_big_quiet_want; refine quiet_val (.agg P.toArray) (fun _ hC => by have hq := run_ldR (r := r) (by rw [lP.out]; exact hC.va.whole); unfold rv at hq; rw [lP.out] at hq; unfold Oper.quietAt Oper.quietUpon; go_simp) ?_; go_simp; try go_big_quiet_on
    go_big_quiet_want; refine quiet_val (.bool false) (fun _ hC => by unfold Oper.quietAt Oper.quietUpon; go_simp; exact hC.told (ma.out _)) ?_; go_simp; try go_big_quiet_on
    go_big_quiet_want; refine quiet_val (.agg P.toArray) (fun _ hC => by have hq := run_ldR (r := r) (by rw [lP.out]; exact hC.va.whole); unfold rv at hq; rw [lP.out] at hq; unfold Oper.quietAt Oper.quietUpon; go_simp) ?_; go_simp; try go_big_quiet_on
    go_big_quiet_want; refine quiet_val (.bool false) (fun _ hC => by unfold Oper.quietAt Oper.quietUpon; go_simp; exact hC.told (mb.out _)) ?_; go_simp; try go_big_quiet_on
    go_big_quiet_want; refine quiet_val (.bool true) (fun _ _ => by unfold Oper.quietAt Oper.quietUpon; go_simp) ?_; go_simp; try go_big_quiet_on
    go_big_quiet_want; refine quiet_val (.bool true) (fun _ _ => by unfold Oper.quietAt Oper.quietUpon; go_simp) ?_; go_simp; try go_big_quiet_on
    go_big_quiet_want; go_big_quiet_op; go_big_quiet_on
    go_big_quiet_want; go_big_quiet_op; go_big_quiet_on
    go_big_quiet_want; refine quiet_val (.bool false) (fun _ _ => by unfold Oper.quietAt Oper.quietUpon; go_simp) ?_; go_simp; try go_big_quiet_on
    go_big_quiet_want; refine quiet_val (.agg P.toArray) (fun _ hC => by have hq := run_ldR (r := r) (by rw [lP.out]; exact hC.va.whole); unfold rv at hq; rw [lP.out] at hq; unfold Oper.quietAt Oper.quietUpon; go_simp) ?_; go_simp; try go_big_quiet_on
    go_big_quiet_want; refine quiet_val (.bool false) (fun _ hC => by unfold Oper.quietAt Oper.quietUpon; go_simp; exact hC.told (ma.out _)) ?_; go_simp; try go_big_quiet_on
    go_big_quiet_want; refine quiet_val (.bool true) (fun _ _ => by unfold Oper.quietAt Oper.quietUpon; go_simp) ?_; go_simp; try go_big_quiet_on
    go_big_quiet_want; refine quiet_val (.bool true) (fun _ _ => by unfold Oper.quietAt Oper.quietUpon; go_simp) ?_; go_simp; try go_big_quiet_on
    go_big_quiet_want; go_big_quiet_op; go_big_quiet_on
    go_big_quiet_want; go_big_quiet_op; go_big_quiet_on
    go_big_quiet_want; refine quiet_val (.bool true) (fun _ _ => by unfold Oper.quietAt Oper.quietUpon; go_simp) ?_; go_simp; try go_big_quiet_on
    go_big_quiet_want; go_big_quiet_op; go_big_quiet_on
    go_big_quiet_skip
    go_big_quiet_skip
    go_big_quiet_skip
    go_big_quiet_skip
    go_big_quiet_skip
    go_big_quiet_skip
    go_big_quiet_skip
    go_big_quiet_want; refine quiet_val (.bool true) (fun _ _ => by unfold Oper.quietAt Oper.quietUpon; go_simp) ?_; go_simp; try go_big_quiet_on
    go_big_quiet_want; refine quiet_val (.bool true) (fun _ _ => by unfold Oper.quietAt Oper.quietUpon; go_simp) ?_; go_simp; try go_big_quiet_on
    go_big_quiet_want; go_big_quiet_op; go_big_quiet_on
    refine wpQuiet_nil ?_
    intro w10 hC
    have xA := Lib.hid hC.x
    have xR := Lib.hid hC.rl
    have xB := Lib.hid hC.wb
    have xw := Lib.hid B1.out.size
    clear hC
    go_wp2_with (first
      | (go_at_call_of 14 v1
         refine (over_u v1 X w10 hXl.out xA.out).mono ?_
         rintro e w11 ⟨rfl, hg⟩
         have hbk := xA.out.block
         have R11 := Lib.hid (xR.out.grown hg (fun e => by have h1 := (hbk gl e.symm).1; have h2 := g1.out; omega))
         have B11 := Lib.hid (xB.out.trans (grownBy_below hg xB.out.size (fun j hj => Nat.le_trans xw.out (hbk j hj).1)))
         clear hg hbk)
      | (go_at_call_of 15 gl
         refine (kept_b gl cap n a l w11 hn'.out (by omega) R11.out (hxw.out.on B11.out (Nat.le_refl _))).mono ?_
         rintro e w12 ⟨rfl, hb⟩
         have B12 := Lib.hid (below_two B11.out hb)
         clear hb)
      | (go_at_call 5
         refine (recAwake_any w12).mono ?_
         rintro e w13 ⟨rfl, hb⟩
         have hend := Lib.hid (below_two B12.out hb)
         clear hb))
    go_ret
    exact ⟨rfl, hend.out⟩
theorem recTells_any (r : Rcd) (a : Option Addr) (cap : Nat) (l : List Nat) (w : World) (ho : Octs l) (hc : l.length ≤ cap) (hx : BAt w a l) (hnil : a = none → cap = 0) :
    Calls Try.prog 3 #[rv r, .slice a l.length cap] w (Tells (.bool true) w) := by
  by_cases h : 100 < r.fn.size ∨ 100 < r.tn.size ∨ 200 < l.length
  · exact recTells_long r a cap _ w h
  · exact recTells_main r a cap _ l w (by omega) (by omega) rfl (by omega) ho hc hx hnil
end Go.Proofs.Ytkeihpenelpblaa
