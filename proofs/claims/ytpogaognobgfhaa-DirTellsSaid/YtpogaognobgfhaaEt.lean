/-
  Whether any slots may be, their block, and what any bytes are read as, is the document's; so is what is found in any slots: the walk.
-/
import Derived.Test.YtpogaognobgfhaaEp
import Derived.Test.YtpogaognobgfhaaEo
import Derived.Test.YtpogaognobgfhaaLb
import Derived.Test.YtpogaognobgfhaaKb
import Derived.Test.YtpogaognobgfhaaOb
import Derived.Test.YtpogaognobgfhaaQv
import Derived.Deep.QuietTactic
import Derived.Deep.DeepCutAuto
import Derived.BigQuiet
namespace Go.Proofs.Ytpogaognobgfhaa
open Go.RowKit BigFrame

theorem refDirLay_u (L : List Slt) (w : World) (hL : L.length = 4) :
    Calls Try.prog 11 #[fv L] w fun e w' => ∃ v, e = .returned (.tuple #[v, .int .i64 (lcD L)]) ∧ BV w' v (lyD L) ∧ Below w.heap.size w w' := by
  unfold lyD lcD
  cases h : stand4 L
  · exact (refDirLay_no L w hL h).mono fun e w' ⟨he, hb⟩ => ⟨_, he, ⟨none, 0, 0, rfl, rfl, .inl rfl⟩, hb⟩
  · exact (refDirLay_ok L w hL h).mono fun e w' ⟨g1, cp, he, hg, hc, hr, hb⟩ => ⟨_, he, ⟨_, 128, cp, rfl, secD_length (standP_may (stand4_iff.1 h)), hr⟩, hb⟩
/-- the worlds in which all lies where it lay -/
structure TdC (w w1 : World) (L R : List Slt) (l X : List Nat) (B1 G2 G4 gl : Nat) (v1 v2 : Value) (w' : World) : Prop where
  va : Vw w' 24 B1 (fc L)
  vb : Vw w' 24 G2 (fc R)
  vc : Vw w' 24 G4 (fc R)
  x : Ans w1 w' v1 X
  y : BV w' v2 X
  rl : Row w' gl (marked l)
  wb : Below w.heap.size w w'
theorem TdC.on {w w1 : World} {L R : List Slt} {l X : List Nat} {B1 G2 G4 gl : Nat} {v1 v2 : Value} {w' w'' : World} (h : TdC w w1 L R l X B1 G2 G4 gl v1 v2 w') (hb : Below w'.heap.size w' w'') : TdC w w1 L R l X B1 G2 G4 gl v1 v2 w'' :=
  ⟨h.va.on' hb, h.vb.on' hb, h.vc.on' hb, h.x.on hb, h.y.on hb, h.rl.on hb h.rl.lt, below_two h.wb hb⟩
theorem TdC.told {w w1 : World} {L R : List Slt} {l X : List Nat} {B1 G2 G4 gl : Nat} {v1 v2 v : Value} {w' : World} {f : FuncId} {args : Array Value} (hc : Calls Try.prog f args w' (Tells v w')) (h : TdC w w1 L R l X B1 G2 G4 gl v1 v2 w') :
    Calls Try.prog f args w' fun e w'' => e = .returned v ∧ TdC w w1 L R l X B1 G2 G4 gl v1 v2 w'' := hc.mono fun _ _ ⟨he, hd⟩ => ⟨he, h.on hd⟩
theorem TdC.kept {w w1 : World} {L R : List Slt} {l X : List Nat} {B1 G2 G4 gl : Nat} {v1 v2 v : Value} {w' : World} {f : FuncId} {args : Array Value} (hc : Calls Try.prog f args w' (fun e w2 => e = .returned v ∧ w' = w2)) (h : TdC w w1 L R l X B1 G2 G4 gl v1 v2 w') :
    Calls Try.prog f args w' fun e w'' => e = .returned v ∧ TdC w w1 L R l X B1 G2 G4 gl v1 v2 w'' := hc.mono fun _ _ ⟨he, hd⟩ => ⟨he, hd ▸ h⟩
theorem TdC.same {w w1 : World} {L R : List Slt} {l X : List Nat} {B1 G2 G4 gl : Nat} {v1 v2 : Value} {w' : World} (hX : X.length ≤ 100000) (h : TdC w w1 L R l X B1 G2 G4 gl v1 v2 w') :
    Calls Try.prog 14 #[v1, v2] w' fun e w'' => e = .returned (.bool true) ∧ TdC w w1 L R l X B1 G2 G4 gl v1 v2 w'' := h.told (same_u v1 v2 X w' hX h.x.bv h.y)

attribute [local go_sem ↓] ldL_of ldLs_of stLs_of eqLs_of
theorem dirTells_long (L : List Slt) (a : Option Addr) (cap n : Nat) (nm : ByteArray) (w : World) (hn : 200 < n) :
    Calls Try.prog 3 #[fv L, .slice a n cap, .string nm] w (Tells (.bool true) w) := by
  unfold fv
  go_enter Try.func3, Try.ntmps3
  go_wp2_with (go_at_call 8; refine (dirAwake_any _).mono ?_; rintro e w1 ⟨rfl, hb⟩; have hend := Lib.hid (below_box hb); clear hb)
  go_ret
  exact ⟨rfl, hend.out⟩
theorem dirTells_name (L : List Slt) (a : Option Addr) (cap n : Nat) (nm : ByteArray) (w : World) (hn : n ≤ 200) (h : 100 < nm.size) :
    Calls Try.prog 3 #[fv L, .slice a n cap, .string nm] w (Tells (.bool true) w) := by
  unfold fv
  go_enter Try.func3, Try.ntmps3
  go_wp2_with (go_at_call 8; refine (dirAwake_any _).mono ?_; rintro e w1 ⟨rfl, hb⟩; have hend := Lib.hid (below_box hb); clear hb)
  go_ret
  exact ⟨rfl, hend.out⟩
theorem dirTells_great (L : List Slt) (a : Option Addr) (cap n : Nat) (nm : ByteArray) (w : World) (hL : L.length = 4) (hn : n ≤ 200) (h : nm.size ≤ 100) (hg : bigS L = true) :
    Calls Try.prog 3 #[fv L, .slice a n cap, .string nm] w (Tells (.bool true) w) := by
  have hV := Lib.hid (Vw.alloc w (fc L) 24)
  have hb0 := Lib.hid ((Below.refl w.heap.size w).alloc (Nat.le_refl _) (.cells (fc L).toArray 24))
  have hld := run_ldLs hV.out.whole hL
  have hG := Lib.hid (fun w => great_is L true w hL hg)
  unfold fv at hld hG ⊢
  clear hL hg
  go_enter Try.func3, Try.ntmps3
  go_wp2_with (first
    | (go_at_call 7; refine (hG.out _).mono ?_; rintro e w1 ⟨rfl, hb⟩; have B1 := Lib.hid (below_two hb0.out hb); clear hb)
    | (go_at_call 8; refine (dirAwake_any _).mono ?_; rintro e w2 ⟨rfl, hb⟩; have B2 := Lib.hid (below_two B1.out hb); clear hb))
  go_ret
  exact ⟨rfl, B2.out⟩

set_option maxRecDepth 100000 in
set_option maxHeartbeats 4000000 in
theorem dirTells_main (L : List Slt) (a : Option Addr) (cap n : Nat) (l : List Nat) (nm : ByteArray) (w : World) (hL : L.length = 4) (hg : bigS L = false) (hnm : nm.size ≤ 100) (hn : l.length = n) (h200 : n ≤ 200) (ho : Octs l) (hc : n ≤ cap) (hx : BAt w a l) (hnil : a = none → cap = 0) :
    Calls Try.prog 3 #[fv L, .slice a n cap, .string nm] w (Tells (.bool true) w) := by
  obtain ⟨X, hX⟩ : ∃ X, lyD L = X := ⟨_, rfl⟩
  obtain ⟨cd, hcd⟩ : ∃ cd, lcD L = cd := ⟨_, rfl⟩
  obtain ⟨R, hR⟩ : ∃ R, (readD l).1 = R := ⟨_, rfl⟩
  obtain ⟨rc, hrc⟩ : ∃ rc, (readD l).2 = rc := ⟨_, rfl⟩
  obtain ⟨u, hu⟩ : ∃ u, sl L 0 = u := ⟨_, rfl⟩
  obtain ⟨r1, hr1⟩ : ∃ r, nameB (nb nm) = r := ⟨_, rfl⟩
  obtain ⟨r2, hr2⟩ : ∃ r, mayS u = r := ⟨_, rfl⟩
  obtain ⟨z1, hz1⟩ : ∃ z, findS L nm = z := ⟨_, rfl⟩
  obtain ⟨z2, hz2⟩ : ∃ z, freeS L = z := ⟨_, rfl⟩
  have lR := Lib.hid (show R.length = 4 by rw [← hR]; exact readD_length l)
  have hXl := Lib.hid (show X.length ≤ 100000 by rw [← hX]; exact lyD_length)
  have hrd := Lib.hid (show readDV l = .tuple #[fv R, .int .i64 rc] by unfold readDV; rw [hR, hrc])
  have q1 := Lib.hid (fun w => dirLay_u L w hL)
  have q2 := Lib.hid (fun w => refDirLay_u L w hL)
  rw [hX, hcd] at q1 q2
  have hN1 := Lib.hid (fun w => name_is nm r1 w hr1)
  have hN2 := Lib.hid (fun w => refName_is nm r1 w hr1)
  have hM1 := Lib.hid (fun w => slotMay_is u r2 w hr2)
  have hM2 := Lib.hid (fun w => refMay_is u r2 w hr2)
  have hF1 := Lib.hid (fun w => dirFind_is L nm z1 w hL hz1)
  have hF2 := Lib.hid (fun w => refFind_is L nm z1 w hL hz1)
  have hE1 := Lib.hid (fun w => dirFree_is L z2 w hL hz2)
  have hE2 := Lib.hid (fun w => refFree_is L z2 w hL hz2)
  have hG := Lib.hid (fun w => great_is L false w hL hg)
  have lL := Lib.hid hL
  have hL0 := Lib.hid (show ∀ w', Vw w' 24 w.heap.size (fc L) → w'.rangeAt w.heap.size 0 (sc u) from fun w' h => by have := h.range 0 3; rwa [show ((fc L).drop 0).take 3 = sc (sl L 0) from fc_at (k := 0) (by omega), hu] at this)
  have hn' := Lib.hid hn
  have ho' := Lib.hid ho
  have hnil' := Lib.hid hnil
  have hA0 := (Below.refl w.heap.size w).alloc (Nat.le_refl _) (.cells (fc L).toArray 24)
  have V0 := Lib.hid (Vw.alloc w (fc L) 24)
  have hb0 := Lib.hid hA0
  have hxw := Lib.hid hx
  have hld := run_ldLs V0.out.whole hL
  have heq := fun w => run_eqLs R R w lR.out lR.out
  rw [show decide (R = R) = true from decide_eq_true rfl] at heq
  have hgd := Try.eqGuardLs
  unfold fv at q1 q2 heq hF1 hF2 hE1 hE2 hG hld ⊢
  unfold sv at hM1 hM2
  clear hX hcd hR hrc hu hr1 hr2 hz1 hz2 hn ho hnil hx hA0 hL hg
  go_enter Try.func3, Try.ntmps3
  have tk0 : True := trivial
  have tk1 : True := trivial
  go_upto_region 8 with (first
    | (go_at_call 7
       refine (hG.out _).mono ?_
       rintro e w0 ⟨rfl, hb⟩
       have Va := Lib.hid (V0.out.on' hb)
       have Ba := Lib.hid (below_two hb0.out hb)
       have hxa := Lib.hid (hxw.out.on Ba.out (Nat.le_refl _))
       clear hb)
    | (go_at_call 9
       refine (lend_any a cap n l _ hn'.out (by omega) hxa.out hnil'.out).mono ?_
       rintro e w1 ⟨gl, rfl, hgl, hr, hb⟩
       have R1 := Lib.hid hr
       have g1 := Lib.hid hr.lt
       have V1 := Lib.hid (Va.out.on' hb)
       have B1 := Lib.hid (below_two Ba.out hb)
       have hld1 := run_ldLs V1.out.whole lL.out
       unfold fv at hld1
       clear hr hb hgl)
    | (go_at_call 10
       refine (q1.out _).mono ?_
       rintro e w2 ⟨v1, rfl, hA, hb⟩
       have A2 := Lib.hid hA
       have R2 := Lib.hid (R1.out.on hb R1.out.lt)
       have V2 := Lib.hid (V1.out.on' hb)
       have B2 := Lib.hid (below_two B1.out hb)
       have hld2 := run_ldLs V2.out.whole lL.out
       unfold fv at hld2
       clear hA hb)
    | (go_at_call 11
       refine (q2.out _).mono ?_
       rintro e w3 ⟨v2, rfl, hV, hb⟩
       have A3 := Lib.hid (A2.out.on hb)
       have Y3 := Lib.hid hV
       have R3 := Lib.hid (R2.out.on hb R2.out.lt)
       have V3 := Lib.hid (V2.out.on' hb)
       have B3 := Lib.hid (below_two B2.out hb)
       clear hV hb)
    | (go_at_call 12
       refine (dirRead_any _ _ n l _ hn'.out ho'.out (by omega) R3.out.bat_front).mono ?_
       rw [hrd.out]
       unfold fv
       rintro e w4 ⟨rfl, hb⟩
       have A4 := Lib.hid (A3.out.on hb)
       have Y4 := Lib.hid (Y3.out.on hb)
       have R4 := Lib.hid (R3.out.on hb R3.out.lt)
       have V4 := Lib.hid (V3.out.on' hb)
       have B4 := Lib.hid (below_two B3.out hb)
       clear hb)
    | (go_at_call 13
       refine (refDirRead_any a cap n l _ hn'.out ho'.out hc hx5.out).mono ?_
       rw [hrd.out]
       unfold fv
       rintro e w6 ⟨rfl, hb⟩
       have W6 := Lib.hid (W5.out.on' hb)
       have A6 := Lib.hid (A5.out.on hb)
       have Y6 := Lib.hid (Y5.out.on hb)
       have R6 := Lib.hid (R5.out.on hb R5.out.lt)
       have V6 := Lib.hid (V5.out.on' hb)
       have B6 := Lib.hid (below_two B5.out hb)
       clear hb)
    | (clear tk0
       refine wpList_alloc_slots rfl rfl ?_
       intro G2 w5 hv5 hG2 hb
       have hst := run_stLs (w := w5) lR.out (hv5.out.there (o := 0) (n := 12) (by rw [fc_z4]; omega))
       have hbb := below_setCells ((Below.refl w4.heap.size w4).trans hb) hG2 0 (fc R)
       have W5 := Lib.hid (hv5.out.over (m := fc R) (by rw [fc_length, lR.out, fc_z4]))
       have A5 := Lib.hid (A4.out.on hbb)
       have Y5 := Lib.hid (Y4.out.on hbb)
       have R5 := Lib.hid (R4.out.on hbb R4.out.lt)
       have V5 := Lib.hid (V4.out.on' hbb)
       have B5 := Lib.hid (below_two B4.out hbb)
       have hx5 := Lib.hid (hxw.out.on B5.out (Nat.le_refl _))
       unfold fv at hst
       clear hb hbb)
    | (clear tk1
       refine wpList_alloc_slots rfl rfl ?_
       intro G4 w7 hv7 hG4 hb
       have hst := run_stLs (w := w7) lR.out (hv7.out.there (o := 0) (n := 12) (by rw [fc_z4]; omega))
       have hbb := below_setCells ((Below.refl w6.heap.size w6).trans hb) hG4 0 (fc R)
       have U7 := Lib.hid (hv7.out.over (m := fc R) (by rw [fc_length, lR.out, fc_z4]))
       have W7 := Lib.hid (W6.out.on' hbb)
       have A7 := Lib.hid (A6.out.on hbb)
       have Y7 := Lib.hid (Y6.out.on hbb)
       have R7 := Lib.hid (R6.out.on hbb R6.out.lt)
       have V7 := Lib.hid (V6.out.on' hbb)
       have B7 := Lib.hid (below_two B6.out hbb)
       unfold fv at hst
       clear hb hbb))
  obtain ⟨C, hCe⟩ : ∃ C, TdC w w1 L R l X w.heap.size G2 G4 gl v1 v2 = C := ⟨_, rfl⟩
  have hC7 := Lib.hid (show C (w7.setCells G4 0 (fc R)).drew by rw [← hCe]; exact TdC.on ⟨V7.out, W7.out, U7.out, A7.out, Y7.out, R7.out, B7.out⟩ ((Below.refl _ _).drew))
  have hCC := Lib.hid hCe
  clear hCe hld hld1 hld2 hst
  refine wp_region_at (C := C) (by kernel_rfl) (by kernel_rfl) hC7.out ?_
  rw [← hCC.out]
  go_big_quiet_want; go_big_quiet_op; go_big_quiet_on
  go_big_quiet_want; go_big_quiet_op; go_big_quiet_on
  go_big_quiet_want; refine quiet_val (.bool true) (fun _ hC => by unfold Oper.quietAt Oper.quietUpon; go_simp; exact hC.same hXl.out) ?_; go_simp; try go_big_quiet_on
  go_big_quiet_want; go_big_quiet_op; go_big_quiet_on
  go_big_quiet_want; go_big_quiet_op; go_big_quiet_on
  go_big_quiet_want; go_big_quiet_op; go_big_quiet_on
  go_big_quiet_want; refine quiet_val (.bool true) (fun _ _ => by unfold Oper.quietAt Oper.quietUpon; go_simp) ?_; go_simp; try go_big_quiet_on
  go_big_quiet_want; refine quiet_val (.bool true) (fun _ _ => by unfold Oper.quietAt Oper.quietUpon; go_simp) ?_; go_simp; try go_big_quiet_on
  go_big_quiet_want; go_big_quiet_op; go_big_quiet_on
  go_big_quiet_want; refine quiet_val (.agg (fc R).toArray) (fun _ hC => by have hq := run_ldLs hC.vb.whole lR.out; unfold fv at hq; unfold Oper.quietAt Oper.quietUpon; go_simp) ?_; go_simp; try go_big_quiet_on
  go_big_quiet_want; refine quiet_val (.agg (fc R).toArray) (fun _ hC => by have hq := run_ldLs hC.vc.whole lR.out; unfold fv at hq; unfold Oper.quietAt Oper.quietUpon; go_simp) ?_; go_simp; try go_big_quiet_on
  go_big_quiet_want; refine quiet_val (.bool true) (fun _ _ => by unfold Oper.quietAt Oper.quietUpon; go_simp) ?_; go_simp; try go_big_quiet_on
  go_big_quiet_want; refine quiet_val (.bool true) (fun _ _ => by unfold Oper.quietAt Oper.quietUpon; go_simp) ?_; go_simp; try go_big_quiet_on
  go_big_quiet_want; go_big_quiet_op; go_big_quiet_on
  go_big_quiet_want; go_big_quiet_op; go_big_quiet_on
  go_big_quiet_want; go_big_quiet_op; go_big_quiet_on
  go_big_quiet_want; refine quiet_val (.bool true) (fun _ _ => by unfold Oper.quietAt Oper.quietUpon; go_simp) ?_; go_simp; try go_big_quiet_on
  go_big_quiet_want; refine quiet_val (.bool true) (fun _ _ => by unfold Oper.quietAt Oper.quietUpon; go_simp) ?_; go_simp; try go_big_quiet_on
  go_big_quiet_want; go_big_quiet_op; go_big_quiet_on
  go_big_quiet_want; go_big_quiet_op; go_big_quiet_on
  go_big_quiet_want; refine quiet_val (.bool r1) (fun _ hC => by unfold Oper.quietAt Oper.quietUpon; go_simp; exact hC.kept (hN1.out _)) ?_; go_simp; try go_big_quiet_on
  go_big_quiet_want; go_big_quiet_op; go_big_quiet_on
  go_big_quiet_want; refine quiet_val (.bool r1) (fun _ hC => by unfold Oper.quietAt Oper.quietUpon; go_simp; exact hC.kept (hN2.out _)) ?_; go_simp; try go_big_quiet_on
  go_big_quiet_want; refine quiet_val (.bool true) (fun _ _ => by unfold Oper.quietAt Oper.quietUpon; go_simp) ?_; go_simp; try go_big_quiet_on
  go_big_quiet_want; refine quiet_val (.bool true) (fun _ _ => by unfold Oper.quietAt Oper.quietUpon; go_simp) ?_; go_simp; try go_big_quiet_on
  go_big_quiet_want; go_big_quiet_op; go_big_quiet_on
  go_big_quiet_want; refine quiet_val (.pointer (some ⟨w.heap.size, 0, none⟩)) (fun _ _ => by unfold Oper.quietAt Oper.quietUpon; go_simp) ?_; go_simp; try go_big_quiet_on
  go_big_quiet_want; refine quiet_val (.agg (sc u).toArray) (fun _ hC => by have hq := run_ldL (hL0.out _ hC.va); unfold sv at hq; unfold Oper.quietAt Oper.quietUpon; go_simp) ?_; go_simp; try go_big_quiet_on
  go_big_quiet_want; refine quiet_val (.bool r2) (fun _ hC => by unfold Oper.quietAt Oper.quietUpon; go_simp; exact hC.told (hM1.out _)) ?_; go_simp; try go_big_quiet_on
  go_big_quiet_want; refine quiet_val (.pointer (some ⟨w.heap.size, 0, none⟩)) (fun _ _ => by unfold Oper.quietAt Oper.quietUpon; go_simp) ?_; go_simp; try go_big_quiet_on
  go_big_quiet_want; refine quiet_val (.agg (sc u).toArray) (fun _ hC => by have hq := run_ldL (hL0.out _ hC.va); unfold sv at hq; unfold Oper.quietAt Oper.quietUpon; go_simp) ?_; go_simp; try go_big_quiet_on
  go_big_quiet_want; refine quiet_val (.bool r2) (fun _ hC => by unfold Oper.quietAt Oper.quietUpon; go_simp; exact hC.told (hM2.out _)) ?_; go_simp; try go_big_quiet_on
  go_big_quiet_want; refine quiet_val (.bool true) (fun _ _ => by unfold Oper.quietAt Oper.quietUpon; go_simp) ?_; go_simp; try go_big_quiet_on
  go_big_quiet_want; refine quiet_val (.bool true) (fun _ _ => by unfold Oper.quietAt Oper.quietUpon; go_simp) ?_; go_simp; try go_big_quiet_on
  go_big_quiet_want; go_big_quiet_op; go_big_quiet_on
  go_big_quiet_want; refine quiet_val (.agg (fc L).toArray) (fun _ hC => by have hq := run_ldLs hC.va.whole lL.out; unfold fv at hq; unfold Oper.quietAt Oper.quietUpon; go_simp) ?_; go_simp; try go_big_quiet_on
  go_big_quiet_want; go_big_quiet_op; go_big_quiet_on
  go_big_quiet_want; refine quiet_val (.int .i64 z1) (fun _ hC => by unfold Oper.quietAt Oper.quietUpon; go_simp; exact hC.told (hF1.out _)) ?_; go_simp; try go_big_quiet_on
  go_big_quiet_want; refine quiet_val (.agg (fc L).toArray) (fun _ hC => by have hq := run_ldLs hC.va.whole lL.out; unfold fv at hq; unfold Oper.quietAt Oper.quietUpon; go_simp) ?_; go_simp; try go_big_quiet_on
  go_big_quiet_want; go_big_quiet_op; go_big_quiet_on
  go_big_quiet_want; refine quiet_val (.int .i64 z1) (fun _ hC => by unfold Oper.quietAt Oper.quietUpon; go_simp; exact hC.told (hF2.out _)) ?_; go_simp; try go_big_quiet_on
  go_big_quiet_want; refine quiet_val (.bool true) (fun _ _ => by unfold Oper.quietAt Oper.quietUpon; go_simp) ?_; go_simp; try go_big_quiet_on
  go_big_quiet_want; refine quiet_val (.bool true) (fun _ _ => by unfold Oper.quietAt Oper.quietUpon; go_simp) ?_; go_simp; try go_big_quiet_on
  go_big_quiet_want; go_big_quiet_op; go_big_quiet_on
  go_big_quiet_want; refine quiet_val (.agg (fc L).toArray) (fun _ hC => by have hq := run_ldLs hC.va.whole lL.out; unfold fv at hq; unfold Oper.quietAt Oper.quietUpon; go_simp) ?_; go_simp; try go_big_quiet_on
  go_big_quiet_want; refine quiet_val (.int .i64 z2) (fun _ hC => by unfold Oper.quietAt Oper.quietUpon; go_simp; exact hC.told (hE1.out _)) ?_; go_simp; try go_big_quiet_on
  go_big_quiet_want; refine quiet_val (.agg (fc L).toArray) (fun _ hC => by have hq := run_ldLs hC.va.whole lL.out; unfold fv at hq; unfold Oper.quietAt Oper.quietUpon; go_simp) ?_; go_simp; try go_big_quiet_on
  go_big_quiet_want; refine quiet_val (.int .i64 z2) (fun _ hC => by unfold Oper.quietAt Oper.quietUpon; go_simp; exact hC.told (hE2.out _)) ?_; go_simp; try go_big_quiet_on
  go_big_quiet_want; refine quiet_val (.bool true) (fun _ _ => by unfold Oper.quietAt Oper.quietUpon; go_simp) ?_; go_simp; try go_big_quiet_on
  go_big_quiet_want; refine quiet_val (.bool true) (fun _ _ => by unfold Oper.quietAt Oper.quietUpon; go_simp) ?_; go_simp; try go_big_quiet_on
  go_big_quiet_want; go_big_quiet_op; go_big_quiet_on
  refine wpQuiet_nil ?_
  intro w10 hC
  have xA := Lib.hid hC.x
  have xR := Lib.hid hC.rl
  have xB := Lib.hid hC.wb
  have xw := Lib.hid B1.out.size
  clear hC
  go_wp2_with (first
    | (go_at_call_of 23 v1
       refine (over_u v1 X w10 hXl.out xA.out).mono ?_
       rintro e w11 ⟨rfl, hg⟩
       have hbk := xA.out.block
       have R11 := Lib.hid (xR.out.grown hg (fun e => by have h1 := (hbk gl e.symm).1; have h2 := g1.out; omega))
       have B11 := Lib.hid (xB.out.trans (grownBy_below hg xB.out.size (fun j hj => Nat.le_trans xw.out (hbk j hj).1)))
       clear hg hbk)
    | (go_at_call_of 24 gl
       refine (kept_b gl cap n a l w11 hn'.out (by omega) R11.out (hxw.out.on B11.out (Nat.le_refl _))).mono ?_
       rintro e w12 ⟨rfl, hb⟩
       have B12 := Lib.hid (below_two B11.out hb)
       clear hb)
    | (go_at_call 8
       refine (dirAwake_any w12).mono ?_
       rintro e w13 ⟨rfl, hb⟩
       have hend := Lib.hid (below_two B12.out hb)
       clear hb))
  go_ret
  exact ⟨rfl, hend.out⟩
theorem dirTells_any (L : List Slt) (a : Option Addr) (cap : Nat) (l : List Nat) (nm : ByteArray) (w : World) (hL : L.length = 4) (ho : Octs l) (hc : l.length ≤ cap) (hx : BAt w a l) (hnil : a = none → cap = 0) :
    Calls Try.prog 3 #[fv L, .slice a l.length cap, .string nm] w (Tells (.bool true) w) := by
  by_cases h : 200 < l.length
  · exact dirTells_long L a cap _ nm w h
  · by_cases h2 : 100 < nm.size
    · exact dirTells_name L a cap _ nm w (by omega) h2
    · cases hg : bigS L
      · exact dirTells_main L a cap _ l nm w hL hg (by omega) rfl (by omega) ho hc hx hnil
      · exact dirTells_great L a cap _ nm w hL (by omega) (by omega) hg
end Go.Proofs.Ytpogaognobgfhaa
