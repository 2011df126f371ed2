/-
  Blocks of pointers that may be are alike just if the pointers are; with a byte another one there are none: the walk.
-/
import Derived.Test.YtdpmpchmbjcocaaHj
import Derived.Test.YtdpmpchmbjcocaaLo
import Derived.Deep.QuietTactic
import Derived.Deep.DeepCutAuto
import Derived.BigQuiet
namespace Go.Proofs.Ytdpmpchmbjcocaa
open Go.RowKit BigFrame

/-- two lists and two sectors lie where they lay -/
structure PaC (w : World) (p q : List Int) (X Y : List Nat) (B1 B2 g1 g2 : Nat) (w' : World) : Prop where
  va : Vi w' 22 B1 p
  vb : Vi w' 22 B2 q
  x : Row w' g1 X
  y : Row w' g2 Y
  wb : Below w.heap.size w w'
theorem PaC.on {w : World} {p q : List Int} {X Y : List Nat} {B1 B2 g1 g2 : Nat} {w' w'' : World} (h : PaC w p q X Y B1 B2 g1 g2 w') (hb : Below w'.heap.size w' w'') : PaC w p q X Y B1 B2 g1 g2 w'' :=
  ⟨h.va.on' hb, h.vb.on' hb, h.x.on hb h.x.lt, h.y.on hb h.y.lt, below_two h.wb hb⟩
theorem PaC.told {w : World} {p q : List Int} {X Y : List Nat} {B1 B2 g1 g2 : Nat} {w' : World} {v : Value} {f : FuncId} {args : Array Value} (hc : Calls Try.prog f args w' (fun e w'' => e = .returned v ∧ Below w'.heap.size w' w'')) (h : PaC w p q X Y B1 B2 g1 g2 w') :
    Calls Try.prog f args w' fun e w'' => e = .returned v ∧ PaC w p q X Y B1 B2 g1 g2 w'' := hc.mono fun _ _ ⟨he, hd⟩ => ⟨he, h.on hd⟩
/-- three lists lie where they lay -/
structure PbC (w : World) (p q R : List Int) (B1 B2 G : Nat) (w' : World) : Prop where
  va : Vi w' 22 B1 p
  vb : Vi w' 22 B2 q
  vc : Vi w' 22 G R
  wb : Below w.heap.size w w'
theorem PbC.on {w : World} {p q R : List Int} {B1 B2 G : Nat} {w' w'' : World} (h : PbC w p q R B1 B2 G w') (hb : Below w'.heap.size w' w'') : PbC w p q R B1 B2 G w'' :=
  ⟨h.va.on' hb, h.vb.on' hb, h.vc.on' hb, below_two h.wb hb⟩
theorem PbC.told {w : World} {p q R : List Int} {B1 B2 G : Nat} {w' : World} {v : Value} {f : FuncId} {args : Array Value} (hc : Calls Try.prog f args w' (Tells v w')) (h : PbC w p q R B1 B2 G w') :
    Calls Try.prog f args w' fun e w'' => e = .returned v ∧ PbC w p q R B1 B2 G w'' := hc.mono fun _ _ ⟨he, hd⟩ => ⟨he, h.on hd⟩

attribute [local go_sem ↓] ldT_of stT_of bdT_of eqT_of
set_option maxRecDepth 100000 in
set_option maxHeartbeats 2000000 in
theorem ptrApart_nn (p q : List Int) (z : Int) (d : Nat) (w : World) (hp : p.length = 12) (hq : q.length = 12) (h1 : may12 p = false) (h2 : may12 q = false) :
    Calls Try.prog 4 #[av p, av q, .int .i64 z, .int .u8 (d : Int)] w (Tells (.bool true) w) := by
  have lp := Lib.hid hp
  have lq := Lib.hid hq
  have hb1 := (Below.refl w.heap.size w).alloc (Nat.le_refl _) (.cells (iv p).toArray 22)
  have hb2 := (Below.refl (w.alloc (.cells (iv p).toArray 22)).heap.size (w.alloc (.cells (iv p).toArray 22))).alloc (Nat.le_refl _) (.cells (iv q).toArray 22)
  have vA := (Vi.alloc w p 22).on' hb2
  have vB := Vi.alloc (w.alloc (.cells (iv p).toArray 22)) q 22
  have hsz : (w.alloc (.cells (iv p).toArray 22)).heap.size = w.heap.size + 1 := by simp
  rw [hsz] at vB
  have B0 := Lib.hid (below_two hb1 hb2)
  have VA := Lib.hid vA
  have VB := Lib.hid vB
  have hld1 := run_ldT vA.whole hp
  have qa := Lib.hid (fun w => ptrLay_no p w hp h1)
  have qb := Lib.hid (fun w => ptrLay_no q w hq h2)
  unfold av at hld1 qa qb ⊢
  clear hb1 hb2 vA vB hsz hp hq h1 h2
  go_enter Try.func4, Try.ntmps4
  have tk0 : True := trivial
  go_wp2_with (first
    | (go_at_call 7; clear tk0; refine (qa.out _).mono ?_; unfold noPtr; rintro e w1 ⟨rfl, hd⟩; have VB1 := Lib.hid (VB.out.on' hd); have B1 := Lib.hid (below_two B0.out hd); have hld2 := run_ldT VB1.out.whole lq.out; unfold av at hld2; clear hd)
    | (go_at_call 7; refine (qb.out _).mono ?_; unfold noPtr; rintro e w2 ⟨rfl, hd⟩; have B2 := Lib.hid (below_two B1.out hd); clear hd)
    | (go_at_call 5; refine (ptrAwake_any _).mono ?_; rintro e w3 ⟨rfl, hd⟩; have hend := Lib.hid (below_two B2.out hd); clear hd))
  go_ret
  exact ⟨rfl, hend.out⟩
attribute [local go_sem ↓] ldT_of stT_of bdT_of eqT_of
set_option maxRecDepth 100000 in
set_option maxHeartbeats 2000000 in
theorem ptrApart_ny (p q : List Int) (z : Int) (d : Nat) (w : World) (hp : p.length = 12) (hq : q.length = 12) (h1 : may12 p = false) (h2 : may12 q = true) :
    Calls Try.prog 4 #[av p, av q, .int .i64 z, .int .u8 (d : Int)] w (Tells (.bool true) w) := by
  have lp := Lib.hid hp
  have lq := Lib.hid hq
  have hb1 := (Below.refl w.heap.size w).alloc (Nat.le_refl _) (.cells (iv p).toArray 22)
  have hb2 := (Below.refl (w.alloc (.cells (iv p).toArray 22)).heap.size (w.alloc (.cells (iv p).toArray 22))).alloc (Nat.le_refl _) (.cells (iv q).toArray 22)
  have vA := (Vi.alloc w p 22).on' hb2
  have vB := Vi.alloc (w.alloc (.cells (iv p).toArray 22)) q 22
  have hsz : (w.alloc (.cells (iv p).toArray 22)).heap.size = w.heap.size + 1 := by simp
  rw [hsz] at vB
  have B0 := Lib.hid (below_two hb1 hb2)
  have VA := Lib.hid vA
  have VB := Lib.hid vB
  have hld1 := run_ldT vA.whole hp
  have qa := Lib.hid (fun w => ptrLay_no p w hp h1)
  have qb := Lib.hid (fun w => ptrLay_ok q w hq h2)
  unfold av at hld1 qa qb ⊢
  clear hb1 hb2 vA vB hsz hp hq h1 h2
  go_enter Try.func4, Try.ntmps4
  have tk0 : True := trivial
  go_wp2_with (first
    | (go_at_call 7; clear tk0; refine (qa.out _).mono ?_; unfold noPtr; rintro e w1 ⟨rfl, hd⟩; have VB1 := Lib.hid (VB.out.on' hd); have B1 := Lib.hid (below_two B0.out hd); have hld2 := run_ldT VB1.out.whole lq.out; unfold av at hld2; clear hd)
    | (go_at_call 7; refine (qb.out _).mono ?_; rintro e w2 ⟨g2, rfl, hg2, hr2, hd⟩; have B2 := Lib.hid (below_two B1.out hd); clear hd)
    | (go_at_call 5; refine (ptrAwake_any _).mono ?_; rintro e w3 ⟨rfl, hd⟩; have hend := Lib.hid (below_two B2.out hd); clear hd))
  go_ret
  exact ⟨rfl, hend.out⟩
attribute [local go_sem ↓] ldT_of stT_of bdT_of eqT_of
set_option maxRecDepth 100000 in
set_option maxHeartbeats 2000000 in
theorem ptrApart_yn (p q : List Int) (z : Int) (d : Nat) (w : World) (hp : p.length = 12) (hq : q.length = 12) (h1 : may12 p = true) (h2 : may12 q = false) :
    Calls Try.prog 4 #[av p, av q, .int .i64 z, .int .u8 (d : Int)] w (Tells (.bool true) w) := by
  have lp := Lib.hid hp
  have lq := Lib.hid hq
  have hb1 := (Below.refl w.heap.size w).alloc (Nat.le_refl _) (.cells (iv p).toArray 22)
  have hb2 := (Below.refl (w.alloc (.cells (iv p).toArray 22)).heap.size (w.alloc (.cells (iv p).toArray 22))).alloc (Nat.le_refl _) (.cells (iv q).toArray 22)
  have vA := (Vi.alloc w p 22).on' hb2
  have vB := Vi.alloc (w.alloc (.cells (iv p).toArray 22)) q 22
  have hsz : (w.alloc (.cells (iv p).toArray 22)).heap.size = w.heap.size + 1 := by simp
  rw [hsz] at vB
  have B0 := Lib.hid (below_two hb1 hb2)
  have VA := Lib.hid vA
  have VB := Lib.hid vB
  have hld1 := run_ldT vA.whole hp
  have qa := Lib.hid (fun w => ptrLay_ok p w hp h1)
  have qb := Lib.hid (fun w => ptrLay_no q w hq h2)
  unfold av at hld1 qa qb ⊢
  clear hb1 hb2 vA vB hsz hp hq h1 h2
  go_enter Try.func4, Try.ntmps4
  have tk0 : True := trivial
  go_wp2_with (first
    | (go_at_call 7; clear tk0; refine (qa.out _).mono ?_; rintro e w1 ⟨g1, rfl, hg1, hr1, hd⟩; have VB1 := Lib.hid (VB.out.on' hd); have B1 := Lib.hid (below_two B0.out hd); have hld2 := run_ldT VB1.out.whole lq.out; unfold av at hld2; clear hd)
    | (go_at_call 7; refine (qb.out _).mono ?_; unfold noPtr; rintro e w2 ⟨rfl, hd⟩; have B2 := Lib.hid (below_two B1.out hd); clear hd)
    | (go_at_call 5; refine (ptrAwake_any _).mono ?_; rintro e w3 ⟨rfl, hd⟩; have hend := Lib.hid (below_two B2.out hd); clear hd))
  go_ret
  exact ⟨rfl, hend.out⟩
attribute [local go_sem ↓] ldT_of stT_of bdT_of eqT_of
set_option maxRecDepth 100000 in
set_option maxHeartbeats 4000000 in
theorem ptrApart_both (p q : List Int) (z : Int) (d : Nat) (w : World) (hp : p.length = 12) (hq : q.length = 12) (hd8 : d < 256) (h1 : may12 p = true) (h2 : may12 q = true) :
    Calls Try.prog 4 #[av p, av q, .int .i64 z, .int .u8 (d : Int)] w (Tells (.bool true) w) := by
  have lp := Lib.hid hp
  have lq := Lib.hid hq
  have hb1 := (Below.refl w.heap.size w).alloc (Nat.le_refl _) (.cells (iv p).toArray 22)
  have hb2 := (Below.refl (w.alloc (.cells (iv p).toArray 22)).heap.size (w.alloc (.cells (iv p).toArray 22))).alloc (Nat.le_refl _) (.cells (iv q).toArray 22)
  have vA := (Vi.alloc w p 22).on' hb2
  have vB := Vi.alloc (w.alloc (.cells (iv p).toArray 22)) q 22
  have hsz : (w.alloc (.cells (iv p).toArray 22)).heap.size = w.heap.size + 1 := by simp
  rw [hsz] at vB
  have B0 := Lib.hid (below_two hb1 hb2)
  have VA := Lib.hid vA
  have VB := Lib.hid vB
  have hld1 := run_ldT vA.whole hp
  have qa := Lib.hid (fun w => ptrLay_ok p w hp h1)
  have qb := Lib.hid (fun w => ptrLay_ok q w hq h2)
  obtain ⟨r, hr0⟩ : ∃ r, decide (p = q) = r := ⟨_, rfl⟩
  obtain ⟨r0, hr1⟩ : ∃ r, decide (q = zz 12) = r := ⟨_, rfl⟩
  obtain ⟨Z, hZ⟩ : ∃ Z, zz 12 = Z := ⟨_, rfl⟩
  have lZ := Lib.hid (show Z.length = 12 by rw [← hZ]; rfl)
  have hr := Lib.hid (show decide (sec12 p = sec12 q) = r by rw [sec12_eq hp hq h1 h2, hr0])
  have hE := Lib.hid (fun w => ptrEmpty_any q r0 w hq hr1)
  have hrd := Lib.hid (readPV_sec hp h1)
  have hrz := Lib.hid (show ∀ k, k < 128 → 0 < d → readPV ((sec12 p).set k (bz (sec12 p) k ^^^ d)) = .tuple #[av Z, .int .i64 3] from fun k hk h0 => by unfold readPV; rw [readP_flip hk h0 hd8, hZ])
  have hsp := Lib.hid (sec12_length p)
  have hsq := Lib.hid (sec12_length q)
  have hso := Lib.hid (sec12_octs p)
  have heq := fun w => run_eqT p q w hp hq
  rw [hr0] at heq
  have hepp := fun w => run_eqT p p w hp hp
  rw [show decide (p = p) = true from decide_eq_true rfl] at hepp
  rw [hZ] at hr1
  have hez := fun w => run_eqT q Z w hq lZ.out
  rw [hr1] at hez
  have hgd := Try.eqGuardT
  have hbd := run_bd0T
  rw [hZ] at hbd
  unfold av at hld1 qa qb heq hepp hez hbd hE ⊢
  have hZ' := Lib.hid hZ
  clear hb1 hb2 vA vB hsz hp hq h1 h2 hr0 hr1 hZ
  go_enter Try.func4, Try.ntmps4
  have tk0 : True := trivial
  go_upto_region 5 with (first
    | (go_at_call 7; clear tk0; refine (qa.out _).mono ?_; rintro e w1 ⟨g1, rfl, hg1, hrr, hd⟩; have X1 := Lib.hid (show Row w1 g1 (sec12 p) from hrr); have VA1 := Lib.hid (VA.out.on' hd); have VB1 := Lib.hid (VB.out.on' hd); have B1 := Lib.hid (below_two B0.out hd); have hg1' := Lib.hid (Nat.le_trans B0.out.size hg1); have hg1b := Lib.hid (Nat.lt_of_lt_of_le VB.out.lt hg1); have hld2 := run_ldT VB1.out.whole lq.out; unfold av at hld2; clear hd hrr)
    | (go_at_call 7; refine (qb.out _).mono ?_; rintro e w2 ⟨g2, rfl, hg2, hrr, hd⟩; have C2 := Lib.hid (show PaC w p q (sec12 p) (sec12 q) w.heap.size (w.heap.size + 1) g1 g2 w2 from ⟨VA1.out.on' hd, VB1.out.on' hd, X1.out.on hd X1.out.lt, hrr, below_two B1.out hd⟩); have hn12 := Lib.hid (Nat.lt_of_lt_of_le X1.out.lt hg2); clear hd hrr))
  obtain ⟨C, hCe⟩ : ∃ C, PaC w p q (sec12 p) (sec12 q) w.heap.size (w.heap.size + 1) g1 g2 = C := ⟨_, rfl⟩
  have hC7 := Lib.hid (show C w2.drew by rw [← hCe]; exact C2.out.on ((Below.refl _ _).drew))
  have hCC := Lib.hid hCe
  clear hCe hld1 hld2
  refine wp_region_at (C := C) (by kernel_rfl) (by kernel_rfl) hC7.out ?_
  rw [← hCC.out]
  go_big_quiet_want; go_big_quiet_op; go_big_quiet_on
  go_big_quiet_want; go_big_quiet_op; go_big_quiet_on
  go_big_quiet_want; refine quiet_val (.bool r) (fun _ hC => by unfold Oper.quietAt Oper.quietUpon; go_simp; exact hC.told (same_r _ _ _ _ 128 _ _ r _ hsp.out hsq.out hr.out (by omega) hC.x.bat hC.y.bat)) ?_; go_simp; try go_big_quiet_on
  go_big_quiet_want; refine quiet_val (.agg (iv p).toArray) (fun _ hC => by have hq := run_ldT hC.va.whole lp.out; unfold av at hq; unfold Oper.quietAt Oper.quietUpon; go_simp) ?_; go_simp; try go_big_quiet_on
  go_big_quiet_want; refine quiet_val (.agg (iv q).toArray) (fun _ hC => by have hq := run_ldT hC.vb.whole lq.out; unfold av at hq; unfold Oper.quietAt Oper.quietUpon; go_simp) ?_; go_simp; try go_big_quiet_on
  go_big_quiet_want; refine quiet_val (.bool r) (fun _ _ => by unfold Oper.quietAt Oper.quietUpon; go_simp) ?_; go_simp; try go_big_quiet_on
  go_big_quiet_want; refine quiet_val (.bool true) (fun _ _ => by unfold Oper.quietAt Oper.quietUpon; go_simp) ?_; go_simp; try go_big_quiet_on
  go_big_quiet_want; go_big_quiet_op; go_big_quiet_on
  refine wpQuiet_nil ?_
  intro w3 hC
  have C3 := Lib.hid hC
  clear hC
  have tk1 : True := trivial
  go_upto_region 7 with (go_at_call 15; refine (low_c z _ 128 _ rfl (by omega) (by omega)).mono ?_; rintro e w4 ⟨k, hk, rfl, rfl⟩; obtain ⟨y, hy⟩ : ∃ y, bz (sec12 p) k = y := ⟨_, rfl⟩; have c0 := C3.out.x.cell (k := k) (by rw [hsp.out]; omega); rw [hy] at c0; have f0 := C3.out.x.frozen k; have k0 : (0 : Int) ≤ (k : Int) := (by omega); have k8 : (k : Int) < 128 := (by omega); have hx8 := Lib.hid (hso.out k (by rw [hsp.out]; omega)); have hkk := Lib.hid hk; have hyy := Lib.hid hy; rw [hy] at hx8; clear hy hk)
  have hxi : bits .xor .u8 (y : Int) (d : Int) = ((y ^^^ d : Nat) : Int) := u8_xor_nat _ _ hx8.out hd8
  have X5 := C3.out.x.set k (y ^^^ d)
  have ho5 := (Oth.refl g1 w3).setCell (p := k) (.int .u8 ((y ^^^ d : Nat) : Int))
  have A5 := C3.out.va.oth ho5 (by have := hg1b.out; omega)
  have D5 := C3.out.vb.oth ho5 (by have := hg1b.out; omega)
  have B5 := below_oth C3.out.wb ho5 hg1'.out
  have hso5 := hso.out.set (k := k) (x := y ^^^ d) (by have h := Nat.xor_lt_two_pow (n := 8) (x := y) (y := d) (by have := hx8.out; simpa using this) (by simpa using hd8); simpa using h)
  have hln5 : ((sec12 p).set k (y ^^^ d)).length = 128 := by rw [List.length_set]; exact hsp.out
  rw [← hxi] at X5 A5 D5 B5
  have X5 := Lib.hid X5
  have A5 := Lib.hid A5
  have D5 := Lib.hid D5
  have B5 := Lib.hid B5
  have hso5 := Lib.hid hso5
  have hln5 := Lib.hid hln5
  clear ho5
  by_cases hd0 : d = 0
  · have hset : (sec12 p).set k (y ^^^ d) = sec12 p := by
      rw [hd0, Nat.xor_zero, ← hyy.out, bz_get (by rw [hsp.out]; exact hkk.out)]
      exact List.set_getElem_self _
    rw [hset] at X5 hso5 hln5
    have tb : ((d : Int) == 0) = true := by rw [beq_iff_eq]; omega
    clear hset hd0 hxi
    go_upto_region 8 with (first
      | (go_at_call 9; refine (ptrRead_any _ _ 128 _ _ hln5.out hso5.out (by omega) X5.out.bat).mono ?_; rw [hrd.out]; (try unfold av); rintro e w6 ⟨rfl, hb⟩; have A6 := Lib.hid (A5.out.on' hb); have D6 := Lib.hid (D5.out.on' hb); have B6 := Lib.hid (below_two B5.out hb); clear hb)
      | (refine wpList_alloc_tw rfl rfl ?_; intro G w7 hv7 hG hb; have hst := run_stT (w := w7) lp.out (hv7.out.there (o := 0) (n := 12) (by rw [zz_length]; omega)); have hbb := below_setCells ((Below.refl w6.heap.size w6).trans hb) hG 0 (iv p); have C7 := Lib.hid (show PbC w p q p w.heap.size (w.heap.size + 1) G (w7.setCells G 0 (iv p)) from ⟨A6.out.on' hbb, D6.out.on' hbb, hv7.out.over (by rw [lp.out, zz_length]), below_two B6.out hbb⟩); unfold av at hst; clear hb hbb))
    obtain ⟨C, hCe⟩ : ∃ C, PbC w p q p w.heap.size (w.heap.size + 1) G = C := ⟨_, rfl⟩
    have hC8 := Lib.hid (show C (w7.setCells G 0 (iv p)).drew by rw [← hCe]; exact C7.out.on ((Below.refl _ _).drew))
    have hCC2 := Lib.hid hCe
    clear hCe hst
    refine wp_region_at (C := C) (by kernel_rfl) (by kernel_rfl) hC8.out ?_
    rw [← hCC2.out]
    go_big_quiet_want; go_big_quiet_op; go_big_quiet_on
    go_big_quiet_want; go_big_quiet_op; go_big_quiet_on
    go_big_quiet_want; go_big_quiet_op; go_big_quiet_on
    go_big_quiet_want; refine quiet_val (.bool true) (fun _ _ => by unfold Oper.quietAt Oper.quietUpon; go_simp) ?_; go_simp; try go_big_quiet_on
    go_big_quiet_want; go_big_quiet_op; go_big_quiet_on
    go_big_quiet_want; refine quiet_val (.bool true) (fun _ _ => by unfold Oper.quietAt Oper.quietUpon; go_simp) ?_; go_simp; try go_big_quiet_on
    go_big_quiet_want; refine quiet_val (.bool true) (fun _ _ => by unfold Oper.quietAt Oper.quietUpon; go_simp) ?_; go_simp; try go_big_quiet_on
    go_big_quiet_want; refine quiet_val (.bool true) (fun _ _ => by unfold Oper.quietAt Oper.quietUpon; go_simp) ?_; go_simp; try go_big_quiet_on
    go_big_quiet_want; go_big_quiet_op; go_big_quiet_on
    go_big_quiet_want; go_big_quiet_op; go_big_quiet_on
    go_big_quiet_want; refine quiet_val (.bool false) (fun _ _ => by unfold Oper.quietAt Oper.quietUpon; go_simp) ?_; go_simp; try go_big_quiet_on
    go_big_quiet_want; go_big_quiet_op; go_big_quiet_on
    go_big_quiet_want; refine quiet_val (.agg (iv p).toArray) (fun _ hC => by have hq := run_ldT hC.vc.whole lp.out; unfold av at hq; unfold Oper.quietAt Oper.quietUpon; go_simp) ?_; go_simp; try go_big_quiet_on
    go_big_quiet_want; refine quiet_val (.agg (iv p).toArray) (fun _ hC => by have hq := run_ldT hC.va.whole lp.out; unfold av at hq; unfold Oper.quietAt Oper.quietUpon; go_simp) ?_; go_simp; try go_big_quiet_on
    go_big_quiet_want; refine quiet_val (.bool true) (fun _ _ => by unfold Oper.quietAt Oper.quietUpon; go_simp) ?_; go_simp; try go_big_quiet_on
    go_big_quiet_want; refine quiet_val (.bool true) (fun _ _ => by unfold Oper.quietAt Oper.quietUpon; go_simp) ?_; go_simp; try go_big_quiet_on
    go_big_quiet_want; refine quiet_val (.bool true) (fun _ _ => by unfold Oper.quietAt Oper.quietUpon; go_simp) ?_; go_simp; try go_big_quiet_on
    go_big_quiet_want; go_big_quiet_op; go_big_quiet_on
    go_big_quiet_want; refine quiet_val (.agg (iv q).toArray) (fun _ hC => by have hq := run_ldT hC.vb.whole lq.out; unfold av at hq; unfold Oper.quietAt Oper.quietUpon; go_simp) ?_; go_simp; try go_big_quiet_on
    go_big_quiet_want; refine quiet_val (.bool r0) (fun _ hC => by unfold Oper.quietAt Oper.quietUpon; go_simp; exact hC.told (hE.out _)) ?_; go_simp; try go_big_quiet_on
    go_big_quiet_want; refine quiet_val (.agg (iv q).toArray) (fun _ hC => by have hq := run_ldT hC.vb.whole lq.out; unfold av at hq; unfold Oper.quietAt Oper.quietUpon; go_simp) ?_; go_simp; try go_big_quiet_on
    go_big_quiet_want; refine quiet_val (.agg (iv Z).toArray) (fun _ _ => by unfold Oper.quietAt Oper.quietUpon; go_simp) ?_; go_simp; try go_big_quiet_on
    go_big_quiet_want; refine quiet_val (.bool r0) (fun _ _ => by unfold Oper.quietAt Oper.quietUpon; go_simp) ?_; go_simp; try go_big_quiet_on
    go_big_quiet_want; refine quiet_val (.bool true) (fun _ _ => by unfold Oper.quietAt Oper.quietUpon; go_simp) ?_; go_simp; try go_big_quiet_on
    go_big_quiet_want; refine quiet_val (.bool true) (fun _ _ => by unfold Oper.quietAt Oper.quietUpon; go_simp) ?_; go_simp; try go_big_quiet_on
    go_big_quiet_want; go_big_quiet_op; go_big_quiet_on
    go_big_quiet_want; refine quiet_val (.bool true) (fun _ hC => by unfold Oper.quietAt Oper.quietUpon; go_simp; exact hC.told (ptrAwake_any _)) ?_; go_simp; try go_big_quiet_on
    go_big_quiet_want; refine quiet_val (.bool true) (fun _ _ => by unfold Oper.quietAt Oper.quietUpon; go_simp) ?_; go_simp; try go_big_quiet_on
    go_big_quiet_want; go_big_quiet_op; go_big_quiet_on
    refine wpQuiet_nil ?_
    intro w10 hC
    have hd := hC.wb
    go_wp2_with fail
    go_ret
    exact ⟨rfl, hd⟩
  · have tb : ((d : Int) == 0) = false := by rw [beq_eq_false_iff_ne]; omega
    have hrz5 := Lib.hid (show readPV ((sec12 p).set k (y ^^^ d)) = .tuple #[.agg (iv Z).toArray, .int .i64 3] by rw [← hyy.out]; exact hrz.out k hkk.out (by omega))
    clear hd0 hxi
    go_upto_region 8 with (first
      | (go_at_call 9; refine (ptrRead_any _ _ 128 _ _ hln5.out hso5.out (by omega) X5.out.bat).mono ?_; rw [hrz5.out]; (try unfold av); rintro e w6 ⟨rfl, hb⟩; have A6 := Lib.hid (A5.out.on' hb); have D6 := Lib.hid (D5.out.on' hb); have B6 := Lib.hid (below_two B5.out hb); clear hb)
      | (refine wpList_alloc_tw rfl rfl ?_; intro G w7 hv7 hG hb; have hst := run_stT (w := w7) lZ.out (hv7.out.there (o := 0) (n := 12) (by rw [zz_length]; omega)); have hbb := below_setCells ((Below.refl w6.heap.size w6).trans hb) hG 0 (iv Z); have C7 := Lib.hid (show PbC w p q Z w.heap.size (w.heap.size + 1) G (w7.setCells G 0 (iv Z)) from ⟨A6.out.on' hbb, D6.out.on' hbb, hv7.out.over (by rw [lZ.out, zz_length]), below_two B6.out hbb⟩); unfold av at hst; clear hb hbb))
    obtain ⟨C, hCe⟩ : ∃ C, PbC w p q Z w.heap.size (w.heap.size + 1) G = C := ⟨_, rfl⟩
    have hC8 := Lib.hid (show C (w7.setCells G 0 (iv Z)).drew by rw [← hCe]; exact C7.out.on ((Below.refl _ _).drew))
    have hCC2 := Lib.hid hCe
    clear hCe hst
    refine wp_region_at (C := C) (by kernel_rfl) (by kernel_rfl) hC8.out ?_
    rw [← hCC2.out]
    go_big_quiet_want; go_big_quiet_op; go_big_quiet_on
    go_big_quiet_want; go_big_quiet_op; go_big_quiet_on
    go_big_quiet_want; go_big_quiet_op; go_big_quiet_on
    go_big_quiet_want; refine quiet_val (.bool false) (fun _ _ => by unfold Oper.quietAt Oper.quietUpon; go_simp) ?_; go_simp; try go_big_quiet_on
    go_big_quiet_want; go_big_quiet_op; go_big_quiet_on
    go_big_quiet_want; refine quiet_val (.bool false) (fun _ _ => by unfold Oper.quietAt Oper.quietUpon; go_simp) ?_; go_simp; try go_big_quiet_on
    go_big_quiet_want; refine quiet_val (.bool true) (fun _ _ => by unfold Oper.quietAt Oper.quietUpon; go_simp) ?_; go_simp; try go_big_quiet_on
    go_big_quiet_want; refine quiet_val (.bool true) (fun _ _ => by unfold Oper.quietAt Oper.quietUpon; go_simp) ?_; go_simp; try go_big_quiet_on
    go_big_quiet_want; go_big_quiet_op; go_big_quiet_on
    go_big_quiet_want; go_big_quiet_op; go_big_quiet_on
    go_big_quiet_want; refine quiet_val (.bool true) (fun _ _ => by unfold Oper.quietAt Oper.quietUpon; go_simp) ?_; go_simp; try go_big_quiet_on
    go_big_quiet_want; go_big_quiet_op; go_big_quiet_on
    go_big_quiet_skip
    go_big_quiet_skip
    go_big_quiet_skip
    go_big_quiet_want; refine quiet_val (.bool true) (fun _ _ => by unfold Oper.quietAt Oper.quietUpon; go_simp) ?_; go_simp; try go_big_quiet_on
    go_big_quiet_want; refine quiet_val (.bool true) (fun _ _ => by unfold Oper.quietAt Oper.quietUpon; go_simp) ?_; go_simp; try go_big_quiet_on
    go_big_quiet_want; go_big_quiet_op; go_big_quiet_on
    go_big_quiet_want; refine quiet_val (.agg (iv q).toArray) (fun _ hC => by have hq := run_ldT hC.vb.whole lq.out; unfold av at hq; unfold Oper.quietAt Oper.quietUpon; go_simp) ?_; go_simp; try go_big_quiet_on
    go_big_quiet_want; refine quiet_val (.bool r0) (fun _ hC => by unfold Oper.quietAt Oper.quietUpon; go_simp; exact hC.told (hE.out _)) ?_; go_simp; try go_big_quiet_on
    go_big_quiet_want; refine quiet_val (.agg (iv q).toArray) (fun _ hC => by have hq := run_ldT hC.vb.whole lq.out; unfold av at hq; unfold Oper.quietAt Oper.quietUpon; go_simp) ?_; go_simp; try go_big_quiet_on
    go_big_quiet_want; refine quiet_val (.agg (iv Z).toArray) (fun _ _ => by unfold Oper.quietAt Oper.quietUpon; go_simp) ?_; go_simp; try go_big_quiet_on
    go_big_quiet_want; refine quiet_val (.bool r0) (fun _ _ => by unfold Oper.quietAt Oper.quietUpon; go_simp) ?_; go_simp; try go_big_quiet_on
    go_big_quiet_want; refine quiet_val (.bool true) (fun _ _ => by unfold Oper.quietAt Oper.quietUpon; go_simp) ?_; go_simp; try go_big_quiet_on
    go_big_quiet_want; refine quiet_val (.bool true) (fun _ _ => by unfold Oper.quietAt Oper.quietUpon; go_simp) ?_; go_simp; try go_big_quiet_on
    go_big_quiet_want; go_big_quiet_op; go_big_quiet_on
    go_big_quiet_want; refine quiet_val (.bool true) (fun _ hC => by unfold Oper.quietAt Oper.quietUpon; go_simp; exact hC.told (ptrAwake_any _)) ?_; go_simp; try go_big_quiet_on
    go_big_quiet_want; refine quiet_val (.bool true) (fun _ _ => by unfold Oper.quietAt Oper.quietUpon; go_simp) ?_; go_simp; try go_big_quiet_on
    go_big_quiet_want; go_big_quiet_op; go_big_quiet_on
    refine wpQuiet_nil ?_
    intro w10 hC
    have hd := hC.wb
    go_wp2_with fail
    go_ret
    exact ⟨rfl, hd⟩
theorem ptrApart_any (p q : List Int) (z : Int) (d : Nat) (w : World) (hp : p.length = 12) (hq : q.length = 12) (hd8 : d < 256) :
    Calls Try.prog 4 #[av p, av q, .int .i64 z, .int .u8 (d : Int)] w (Tells (.bool true) w) := by
  cases h1 : may12 p
  · cases h2 : may12 q
    · exact ptrApart_nn p q z d w hp hq h1 h2
    · exact ptrApart_ny p q z d w hp hq h1 h2
  · cases h2 : may12 q
    · exact ptrApart_yn p q z d w hp hq h1 h2
    · exact ptrApart_both p q z d w hp hq hd8 h1 h2
end Go.Proofs.Ytdpmpchmbjcocaa
