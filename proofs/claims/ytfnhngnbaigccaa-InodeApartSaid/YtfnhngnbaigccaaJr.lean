/-
  Sectors of inodes that may be are alike just if the inodes are; a size more never needs fewer blocks: the walk.
-/
import Derived.Test.YtfnhngnbaigccaaJs
import Derived.Test.YtfnhngnbaigccaaLo
namespace Go.Proofs.Ytfnhngnbaigccaa
open Go.RowKit BigFrame

theorem need_more (s : Nat) : needZ (s : Int) ≤ needZ ((s : Int) + 1) := by
  unfold needZ
  repeat' split
  all_goals omega
theorem need_less (s : Nat) : needZ (-(s : Int)) = 0 := by unfold needZ; rw [if_pos (by omega)]
attribute [local go_sem ↓] ldI_of ldF_of stI_of stF_of bdF_of bdI_of eqI_of eqF_of
set_option maxRecDepth 100000 in
set_option maxHeartbeats 4000000 in
theorem inoApart_any (a b : List Int) (x : Int) (w : World) (ha : a.length = 44) (hb : b.length = 44) : Calls Try.prog 6 #[av a, av b, .int .i64 x] w (Tells (.bool true) w) := by
  have la := Lib.hid ha
  have lb := Lib.hid hb
  have hb1 := (Below.refl w.heap.size w).alloc (Nat.le_refl _) (.cells (iv a).toArray 25)
  have hb2 := (Below.refl (w.alloc (.cells (iv a).toArray 25)).heap.size (w.alloc (.cells (iv a).toArray 25))).alloc (Nat.le_refl _) (.cells (iv b).toArray 25)
  have vA := (Vi.alloc w a 25).on' hb2
  have vB := Vi.alloc (w.alloc (.cells (iv a).toArray 25)) b 25
  have hsz : (w.alloc (.cells (iv a).toArray 25)).heap.size = w.heap.size + 1 := by simp
  rw [hsz] at vB
  have B0 := Lib.hid (below_two hb1 hb2)
  have VA := Lib.hid vA
  have VB := Lib.hid vB
  have hld1 := run_ldF vA.whole ha
  have qa := Lib.hid (fun w => inoLay_u a w ha)
  have qb := Lib.hid (fun w => inoLay_u b w hb)
  unfold av at hld1 qa qb ⊢
  clear hb1 hb2 vA vB hsz ha hb
  go_enter Try.func6, Try.ntmps6
  have tk0 : True := trivial
  go_wp2_with (first
    | (go_at_call 10; clear tk0; refine (qa.out _).mono ?_; rintro e w1 ⟨v1, rfl, hA, hd⟩; have A1 := Lib.hid hA; have VA1 := Lib.hid (VA.out.on' hd); have VB1 := Lib.hid (VB.out.on' hd); have B1 := Lib.hid (below_two B0.out hd); have hld2 := run_ldF VB1.out.whole lb.out; unfold av at hld2; clear hA hd)
    | (go_at_call 10; refine (qb.out _).mono ?_; rintro e w2 ⟨v2, rfl, hA, hd⟩; have A2 := Lib.hid hA.bv; have A1b := Lib.hid (A1.out.on hd); have VA2 := Lib.hid (VA1.out.on' hd); have VB2 := Lib.hid (VB1.out.on' hd); have B2 := Lib.hid (below_two B1.out hd); clear hA hd)
    | (go_at_call 23; refine (low_c x _ 20736 _ (by omega) (by omega) (by omega)).mono ?_; rintro e w3 ⟨s, hs, rfl, rfl⟩; have c1 := need_more s; have c2 := need_less s)
    | (go_at_call 17; refine (need_any _ _).mono ?_; rintro e w4 ⟨rfl, rfl⟩))
  have hC := Lib.hid (show InC w 25 25 a b w.heap.size (w.heap.size + 1) v1 v2 (ly4 a) (ly4 b) w2.drew from (InC.mk VA2.out VB2.out A1b.out.bv A2.out B2.out).on ((Below.refl w2.heap.size w2).drew))
  have hY := Lib.hid (ly4_length la.out)
  clear c1 c2 hld1 hld2
  refine wp_region_at (C := InC w 25 25 a b w.heap.size (w.heap.size + 1) v1 v2 (ly4 a) (ly4 b)) (by kernel_rfl) (by kernel_rfl) hC.out ?_
  cases h1 : may4 a
  · have e1 : lc4 a = 2 := by unfold lc4; rw [h1]; rfl
    rw [e1]
    clear e1 h1
    go_big_quiet_want; go_big_quiet_op; go_big_quiet_on
    go_big_quiet_want; refine quiet_val (.bool true) (fun _ _ => by unfold Oper.quietAt Oper.quietUpon; go_simp) ?_; go_simp; try go_big_quiet_on
    go_big_quiet_want; go_big_quiet_op; go_big_quiet_on
    go_big_quiet_skip
    go_big_quiet_skip
    go_big_quiet_want; refine quiet_val (.bool true) (fun _ _ => by unfold Oper.quietAt Oper.quietUpon; go_simp) ?_; go_simp; try go_big_quiet_on
    go_big_quiet_want; go_big_quiet_op; go_big_quiet_on
    go_big_quiet_skip
    go_big_quiet_skip
    go_big_quiet_skip
    go_big_quiet_skip
    go_big_quiet_skip
    go_big_quiet_skip
    go_big_quiet_skip
    go_big_quiet_want; refine quiet_val (.bool true) (fun _ _ => by unfold Oper.quietAt Oper.quietUpon; go_simp) ?_; go_simp; try go_big_quiet_on
    go_big_quiet_want; go_big_quiet_op; go_big_quiet_on
    go_big_quiet_want; refine quiet_val (.bool true) (fun _ hC => by unfold Oper.quietAt Oper.quietUpon; go_simp; exact hC.told (inoAwake_any _)) ?_; go_simp; try go_big_quiet_on
    go_big_quiet_want; refine quiet_val (.bool true) (fun _ _ => by unfold Oper.quietAt Oper.quietUpon; go_simp) ?_; go_simp; try go_big_quiet_on
    go_big_quiet_want; go_big_quiet_op; go_big_quiet_on
    refine wpQuiet_nil ?_
    intro w4 hC
    have hd := hC.wb
    go_wp2_with fail
    go_ret
    exact ⟨rfl, hd⟩
  · have e1 : lc4 a = 0 := by unfold lc4; rw [h1]; rfl
    rw [e1]
    clear e1
    cases h2 : may4 b
    · have e2 : lc4 b = 2 := by unfold lc4; rw [h2]; rfl
      rw [e2]
      clear e2 h1 h2
      go_big_quiet_want; go_big_quiet_op; go_big_quiet_on
      go_big_quiet_want; refine quiet_val (.bool false) (fun _ _ => by unfold Oper.quietAt Oper.quietUpon; go_simp) ?_; go_simp; try go_big_quiet_on
      go_big_quiet_want; go_big_quiet_op; go_big_quiet_on
      go_big_quiet_want; go_big_quiet_op; go_big_quiet_on
      go_big_quiet_want; refine quiet_val (.bool true) (fun _ _ => by unfold Oper.quietAt Oper.quietUpon; go_simp) ?_; go_simp; try go_big_quiet_on
      go_big_quiet_want; refine quiet_val (.bool true) (fun _ _ => by unfold Oper.quietAt Oper.quietUpon; go_simp) ?_; go_simp; try go_big_quiet_on
      go_big_quiet_want; go_big_quiet_op; go_big_quiet_on
      go_big_quiet_skip
      go_big_quiet_skip
      go_big_quiet_skip
      go_big_quiet_skip
      go_big_quiet_skip
      go_big_quiet_skip
      go_big_quiet_skip
      go_big_quiet_want; refine quiet_val (.bool true) (fun _ _ => by unfold Oper.quietAt Oper.quietUpon; go_simp) ?_; go_simp; try go_big_quiet_on
      go_big_quiet_want; go_big_quiet_op; go_big_quiet_on
      go_big_quiet_want; refine quiet_val (.bool true) (fun _ hC => by unfold Oper.quietAt Oper.quietUpon; go_simp; exact hC.told (inoAwake_any _)) ?_; go_simp; try go_big_quiet_on
      go_big_quiet_want; refine quiet_val (.bool true) (fun _ _ => by unfold Oper.quietAt Oper.quietUpon; go_simp) ?_; go_simp; try go_big_quiet_on
      go_big_quiet_want; go_big_quiet_op; go_big_quiet_on
      refine wpQuiet_nil ?_
      intro w4 hC
      have hd := hC.wb
      go_wp2_with fail
      go_ret
      exact ⟨rfl, hd⟩
    · have e2 : lc4 b = 0 := by unfold lc4; rw [h2]; rfl
      rw [e2]
      clear e2
      obtain ⟨r, hr0⟩ : ∃ r, decide (a = b) = r := ⟨_, rfl⟩
      have hr := Lib.hid (show decide (ly4 a = ly4 b) = r by unfold ly4; rw [h1, h2, if_pos rfl, if_pos rfl, sector4_eq la.out lb.out h1 h2, hr0])
      have heq := fun w => run_eqF a b w la.out lb.out
      rw [hr0] at heq
      unfold av at heq
      have hgd := Try.eqGuardF
      clear h1 h2 hr0
      go_big_quiet_want; go_big_quiet_op; go_big_quiet_on
      go_big_quiet_want; refine quiet_val (.bool false) (fun _ _ => by unfold Oper.quietAt Oper.quietUpon; go_simp) ?_; go_simp; try go_big_quiet_on
      go_big_quiet_want; go_big_quiet_op; go_big_quiet_on
      go_big_quiet_want; go_big_quiet_op; go_big_quiet_on
      go_big_quiet_want; refine quiet_val (.bool false) (fun _ _ => by unfold Oper.quietAt Oper.quietUpon; go_simp) ?_; go_simp; try go_big_quiet_on
      go_big_quiet_want; refine quiet_val (.bool false) (fun _ _ => by unfold Oper.quietAt Oper.quietUpon; go_simp) ?_; go_simp; try go_big_quiet_on
      go_big_quiet_want; go_big_quiet_op; go_big_quiet_on
      go_big_quiet_want; go_big_quiet_op; go_big_quiet_on
      go_big_quiet_want; go_big_quiet_op; go_big_quiet_on
      go_big_quiet_want; refine quiet_val (.bool r) (fun _ hC => by unfold Oper.quietAt Oper.quietUpon; go_simp; exact hC.same hr.out hY.out) ?_; go_simp; try go_big_quiet_on
      go_big_quiet_want; refine quiet_val (.agg (iv a).toArray) (fun _ hC => by have hq := run_ldF hC.va.whole la.out; unfold av at hq; unfold Oper.quietAt Oper.quietUpon; go_simp) ?_; go_simp; try go_big_quiet_on
      go_big_quiet_want; refine quiet_val (.agg (iv b).toArray) (fun _ hC => by have hq := run_ldF hC.vb.whole lb.out; unfold av at hq; unfold Oper.quietAt Oper.quietUpon; go_simp) ?_; go_simp; try go_big_quiet_on
      go_big_quiet_want; refine quiet_val (.bool r) (fun _ _ => by unfold Oper.quietAt Oper.quietUpon; go_simp) ?_; go_simp; try go_big_quiet_on
      go_big_quiet_want; refine quiet_val (.bool true) (fun _ _ => by unfold Oper.quietAt Oper.quietUpon; go_simp) ?_; go_simp; try go_big_quiet_on
      go_big_quiet_want; refine quiet_val (.bool true) (fun _ _ => by unfold Oper.quietAt Oper.quietUpon; go_simp) ?_; go_simp; try go_big_quiet_on
      go_big_quiet_want; go_big_quiet_op; go_big_quiet_on
      go_big_quiet_want; refine quiet_val (.bool true) (fun _ hC => by unfold Oper.quietAt Oper.quietUpon; go_simp; exact hC.told (inoAwake_any _)) ?_; go_simp; try go_big_quiet_on
      go_big_quiet_want; refine quiet_val (.bool true) (fun _ _ => by unfold Oper.quietAt Oper.quietUpon; go_simp) ?_; go_simp; try go_big_quiet_on
      go_big_quiet_want; go_big_quiet_op; go_big_quiet_on
      refine wpQuiet_nil ?_
      intro w4 hC
      have hd := hC.wb
      go_wp2_with fail
      go_ret
      exact ⟨rfl, hd⟩
end Go.Proofs.Ytfnhngnbaigccaa
