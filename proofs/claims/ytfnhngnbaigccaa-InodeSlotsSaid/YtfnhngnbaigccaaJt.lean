/-
  Each of four inodes has bytes of its own: with one of them another one the bytes of the others stay: the walk.
-/
import Derived.Test.YtfnhngnbaigccaaJx
import Derived.Deep.QuietTactic
import Derived.BigQuiet
namespace Go.Proofs.Ytfnhngnbaigccaa
open Go.RowKit BigFrame

/-- the worlds of the loop -/
def SlRel (C : World → Prop) (i : Value) (wr : World) : Prop := ∃ j : Nat, j ≤ 124 ∧ i = .int .i64 j ∧ C wr
theorem BV.nil {w : World} {v : Value} {X : List Nat} (h : BV w v X) (hX : X = []) : ∃ p c, v = .slice p 0 c := by
  obtain ⟨a, n, cap, rfl, hn, _⟩ := h
  subst hX
  exact ⟨a, cap, by rw [← hn]; rfl⟩
theorem BV.full {w : World} {v : Value} {X : List Nat} (h : BV w v X) (hX : X.length = 128) : ∃ b o c, v = .slice (some ⟨b, o, none⟩) 128 c ∧ BAt w (some ⟨b, o, none⟩) X := by
  obtain ⟨a, n, cap, rfl, hn, hx⟩ := h
  obtain ⟨b, o, rfl⟩ := hx.addr (by omega)
  exact ⟨b, o, cap, by rw [← hn, hX], hx⟩
theorem BV.bat {w : World} {p : Option Addr} {n c : Nat} {X : List Nat} (h : BV w (.slice p n c) X) : BAt w p X := by
  obtain ⟨a, m, cap, e, hn, hx⟩ := h
  simp only [Value.slice.injEq] at e
  rw [e.1]; exact hx
attribute [local go_sem ↓] ldI_of ldF_of stI_of stF_of bdF_of bdI_of eqI_of eqF_of
set_option maxRecDepth 100000 in
set_option maxHeartbeats 4000000 in
theorem inoSlots_any (L I : List Int) (x : Int) (w : World) (hL : L.length = 44) (hI : I.length = 11) : Calls Try.prog 7 #[av L, av I, .int .i64 x] w (Tells (.bool true) w) := by
  have lL := Lib.hid hL
  have lI := Lib.hid hI
  have hb1 := (Below.refl w.heap.size w).alloc (Nat.le_refl _) (.cells (iv L).toArray 25)
  have hb2 := (Below.refl (w.alloc (.cells (iv L).toArray 25)).heap.size (w.alloc (.cells (iv L).toArray 25))).alloc (Nat.le_refl _) (.cells (iv I).toArray 24)
  have vA := (Vi.alloc w L 25).on' hb2
  have vB := Vi.alloc (w.alloc (.cells (iv L).toArray 25)) I 24
  have hsz : (w.alloc (.cells (iv L).toArray 25)).heap.size = w.heap.size + 1 := by simp
  rw [hsz] at vB
  have B0 := Lib.hid (below_two hb1 hb2)
  have VA := Lib.hid vA
  have VB := Lib.hid vB
  have hld1 := run_ldF vA.whole hL
  have q1 := Lib.hid (fun w => inoLay_u L w hL)
  unfold av at hld1 q1 ⊢
  clear hb1 hb2 vA vB hsz hL hI
  go_enter Try.func7, Try.ntmps7
  have tk0 : True := trivial
  go_upto_region 6 with (first
    | (go_at_call 23; refine (low_c x _ 4 _ (by omega) (by omega) (by omega)).mono ?_; rintro e w3 ⟨k, hk, rfl, rfl⟩; have k0 : (0 : Int) ≤ (k : Int) := (by omega); have k4 : (k : Int) < 4 := (by omega); obtain ⟨M, hMe⟩ : ∃ M, swap4 L k I = M := ⟨_, rfl⟩; have hM := Lib.hid hMe; have lM := Lib.hid (show M.length = 44 by rw [← hMe]; exact swap4_length lL.out lI.out hk); have q2 := Lib.hid (fun w => inoLay_u M w lM.out); unfold av at q2; clear hMe)
    | (refine wpList_alloc_four rfl rfl ?_; intro G w1 hv1 hG1 hb1
       have hst1 := run_stF (w := w1) lL.out (hv1.out.there (o := 0) (n := 44) (by rw [zz_length]; omega))
       have VG := Lib.hid (hv1.out.over (m := L) (by rw [lL.out, zz_length]))
       have hO1 := Oth.setCells (Oth.refl G w1) 0 (iv L)
       have VA1 := Lib.hid ((VA.out.on' hb1).oth hO1 (by have := VA.out.lt; omega))
       have VB1 := Lib.hid ((VB.out.on' hb1).oth hO1 (by have := VB.out.lt; omega))
       have hgw : w.heap.size ≤ G := Nat.le_trans B0.out.size hG1
       have B1 := Lib.hid (below_setCells (below_two B0.out hb1) hgw 0 (iv L))
       have hld2 := run_ldI VB1.out.whole lI.out
       have hst2 := run_stI (w := w1.setCells G 0 (iv L)) lI.out (VG.out.there (o := k * 11) (n := 11) (by rw [lL.out]; omega))
       have hO2 := Oth.setCells (Oth.refl G (w1.setCells G 0 (iv L))) (k * 11) (iv I)
       have nA := Lib.hid (show ¬ w.heap.size = G by have := VA.out.lt; omega)
       have nB := Lib.hid (show ¬ w.heap.size + 1 = G by have := VB.out.lt; omega)
       have hVG := VG.out.put I (k * 11) (by rw [lI.out, lL.out]; omega)
       change Vi _ _ _ (swap4 L k I) at hVG
       rw [hM.out] at hVG
       have VG2 := Lib.hid hVG
       have VA2 := Lib.hid (VA1.out.oth hO2 nA.out)
       have VB2 := Lib.hid (VB1.out.oth hO2 nB.out)
       have B2 := Lib.hid (below_setCells B1.out hgw (k * 11) (iv I))
       have hld3 := run_ldF VA2.out.whole lL.out
       unfold av at hst1 hst2 hld2 hld3
       clear hb1 hO1 hO2 hVG)
    | (go_at_call 10; clear tk0; refine (q1.out _).mono ?_; rintro e w4 ⟨v1, rfl, hA, hd⟩; have A1 := Lib.hid hA.bv; have VG3 := Lib.hid (VG2.out.on' hd); have VA3 := Lib.hid (VA2.out.on' hd); have VB3 := Lib.hid (VB2.out.on' hd); have B3 := Lib.hid (below_two B2.out hd); have hld4 := run_ldF VG3.out.whole lM.out; unfold av at hld4; clear hA hd)
    | (go_at_call 10; refine (q2.out _).mono ?_; rintro e w5 ⟨v2, rfl, hA, hd⟩; have A2 := Lib.hid hA.bv; have A1b := Lib.hid (A1.out.on hd); have VA4 := Lib.hid (VA3.out.on' hd); have VB4 := Lib.hid (VB3.out.on' hd); have B4 := Lib.hid (below_two B3.out hd); clear hA hd))
  clear hld1 hld2 hld3 hld4 hst1 hst2
  cases h1 : may4 L
  · have e1 : lc4 L = 2 := by unfold lc4; rw [h1]; rfl
    obtain ⟨p1, cc1, rfl⟩ := A1b.out.nil (show ly4 L = [] by unfold ly4; rw [h1]; rfl)
    rw [e1]
    clear e1
    cases h2 : may4 M
    · have e2 : lc4 M = 2 := by unfold lc4; rw [h2]; rfl
      obtain ⟨p2, cc2, rfl⟩ := A2.out.nil (show ly4 M = [] by unfold ly4; rw [h2]; rfl)
      rw [e2]
      clear e2
      go_wp2_with (go_at_call 8; refine (inoAwake_any _).mono ?_; rintro e w9 ⟨rfl, hb9⟩; have hend := Lib.hid (below_two B4.out hb9); clear hb9)
      go_ret
      exact ⟨rfl, hend.out⟩
    · have e2 : lc4 M = 0 := by unfold lc4; rw [h2]; rfl
      rw [e2]
      clear e2
      go_wp2_with (go_at_call 8; refine (inoAwake_any _).mono ?_; rintro e w9 ⟨rfl, hb9⟩; have hend := Lib.hid (below_two B4.out hb9); clear hb9)
      go_ret
      exact ⟨rfl, hend.out⟩
  · have e1 : lc4 L = 0 := by unfold lc4; rw [h1]; rfl
    rw [e1]
    clear e1
    cases h2 : may4 M
    · have e2 : lc4 M = 2 := by unfold lc4; rw [h2]; rfl
      obtain ⟨p2, cc2, rfl⟩ := A2.out.nil (show ly4 M = [] by unfold ly4; rw [h2]; rfl)
      rw [e2]
      clear e2
      go_wp2_with (go_at_call 8; refine (inoAwake_any _).mono ?_; rintro e w9 ⟨rfl, hb9⟩; have hend := Lib.hid (below_two B4.out hb9); clear hb9)
      go_ret
      exact ⟨rfl, hend.out⟩
    · have e2 : lc4 M = 0 := by unfold lc4; rw [h2]; rfl
      rw [e2]
      clear e2
      have eX : ly4 L = sector4 L := by unfold ly4; rw [h1]; rfl
      have eY : ly4 M = sector4 M := by unfold ly4; rw [h2]; rfl
      rw [eX] at A1b
      rw [eY] at A2
      obtain ⟨J, hJ⟩ : ∃ J, inoAt L k = J := ⟨_, rfl⟩
      have lJ := Lib.hid (show J.length = 11 by rw [← hJ]; exact inoAt_length lL.out hk)
      have hJ' := Lib.hid hJ
      obtain ⟨r, hr0⟩ : ∃ r, decide (J = I) = r := ⟨_, rfl⟩
      obtain ⟨X, hX⟩ : ∃ X, sector4 L = X := ⟨_, rfl⟩
      obtain ⟨Y, hY⟩ : ∃ Y, sector4 M = Y := ⟨_, rfl⟩
      have hr := Lib.hid (show decide (X = Y) = r by
        rw [← hX, ← hY, sector4_eq lL.out lM.out h1 h2, ← hr0, decide_eq_decide, ← hM.out, ← hJ]
        exact swap4_same lL.out lI.out hk)
      have lX := Lib.hid (show X.length = 128 by rw [← hX]; exact sector4_length lL.out)
      have lY := Lib.hid (show Y.length = 128 by rw [← hY]; exact sector4_length lM.out)
      have hst := Lib.hid (show ∀ j, j < 124 → ¬ (1 + 23 * k ≤ j ∧ j < 1 + 23 * (k + 1)) → bz X j = bz Y j from fun j hj ho => by rw [← hX, ← hY, ← hM.out]; exact swap_stays lL.out lI.out hk hj ho)
      rw [hX] at A1b
      rw [hY] at A2
      have heq := fun w => run_eqI J I w lJ.out lI.out
      rw [hr0] at heq
      unfold av at heq
      have hgd := Try.eqGuardI
      obtain ⟨b1, o1, cc1, rfl, _⟩ := A1b.out.full lX.out
      obtain ⟨b2, o2, cc2, rfl, _⟩ := A2.out.full lY.out
      obtain ⟨C, hCe⟩ : ∃ C, InC w 25 24 L I w.heap.size (w.heap.size + 1) (.slice (some ⟨b1, o1, none⟩) 128 cc1) (.slice (some ⟨b2, o2, none⟩) 128 cc2) X Y = C := ⟨_, rfl⟩
      have hC0 := Lib.hid (show C w5 by rw [← hCe]; exact ⟨VA4.out, VB4.out, A1b.out, A2.out, B4.out⟩)
      have hCC := Lib.hid hCe
      have hkl := Lib.hid hk
      obtain ⟨q, hq⟩ : ∃ q, 23 * k = q := ⟨_, rfl⟩
      obtain ⟨r1, hr1⟩ : ∃ r1, 1 + q = r1 := ⟨_, rfl⟩
      obtain ⟨r2, hr2⟩ : ∃ r2, k + 1 = r2 := ⟨_, rfl⟩
      obtain ⟨s2, hs2⟩ : ∃ s2, 23 * r2 = s2 := ⟨_, rfl⟩
      obtain ⟨e2, he2⟩ : ∃ e2, 1 + s2 = e2 := ⟨_, rfl⟩
      have m1 : (23 : Int) * (k : Int) = (q : Int) := by omega
      have m2 : (1 : Int) + (q : Int) = (r1 : Int) := by omega
      have m3 : (k : Int) + 1 = (r2 : Int) := by omega
      have m4 : (23 : Int) * (r2 : Int) = (s2 : Int) := by omega
      have m5 : (1 : Int) + (s2 : Int) = (e2 : Int) := by omega
      have hown := Lib.hid (show r1 = 1 + 23 * k ∧ e2 = 1 + 23 * (k + 1) by omega)
      have m6 : r1 ≤ 93 := by omega
      have m7 : e2 ≤ 93 := by omega
      have m8 : q ≤ 92 := by omega
      have m9 : s2 ≤ 92 := by omega
      have m10 : r2 ≤ 4 := by omega
      clear hq hr1 hr2 hs2 he2 hCe hX hY hr0 hJ h1 h2 eX eY
      go_wp2_with fail
      go_loopw [12] (fun i wr => SlRel C i wr) (fun i _ => 124 - (intOf i).toNat)
      case atStart => exact ⟨0, by omega, rfl, hC0.out⟩
      case round =>
        obtain ⟨j, hj, rfl, hC1⟩ := hrel
        have hC := Lib.hid hC1
        have hC2 := hC1
        rw [← hCC.out] at hC2
        clear hC1
        by_cases hlt : j < 124
        · have c1 := hC2.x.bat.cell (k := j) (by rw [lX.out]; omega)
          have c2 := hC2.y.bat.cell (k := j) (by rw [lY.out]; omega)
          have j0 : (0 : Int) ≤ (j : Int) := by omega
          have j1 : (j : Int) < 128 := by omega
          have hend := Lib.hid (fun m => show C (wr.drewN m) by rw [← hCC.out]; exact hC2.on (below_drewN wr m))
          clear hC2
          by_cases ho1 : r1 ≤ j
          · by_cases ho2 : j < e2
            · go_wp2_with fail
              go_big_quiet (fail)
              go_wp2_with fail
              exact ⟨⟨j + 1, by omega, by go_num, hend.out _⟩, by simp [intOf]; omega⟩
            · have hz := hst.out j hlt (by have := hown.out; omega)
              rw [hz] at c1
              go_wp2_with fail
              go_big_quiet (fail)
              go_wp2_with fail
              exact ⟨⟨j + 1, by omega, by go_num, hend.out _⟩, by simp [intOf]; omega⟩
          · have hz := hst.out j hlt (by have := hown.out; omega)
            rw [hz] at c1
            go_wp2_with fail
            go_big_quiet (fail)
            go_wp2_with fail
            exact ⟨⟨j + 1, by omega, by go_num, hend.out _⟩, by simp [intOf]; omega⟩
        · obtain rfl : j = 124 := by omega
          have hCd := Lib.hid (show C wr.drew by rw [← hCC.out]; exact hC2.on ((Below.refl wr.heap.size wr).drew))
          clear hC2
          go_wp2_with fail
          refine wp_region_at (C := C) (by kernel_rfl) (by kernel_rfl) hCd.out ?_
          rw [← hCC.out]
          go_big_quiet_want; go_big_quiet_op; go_big_quiet_on
          go_big_quiet_want; go_big_quiet_op; go_big_quiet_on
          go_big_quiet_want; refine quiet_val (.bool r) (fun _ hC => by unfold Oper.quietAt Oper.quietUpon; go_simp; exact hC.same hr.out (by rw [lX.out]; omega)) ?_; go_simp; try go_big_quiet_on
          go_big_quiet_want; go_big_quiet_op; go_big_quiet_on
          go_big_quiet_want; refine quiet_val (.pointer (some ⟨w.heap.size, k * 11, none⟩)) (fun _ _ => by unfold Oper.quietAt Oper.quietUpon; go_simp) ?_; go_simp; try go_big_quiet_on
          go_big_quiet_want; refine quiet_val (.agg (iv J).toArray) (fun _ hC => by have hq := run_ldI (ino_at lL.out hkl.out hC.va hJ'.out) lJ.out; unfold av at hq; unfold Oper.quietAt Oper.quietUpon; go_simp) ?_; go_simp; try go_big_quiet_on
          go_big_quiet_want; refine quiet_val (.agg (iv I).toArray) (fun _ hC => by have hq := run_ldI hC.vb.whole lI.out; unfold av at hq; unfold Oper.quietAt Oper.quietUpon; go_simp) ?_; go_simp; try go_big_quiet_on
          go_big_quiet_want; refine quiet_val (.bool r) (fun _ _ => by unfold Oper.quietAt Oper.quietUpon; go_simp) ?_; go_simp; try go_big_quiet_on
          go_big_quiet_want; refine quiet_val (.bool true) (fun _ _ => by unfold Oper.quietAt Oper.quietUpon; go_simp) ?_; go_simp; try go_big_quiet_on
          go_big_quiet_want; go_big_quiet_op; go_big_quiet_on
          go_big_quiet_want; refine quiet_val (.bool true) (fun _ hC => by unfold Oper.quietAt Oper.quietUpon; go_simp; exact hC.told (inoAwake_any _)) ?_; go_simp; try go_big_quiet_on
          go_big_quiet_want; refine quiet_val (.bool true) (fun _ _ => by unfold Oper.quietAt Oper.quietUpon; go_simp) ?_; go_simp; try go_big_quiet_on
          go_big_quiet_want; go_big_quiet_op; go_big_quiet_on
          refine wpQuiet_nil ?_
          intro w6 hC
          have hd := hC.wb
          go_wp2_with fail
          go_ret
          exact ⟨rfl, hd⟩
end Go.Proofs.Ytfnhngnbaigccaa
