/-
  Inodes that may be are laid, and read again; if one may not be, none is: the walk.
-/
import Derived.Test.YtfnhngnbaigccaaJo
namespace Go.Proofs.Ytfnhngnbaigccaa
open Go.RowKit BigFrame

attribute [local go_sem ↓] ldI_of ldF_of stI_of stF_of bdF_of bdI_of eqI_of eqF_of
set_option maxRecDepth 100000 in
set_option maxHeartbeats 4000000 in
theorem inoBack_any (L : List Int) (w : World) (hL : L.length = 44) : Calls Try.prog 4 #[av L] w (Tells (.bool true) w) := by
  have hL' := Lib.hid hL
  have hV := Lib.hid (Vi.alloc w L 25)
  have hb0 := Lib.hid ((Below.refl w.heap.size w).alloc (Nat.le_refl _) (.cells (iv L).toArray 25))
  have hld := run_ldF hV.out.whole hL
  obtain ⟨I0, e0⟩ : ∃ I, inoAt L 0 = I := ⟨_, rfl⟩
  obtain ⟨I1, e1⟩ : ∃ I, inoAt L 1 = I := ⟨_, rfl⟩
  obtain ⟨I2, e2⟩ : ∃ I, inoAt L 2 = I := ⟨_, rfl⟩
  obtain ⟨I3, e3⟩ : ∃ I, inoAt L 3 = I := ⟨_, rfl⟩
  have l0 := Lib.hid (show I0.length = 11 by rw [← e0]; exact inoAt_length hL (by omega))
  have l1 := Lib.hid (show I1.length = 11 by rw [← e1]; exact inoAt_length hL (by omega))
  have l2 := Lib.hid (show I2.length = 11 by rw [← e2]; exact inoAt_length hL (by omega))
  have l3 := Lib.hid (show I3.length = 11 by rw [← e3]; exact inoAt_length hL (by omega))
  obtain ⟨m0, h0⟩ : ∃ m, mayI I0 = m := ⟨_, rfl⟩
  obtain ⟨m1, h1⟩ : ∃ m, mayI I1 = m := ⟨_, rfl⟩
  obtain ⟨m2, h2⟩ : ∃ m, mayI I2 = m := ⟨_, rfl⟩
  obtain ⟨m3, h3⟩ : ∃ m, mayI I3 = m := ⟨_, rfl⟩
  have h4 : may4 L = (m0 && (m1 && (m2 && m3))) := by
    unfold may4
    simp [List.range, List.range.loop, e0, e1, e2, e3, h0, h1, h2, h3]
  have E0 := Lib.hid e0
  have E1 := Lib.hid e1
  have E2 := Lib.hid e2
  have E3 := Lib.hid e3
  have M0 := Lib.hid h0
  have M1 := Lib.hid h1
  have M2 := Lib.hid h2
  have M3 := Lib.hid h3
  have hy := inoLay_ok L (w.alloc (.cells (iv L).toArray 25)) hL
  have hn := inoLay_no L (w.alloc (.cells (iv L).toArray 25)) hL
  unfold av at hy hn hld ⊢
  clear e0 e1 e2 e3 h0 h1 h2 h3
  cases m0
  · have hN := Lib.hid (hn (by rw [h4]; rfl))
    clear hy hn h4
    go_enter Try.func4, Try.ntmps4
    go_wp2_with (first
      | (go_at_call 10; refine hN.out.mono ?_; unfold laidNo; rintro e w1 ⟨rfl, hb⟩; have V1 := Lib.hid (hV.out.on' hb); have B1 := Lib.hid (below_two hb0.out hb); have ld0 := run_ldI (ino_at hL'.out (k := 0) (by omega) V1.out E0.out) l0.out; unfold av at ld0; clear hb)
      | (go_at_call_of 19 I0; refine (inoMay_is I0 false _ l0.out M0.out).mono ?_; rintro e w2 ⟨rfl, hb⟩; have V2 := Lib.hid (V1.out.on' hb); have B2 := Lib.hid (below_two B1.out hb); clear hb)
      | (go_at_call 8; refine (inoAwake_any _).mono ?_; rintro e w9 ⟨rfl, hb9⟩; have hend := Lib.hid (below_two B2.out hb9); clear hb9))
    go_ret
    exact ⟨rfl, hend.out⟩
  · have tk0 : True := trivial
    cases m1
    · have hN := Lib.hid (hn (by rw [h4]; rfl))
      clear hy hn h4
      go_enter Try.func4, Try.ntmps4
      go_wp2_with (first
        | (go_at_call 10; refine hN.out.mono ?_; unfold laidNo; rintro e w1 ⟨rfl, hb⟩; have V1 := Lib.hid (hV.out.on' hb); have B1 := Lib.hid (below_two hb0.out hb); have ld0 := run_ldI (ino_at hL'.out (k := 0) (by omega) V1.out E0.out) l0.out; unfold av at ld0; clear hb)
        | (go_at_call_of 19 I0; refine (inoMay_is I0 true _ l0.out M0.out).mono ?_; rintro e w2 ⟨rfl, hb⟩; have V2 := Lib.hid (V1.out.on' hb); have B2 := Lib.hid (below_two B1.out hb); have ld1 := run_ldI (ino_at hL'.out (k := 1) (by omega) V2.out E1.out) l1.out; unfold av at ld1; clear hb)
        | (go_at_call_of 19 I1; refine (inoMay_is I1 false _ l1.out M1.out).mono ?_; rintro e w3 ⟨rfl, hb⟩; have V3 := Lib.hid (V2.out.on' hb); have B3 := Lib.hid (below_two B2.out hb); clear hb)
        | (go_at_call 8; refine (inoAwake_any _).mono ?_; rintro e w9 ⟨rfl, hb9⟩; have hend := Lib.hid (below_two B3.out hb9); clear hb9))
      go_ret
      exact ⟨rfl, hend.out⟩
    · have tk1 : True := trivial
      cases m2
      · have hN := Lib.hid (hn (by rw [h4]; rfl))
        clear hy hn h4
        go_enter Try.func4, Try.ntmps4
        go_wp2_with (first
          | (go_at_call 10; refine hN.out.mono ?_; unfold laidNo; rintro e w1 ⟨rfl, hb⟩; have V1 := Lib.hid (hV.out.on' hb); have B1 := Lib.hid (below_two hb0.out hb); have ld0 := run_ldI (ino_at hL'.out (k := 0) (by omega) V1.out E0.out) l0.out; unfold av at ld0; clear hb)
          | (go_at_call_of 19 I0; refine (inoMay_is I0 true _ l0.out M0.out).mono ?_; rintro e w2 ⟨rfl, hb⟩; have V2 := Lib.hid (V1.out.on' hb); have B2 := Lib.hid (below_two B1.out hb); have ld1 := run_ldI (ino_at hL'.out (k := 1) (by omega) V2.out E1.out) l1.out; unfold av at ld1; clear hb)
          | (go_at_call_of 19 I1; refine (inoMay_is I1 true _ l1.out M1.out).mono ?_; rintro e w3 ⟨rfl, hb⟩; have V3 := Lib.hid (V2.out.on' hb); have B3 := Lib.hid (below_two B2.out hb); have ld2 := run_ldI (ino_at hL'.out (k := 2) (by omega) V3.out E2.out) l2.out; unfold av at ld2; clear hb)
          | (go_at_call_of 19 I2; refine (inoMay_is I2 false _ l2.out M2.out).mono ?_; rintro e w4 ⟨rfl, hb⟩; have V4 := Lib.hid (V3.out.on' hb); have B4 := Lib.hid (below_two B3.out hb); clear hb)
          | (go_at_call 8; refine (inoAwake_any _).mono ?_; rintro e w9 ⟨rfl, hb9⟩; have hend := Lib.hid (below_two B4.out hb9); clear hb9))
        go_ret
        exact ⟨rfl, hend.out⟩
      · have tk2 : True := trivial
        cases m3
        · have hN := Lib.hid (hn (by rw [h4]; rfl))
          clear hy hn h4
          go_enter Try.func4, Try.ntmps4
          go_wp2_with (first
            | (go_at_call 10; refine hN.out.mono ?_; unfold laidNo; rintro e w1 ⟨rfl, hb⟩; have V1 := Lib.hid (hV.out.on' hb); have B1 := Lib.hid (below_two hb0.out hb); have ld0 := run_ldI (ino_at hL'.out (k := 0) (by omega) V1.out E0.out) l0.out; unfold av at ld0; clear hb)
            | (go_at_call_of 19 I0; refine (inoMay_is I0 true _ l0.out M0.out).mono ?_; rintro e w2 ⟨rfl, hb⟩; have V2 := Lib.hid (V1.out.on' hb); have B2 := Lib.hid (below_two B1.out hb); have ld1 := run_ldI (ino_at hL'.out (k := 1) (by omega) V2.out E1.out) l1.out; unfold av at ld1; clear hb)
            | (go_at_call_of 19 I1; refine (inoMay_is I1 true _ l1.out M1.out).mono ?_; rintro e w3 ⟨rfl, hb⟩; have V3 := Lib.hid (V2.out.on' hb); have B3 := Lib.hid (below_two B2.out hb); have ld2 := run_ldI (ino_at hL'.out (k := 2) (by omega) V3.out E2.out) l2.out; unfold av at ld2; clear hb)
            | (go_at_call_of 19 I2; refine (inoMay_is I2 true _ l2.out M2.out).mono ?_; rintro e w4 ⟨rfl, hb⟩; have V4 := Lib.hid (V3.out.on' hb); have B4 := Lib.hid (below_two B3.out hb); have ld3 := run_ldI (ino_at hL'.out (k := 3) (by omega) V4.out E3.out) l3.out; unfold av at ld3; clear hb)
            | (go_at_call_of 19 I3; refine (inoMay_is I3 false _ l3.out M3.out).mono ?_; rintro e w5 ⟨rfl, hb⟩; have V5 := Lib.hid (V4.out.on' hb); have B5 := Lib.hid (below_two B4.out hb); clear hb)
            | (go_at_call 8; refine (inoAwake_any _).mono ?_; rintro e w9 ⟨rfl, hb9⟩; have hend := Lib.hid (below_two B5.out hb9); clear hb9))
          go_ret
          exact ⟨rfl, hend.out⟩
        · have tk3 : True := trivial
          have hY := Lib.hid (hy (by rw [h4]; rfl))
          have hmy := Lib.hid (may4_N (show may4 L = true by rw [h4]; rfl))
          have hrd := Lib.hid (show readV (sector4 L) = .tuple #[av L, .int .i64 0] by unfold readV; rw [readN_sector hL'.out hmy.out])
          have hsl := Lib.hid (sector4_length hL'.out)
          have hso := Lib.hid (sector4_octs L)
          have heq := fun w => run_eqF L L w hL'.out hL'.out
          have hdd : decide (L = L) = true := decide_eq_true rfl
          rw [hdd] at heq
          unfold av at heq
          have hgd := Try.eqGuardF
          clear hy hn h4 hdd
          go_enter Try.func4, Try.ntmps4
          go_wp2_with (first
            | (go_at_call 10; refine hY.out.mono ?_; rintro e w1 ⟨g1, rfl, hg1, hr1, hb⟩; have R1 := Lib.hid (show Row w1 g1 (sector4 L) from hr1); have V1 := Lib.hid (hV.out.on' hb); have B1 := Lib.hid (below_two hb0.out hb); have ld0 := run_ldI (ino_at hL'.out (k := 0) (by omega) V1.out E0.out) l0.out; unfold av at ld0; clear hb hr1)
            | (go_at_call_of 19 I0; refine (inoMay_is I0 true _ l0.out M0.out).mono ?_; rintro e w2 ⟨rfl, hb⟩; have V2 := Lib.hid (V1.out.on' hb); have B2 := Lib.hid (below_two B1.out hb); have ld1 := run_ldI (ino_at hL'.out (k := 1) (by omega) V2.out E1.out) l1.out; unfold av at ld1; have R2 := Lib.hid (R1.out.on hb R1.out.lt); clear hb)
            | (go_at_call_of 19 I1; refine (inoMay_is I1 true _ l1.out M1.out).mono ?_; rintro e w3 ⟨rfl, hb⟩; have V3 := Lib.hid (V2.out.on' hb); have B3 := Lib.hid (below_two B2.out hb); have ld2 := run_ldI (ino_at hL'.out (k := 2) (by omega) V3.out E2.out) l2.out; unfold av at ld2; have R3 := Lib.hid (R2.out.on hb R2.out.lt); clear hb)
            | (go_at_call_of 19 I2; refine (inoMay_is I2 true _ l2.out M2.out).mono ?_; rintro e w4 ⟨rfl, hb⟩; have V4 := Lib.hid (V3.out.on' hb); have B4 := Lib.hid (below_two B3.out hb); have ld3 := run_ldI (ino_at hL'.out (k := 3) (by omega) V4.out E3.out) l3.out; unfold av at ld3; have R4 := Lib.hid (R3.out.on hb R3.out.lt); clear hb)
            | (go_at_call_of 19 I3; refine (inoMay_is I3 true _ l3.out M3.out).mono ?_; rintro e w5 ⟨rfl, hb⟩; have V5 := Lib.hid (V4.out.on' hb); have B5 := Lib.hid (below_two B4.out hb); have R5 := Lib.hid (R4.out.on hb R4.out.lt); clear hb)
            | (go_at_call 12; refine (inoRead_any _ _ 128 (sector4 L) _ hsl.out hso.out (by omega) R5.out.bat).mono ?_; rw [hrd.out]; unfold av; rintro e w6 ⟨rfl, hb⟩; have V6 := Lib.hid (V5.out.on' hb); have B6 := Lib.hid (below_two B5.out hb); clear hb)
            | (refine wpList_alloc_four rfl rfl ?_; intro G w7 hv7 hG7 hb7; have V7 := Lib.hid ((V6.out.on' hb7).oth (Oth.setCells (Oth.refl G w7) 0 (iv L)) (by have := V6.out.lt; omega)); have B7 := Lib.hid (below_setCells (below_two B6.out hb7) (Nat.le_trans B6.out.size hG7) 0 (iv L)); have hst := run_stF (w := w7) hL'.out (hv7.out.there (o := 0) (n := 44) (by rw [zz_length]; omega)); have W7 := hv7.out.over (m := L) (by rw [hL'.out, zz_length]); have ldA7 := run_ldF W7.whole hL'.out; have ldB7 := run_ldF V7.out.whole hL'.out; unfold av at hst ldA7 ldB7; clear hb7 W7)
            | (go_at_call 8; refine (inoAwake_any _).mono ?_; rintro e w9 ⟨rfl, hb9⟩; have hend := Lib.hid (below_two B7.out hb9); clear hb9))
          go_ret
          exact ⟨rfl, hend.out⟩
end Go.Proofs.Ytfnhngnbaigccaa
