/-
  What every program answers that is one.
-/
import Derived.Test.YtfnhngnbaigccaaJi
import Derived.Test.YtfnhngnbaigccaaJc
namespace Go.Proofs.Ytfnhngnbaigccaa
open Go.RowKit BigFrame

def wakeI : List Int := [1, 1, 300, 0, 0, 0, 0, 0, 0, 0, 0]
def wakeL : List Int := zz 11 ++ (wakeI ++ zz 22)
theorem run_bdWI (w : World) : (bdA 24 #[(0, .int .i64 1), (1, .int .i64 1), (2, .int .i64 300)]).run Try.prog w = .ok (.agg (iv wakeI).toArray) w := by
  unfold bdA
  exact run_build w _ _ _ (by kernel_rfl)
theorem run_bdWF (w : World) : (bdA 25 #[(1, .agg (iv wakeI).toArray)]).run Try.prog w = .ok (.agg (iv wakeL).toArray) w := by
  unfold bdA
  exact run_build w _ _ _ (by kernel_rfl)
theorem wake_may : may4 wakeL = true := by decide
theorem need_c (n C r : Int) (w : World) (hC : C = n) (hr : needZ n = r) :
    Calls Try.prog 17 #[.int .i64 C] w fun e w' => e = .returned (.int .i64 r) ∧ w = w' := by
  subst hC hr; exact need_any C w
theorem place_c (k C : Int) (w : World) (hC : C = k) :
    Calls Try.prog 14 #[.int .i64 C] w fun e w' => e = .returned (placeZ k) ∧ w = w' := by
  subst hC; exact place_any C w
theorem may4_N {L : List Int} (h : may4 L = true) : mayN L 4 := may4_iff.1 h

theorem ino_at {L : List Int} (_h : L.length = 44) {k : Nat} (_hk : k < 4) {w : World} {t : TypeId} {g : Nat} (hV : Vi w t g L) {I : List Int} (hI : inoAt L k = I) : w.rangeAt g (k * 11) (iv I) := by
  have := hV.range (k * 11) 11
  rw [← hI]; exact this

attribute [local go_sem ↓] ldI_of ldF_of stI_of stF_of bdF_of bdI_of eqI_of
set_option maxRecDepth 100000 in
set_option maxHeartbeats 2000000 in
theorem inoAwake_any (w : World) : Calls Try.prog 8 #[] w (Tells (.bool true) w) := by
  have hbi := run_bdWI
  have hbf := run_bdWF
  have hbz := run_bd0I
  have hgd := Try.eqGuardI
  obtain ⟨X, hX⟩ : ∃ X, wakeI = X := ⟨_, rfl⟩
  obtain ⟨L, hL⟩ : ∃ L, wakeL = L := ⟨_, rfl⟩
  obtain ⟨Z, hZ⟩ : ∃ Z, zz 11 = Z := ⟨_, rfl⟩
  have hLl := Lib.hid (show L.length = 44 by rw [← hL]; rfl)
  have hLm := Lib.hid (show may4 L = true by rw [← hL]; exact wake_may)
  have hL0 := Lib.hid (show (L.drop 0).take 11 = Z by rw [← hL, ← hZ]; rfl)
  have hL13 := Lib.hid (show zi L 13 = 300 by rw [← hL]; rfl)
  have hZl := Lib.hid (show Z.length = 11 by rw [← hZ]; rfl)
  have hZm := Lib.hid (show mayI Z = true by rw [← hZ]; rfl)
  have hp18 : placeZ 18 = .tuple #[.int .i64 2, .int .i64 0, .int .i64 0] := by rfl
  have hp := Lib.hid hp18
  have heq := fun w => run_eqI Z Z w hZl.out hZl.out
  have hdd : decide (Z = Z) = true := decide_eq_true rfl
  rw [hdd] at heq
  rw [hX] at hbi hbf
  rw [hL] at hbf
  rw [hZ] at hbz
  unfold av at hbz heq
  have hsl := Lib.hid (sector4_length hLl.out)
  have hso := Lib.hid (sector4_octs L)
  have hrd := Lib.hid (show readV (sector4 L) = .tuple #[av L, .int .i64 0] by unfold readV; rw [readN_sector hLl.out (may4_N hLm.out)])
  have hLay := Lib.hid (fun w => inoLay_ok L w hLl.out hLm.out)
  unfold av at hLay
  clear hX hL hZ hdd hp18
  go_enter Try.func8, Try.ntmps8
  go_wp2_with (first
    | (go_at_call 10; refine (hLay.out _).mono ?_; rintro e w1 ⟨g1, rfl, hg1, hr1, hb1⟩; have hR1 := Lib.hid (show Row w1 g1 (sector4 L) from hr1); have hB1 := Lib.hid hb1; clear hr1 hb1)
    | (go_at_call 12; refine (inoRead_any _ _ 128 (sector4 L) _ hsl.out hso.out (by omega) hR1.out.bat).mono ?_; rw [hrd.out]; unfold av; rintro e w2 ⟨rfl, hb2⟩; have hB2 := Lib.hid (below_two hB1.out hb2); clear hb2)
    | (refine wpList_alloc_four rfl rfl ?_; intro G w3 hv3 hG3 hb3; have hB3 := Lib.hid (below_setCells (below_two hB2.out hb3) (Nat.le_trans hB2.out.size hG3) 0 (iv L)); have hst := run_stF (w := w3) hLl.out (hv3.out.there (o := 0) (n := 44) (by rw [zz_length]; omega)); have hV := hv3.out.over (m := L) (by rw [hLl.out, zz_length]); have hld := run_ldI (hV.range 0 11) (by rw [hL0.out]; exact hZl.out); rw [hL0.out] at hld; have c13 := hV.cell (k := 13) (by rw [hLl.out]; omega); rw [hL13.out] at c13; unfold av at hst hld; clear hb3 hV)
    | (go_at_call 14; refine (place_c 18 _ _ rfl).mono ?_; rw [hp.out]; rintro e w4 ⟨rfl, rfl⟩)
    | (go_at_call 17; refine (need_c 300 _ 3 _ rfl rfl).mono ?_; rintro e w5 ⟨rfl, rfl⟩)
    | (go_at_call 19; refine (inoMay_is Z true _ hZl.out hZm.out).mono ?_; rintro e w6 ⟨rfl, hb6⟩; have hB6 := Lib.hid (below_two hB3.out hb6); clear hb6))
  go_ret
  exact ⟨rfl, hB6.out⟩
end Go.Proofs.Ytfnhngnbaigccaa
