/-
  What every program answers that is one.
-/
import Derived.Test.YtdpmpchmbjcocaaHd
import Derived.Test.YtdpmpchmbjcocaaHe
import Derived.Test.YtdpmpchmbjcocaaHf
namespace Go.Proofs.Ytdpmpchmbjcocaa
open Go.RowKit BigFrame

def wakeP : List Int := [0, 0, 0, 700, 0, 0, 0, 0, 0, 0, 0, 0]
theorem run_bdWT (w : World) : (bdA 22 #[(3, .int .i64 700)]).run Try.prog w = .ok (.agg (iv wakeP).toArray) w := by
  unfold bdA
  exact run_build w _ _ _ (by kernel_rfl)
theorem wakeP_may : may12 wakeP = true := by decide
theorem zs_kind (n : Nat) : kindOf (zs n) ≠ 80 := by
  unfold kindOf
  split
  · rename_i h
    rw [zs_length] at h
    rw [show bz (zs n) 0 = 0 from bz_rep n 0 0 (by omega)]
    decide
  · decide
theorem zs_octs (n : Nat) : Octs (zs n) := .rep n 0 (by omega)
theorem readPV_sec {L : List Int} (h : L.length = 12) (hm : may12 L = true) : readPV (sec12 L) = .tuple #[av L, .int .i64 0] := by unfold readPV; rw [readP_sec h (may12_iff.1 hm)]

attribute [local go_sem ↓] ldT_of stT_of bdT_of eqT_of
set_option maxRecDepth 100000 in
set_option maxHeartbeats 2000000 in
theorem ptrAwake_any (w : World) : Calls Try.prog 5 #[] w (Tells (.bool true) w) := by
  have hbi := run_bdWT
  have hbz := run_bd0T
  obtain ⟨L, hL⟩ : ∃ L, wakeP = L := ⟨_, rfl⟩
  obtain ⟨Z, hZ⟩ : ∃ Z, zz 12 = Z := ⟨_, rfl⟩
  have hLl := Lib.hid (show L.length = 12 by rw [← hL]; rfl)
  have hLm := Lib.hid (show may12 L = true by rw [← hL]; exact wakeP_may)
  have hL3 := Lib.hid (show zi L 3 = 700 by rw [← hL]; rfl)
  have hLe := Lib.hid (show decide (L = zz 12) = false by rw [← hL]; decide)
  have hZl := Lib.hid (show Z.length = 12 by rw [← hZ]; rfl)
  have hZe := Lib.hid (show decide (Z = zz 12) = true by rw [hZ]; exact decide_eq_true rfl)
  have hZ' := Lib.hid hZ
  rw [hL] at hbi
  rw [hZ] at hbz
  unfold av at hbz
  have hsl := Lib.hid (sec12_length L)
  have hso := Lib.hid (sec12_octs L)
  have hrd := Lib.hid (readPV_sec hLl.out hLm.out)
  have hrz := Lib.hid (show readPV (zs 128) = .tuple #[av Z, .int .i64 3] by unfold readPV; rw [readP_no (fineP_kind (zs_kind 128)), hZ])
  have hLay := Lib.hid (fun w => ptrLay_ok L w hLl.out hLm.out)
  have hE1 := Lib.hid (fun w => ptrEmpty_any Z true w hZl.out hZe.out)
  have hE2 := Lib.hid (fun w => ptrEmpty_any L false w hLl.out hLe.out)
  unfold av at hLay hE1 hE2
  clear hL hZ
  go_enter Try.func5, Try.ntmps5
  have tk0 : True := trivial
  have tk1 : True := trivial
  have tk2 : True := trivial
  go_wp2_with (first
    | (go_at_call 7; refine (hLay.out _).mono ?_; rintro e w1 ⟨g1, rfl, hg1, hr1, hb1⟩; have hR1 := Lib.hid (show Row w1 g1 (sec12 L) from hr1); have hB1 := Lib.hid hb1; clear hr1 hb1)
    | (go_at_call 9; clear tk0; refine (ptrRead_any _ _ 128 (sec12 L) _ hsl.out hso.out (by omega) hR1.out.bat).mono ?_; rw [hrd.out]; unfold av; rintro e w2 ⟨rfl, hb2⟩; have hB2 := Lib.hid (below_two hB1.out hb2); clear hb2)
    | (clear tk1; refine wpList_alloc_tw rfl rfl ?_; intro G w3 hv3 hG3 hb3; have hB3 := Lib.hid (below_setCells (below_two hB2.out hb3) (Nat.le_trans hB2.out.size hG3) 0 (iv L)); have hst := run_stT (w := w3) hLl.out (hv3.out.there (o := 0) (n := 12) (by rw [zz_length]; omega)); have V3 := Lib.hid (hv3.out.over (m := L) (by rw [hLl.out, zz_length])); unfold av at hst; clear hb3)
    | (at_make; refine wpList_make_bytes rfl _ _ rfl 128 rfl rfl (by decide) ?_; intro g4 w4 hr4 hg4 hb4; have hB4 := Lib.hid (below_two hB3.out hb4); have V4 := Lib.hid (V3.out.on' hb4); clear hb4 hst)
    | (go_at_call 9; refine (ptrRead_any _ _ 128 (zs 128) _ (zs_length 128) (zs_octs 128) (by omega) hr4.out.bat).mono ?_; rw [hrz.out]; unfold av; rintro e w5 ⟨rfl, hb5⟩; have hB5 := Lib.hid (below_two hB4.out hb5); have V5 := Lib.hid (V4.out.on' hb5); clear hb5)
    | (refine wpList_alloc_tw rfl rfl ?_; intro G2 w6 hv6 hG6 hb6; have hst := run_stT (w := w6) hZl.out (hv6.out.there (o := 0) (n := 12) (by rw [zz_length]; omega)); have hbb := below_setCells ((Below.refl w5.heap.size w5).trans hb6) hG6 0 (iv Z); have hB6 := Lib.hid (below_two hB5.out hbb); have V6 := V5.out.on' hbb; have c3 := V6.cell (k := 3) (by rw [hLl.out]; omega); rw [hL3.out] at c3; have V7 := Lib.hid V6; unfold av at hst; clear hb6 hbb V6)
    | (go_at_call 12; clear tk2; refine (hE1.out _).mono ?_; rintro e w8 ⟨rfl, hb8⟩; have hB8 := Lib.hid (below_two hB6.out hb8); have hld := run_ldT (V7.out.on' hb8).whole hLl.out; unfold av at hld; clear hb8)
    | (go_at_call 12; refine (hE2.out _).mono ?_; rintro e w9 ⟨rfl, hb9⟩; have hB9 := Lib.hid (below_two hB8.out hb9); clear hb9))
  go_ret
  exact ⟨rfl, hB9.out⟩
end Go.Proofs.Ytdpmpchmbjcocaa
