/-
  The law on Share, walked.
-/
import Derived.Test.YtokpdcelfanbpaaDoorLow
namespace Go.Proofs.YtokpdcelfanbpaaDoor
open Go.RowKit Fl

/-- a float of a whole number below 0 -/
theorem ofI_neg (n : Nat) (hn : n ≠ 0) : ofI (-(n : Int)) = S + ofN n := by
  show Ieee.double.write (.number (decide (-(n : Int) < 0)) (-(n : Int)).natAbs 0) = _
  have e : decide (-(n : Int) < 0) = true := by simp; omega
  rw [e, Int.natAbs_neg, Int.natAbs_natCast]
  have h := nearest_eq true n E
  rw [show ((E : Nat) : Int) - 1074 = 0 by rw [E_eq]; omega, ← U_eq] at h
  exact h

theorem pos_by_zero {r : Nat} (hr : r < I) (h0 : r ≠ 0) : Ieee.double.div r 0 = some I := by
  unfold Ieee.Format.div
  rw [read_fin hr, read_fin (r := 0) (by decide)]
  have e : mag 0 = 0 := by decide
  simp only [Ieee.Datum.quotient, e, if_true, if_neg (mag_pos h0)]
  rfl
theorem neg_by_zero {r : Nat} (hr : r < I) (h0 : r ≠ 0) : Ieee.double.div (S + r) 0 = some (S + I) := by
  have hS : I < S := I_lt_S
  have e1 : rung (S + r) = r := by unfold rung; rw [Nat.add_mod_left]; exact Nat.mod_eq_of_lt (by omega)
  have e2 : neg (S + r) = true := by
    unfold neg
    rw [Nat.add_div_left _ (by decide), Nat.div_eq_of_lt (by omega)]; rfl
  unfold Ieee.Format.div
  rw [read_num (by rw [e1]; exact hr), e1, e2, read_fin (r := 0) (by decide)]
  have e : mag 0 = 0 := by decide
  simp only [Ieee.Datum.quotient, e, if_true, if_neg (mag_pos h0)]
  rfl

theorem isInf_top (w : World) : Calls Tryd.prog 34 #[.float .f64 I, .int .i64 1] w fun e w' => e = .returned (.bool true) ∧ w = w' := by
  have h := isInf_pos I w
  rw [show (!nanB I && decide ((I : Int) ≤ ord I)) = true by decide] at h
  exact h
set_option maxHeartbeats 400000 in
theorem isInf_bottom (w : World) : Calls Tryd.prog 34 #[.float .f64 (S + I), .int .i64 (-1)] w fun e w' => e = .returned (.bool true) ∧ w = w' := by
  have hn : ∀ w : World, (Op.unary .neg (.float .f64 (S + I))).run Tryd.prog w = .ok (.float .f64 I) w := fun _ => by kernel_rfl
  have hg : (FloatKind.f64.format.order I 9218868437227405311 == some Ordering.gt) = true := by decide +kernel
  go_enter Tryd.func34, Tryd.ntmps34
  go_wp2_with fail
  go_ret
  exact ⟨rfl, rfl⟩

set_option maxHeartbeats 1000000 in
theorem shares_walk (x y : Int) (w : World) {B0 : Nat} (ht : Tab B0 w) :
    Calls Tryd.prog 6 #[.int .i64 x, .int .i64 y] w fun e w' => e = .returned (.bool true) ∧ Below w.heap.size w w' := by
  have hx := lowN_bd x (show (0 : Int) < 1000000 by decide)
  have hy := lowN_bd y (show (0 : Int) < 1000000 by decide)
  obtain ⟨f, hf⟩ := Int.eq_ofNat_of_zero_le hx.1
  obtain ⟨t', ht'⟩ := Int.eq_ofNat_of_zero_le hy.1
  have hf' := Lib.hid hf
  have hty := Lib.hid ht'
  rw [hf] at hx
  rw [ht'] at hy
  have f1 : f < 1000000 := by omega
  have t1 : t' < 1000000 := by omega
  have T := Lib.hid ht
  have hm0 : (0 : Int) ≤ (f : Int) * (1 + (t' : Int)) := Int.mul_nonneg (by omega) (by omega)
  have hm1 : (f : Int) * (1 + (t' : Int)) ≤ 1000000000000 := by
    have h1 : (f : Int) * (1 + (t' : Int)) ≤ 1000000 * (1 + (t' : Int)) := Int.mul_le_mul_of_nonneg_right (by omega) (by omega)
    omega
  clear hf ht' ht hx hy
  go_enter Tryd.func6, Tryd.ntmps6
  go_wp2_with (first
    | (go_at_call_of 33 (Value.int IntKind.i64 x); refine (low_any _ _ _ (by decide) (by decide)).mono ?_; rintro e w' ⟨rfl, rfl⟩; rw [hf'.out])
    | (go_at_call_of 33 (Value.int IntKind.i64 y); refine (low_any _ _ _ (by decide) (by decide)).mono ?_; rintro e w' ⟨rfl, rfl⟩; rw [hty.out]))
  have hT : ofI (1 + (t' : Int)) = ofN (t' + 1) := by rw [← ofI_nat]; congr 1; omega
  have hF : ofI ((f : Int) + 1) = ofN (f + 1) := by rw [← ofI_nat]; congr 1
  have hM : ofI ((f : Int) * (1 + (t' : Int))) = ofN (f * (t' + 1)) := by
    rw [← ofI_nat]
    congr 1
    rw [Int.natCast_mul]; congr 1; omega
  have hN : ofI (-1 - (f : Int)) = S + ofN (f + 1) := by rw [← ofI_neg _ (by omega)]; congr 1; omega
  have hZ : ofI 0 = 0 := (ofI_nat 0).trans ofN_zero
  have hmul : f * (t' + 1) < 2 ^ 53 := by
    have : f * (t' + 1) ≤ 1000000 * (t' + 1) := Nat.mul_le_mul_right _ (by omega)
    omega
  obtain ⟨r, s, d1, d2, hrs, hsI⟩ := div_grows f1 (show t' + 1 ≤ 1000000 by omega) (by omega)
  have g1 := Lib.hid (show Ieee.double.div (ofI f) (ofI (1 + (t' : Int))) = some r by rw [ofI_nat, hT]; exact d1)
  have g2 := Lib.hid (show Ieee.double.div (ofI ((f : Int) + 1)) (ofI (1 + (t' : Int))) = some s by rw [hF, hT]; exact d2)
  have g3 := Lib.hid (show Ieee.double.div (ofI (1 + (t' : Int))) (ofI (1 + (t' : Int))) = some 4607182418800017408 by
    rw [hT, ← ofN_one]
    have := div_whole (f := 1) (t := t' + 1) (by omega) (by omega) (by omega)
    rw [Nat.one_mul] at this; exact this)
  have g4 := Lib.hid (show Ieee.double.div (ofI 0) (ofI (1 + (t' : Int))) = some 0 by
    rw [hT, hZ]; exact zero_div (ofN_fin (by omega)).1 (mag_pos (ofN_pos (by omega) (by omega))))
  have g5 := Lib.hid (show Ieee.double.div (ofI ((f : Int) + 1)) (ofI 0) = some I by
    rw [hF, hZ]; exact pos_by_zero (ofN_fin (by omega)).1 (ofN_pos (by omega) (by omega)))
  have g6 := Lib.hid (show Ieee.double.div (ofI (-1 - (f : Int))) (ofI 0) = some (S + I) by
    rw [hN, hZ]; exact neg_by_zero (ofN_fin (by omega)).1 (ofN_pos (by omega) (by omega)))
  have g8 := Lib.hid (show Ieee.double.div (ofI ((f : Int) * (1 + (t' : Int)))) (ofI (1 + (t' : Int))) = some (ofN f) by
    rw [hM, hT]; exact div_whole hmul (by omega) (by omega))
  have k1 := Lib.hid (show decide (key r < key s) = true by rw [key_fin (by omega), key_fin hsI]; simpa using hrs)
  have b1 : Fits r := by have := I_lt_S; have : S = 9223372036854775808 := rfl; unfold Fits; omega
  have b2 : Fits s := by have := I_lt_S; have : S = 9223372036854775808 := rfl; unfold Fits; omega
  have b3 : Fits (ofN f) := by have := (ofN_fin (show f < 2 ^ 53 by omega)).1; have := I_lt_S; have : S = 9223372036854775808 := rfl; unfold Fits; omega
  have e1 : (FloatKind.f64.format.order 4607182418800017408 4607182418800017408 == some Ordering.eq) = true := by decide +kernel
  have e2 : (FloatKind.f64.format.order 0 0 == some Ordering.eq) = true := by decide +kernel
  have hfo := Lib.hid (floatOfInt_nat f)
  clear hT hF hM hN hZ hmul d1 d2 hrs hsI
  refine (share_is _ _ _ g1.out _).mono ?_
  rintro e w1 ⟨rfl, c1⟩
  go_wp2_with fail
  refine (share_is _ _ _ g2.out _).mono ?_
  rintro e w2 ⟨rfl, c2⟩
  go_wp2_with fail
  refine (less_any _ _ _ b1 b2).mono ?_
  rintro e w' ⟨rfl, rfl⟩
  rw [k1.out]
  go_wp2_with fail
  refine (share_is _ _ _ g3.out _).mono ?_
  rintro e w3 ⟨rfl, c3⟩
  go_wp2_with fail
  refine (share_is _ _ _ g4.out _).mono ?_
  rintro e w4 ⟨rfl, c4⟩
  go_wp2_with fail
  refine (share_is _ _ _ g5.out _).mono ?_
  rintro e w5 ⟨rfl, c5⟩
  go_wp2_with fail
  refine (isInf_top _).mono ?_
  rintro e w' ⟨rfl, rfl⟩
  go_wp2_with fail
  refine (share_is _ _ _ g6.out _).mono ?_
  rintro e w6 ⟨rfl, c6⟩
  go_wp2_with fail
  refine (isInf_bottom _).mono ?_
  rintro e w' ⟨rfl, rfl⟩
  go_wp2_with fail
  refine (share_any _ _ _).mono ?_
  rintro e w7 ⟨q, rfl, hq, c7⟩
  have hn := Lib.hid (show nanB q = true by
    have e : Ieee.double.div (ofI 0) (ofI 0) = none := by decide +kernel
    rw [e] at hq; exact hq.2)
  clear hq
  go_wp2_with fail
  refine (isNaN_any _ _).mono ?_
  rintro e w' ⟨rfl, rfl⟩
  rw [hn.out]
  go_wp2_with fail
  refine (share_is _ _ _ g8.out _).mono ?_
  rintro e w8 ⟨rfl, c8⟩
  have c := stp (stp (stp (stp (stp (stp (stp c1 c2) c3) c4) c5) c6) c7) c8
  go_wp2_with fail
  refine (text_any _ _ (T.out.on c) b3).mono ?_
  rintro e w9 ⟨rfl, c9⟩
  go_wp2_with fail
  rw [hfo.out]
  refine (text_any _ _ (T.out.on (stp c c9)) b3).mono ?_
  rintro e w10 ⟨rfl, c10⟩
  have cc := stp (stp c c9) c10
  go_wp2_with (go_at_call 11; refine (awake_any _ (T.out.on cc)).mono ?_; rintro e w' ⟨rfl, hb1⟩)
  go_ret
  exact ⟨rfl, stp cc hb1⟩
end Go.Proofs.YtokpdcelfanbpaaDoor
