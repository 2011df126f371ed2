/-
  The law on Text, walked.
-/
import Derived.Test.YtokpdcelfanbpaaDoorLow
namespace Go.Proofs.YtokpdcelfanbpaaDoor
open Go.RowKit Fl

theorem xor_sign {x : Nat} (h : x < S) : x ^^^ 2 ^ 63 = S + x := by
  have hS : S = 2 ^ 63 := rfl
  apply Nat.eq_of_testBit_eq
  intro i
  rw [Nat.testBit_xor, hS, Nat.testBit_two_pow]
  rcases Nat.lt_trichotomy i 63 with hi | hi | hi
  · rw [Nat.testBit_two_pow_add_gt hi]
    have : ¬ 63 = i := by omega
    simp [this]
  · subst hi
    rw [Nat.testBit_two_pow_add_eq]
    simp
  · have h1 : x < 2 ^ i := Nat.lt_of_lt_of_le (by rw [hS] at h; exact h) (Nat.pow_le_pow_right (by decide) (by omega))
    have h2 : 2 ^ 63 + x < 2 ^ i := by
      have : 2 ^ 64 ≤ 2 ^ i := Nat.pow_le_pow_right (by decide) (by omega)
      rw [hS] at h; omega
    rw [Nat.testBit_lt_two_pow h1, Nat.testBit_lt_two_pow h2]
    have : ¬ 63 = i := by omega
    simp [this]
theorem run_neg (x : Nat) (h : x < S) (w : World) : (Op.unary .neg (.float .f64 x)).run Tryd.prog w = .ok (.float .f64 (S + x)) w := by
  have e : Op.negFloat .f64 x = S + x := xor_sign h
  show (pure (Value.float .f64 (Op.negFloat .f64 x)) : Sem Value).run Tryd.prog w = _
  rw [e]; rfl

/-- the whole part lies where the float lies -/
theorem trunc_of {r n : Nat} (hr : r < R53) (h1 : n * U ≤ val r) (h2 : val r < (n + 1) * U) : trunc r = n := by
  have hu := up_R53 hr
  have e : U = 2 ^ (1074 - up r) * 2 ^ up r := by
    rw [U_eq, ← Nat.pow_add]; congr 1; rw [E_eq]; omega
  have hp := Nat.two_pow_pos (up r)
  have hd := Nat.two_pow_pos (1074 - up r)
  have hv : val r = mag r * 2 ^ up r := rfl
  rw [e, hv, ← Nat.mul_assoc] at h1 h2
  have h3 := Nat.le_of_mul_le_mul_right h1 hp
  have h4 := Nat.lt_of_mul_lt_mul_right h2
  unfold trunc
  rw [trunc_val]
  have h5 := (Nat.le_div_iff_mul_le hd).2 h3
  have h6 := (Nat.div_lt_iff_lt_mul hd).2 h4
  omega

theorem R53_val : val R53 = 9007199254740992 * U := by
  rw [U_eq, E_eq]; decide +kernel
theorem R53_of {r n : Nat} (hn : n < 9007199254740992) (h2 : val r < (n + 1) * U) : r < R53 := by
  apply Classical.byContradiction
  intro hc
  have h3 := val_le (show R53 ≤ r by omega)
  rw [R53_val] at h3
  have : (n + 1) * U ≤ 9007199254740992 * U := Nat.mul_le_mul_right _ (by omega)
  omega

theorem textB_pos {r n : Nat} (hr : r < R53) (ht : trunc r = n) : textB r = 43 :: Lib.itoa n := by
  have hI : r < I := Nat.lt_trans hr R53_I
  unfold textB
  rw [nan_fin hI, rung_fin hI, if_neg (by decide), if_neg (by omega), if_neg (by omega), ht, signC_pos (neg_fin hI)]
theorem rung_sign {r : Nat} (h : r < I) : rung (S + r) = r ∧ neg (S + r) = true ∧ nanB (S + r) = false := by
  have hS : I < S := I_lt_S
  have e1 : rung (S + r) = r := by unfold rung; rw [Nat.add_mod_left]; exact Nat.mod_eq_of_lt (by omega)
  refine ⟨e1, ?_, ?_⟩
  · unfold neg
    rw [Nat.add_div_left _ (by decide), Nat.div_eq_of_lt (by omega)]; rfl
  · unfold nanB; rw [e1]; simp; omega
theorem textB_neg {r n : Nat} (hr : r < R53) (ht : trunc r = n) : textB (S + r) = 45 :: Lib.itoa n := by
  have hI : r < I := Nat.lt_trans hr R53_I
  have ⟨h1, h2, h3⟩ := rung_sign hI
  unfold textB
  rw [h3, h1, if_neg (by decide), if_neg (by omega), if_neg (by omega), ht, signC_neg h2]

/-- a number and a part of a thousand, added -/
theorem mixed {n p : Nat} (hn : n < 1000000) (hp : p < 1000) :
    ∃ y x, Ieee.double.div (ofN p) 4652007308841189376 = some y ∧ Ieee.double.add (ofN n) y = some x ∧ x < R53 ∧ (p ≠ 999 → trunc x = n) ∧ y < I := by
  have e1000 : ofN 1000 = 4652007308841189376 := by
    have h := ofN_fin (show 1000 < 2 ^ 53 by decide)
    apply val_inj
    rw [h.2.1, U_eq, E_eq]
    decide +kernel
  obtain ⟨P, hP⟩ : ∃ P : Nat, P = 2 ^ F := ⟨_, rfl⟩
  have hP0 : 0 < P := by rw [hP]; exact Nat.two_pow_pos _
  have hU := U_P hP
  have fn := ofN_fin (show n < 2 ^ 53 by omega)
  -- the part: below one, and near
  have part : ∃ y, Ieee.double.div (ofN p) (ofN 1000) = some y ∧ y < I ∧ 9007199254740992 * (1000 * val y) ≤ 9007199254740993 * (p * (18014398509481985 * P)) := by
    by_cases h0 : p = 0
    · subst h0
      refine ⟨0, ?_, by decide, ?_⟩
      · rw [ofN_zero]; exact zero_div (ofN_fin (by decide)).1 (mag_pos (ofN_pos (by decide) (by decide)))
      · have v0 : val 0 = 0 := by decide
        rw [v0]; omega
    · obtain ⟨Y, k, hd, hk, _, hi, er, _⟩ := div_ofN (show p < 2 ^ 53 by omega) (show 1000 < 2 ^ 53 by decide) h0 (by decide)
      refine ⟨Rnd Y, hd, ?_, ?_⟩
      · have h1 := Rnd_mono (hi p (by omega))
        have h2 := ofN_fin (show p < 2 ^ 53 by omega)
        omega
      · have e1 := err_small h0 hk hP
        have l1 := (Rnd_low Y).1
        have hpU : p * U = 18014398509481984 * (p * P) := by rw [hU]; ac_rfl
        have hpP : p * (18014398509481985 * P) = 18014398509481985 * (p * P) := by ac_rfl
        rw [hpU] at er
        rw [hpP]
        generalize p * P = q at *
        generalize 1000 * 2 ^ k = g at *
        omega
  obtain ⟨y, hd, hy, hb⟩ := part
  rw [e1000] at hd
  have hX : 0 < n * U + val y ∨ n * U + val y = 0 := by omega
  have hlow := Rnd_low (n * U + val y)
  have hge : n * U ≤ val (Rnd (n * U + val y)) := by
    have h1 := val_le (Rnd_mono (Nat.le_add_right (n * U) (val y)))
    rw [← fn.2.2, fn.2.1] at h1
    exact h1
  have hnU : n * U = 18014398509481984 * (n * P) := by rw [hU]; ac_rfl
  have hn1U : (n + 1) * U = 18014398509481984 * (n * P) + 18014398509481984 * P := by rw [Nat.add_mul, hnU, Nat.one_mul, hU]
  have hn2U : (n + 1 + 1) * U = 18014398509481984 * (n * P) + 36028797018963968 * P := by rw [Nat.add_mul, hn1U, Nat.one_mul, hU]; omega
  have hnP : n * P ≤ 1000000 * P := Nat.mul_le_mul_right _ (by omega)
  have hpP : p * (18014398509481985 * P) = 18014398509481985 * (p * P) := by ac_rfl
  have hpP2 : p * P ≤ 999 * P := Nat.mul_le_mul_right _ (by omega)
  have hpP3 : p ≠ 999 → p * P ≤ 998 * P := fun h => Nat.mul_le_mul_right _ (by omega)
  rw [hpP] at hb
  have hlt2 : val (Rnd (n * U + val y)) < (n + 1 + 1) * U := by
    rw [hn2U]
    have h := hlow.1
    rw [hnU] at h
    rw [hnU]
    generalize n * P = a at *
    generalize p * P = b at *
    omega
  have hr53 := R53_of (n := n + 1) (by omega) hlt2
  have hfin : Rnd (n * U + val y) < I := Nat.lt_trans hr53 R53_I
  refine ⟨y, Rnd (n * U + val y), hd, ?_, hr53, fun hne => ?_, hy⟩
  · rw [add_fin fn.1 hy, fn.2.1, Nat.min_eq_left (Nat.le_of_lt hfin)]
  · have hb3 := hpP3 hne
    refine trunc_of hr53 hge ?_
    rw [hn1U]
    have h := hlow.1
    rw [hnU] at h
    rw [hnU]
    generalize n * P = a at *
    generalize p * P = b at *
    omega

theorem mul_zero_fin {r : Nat} (h : r < I) : Ieee.double.mul r 0 = some 0 := by
  unfold Ieee.Format.mul
  rw [read_fin h, read_fin (r := 0) (by decide)]
  have e : mag 0 = 0 := by decide
  simp only [Ieee.Datum.product, e, Nat.mul_zero, Option.map_some, Ieee.Format.write]
  simp [Ieee.Format.nearest, Ieee.Format.word]
theorem fits_fin {r : Nat} (h : r < I) : Fits r ∧ Fits (S + r) := by
  have h1 := I_lt_S
  have h2 : S = 9223372036854775808 := rfl
  unfold Fits; omega
theorem ofN_R53 {n : Nat} (h : n < 1000000) : ofN n < R53 ∧ trunc (ofN n) = n := by
  have f := ofN_fin (show n < 2 ^ 53 by omega)
  have h2 : val (ofN n) < (n + 1) * U := by rw [f.2.1, Nat.add_mul, Nat.one_mul]; have := U_pos; omega
  have h1 := R53_of (by omega) h2
  exact ⟨h1, trunc_of h1 (by rw [f.2.1]; exact Nat.le_refl _) h2⟩
theorem signOf_neg {r : Nat} (h : r < I) : signOf r 13830554455654793216 = S + r := by
  unfold signOf
  rw [rung_fin h, show neg 13830554455654793216 = true by decide]
  simp [Nat.add_comm]

/-- behind the number: the law's five texts -/
theorem texts_walk (x y : Int) (w : World) {B0 : Nat} (ht : Tab B0 w) :
    Calls Tryd.prog 9 #[.int .i64 x, .int .i64 y] w fun e w' => e = .returned (.bool true) ∧ Below w.heap.size w w' := by
  have hx := lowN_bd x (show (0 : Int) < 1000000 by decide)
  have hy := lowN_bd y (show (0 : Int) < 1000 by decide)
  obtain ⟨n, hn⟩ := Int.eq_ofNat_of_zero_le hx.1
  obtain ⟨p, hp⟩ := Int.eq_ofNat_of_zero_le hy.1
  have hx' := Lib.hid hn
  have hy' := Lib.hid hp
  rw [hn] at hx
  rw [hp] at hy
  have n1 : n < 1000000 := by omega
  have p1 : p < 1000 := by omega
  obtain ⟨q, z, d1, d2, hz, htr, hq⟩ := mixed n1 p1
  have fo1 := floatOfInt_nat n
  have fo2 := floatOfInt_nat p
  have l1 := fun w => run_quo_some 27 (ofN p) 4652007308841189376 q d1 w
  have l2 : ∀ w, (binOp .add 27 (.float .f64 (ofN n)) (.float .f64 q)).run Tryd.prog w = .ok (.float .f64 z) w := fun w => run_float_arith w .add 27 .f64 _ _ _ d2
  have T := Lib.hid ht
  have hN := ofN_R53 n1
  -- the number that is told
  have tell : ∃ v : Nat, v < R53 ∧ trunc v = n ∧ v = if p = 999 then ofN n else z := by
    by_cases h : p = 999
    · exact ⟨ofN n, hN.1, hN.2, by rw [if_pos h]⟩
    · exact ⟨z, hz, htr h, by rw [if_neg h]⟩
  obtain ⟨v, hv, htv, hve⟩ := tell
  have vI : v < I := Nat.lt_trans hv R53_I
  have l3 := fun w => run_neg v (Nat.lt_trans vI I_lt_S) w
  have l4 : ∀ w, (binOp .mul 27 (.float .f64 v) (.float .f64 0)).run Tryd.prog w = .ok (.float .f64 0) w := fun w => run_float_arith w .mul 27 .f64 _ _ _ (mul_zero_fin vI)
  have l5 := fun w => run_quo_some 27 4607182418800017408 0 I (pos_by_zero (by decide) (by decide)) w
  have t1 := Lib.hid (textB_pos hv htv)
  have t2 := Lib.hid (textB_neg hv htv)
  have nI : ofN n < I := Nat.lt_trans hN.1 R53_I
  have t3 := Lib.hid (show textB (signOf (ofN n) 13830554455654793216) = 45 :: Lib.itoa n by rw [signOf_neg nI]; exact textB_neg hN.1 hN.2)
  have t4 := Lib.hid (show textB 0 = [43, 48] by decide +kernel)
  have t5 := Lib.hid (show textB I = [43, 105, 110, 102] by decide +kernel)
  have b1 := (fits_fin vI).1
  have b2 := (fits_fin vI).2
  have b3 : ofN n < 2 ^ 64 := (fits_fin nI).1
  have b3' := Lib.hid b3
  have hlen := Lib.itoa_length_le (n : Int) (by omega) (by omega)
  have hi0 : (-9223372036854775808 : Int) ≤ n := by omega
  have hi1 : (n : Int) ≤ 9223372036854775807 := by omega
  have j1 := str_join 43 (Lib.itoa n)
  have j2 := str_join 45 (Lib.itoa n)
  clear hn hp ht hx hy d1 d2 hz htr hq hN htv hv vI nI b3
  by_cases h9 : p = 999
  · rw [if_pos h9] at hve
    subst hve
    have h9' : ((p : Int) == 999) = true := by simp; omega
    clear h9
    go_enter Tryd.func9, Tryd.ntmps9
    go_wp2_with (first
      | (go_at_call_of 33 (Value.int IntKind.i64 x); refine (low_any _ _ _ (by decide) (by decide)).mono ?_; rintro e w' ⟨rfl, rfl⟩; rw [hx'.out])
      | (go_at_call_of 33 (Value.int IntKind.i64 y); refine (low_any _ _ _ (by decide) (by decide)).mono ?_; rintro e w' ⟨rfl, rfl⟩; rw [hy'.out])
      | (go_at_call 36; refine (itoa_any _ hi0 hi1 _ T.out).mono ?_; rintro e w1 ⟨rfl, c1⟩))
    refine (text_any _ _ (T.out.on c1) b1).mono ?_
    rintro e w2 ⟨rfl, c2⟩
    rw [t1.out]
    go_wp2_with fail
    refine (text_any _ _ (T.out.on (stp c1 c2)) b2).mono ?_
    rintro e w3 ⟨rfl, c3⟩
    rw [t2.out]
    go_wp2_with (go_at_call 37; refine (copysign_any _ _ _ b3'.out (by decide)).mono ?_; rintro e w' ⟨rfl, rfl⟩)
    refine (text_any _ _ (T.out.on (stp (stp c1 c2) c3)) (signOf_lt _ _)).mono ?_
    rintro e w4 ⟨rfl, c4⟩
    rw [t3.out]
    go_wp2_with fail
    have c := stp (stp (stp c1 c2) c3) c4
    refine (text_any _ _ (T.out.on c) (by unfold Fits; decide)).mono ?_
    rintro e w5 ⟨rfl, c5⟩
    rw [t4.out]
    go_wp2_with fail
    refine (text_any _ _ (T.out.on (stp c c5)) (by unfold Fits; decide)).mono ?_
    rintro e w6 ⟨rfl, c6⟩
    rw [t5.out]
    have cc := stp (stp c c5) c6
    go_wp2_with (go_at_call 11; refine (awake_any _ (T.out.on cc)).mono ?_; rintro e w' ⟨rfl, hb1⟩)
    go_ret
    exact ⟨rfl, stp cc hb1⟩
  · rw [if_neg h9] at hve
    subst hve
    have h9' : ((p : Int) == 999) = false := by simp; omega
    clear h9
    go_enter Tryd.func9, Tryd.ntmps9
    go_wp2_with (first
      | (go_at_call_of 33 (Value.int IntKind.i64 x); refine (low_any _ _ _ (by decide) (by decide)).mono ?_; rintro e w' ⟨rfl, rfl⟩; rw [hx'.out])
      | (go_at_call_of 33 (Value.int IntKind.i64 y); refine (low_any _ _ _ (by decide) (by decide)).mono ?_; rintro e w' ⟨rfl, rfl⟩; rw [hy'.out])
      | (go_at_call 36; refine (itoa_any _ hi0 hi1 _ T.out).mono ?_; rintro e w1 ⟨rfl, c1⟩))
    refine (text_any _ _ (T.out.on c1) b1).mono ?_
    rintro e w2 ⟨rfl, c2⟩
    rw [t1.out]
    go_wp2_with fail
    refine (text_any _ _ (T.out.on (stp c1 c2)) b2).mono ?_
    rintro e w3 ⟨rfl, c3⟩
    rw [t2.out]
    go_wp2_with (go_at_call 37; refine (copysign_any _ _ _ b3'.out (by decide)).mono ?_; rintro e w' ⟨rfl, rfl⟩)
    refine (text_any _ _ (T.out.on (stp (stp c1 c2) c3)) (signOf_lt _ _)).mono ?_
    rintro e w4 ⟨rfl, c4⟩
    rw [t3.out]
    go_wp2_with fail
    have c := stp (stp (stp c1 c2) c3) c4
    refine (text_any _ _ (T.out.on c) (by unfold Fits; decide)).mono ?_
    rintro e w5 ⟨rfl, c5⟩
    rw [t4.out]
    go_wp2_with fail
    refine (text_any _ _ (T.out.on (stp c c5)) (by unfold Fits; decide)).mono ?_
    rintro e w6 ⟨rfl, c6⟩
    rw [t5.out]
    have cc := stp (stp c c5) c6
    go_wp2_with (go_at_call 11; refine (awake_any _ (T.out.on cc)).mono ?_; rintro e w' ⟨rfl, hb1⟩)
    go_ret
    exact ⟨rfl, stp cc hb1⟩
end Go.Proofs.YtokpdcelfanbpaaDoor
