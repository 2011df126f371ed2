/-
  Bits of a group are laid, and read again; a bit beyond its inodes, or its blocks, is none: the walk.
-/
import Derived.Test.YtbeaodmjobdiaaaWg
import Derived.Test.YtbeaodmjobdiaaaWith
import Derived.Test.YtbeaodmjobdiaaaLo
namespace Go.Proofs.Ytbeaodmjobdiaaa
open Go.RowKit BigFrame

theorem setsN_ends (n : Nat) (R : Nat → Int) (c : Nat) : endsN (setsN n R c) n = true := by
  rw [endsN_iff]
  intro i hi
  rw [setsN_has]
  have : decide (i < n) = false := by rw [decide_eq_false_iff_not]; omega
  rw [this, Bool.false_and]
/-- with a number more from m on, that is below 96, nothing is read -/
theorem wide_code {P : List Nat} {Q : List Nat} {n m o : Nat} (h : readMay (n : Int) (m : Int) = true) (hP : P.length ≤ 4) (ho1 : m ≤ o) (ho2 : o < 96) : codeG (laidG P (putN (reN 96 Q m) o true)) n m = 3 := by
  have hl : (putN (reN 96 Q m) o true).length = 12 := by rw [putN_length, reN_length]
  rw [laid_code h hP (by rw [hl]; omega)]
  have : endsN (putN (reN 96 Q m) o true) m = false := endsN_no ho1 (by rw [hasN_put_any, reN_length, if_pos ⟨rfl, by omega⟩])
  rw [this]
  simp

set_option maxHeartbeats 1000000 in
theorem groupBack_long (N M V : Int) (a1 a2 : Option Addr) (c1 c2 n1 n2 : Nat) (w : World) (h : 30 < n1 ∨ 30 < n2) :
    Calls Try.prog 4 #[.int .i64 N, .int .i64 M, .slice a1 n1 c1, .slice a2 n2 c2, .int .i64 V] w (Tells (.bool true) w) := by
  by_cases h1 : 30 < n1
  · clear h
    go_enter Try.func4, Try.ntmps4
    go_wp2_with (go_at_call 6; refine (groupAwake_any _).mono ?_; rintro e w1 ⟨rfl, hb⟩; have hend := Lib.hid hb; clear hb)
    go_ret
    exact ⟨rfl, hend.out⟩
  · have h2 : 30 < n2 := by omega
    clear h
    go_enter Try.func4, Try.ntmps4
    go_wp2_with (go_at_call 6; refine (groupAwake_any _).mono ?_; rintro e w1 ⟨rfl, hb⟩; have hend := Lib.hid hb; clear hb)
    go_ret
    exact ⟨rfl, hend.out⟩

set_option maxRecDepth 100000 in
set_option maxHeartbeats 2000000 in
theorem groupBack_main (N M V : Int) (a1 a2 : Option Addr) (c1 c2 n1 n2 : Nat) (R1 R2 : Nat → Int) (w : World) (h1 : n1 ≤ 30) (h2 : n2 ≤ 30) (x1 : IntsAt w a1 n1 R1) (x2 : IntsAt w a2 n2 R2) :
    Calls Try.prog 4 #[.int .i64 N, .int .i64 M, .slice a1 n1 c1, .slice a2 n2 c2, .int .i64 V] w (Tells (.bool true) w) := by
  have X1 := Lib.hid x1
  have X2 := Lib.hid x2
  clear x1 x2
  have tk1 : True := trivial
  have tk2 : True := trivial
  go_enter Try.func4, Try.ntmps4
  go_wp2_with (first
    | (go_at_call_of 15 N
       refine (low_c N _ 8 _ rfl (by omega) (by omega)).mono ?_
       rintro e w1 ⟨i8, hi8, rfl, rfl⟩
       obtain ⟨q, hq⟩ : ∃ q, 4 * i8 = q := ⟨_, rfl⟩
       obtain ⟨n, hn⟩ : ∃ n, 4 + q = n := ⟨_, rfl⟩
       have f0 : (4 : Int) * (i8 : Int) = (q : Int) := by omega
       have f1 : (4 : Int) + (q : Int) = (n : Int) := by omega
       have f2 : IntKind.i64.wrap (q : Int) = (q : Int) := wrap_in (by omega)
       have f3 : IntKind.i64.wrap (n : Int) = (n : Int) := wrap_in (by omega)
       have b1 : 4 ≤ n := by omega
       have b2 : n ≤ 32 := by omega
       clear hi8 hq hn)
    | (go_at_call_of 15 M
       refine (low_c M _ 81 _ rfl (by omega) (by omega)).mono ?_
       rintro e w1 ⟨j, hj, rfl, rfl⟩
       obtain ⟨m, hm⟩ : ∃ m, 16 + j = m := ⟨_, rfl⟩
       have f4 : (16 : Int) + (j : Int) = (m : Int) := by omega
       have f5 : IntKind.i64.wrap (m : Int) = (m : Int) := wrap_in (by omega)
       have b3 : 16 ≤ m := by omega
       have b4 : m ≤ 96 := by omega
       have Hm := Lib.hid (show readMay (n : Int) (m : Int) = true by unfold readMay; rw [decide_eq_true_eq]; omega)
       obtain ⟨x8, hx8⟩ : ∃ x8, x8 = (n + 7) / 8 := ⟨_, rfl⟩
       obtain ⟨y8, hy8⟩ : ∃ y8, y8 = (m + 7) / 8 := ⟨_, rfl⟩
       have p1 : 1 ≤ x8 := by omega
       have p2 : x8 ≤ 4 := by omega
       have p3 : 2 ≤ y8 := by omega
       have p4 : y8 ≤ 12 := by omega
       have lP := setsN_length n R1 n1
       have lQ := setsN_length m R2 n2
       have oP := setsN_octs n R1 n1
       have oQ := setsN_octs m R2 n2
       have eP := setsN_ends n R1 n1
       have eQ := setsN_ends m R2 n2
       obtain ⟨P, hP⟩ : ∃ P, setsN n R1 n1 = P := ⟨_, rfl⟩
       obtain ⟨Q, hQ⟩ : ∃ Q, setsN m R2 n2 = Q := ⟨_, rfl⟩
       rw [hP] at lP oP eP
       rw [hQ] at lQ oQ eQ
       have lb := laid_back Hm.out lP lQ eP eQ
       rw [← hx8] at lP
       rw [← hy8] at lQ
       have lL := laid_length (p := P) (q := Q) (by omega) (by omega)
       have oL := laid_octs oP oQ
       obtain ⟨L, hL⟩ : ∃ L, laidG P Q = L := ⟨_, rfl⟩
       rw [hL] at lb lL oL
       have HX := Lib.hid hx8
       have HY := Lib.hid hy8
       have LP := Lib.hid lP
       have LQ := Lib.hid lQ
       have OP := Lib.hid oP
       have OQ := Lib.hid oQ
       have HP := Lib.hid hP
       have HQ := Lib.hid hQ
       have LB := Lib.hid lb
       have LL := Lib.hid lL
       have OL := Lib.hid oL
       have HL := Lib.hid (show sealed 71 (bodyG P Q) = L from hL)
       have YL := Lib.hid (show layMay x8 y8 = true by unfold layMay; rw [decide_eq_true_eq]; omega)
       clear hj hm hx8 hy8 lP lQ oP oQ eP eQ hP hQ lb lL oL hL)
    | (go_at_call_of 16 a1; refine (of_is _ _ n n1 x8 _ R1 P _ HP.out rfl (by omega) HX.out (by omega) X1.out).mono ?_; rintro e w1 ⟨gx, rfl, hgx, hr, hb⟩; have B1 := Lib.hid hb; have G1 := Lib.hid hr; clear hr hb)
    | (go_at_call_of 16 a2; refine (of_is _ _ m n2 y8 _ R2 Q _ HQ.out rfl (by omega) HY.out (by omega) (X2.out.on B1.out rfl)).mono ?_; rintro e w2 ⟨gy, rfl, hgy, hr, hb⟩; have B2 := Lib.hid (below_two B1.out hb); have G2 := Lib.hid (G1.out.on hb G1.out.lt); have Y2 := Lib.hid hr; clear hr hb)
    | (clear tk1; go_at_call 8; refine (groupLay_c _ _ _ _ x8 y8 P Q L _ HL.out YL.out LP.out LQ.out OP.out OQ.out G2.out.bat Y2.out.bat).mono ?_; rintro e w3 ⟨g3, rfl, hg3, hr, hb⟩; have B3 := Lib.hid (below_two B2.out hb); have G3 := Lib.hid (G2.out.on hb G2.out.lt); have Y3 := Lib.hid (Y2.out.on hb Y2.out.lt); have L3 := Lib.hid hr; clear hr hb)
    | (clear tk2; go_at_call 10; refine (groupRead_r _ _ 128 n m 0 L P Q _ LB.out LL.out OL.out (by decide) L3.out.bat).mono ?_; rintro e w4 ⟨v1, v2, rfl, hv1, hv2, _, hb⟩; have B4 := Lib.hid (below_two B3.out hb); have G4 := Lib.hid (G3.out.on hb G3.out.lt); have Y4 := Lib.hid (Y3.out.on hb Y3.out.lt); have U4 := Lib.hid (show BV w4 v1 P from Ans.bv (w0 := w3) hv1); have V4 := Lib.hid (show BV w4 v2 Q from Ans.bv (w0 := w3) hv2); clear hv1 hv2 hb)
    | (go_at_call_of 12 v1; refine (same_u v1 _ P _ (by rw [LP.out]; omega) U4.out ⟨_, _, _, rfl, LP.out, G4.out.bat⟩).mono ?_; rintro e w5 ⟨rfl, hb⟩; have B5 := Lib.hid (below_two B4.out hb); have G5 := Lib.hid (G4.out.on hb G4.out.lt); have Y5 := Lib.hid (Y4.out.on hb Y4.out.lt); have V5 := Lib.hid (V4.out.on hb); clear hb)
    | (go_at_call_of 12 v2; refine (same_u v2 _ Q _ (by rw [LQ.out]; omega) V5.out ⟨_, _, _, rfl, LQ.out, Y5.out.bat⟩).mono ?_; rintro e w6 ⟨rfl, hb⟩; have B6 := Lib.hid (below_two B5.out hb); have G6 := Lib.hid (G5.out.on hb G5.out.lt); have Y6 := Lib.hid (Y5.out.on hb Y5.out.lt); clear hb))
  have k96 := Nat.le_trans (countN_le Q m) b4
  obtain ⟨k7, hk7⟩ : ∃ k7, countN Q m = k7 := ⟨_, rfl⟩
  obtain ⟨R0, hR0⟩ : ∃ R0, reN 96 Q m = R0 := ⟨_, rfl⟩
  have lR : R0.length = 12 := by rw [← hR0, reN_length]
  have oR : Octs R0 := by rw [← hR0]; exact reN_octs _ _ _
  have sR : setsN 96 (zl (allN Q m)) k7 = R0 := by rw [← hk7, ← hR0]; rfl
  rw [hk7] at k96
  have K7 := Lib.hid hk7
  have HR := Lib.hid hR0
  have LR := Lib.hid lR
  have OR := Lib.hid oR
  have SR := Lib.hid sR
  clear hk7 hR0 lR oR sR
  refine (all_c _ _ y8 m _ Q _ rfl OQ.out LQ.out (by omega) Y6.out.bat (by omega)).mono ?_
  rintro e w7 ⟨v7, rfl, ho, hb⟩
  rw [K7.out] at ho
  obtain ⟨a7, c7, rfl, hI, _, _, _, _⟩ := ho.slice
  have B7 := Lib.hid (below_two B6.out hb)
  have G7 := Lib.hid (G6.out.on hb G6.out.lt)
  have I7 := Lib.hid hI
  clear ho hb hI
  by_cases hm : m < 96
  · have t9 : ((m : Int) == 96) = false := by rw [beq_eq_false_iff_ne]; omega
    obtain ⟨d, hd0⟩ : ∃ d, 96 - m = d := ⟨_, rfl⟩
    go_wp2_with (first
      | (go_at_call 16; refine (of_is _ _ 96 k7 12 _ _ R0 _ SR.out rfl (by omega) (by omega) (by omega) I7.out).mono ?_; rintro e w8 ⟨g8, rfl, hg8, hr, hb⟩; have B8 := Lib.hid (below_two B7.out hb); have G8 := Lib.hid (G7.out.on hb G7.out.lt); have R8 := Lib.hid hr; clear hr hb))
    refine (low_c V _ d _ (show (96 : Int) - (m : Int) = (d : Int) by omega) (by omega) (by omega)).mono ?_
    rintro e w1 ⟨lo, hlo, rfl, rfl⟩
    obtain ⟨o, ho⟩ : ∃ o, m + lo = o := ⟨_, rfl⟩
    have f6 : (m : Int) + (lo : Int) = (o : Int) := by omega
    have f7 : IntKind.i64.wrap (o : Int) = (o : Int) := wrap_in (by omega)
    have lW : (putN R0 o true).length = 12 := by rw [putN_length, LR.out]
    have oW := putN_octs OR.out o true
    have cW := laid_length (p := P) (q := putN R0 o true) (by rw [LP.out]; exact p2) (by omega)
    have oc := laid_octs OP.out oW
    have hd : codeG (laidG P (putN R0 o true)) n m = 3 := by rw [← HR.out]; exact wide_code Hm.out (by rw [LP.out]; exact p2) (by omega) (by omega)
    obtain ⟨W, hW⟩ : ∃ W, putN R0 o true = W := ⟨_, rfl⟩
    rw [hW] at lW oW cW oc hd
    obtain ⟨L2, hL2⟩ : ∃ L2, laidG P W = L2 := ⟨_, rfl⟩
    rw [hL2] at cW oc hd
    have HW := Lib.hid hW
    have LW := Lib.hid lW
    have OW := Lib.hid oW
    have LL2 := Lib.hid cW
    have OL2 := Lib.hid oc
    have HL2 := Lib.hid (show sealed 71 (bodyG P W) = L2 from hL2)
    have YW := Lib.hid (show layMay x8 12 = true by unfold layMay; rw [decide_eq_true_eq]; omega)
    obtain ⟨D, hD⟩ : ∃ D, codeG L2 n m = D := ⟨_, rfl⟩
    obtain ⟨S, hS⟩ : ∃ S, inoG L2 n m = S := ⟨_, rfl⟩
    obtain ⟨T, hT⟩ : ∃ T, blkG L2 n m = T := ⟨_, rfl⟩
    obtain rfl : D = 3 := hD.symm.trans hd
    have HD := Lib.hid (show codeG L2 n m = 3 ∧ inoG L2 n m = S ∧ blkG L2 n m = T from ⟨hD, hS, hT⟩)
    clear hD hS hT
    clear hlo ho hW hL2 lW oW cW oc hd
    go_wp2_with (first
      | (go_at_call 17; refine (with_c _ _ 12 o _ true R0 W _ HW.out rfl OR.out LR.out (by omega) R8.out.bat (fun h => by cases h)).mono ?_; rintro e w9 ⟨v9, rfl, ho9, hb9⟩; obtain ⟨g9, c9, rfl, _, _, _⟩ := ho9.at LW.out (by omega); have W9 := Lib.hid ho9; have B9 := Lib.hid (below_two B8.out hb9); have G9 := Lib.hid (G8.out.on hb9 G8.out.lt); clear ho9 hb9)
      | (go_at_call 8; refine (groupLay_c _ _ _ _ x8 12 P W L2 _ HL2.out YW.out LP.out LW.out OP.out OW.out G9.out.bat W9.out.bat).mono ?_; rintro e w10 ⟨g10, rfl, hg10, hr, hb⟩; have B10 := Lib.hid (below_two B9.out hb); have L10 := Lib.hid hr; clear hr hb)
      | (go_at_call 10; refine (groupRead_r _ _ 128 n m 3 L2 S T _ HD.out LL2.out OL2.out (by decide) L10.out.bat).mono ?_; rintro e w11 ⟨v3, v4, rfl, _, _, _, hb⟩; have B11 := Lib.hid (below_two B10.out hb); clear hb)
      | (go_at_call 6; refine (groupAwake_any _).mono ?_; rintro e w12 ⟨rfl, hb⟩; have hend := Lib.hid (below_two B11.out hb); clear hb))
    go_ret
    exact ⟨rfl, hend.out⟩
  · have t9 : ((m : Int) == 96) = true := by rw [beq_iff_eq]; omega
    go_wp2_with (first
      | (go_at_call 16; refine (of_is _ _ 96 k7 12 _ _ R0 _ SR.out rfl (by omega) (by omega) (by omega) I7.out).mono ?_; rintro e w8 ⟨g8, rfl, hg8, hr, hb⟩; have B8 := Lib.hid (below_two B7.out hb); have G8 := Lib.hid (G7.out.on hb G7.out.lt); have R8 := Lib.hid hr; clear hr hb))
    refine (low_c V _ 1 _ rfl (by omega) (by omega)).mono ?_
    rintro e w1 ⟨lo, hlo, rfl, rfl⟩
    obtain ⟨o, ho⟩ : ∃ o, m + lo = o := ⟨_, rfl⟩
    have f6 : (m : Int) + (lo : Int) = (o : Int) := by omega
    have f7 : IntKind.i64.wrap (o : Int) = (o : Int) := wrap_in (by omega)
    have lW : (putN R0 o true).length = 12 := by rw [putN_length, LR.out]
    have oW := putN_octs OR.out o true
    have cW := laid_length (p := P) (q := putN R0 o true) (by rw [LP.out]; exact p2) (by omega)
    have oc := laid_octs OP.out oW
    have hd : (laidG P (putN R0 o true)).length = 128 := cW
    obtain ⟨W, hW⟩ : ∃ W, putN R0 o true = W := ⟨_, rfl⟩
    rw [hW] at lW oW cW oc hd
    obtain ⟨L2, hL2⟩ : ∃ L2, laidG P W = L2 := ⟨_, rfl⟩
    rw [hL2] at cW oc hd
    have HW := Lib.hid hW
    have LW := Lib.hid lW
    have OW := Lib.hid oW
    have LL2 := Lib.hid cW
    have OL2 := Lib.hid oc
    have HL2 := Lib.hid (show sealed 71 (bodyG P W) = L2 from hL2)
    have YW := Lib.hid (show layMay x8 12 = true by unfold layMay; rw [decide_eq_true_eq]; omega)
    obtain ⟨D, hD⟩ : ∃ D, codeG L2 n m = D := ⟨_, rfl⟩
    obtain ⟨S, hS⟩ : ∃ S, inoG L2 n m = S := ⟨_, rfl⟩
    obtain ⟨T, hT⟩ : ∃ T, blkG L2 n m = T := ⟨_, rfl⟩
    have HD := Lib.hid (show codeG L2 n m = D ∧ inoG L2 n m = S ∧ blkG L2 n m = T from ⟨hD, hS, hT⟩)
    clear hD hS hT
    clear hlo ho hW hL2 lW oW cW oc hd
    go_wp2_with (first
      | (go_at_call 17; refine (with_c _ _ 12 o _ true R0 W _ HW.out rfl OR.out LR.out (by omega) R8.out.bat (fun h => by cases h)).mono ?_; rintro e w9 ⟨v9, rfl, ho9, hb9⟩; obtain ⟨g9, c9, rfl, _, _, _⟩ := ho9.at LW.out (by omega); have W9 := Lib.hid ho9; have B9 := Lib.hid (below_two B8.out hb9); have G9 := Lib.hid (G8.out.on hb9 G8.out.lt); clear ho9 hb9)
      | (go_at_call 8; refine (groupLay_c _ _ _ _ x8 12 P W L2 _ HL2.out YW.out LP.out LW.out OP.out OW.out G9.out.bat W9.out.bat).mono ?_; rintro e w10 ⟨g10, rfl, hg10, hr, hb⟩; have B10 := Lib.hid (below_two B9.out hb); have L10 := Lib.hid hr; clear hr hb)
      | (go_at_call 10; refine (groupRead_r _ _ 128 n m D L2 S T _ HD.out LL2.out OL2.out (by decide) L10.out.bat).mono ?_; rintro e w11 ⟨v3, v4, rfl, _, _, _, hb⟩; have B11 := Lib.hid (below_two B10.out hb); clear hb)
      | (go_at_call 6; refine (groupAwake_any _).mono ?_; rintro e w12 ⟨rfl, hb⟩; have hend := Lib.hid (below_two B11.out hb); clear hb))
    go_ret
    exact ⟨rfl, hend.out⟩
theorem groupBack_any (N M V : Int) (a1 a2 : Option Addr) (c1 c2 n1 n2 : Nat) (R1 R2 : Nat → Int) (w : World) (x1 : IntsAt w a1 n1 R1) (x2 : IntsAt w a2 n2 R2) :
    Calls Try.prog 4 #[.int .i64 N, .int .i64 M, .slice a1 n1 c1, .slice a2 n2 c2, .int .i64 V] w (Tells (.bool true) w) := by
  by_cases h : 30 < n1 ∨ 30 < n2
  · exact groupBack_long N M V a1 a2 c1 c2 n1 n2 w h
  · exact groupBack_main N M V a1 a2 c1 c2 n1 n2 R1 R2 w (by omega) (by omega) x1 x2
end Go.Proofs.Ytbeaodmjobdiaaa
