/-
  What is marked, deferred, and firm is free again: the walk.
-/
import Derived.Test.YtdkjmpicdkfgoaaQp
import Derived.Test.YtdkjmpicdkfgoaaLo
import Derived.Deep.LoopGhost
import Derived.Deep.RegionHeld3

namespace Go.Proofs.Ytdkjmpicdkfgoaa
open Go.RowKit BigFrame Fl

/-- the list grows: so many that are not taken -/
def FillRel (_w w1 : World) (_a N : Nat) (_g : Nat) (gk : Nat) (V I : Value) (wr : World) : Prop :=
  ∃ i : Nat, i + gk = N ∧ I = .int .i64 (i : Int) ∧ OwnK wr w1.heap.size V (List.replicate i false) ∧ Below w1.heap.size w1 wr
/-- i of the numbers are looked at -/
def BackRel (w : World) (a q s m g : Nat) (gk : Nat) (T G I : Value) (wr : World) : Prop :=
  ∃ (i : Nat) (Y : Nat → List Nat) (L : List Bool) (tk gn : Nat), i + gk = m ∧ I = .int .i64 (i : Int) ∧ T = .int .i64 (tk : Int) ∧ G = .int .i64 (gn : Int) ∧ tk ≤ i ∧ gn ≤ tk ∧ Lw w wr [q, s] s g 8 16 Y ∧ BackIn g Y L tk gn ∧ KAt wr q L ∧ BoxAt wr a g 8 16
theorem rep_snoc (n : Nat) : List.replicate n false ++ [false] = List.replicate (n + 1) false := by
  rw [List.replicate_succ']
set_option maxRecDepth 100000 in
set_option maxHeartbeats 2000000 in
theorem back_any (x0 x2 : Int) (m cap : Nat) (ad : Option Addr) (R : Nat → Int) (w : World) (hx : IntsAt w ad m R) (hr : ∀ k, k < m → -9223372036854775808 ≤ R k ∧ R k ≤ 9223372036854775807) :
    Calls Try.prog 6 #[.int .i64 x0, .slice ad m cap, .int .i64 x2] w (Tells (.bool true) w) := by
  have hx' := Lib.hid hx
  have hr' := Lib.hid hr
  clear hx hr
  by_cases hm : 20 < m
  · have dm : decide (20 < (m : Int)) = true := decide_eq_true (by omega)
    go_enter Try.func6, Try.ntmps6
    go_wp2_with (go_at_call 7; refine (awake_any _).mono ?_; rintro e w4 ⟨rfl, hb⟩)
    go_ret
    exact ⟨rfl, hb⟩
  · have dm : decide (20 < (m : Int)) = false := decide_eq_false (by omega)
    go_enter Try.func6, Try.ntmps6
    go_wp2_with fail
    refine (low_c x0 _ 4 _ (by omega) (by omega) (by omega)).mono ?_
    rintro e w1 ⟨k0, hk0, rfl, rfl⟩
    go_wp2_with fail
    obtain ⟨g, hg⟩ : ∃ g : Nat, g = 1 + k0 := ⟨_, rfl⟩
    rw [show (1 + (k0 : Int)) = (g : Int) by omega]
    have hg1 : 1 ≤ g := by omega
    have hg4 : g ≤ 4 := by omega
    have okG := Lib.hid (show Geom (g : Int) 8 16 g 8 16 from ⟨rfl, rfl, rfl, by constructor <;> omega⟩)
    have bx := boxAt_alloc w (g : Int) 8 16 23
    obtain ⟨a, ha⟩ : ∃ a, w.heap.size = a := ⟨_, rfl⟩
    have hb0 := (Below.refl w.heap.size w).alloc (Nat.le_refl _) (.cells #[.int .i64 (g : Int), .int .i64 8, .int .i64 16] 23)
    obtain ⟨wa', hwa⟩ : ∃ wa', w.alloc (.cells #[.int .i64 (g : Int), .int .i64 8, .int .i64 16] 23) = wa' := ⟨_, rfl⟩
    rw [hwa] at bx hb0 ⊢
    rw [ha] at bx ⊢
    have bx' := Lib.hid bx
    have hb0' := Lib.hid hb0
    clear hg hk0 hwa hb0 bx
    refine (new_ok _ _ _ g 8 16 _ okG.out).mono ?_
    rintro e w1 ⟨s, rfl, hs, hS, hb⟩
    have L1 := Lib.hid (show Lv w w1 s g 8 16 (X0 8 16) from ⟨hS, Nat.le_trans hb0'.out.size hs, hb0'.out.trans (hb.mono hb0'.out.size)⟩)
    have bx1 := Lib.hid (box_on hb bx'.out)
    have has : a ≠ s := by have := bx'.out.2.2.2; omega
    have hx1 := Lib.hid hx'.out
    clear hs hS hb bx' hb0' hx'
    go_wp2_with fail
    obtain ⟨N, hN⟩ : ∃ N, N = 2 + g * 19 := ⟨_, rfl⟩
    have hN' := Lib.hid (show ((N : Nat) : Int) = ((2 + g * spanN 8 16 : Nat) : Int) by rw [hN]; rfl)
    have hN2 := Lib.hid hN
    have hNb : N ≤ 78 := by omega
    have hN0 : 20 ≤ N := by omega
    clear hN
    go_loopg [9, 10] N (fun gk V I wr => FillRel w w1 a N g gk V I wr)
    case atStart => exact ⟨0, by omega, rfl, OwnK.nil _ _, Below.refl _ _⟩
    case round =>
      obtain ⟨i, hi, rfl, hO, hB⟩ := hrel
      have O2 := Lib.hid hO
      have B2 := Lib.hid hB
      have X2 := Lib.hid (box_on hB bx1.out)
      obtain ⟨c0, c1, c2, hal⟩ := X2.out
      clear hO hB
      by_cases hlt : i < N
      · obtain ⟨gn, rfl⟩ : ∃ n, gk = n + 1 := ⟨gk - 1, by omega⟩
        have lt1 : (i : Int) < (N : Int) := by omega
        go_wp2_with (first
          | (go_at_call 21; refine (geoSectors_c (N : Int) _ okG.out hN'.out).mono ?_; rintro e w2 ⟨rfl, hb⟩; have O3 := Lib.hid (O2.out.on hb); have B3 := Lib.hid (B2.out.trans (hb.mono B2.out.size)); clear hb)
          | (at_builtin; refine wpList_append_bool rfl (.tmp 39) (.tmp 40) rfl w1.heap.size _ (List.replicate i false) false rfl O3.out rfl rfl (by simp; omega) B3.out.size ?_; intro v4 w4 hO4 _ hb4; have B4 := Lib.hid (B3.out.trans (hb4.mono (Nat.le_refl _))); clear hb4))
        go_roundg gn
        case measure => omega
        case rel => exact ⟨i + 1, by omega, by go_num, by rw [← rep_snoc]; exact hO4.out, B4.out⟩
      · obtain rfl : gk = 0 := by omega
        obtain rfl : i = N := by omega
        have lt1 : decide ((i : Int) < (i : Int)) = false := decide_eq_false (by omega)
        obtain ⟨q, cq, rfl, hq1, hq2, hqc⟩ := O2.out.form (by simp; omega)
        rw [List.length_replicate] at hqc ⊢
        have G2 := Lib.hid (L1.out.lw.grow B2.out [q] (fun f hf => by simp at hf; rw [hf]; exact ⟨hq1, hq2⟩))
        have K2 := Lib.hid (show KAt wr q (List.replicate i false) from fun k hk => hqc k (by simpa using hk))
        have hqs : q ≠ s := by have := L1.out.sp.sp.ltS; omega
        have haq : a ≠ q := by have := bx1.out.2.2.2; omega
        clear hqc hq1 hq2 L1 O2 B2 bx1
        go_wp2_with (go_at_call 21; refine (geoSectors_c (i : Int) _ okG.out hN'.out).mono ?_; rintro e w2 ⟨rfl, hb⟩; have G3 := Lib.hid (G2.out.below hb); have K3 := Lib.hid (K2.out.same (hb.block q (G2.out.sp.sp.ltF q (by simp)))); have X3 := Lib.hid (box_on hb X2.out); clear hb)
        clear G2 K2 X2 c0 c1 c2 hal hi
        go_loopg [11, 12, 13] m (fun gk T G I wr => BackRel w a q s m g gk T G I wr)
        case atStart => exact ⟨0, _, _, 0, 0, by omega, rfl, rfl, rfl, by omega, by omega, G3.out, by rw [hN2.out]; exact BackIn.start g, K3.out, X3.out⟩
        case round =>
          obtain ⟨p, Y, L, tk, gn, hp, rfl, rfl, rfl, htk, hgn, hL, hY, hK, hX⟩ := hrel
          clear G3 K3 X3
          have L4 := Lib.hid hL
          have Y4 := Lib.hid hY
          have K4 := Lib.hid hK
          have X4 := Lib.hid hX
          obtain ⟨c0, c1, c2, hal⟩ := hX
          clear hL hY hK
          by_cases hlt : p < m
          · obtain ⟨gn2, rfl⟩ : ∃ n, gk = n + 1 := ⟨gk - 1, by omega⟩
            have lt1 : (p : Int) < (m : Int) := by omega
            have lt0 : (0 : Int) ≤ (p : Int) := by omega
            rcases hx1.out with h0 | ⟨nb, off, rfl, hcell⟩
            · omega
            obtain ⟨r, hr⟩ : ∃ r, R p = r := ⟨_, rfl⟩
            have hblk : nb < w.heap.size := World.block_lt_of_cell? w _ (hcell p hlt)
            have hcp := hcell p hlt
            rw [hr] at hcp
            have hcx := Lib.hid (fun (w' : World) (hb : Below w.heap.size w w') => (hb.cell (p := ⟨nb, off + p, none⟩) hblk).trans hcp)
            have d0 := hcx.out _ L4.out.bl
            clear hcell hcp
            go_wp2_with fail
            have tk0 : True := trivial
            go_region_held3 (fun w' => w'.cell? ⟨nb, off + p, none⟩ = some (.int .i64 r) ∧ w'.cell? ⟨a, 0, none⟩ = some (.int .i64 (g : Int)) ∧ w'.cell? ⟨a, 1, none⟩ = some (.int .i64 8) ∧ w'.cell? ⟨a, 2, none⟩ = some (.int .i64 16)) (first | exact ⟨d0, c0, c1, c2⟩) (first
              | (clear tk0; go_at_call 19; refine (low_c _ _ g _ rfl (by omega) (by omega)).mono ?_; rintro e w3 ⟨k, hk, rfl, rfl⟩; have tk1 : True := trivial)
              | (clear tk1; go_at_call 29; refine (geoFirst_c k (k : Int) ((firstN 8 16 k : Nat) : Int) _ okG.out rfl hk rfl).mono ?_; rintro e w5 ⟨rfl, hb⟩; have L5 := Lib.hid (L4.out.below (show Below wr.heap.size wr w5 from ⟨hb.os, hb.tape, hb.output, hb.size, hb.block⟩)); have K5 := Lib.hid (K4.out.same (hb.block q (L4.out.sp.sp.ltF q (by simp)))); have X5 := Lib.hid (box_on (show Below wr.heap.size wr w5 from ⟨hb.os, hb.tape, hb.output, hb.size, hb.block⟩) X4.out); clear hb d0 c0 c1 c2 hal; have d0 := hcx.out _ L5.out.bl; obtain ⟨c0, c1, c2, hal⟩ := X5.out; have tk2 : True := trivial)
              | (clear tk2; go_at_call 19; refine (low_c _ 16 16 _ rfl (by omega) (by omega)).mono ?_; rintro e w6 ⟨j, hj, rfl, rfl⟩))
            obtain ⟨P, hP⟩ : ∃ P, pK k j = P := ⟨_, rfl⟩
            rw [show IntKind.i64.wrap (((firstN 8 16 k : Nat) : Int) + (j : Int)) = (P : Int) by rw [← hP, wrap_in (by unfold firstN; rw [show spanN 8 16 = 19 from rfl]; omega)]; unfold firstN pK; rw [show spanN 8 16 = 19 from rfl]; omega]
            have hPi : P < i := by rw [← hP, hN2.out]; exact pK_lt hk hj
            have e0 : decide ((P : Int) < 0) = false := decide_eq_false (by omega)
            have e1 : decide ((i : Int) ≤ (P : Int)) = false := decide_eq_false (by omega)
            have e2 : (0 : Int) ≤ (P : Int) := by omega
            have e3 : (P : Int) < (i : Int) := by omega
            have hLi : L.length = i := by rw [Y4.out.len, hN2.out]
            have hrel2 := Y4.out.rel k j hk hj
            rw [hP] at hrel2
            have hPos := Lib.hid (show ((P : Nat) : Int) = ((posN 8 16 21 k j : Nat) : Int) by rw [pK_pos, hP])
            have hP' := Lib.hid hP
            clear d0 hP
            cases hh : hasN (Y (21 + 2 + 2 * k)) j
            · rw [hh] at hrel2
              obtain ⟨h1, h2, h3, h4⟩ := Y4.out.mark hk hj hh
              obtain ⟨Y1, hY1⟩ : ∃ Y1, markX Y (21 + 2 + 2 * k) j = Y1 := ⟨_, rfl⟩
              rw [hY1] at h2 h3 h4
              rw [hP'.out] at h2
              obtain ⟨h5, h6, h7⟩ := h2.defer hk hj h3 h4
              obtain ⟨Y2, hY2⟩ : ∃ Y2, deferX Y1 (21 + 2 + 2 * k) j = Y2 := ⟨_, rfl⟩
              rw [hY2] at h6 h7
              obtain ⟨h8, h9⟩ := h6.again h7
              have M1 := Lib.hid h1
              have M2 := Lib.hid h2
              have M5 := Lib.hid h5
              have M6 := Lib.hid h6
              have M8 := Lib.hid h8
              have M9 := Lib.hid h9
              have hY1' := Lib.hid hY1
              have hY2' := Lib.hid hY2
              have hrel3 := Lib.hid hrel2
              clear h1 h2 h3 h4 h5 h6 h7 h8 h9 hY1 hY2 hh hrel2
              go_wp2_with (go_at_call 28; refine (mark_in (o := 21) (e := 16) k j 0 (P : Int) L5.out.sp (.inr ⟨rfl, rfl⟩) hk hj (.inr ⟨rfl, rfl, hPos.out⟩)).mono ?_; rw [M1.out]; rintro e w6 ⟨rfl, hS, hT⟩; rw [hY1'.out] at hS; have L6 := Lib.hid (L5.out.turn hS hT); have K6 := Lib.hid (K5.out.same (hT.block q (L5.out.sp.sp.ltF q (by simp)) (by simpa using hqs))); have X6 := Lib.hid (X5.out.turnF hT (by simpa using has)); obtain ⟨cP, fP⟩ := K6.out P (by omega); rw [hrel3.out] at cP; clear hS hT)
              all_goals (
                have hT6 := TurnF.set [q] w6 (s := q) (by simp) P (.bool true)
                have L7 := Lib.hid (L6.out.other hT6 (by simp) hqs)
                have K7 := Lib.hid (K6.out.set (p := P) (by omega) true)
                have X7 := Lib.hid (X6.out.turnF hT6 (by simpa using haq))
                clear hT6)
              · refine (defer_in (o := 21) (e := 16) k j 0 (P : Int) L7.out.sp (.inr ⟨rfl, rfl⟩) hk hj (.inr ⟨rfl, rfl, hPos.out⟩)).mono ?_
                rw [M5.out]
                rintro e w8 ⟨rfl, hS, hT⟩
                rw [hY2'.out] at hS
                have L8 := Lib.hid (L7.out.turn hS hT)
                have K8 := Lib.hid (K7.out.same (hT.block q (L7.out.sp.sp.ltF q (by simp)) (by simpa using hqs)))
                have X8 := Lib.hid (X7.out.turnF hT (by simpa using has))
                clear hS hT cP fP L6 K6 X6 L7 K7 X7
                go_wp2_with (go_at_call 28; refine (mark_in (o := 21) (e := 16) k j 0 (P : Int) L8.out.sp (.inr ⟨rfl, rfl⟩) hk hj (.inr ⟨rfl, rfl, hPos.out⟩)).mono ?_; rw [M8.out, M9.out]; rintro e w9 ⟨rfl, hS, hT⟩; have L9 := Lib.hid (L8.out.turn hS hT); have K9 := Lib.hid (K8.out.same (hT.block q (L8.out.sp.sp.ltF q (by simp)) (by simpa using hqs))); have X9 := Lib.hid (X8.out.turnF hT (by simpa using has)); clear hS hT)
                go_roundg gn2
                case measure => omega
                case rel => exact ⟨p + 1, _, _, tk + 1, gn + 1, by omega, by go_num, by go_num, by go_num, by omega, by omega, L9.out, M6.out, K9.out, X9.out⟩
              · go_roundg gn2
                case measure => omega
                case rel => exact ⟨p + 1, _, _, tk + 1, gn, by omega, by go_num, by go_num, rfl, by omega, by omega, L7.out, M2.out, K7.out, X7.out⟩
            · rw [hh] at hrel2
              obtain ⟨h1, h2⟩ := Y4.out.again hh
              have M1 := Lib.hid h1
              have M2 := Lib.hid h2
              have hrel3 := Lib.hid hrel2
              clear h1 h2 hh hrel2
              go_wp2_with (go_at_call 28; refine (mark_in (o := 21) (e := 16) k j 0 (P : Int) L5.out.sp (.inr ⟨rfl, rfl⟩) hk hj (.inr ⟨rfl, rfl, hPos.out⟩)).mono ?_; rw [M1.out, M2.out]; rintro e w6 ⟨rfl, hS, hT⟩; have L6 := Lib.hid (L5.out.turn hS hT); have K6 := Lib.hid (K5.out.same (hT.block q (L5.out.sp.sp.ltF q (by simp)) (by simpa using hqs))); have X6 := Lib.hid (X5.out.turnF hT (by simpa using has)); obtain ⟨cP, fP⟩ := K6.out P (by omega); rw [hrel3.out] at cP; clear hS hT)
              go_roundg gn2
              case measure => omega
              case rel => exact ⟨p + 1, _, _, _, _, by omega, by go_num, rfl, rfl, by omega, by omega, L6.out, Y4.out, K6.out, X6.out⟩
          · obtain rfl : gk = 0 := by omega
            obtain rfl : p = m := by omega
            have lt1 : decide ((p : Int) < (p : Int)) = false := decide_eq_false (by omega)
            obtain ⟨f1, f2, f3⟩ := Y4.out.left (by omega)
            obtain ⟨f4, f5, f6, f7⟩ := Y4.out.firm (by omega)
            obtain ⟨m1, hm1⟩ : ∃ m1, leftN g 8 16 Y false = m1 := ⟨_, rfl⟩
            obtain ⟨m2, hm2⟩ : ∃ m2, leftN g 8 16 (allFirm g 8 16 Y) false = m2 := ⟨_, rfl⟩
            rw [hm1] at f2
            rw [hm2] at f6
            obtain ⟨GB, hGB⟩ : ∃ GB, g * 16 = GB := ⟨_, rfl⟩
            obtain ⟨GI, hGI⟩ : ∃ GI, g * 8 = GI := ⟨_, rfl⟩
            rw [hGB] at f2 f6
            rw [hGI] at f1 f5
            have z1 := Lib.hid (show ((GI : Nat) : Int) = ((leftN g 8 16 Y true : Nat) : Int) by rw [f1])
            have z2 := Lib.hid (show ((m1 : Nat) : Int) = ((leftN g 8 16 Y false : Nat) : Int) by rw [hm1])
            have z3 := Lib.hid (show ((gn : Nat) : Int) = ((defTo Y 3 8 g + defTo Y 21 16 g : Nat) : Int) by rw [f4])
            have z4 := Lib.hid (show ((GI : Nat) : Int) = ((leftN g 8 16 (allFirm g 8 16 Y) true : Nat) : Int) by rw [f5])
            have z5 := Lib.hid (show ((m2 : Nat) : Int) = ((leftN g 8 16 (allFirm g 8 16 Y) false : Nat) : Int) by rw [hm2])
            have z6 := Lib.hid (show (0 : Int) = ((defTo (allFirm g 8 16 Y) 3 8 g + defTo (allFirm g 8 16 Y) 21 16 g : Nat) : Int) by rw [f7]; rfl)
            have z7 := Lib.hid (show ((GB : Nat) : Int) = ((g * 16 : Nat) : Int) by rw [hGB])
            have z8 := Lib.hid (show ((GI : Nat) : Int) = ((g * 8 : Nat) : Int) by rw [hGI])
            have q1 : ((m1 : Int) == (GB : Int) - (tk : Int)) = true := by rw [beq_iff_eq]; omega
            have q2 : ((m2 : Int) == (m1 : Int) + (gn : Int)) = true := by rw [beq_iff_eq]; omega
            have r1 : GB ≤ 64 := by omega
            have r2 : tk ≤ 64 := by omega
            have r3 : m1 ≤ 64 := by omega
            have r4 : gn ≤ 64 := by omega
            have r5 : m2 ≤ 128 := by omega
            clear f1 f2 f3 f4 f5 f6 f7 hm1 hm2 hGB hGI
            have tk0 : True := trivial
            have tk1 : True := trivial
            go_wp2_with (first
              | (clear tk0; go_at_call 11; refine (left_c (GI : Int) (m1 : Int) L4.out.sp z1.out z2.out).mono ?_; rintro e w5 ⟨rfl, m5, rfl⟩; have L5 := Lib.hid (L4.out.drew m5))
              | (clear tk1; go_at_call 27; refine (firm_s (gn : Int) L5.out.sp z3.out).mono ?_; rintro e w6 ⟨rfl, hS, hT⟩; have L6 := Lib.hid (L5.out.turn hS hT); have X6 := Lib.hid (X4.out.turnF ((TurnF.refl [s] wr).drew.trans hT) (by simpa using has)); clear hS hT)
              | (go_at_call 11; refine (left_c (GI : Int) (m2 : Int) L6.out.sp z4.out z5.out).mono ?_; rintro e w7 ⟨rfl, m7, rfl⟩; have L7 := Lib.hid (L6.out.drew m7); clear c0 c1 c2 hal; obtain ⟨c0, c1, c2, hal⟩ := X6.out)
              | (go_at_call 22; refine (geoBlocks_c (GB : Int) _ okG.out z7.out).mono ?_; rintro e w8 ⟨rfl, hb⟩; have L8 := Lib.hid (L7.out.below hb); clear c0 c1 c2 hal; have hb2 := box_on hb X6.out; obtain ⟨c0, c1, c2, hal⟩ := hb2; clear hb)
              | (go_at_call 20; refine (geoInodes_c (GI : Int) _ okG.out z8.out).mono ?_; rintro e w9 ⟨rfl, hb⟩; have L9 := Lib.hid (L8.out.below hb); clear hb)
              | (go_at_call 27; refine (firm_s 0 L9.out.sp z6.out).mono ?_; rintro e w10 ⟨rfl, hS, hT⟩; have L10 := Lib.hid (L9.out.turn hS hT); clear hS hT)
              | (go_at_call 7; refine (awake_any _).mono ?_; rintro e w11 ⟨rfl, hb⟩; have L11 := Lib.hid (L10.out.below hb); clear hb))
            go_ret
            exact ⟨rfl, L11.out.bl⟩
end Go.Proofs.Ytdkjmpicdkfgoaa
