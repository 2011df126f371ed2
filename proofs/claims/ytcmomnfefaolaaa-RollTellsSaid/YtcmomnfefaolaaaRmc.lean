/-
  Objects over any bytes, their sectors, what differs, what touches, and what is parted, is the document's.
-/
import Derived.Test.YtcmomnfefaolaaaRmb
import Derived.Test.YtcmomnfefaolaaaRld
import Derived.Test.YtcmomnfefaolaaaRlg
import Derived.Test.YtcmomnfefaolaaaRlh
import Derived.Test.YtcmomnfefaolaaaRlp
import Derived.Test.YtcmomnfefaolaaaRlt
import Derived.Test.YtcmomnfefaolaaaRly
import Derived.Test.YtcmomnfefaolaaaKb
import Derived.Test.YtcmomnfefaolaaaOvi
import Derived.Test.YtcmomnfefaolaaaOv
import Derived.Test.YtcmomnfefaolaaaQv
namespace Go.Proofs.Ytcmomnfefaolaaa
open Go.RowKit BigFrame
set_option maxRecDepth 100000
attribute [local go_sem ↓] ldO_of
theorem OwnI.ints' {w : World} {base n cap m : Nat} {a : Option Addr} {D : Nat → Int} (h : OwnI w base (.slice a m cap) n D) : IntsAt w a n D := by
  obtain ⟨a', cap', e, h1, _⟩ := h.slice
  simp only [Value.slice.injEq] at e
  obtain ⟨rfl, _, _⟩ := e
  exact h1
theorem told_of {w0 w : World} {v : Value} {f : FuncId} {args : Array Value} (hC : Below w0.heap.size w0 w) (hc : Calls Try.prog f args w (Tells v w)) : Calls Try.prog f args w (fun e w' => e = .returned v ∧ Below w0.heap.size w0 w') :=
  hc.mono fun _ _ ⟨he, hd⟩ => ⟨he, hC.trans (hd.mono hC.size)⟩
set_option maxHeartbeats 8000000 in
theorem rollTells_any (old new os is : Value) (l r : List Nat) (xs : List Ob) (R : Nat → Int) (q0 : Nat) (z : Int) (w : World) (hs : SlB w old l) (hr : SlB w new r) (ho : SlO w os xs) (hi : ∃ a cap, is = .slice a q0 cap ∧ IntsAt w a q0 R) :
    Calls Try.prog 3 #[old, new, .int .i64 z, os, is] w (Tells (.bool true) w) := by
  obtain ⟨a, cap, rfl, hc, hX, hnil⟩ := ho
  obtain ⟨n, hl⟩ : ∃ n, xs.length = n := ⟨_, rfl⟩
  obtain ⟨a2, cap2, rfl, hc2, hX2, hnil2⟩ := hs
  obtain ⟨m, hm⟩ : ∃ m, l.length = m := ⟨_, rfl⟩
  obtain ⟨a3, cap3, rfl, hc3, hX3, hnil3⟩ := hr
  obtain ⟨p, hp⟩ : ∃ p, r.length = p := ⟨_, rfl⟩
  obtain ⟨a4, cap4, rfl, hI⟩ := hi
  have hO := Lib.hid (show SlO w (.slice a n cap) xs from ⟨a, cap, by rw [hl], hc, hX, hnil⟩)
  have hA := Lib.hid (show SlB w (.slice a2 m cap2) l from ⟨a2, cap2, by rw [hm], hc2, hX2, hnil2⟩)
  have hB := Lib.hid (show SlB w (.slice a3 p cap3) r from ⟨a3, cap3, by rw [hp], hc3, hX3, hnil3⟩)
  have hA2 := Lib.hid hX2
  have hA3 := Lib.hid hnil2
  have hI' := Lib.hid hI
  rw [hl] at hc ⊢
  rw [hm] at hc2 ⊢
  rw [hp] at hc3 ⊢
  have hl' := Lib.hid hl
  have hm' := Lib.hid hm
  clear hl hm hp hX hX2 hX3 hnil hnil2 hnil3 hI
  by_cases hm200 : 200 < m
  · have x1 : (200 : Int) < (m : Int) := by omega
    go_enter Try.func3, Try.ntmps3
    go_wp2_with (go_at_call 7; refine (awake_any _).mono ?_; rintro e w2 ⟨rfl, hb2⟩; have B2 := Lib.hid hb2; clear hb2)
    go_ret
    exact ⟨rfl, B2.out⟩
  by_cases hp200 : 200 < p
  · have x1 : ¬ (200 : Int) < (m : Int) := by omega
    have x2 : (200 : Int) < (p : Int) := by omega
    go_enter Try.func3, Try.ntmps3
    go_wp2_with (go_at_call 7; refine (awake_any _).mono ?_; rintro e w2 ⟨rfl, hb2⟩; have B2 := Lib.hid hb2; clear hb2)
    go_ret
    exact ⟨rfl, B2.out⟩
  have x1 : ¬ (200 : Int) < (m : Int) := by omega
  have x2 : ¬ (200 : Int) < (p : Int) := by omega
  have hgr := Lib.hid (great_c _ xs 20 w hO.out (by omega))
  obtain ⟨fw, hfw⟩ : ∃ f, few xs 20 = f := ⟨_, rfl⟩
  rw [hfw] at hgr
  have hfw' := Lib.hid hfw
  clear hfw
  cases fw
  · go_enter Try.func3, Try.ntmps3
    go_wp2_with (first
      | (go_at_call 6; refine hgr.out.mono ?_; rintro e w1 ⟨rfl, hq⟩; have B1 := Lib.hid (below_of_drew hq); clear hq)
      | (go_at_call 7; refine (awake_any _).mono ?_; rintro e w2 ⟨rfl, hb2⟩; have B2 := Lib.hid (below_two B1.out hb2); clear hb2))
    go_ret
    exact ⟨rfl, B2.out⟩
  by_cases hq20 : 20 < q0
  · have x3 : (20 : Int) < (q0 : Int) := by omega
    go_enter Try.func3, Try.ntmps3
    go_wp2_with (first
      | (go_at_call 6; refine hgr.out.mono ?_; rintro e w1 ⟨rfl, hq⟩; have B1 := Lib.hid (below_of_drew hq); clear hq)
      | (go_at_call 7; refine (awake_any _).mono ?_; rintro e w2 ⟨rfl, hb2⟩; have B2 := Lib.hid (below_two B1.out hb2); clear hb2))
    go_ret
    exact ⟨rfl, B2.out⟩
  have x3 : ¬ (20 : Int) < (q0 : Int) := by omega
  obtain ⟨hn16, hb200⟩ := few_is.1 hfw'.out
  have hn16 : n ≤ 20 := by rw [← hl'.out]; exact hn16
  have hb' := Lib.hid (fun x hx => Nat.le_trans (hb200 x hx) (by omega : 200 ≤ 100000))
  clear hb200
  have lA := Lib.hid (sec_length l)
  have lO := Lib.hid (lays_length (s := z) (xs := xs) lA.out)
  have dL := Lib.hid (show (diffO z (sec l) (sec r)).length ≤ 100000 by
    unfold diffO
    split
    · simp
    · exact Nat.le_trans (dlist_len z (sec l) (sec r) 128 0 (by omega)) (by omega))
  have dS := Lib.hid (show ∀ x ∈ diffO z (sec l) (sec r), x.b.length ≤ 100000 from fun x hx => by
    unfold diffO at hx
    split at hx
    · cases hx
    · exact Nat.le_trans (dlist_small z (sec l) (sec r) (sec_length r) 128 0 (by omega) x hx) (by omega))
  go_enter Try.func3, Try.ntmps3
  go_wp2_with (first
    | (go_at_call 6; refine hgr.out.mono ?_; rintro e w1 ⟨rfl, hq⟩; have B1 := Lib.hid (below_of_drew hq); clear hq)
    | (go_at_call 8; refine (lend_any a2 cap2 m l _ hm'.out (by omega) (hA2.out.on B1.out (Nat.le_refl _)) hA3.out).mono ?_; rintro e w2 ⟨g0, rfl, hg0, hr0, hb2⟩; have R0 := Lib.hid hr0; have G0 := Lib.hid (Nat.le_trans B1.out.size hg0); have B2 := Lib.hid (below_two B1.out hb2); have N2 := Lib.hid (show SlB w2 (.slice (some ⟨g0, 0, none⟩) m (m + 3)) l from ⟨_, m + 3, by rw [hm'.out], by rw [hm'.out]; omega, hr0.bat_front, fun h => by cases h⟩); clear hr0 hg0 hb2)
    | (go_at_call 9; refine (over_c _ l z _ xs _ N2.out (hO.out.on B2.out) (by rw [hl'.out]; omega) hb'.out).mono ?_; rintro e w3 ⟨gb, rfl, hgb, hrb, hb3⟩; have Rb := Lib.hid hrb; have Gb := Lib.hid (Nat.lt_of_lt_of_le R0.out.lt hgb); have R0b := Lib.hid (R0.out.on hb3 R0.out.lt); have N3 := Lib.hid (N2.out.on hb3); have B3 := Lib.hid (below_two B2.out hb3); clear hrb hgb hb3)
    | (go_at_call 10; refine (sectors_c _ xs _ (hO.out.on B3.out) (by rw [hl'.out]; omega) hb'.out).mono ?_; rintro e w4 ⟨vs, Z, rfl, hos, hu4, hb4⟩
       obtain ⟨as0, caps, hvs, -⟩ := hos.ints
       obtain ⟨zl, hzl⟩ : ∃ zl, Z.length = zl := ⟨_, rfl⟩
       rw [hzl] at hvs
       subst hvs
       have ZL := Lib.hid hzl
       have Zs := Lib.hid hos; have U4 := Lib.hid hu4; have Rb4 := Lib.hid (Rb.out.on hb4 Rb.out.lt); have R04 := Lib.hid (R0b.out.on hb4 R0b.out.lt); have N4 := Lib.hid (N3.out.on hb4); have B4 := Lib.hid (below_two B3.out hb4); have z4 := Lib.hid hb4.size; clear hos hu4 hb4 hzl)
    | (go_at_call 11; refine (diff_u z _ _ l r _ N4.out (hB.out.on B4.out)).mono ?_; rintro e w5 ⟨vd, rfl, hod, hb5⟩; have D5 := Lib.hid hod; have Zs5 := Lib.hid (Zs.out.on hb5); have Rb5 := Lib.hid (Rb4.out.on hb5 Rb4.out.lt); have R05 := Lib.hid (R04.out.on hb5 R04.out.lt); have B5 := Lib.hid (below_two B4.out hb5); have z5 := Lib.hid (Nat.le_trans z4.out hb5.size); clear hod hb5)
    | (go_at_call 13; refine (refOver_c _ l z _ xs _ (hA.out.on B5.out) (hO.out.on B5.out) (by rw [hl'.out]; omega) hb'.out).mono ?_; rintro e w6 ⟨g6, rfl, hg6, hr6, hb6⟩; have R6 := Lib.hid hr6; have D6 := Lib.hid (D5.out.on hb6); have Zs6 := Lib.hid (Zs5.out.on hb6); have Rb6 := Lib.hid (Rb5.out.on hb6 Rb5.out.lt); have R06 := Lib.hid (R05.out.on hb6 R05.out.lt); have B6 := Lib.hid (below_two B5.out hb6); have z6 := Lib.hid (Nat.le_trans z5.out hb6.size); clear hr6 hg6 hb6)
    | (go_at_call 12; refine (same_same _ _ _ _ 128 _ _ _ lO.out rfl (by omega) Rb6.out.bat R6.out.bat).mono ?_; rintro e w7 ⟨rfl, hb7⟩; have D7 := Lib.hid (D6.out.on hb7); have Zs7 := Lib.hid (Zs6.out.on hb7); have Rb7 := Lib.hid (Rb6.out.on hb7 Rb6.out.lt); have R07 := Lib.hid (R06.out.on hb7 R06.out.lt); have B7 := Lib.hid (below_two B6.out hb7); have z7 := Lib.hid (Nat.le_trans z6.out hb7.size); clear hb7)
    | (go_at_call 15; refine (refSectors_c _ xs _ (hO.out.on B7.out) (by rw [hl'.out]; omega) hb'.out).mono ?_; rintro e w8 ⟨v8, Z2, rfl, ho8, hu8, hb8⟩
       obtain rfl : Z2 = Z := uniq_same hu8 U4.out
       obtain ⟨a8, cap8, hv8, -, hi8⟩ := ho8.ints
       rw [ZL.out] at hv8 hi8
       subst hv8
       have I8 := Lib.hid hi8
       have D8 := Lib.hid (D7.out.on hb8); have Zs8 := Lib.hid (Zs7.out.on hb8); have Rb8 := Lib.hid (Rb7.out.on hb8 Rb7.out.lt); have R08 := Lib.hid (R07.out.on hb8 R07.out.lt); have B8 := Lib.hid (below_two B7.out hb8); have z8 := Lib.hid (Nat.le_trans z7.out hb8.size); clear ho8 hu8 hb8 hi8)
    | (go_at_call 14
       have hi := Zs8.out.ownI.ints'
       rw [ZL.out] at hi
       have zl1000 : zl ≤ 1000 := by
         have h1 := uniq_len U4.out; have := msec_len xs; have := ZL.out; have := hl'.out; omega
       refine (sameI_any _ _ _ _ zl _ _ _ zl1000 hi I8.out (fun k hk => rfl)).mono ?_; rintro e w9 ⟨rfl, hb9⟩; have D9 := Lib.hid (D8.out.on hb9); have Zs9 := Lib.hid (Zs8.out.on hb9); have Rb9 := Lib.hid (Rb8.out.on hb9 Rb8.out.lt); have R09 := Lib.hid (R08.out.on hb9 R08.out.lt); have B9 := Lib.hid (below_two B8.out hb9); have z9 := Lib.hid (Nat.le_trans z8.out hb9.size); clear hb9 hi)
    | (go_at_call 17; refine (refDiff_u z _ _ l r _ (hA.out.on B9.out) (hB.out.on B9.out)).mono ?_; rintro e w10 ⟨v10, rfl, ho10, hb10⟩; have D10' := Lib.hid ho10; have D10 := Lib.hid (D9.out.on hb10); have Zs10 := Lib.hid (Zs9.out.on hb10); have Rb10 := Lib.hid (Rb9.out.on hb10 Rb9.out.lt); have R010 := Lib.hid (R09.out.on hb10 R09.out.lt); have B10 := Lib.hid (below_two B9.out hb10); have z10 := Lib.hid (Nat.le_trans z9.out hb10.size); clear ho10 hb10)
    | (go_at_call 16; refine (sameObs_c _ _ _ _ D10.out D10'.out dL.out dS.out).mono ?_; rintro e wL ⟨rfl, hq⟩; have hb := below_of_drew hq; have ZsL := Lib.hid (Zs10.out.on hb); have RbL := Lib.hid (Rb10.out.on hb Rb10.out.lt); have R0L := Lib.hid (R010.out.on hb R010.out.lt); have BL := Lib.hid (below_two B10.out hb); have szL := Lib.hid (Nat.le_trans z10.out hb.size); clear hq hb))
  have HL := Lib.hid (SrAt.start w wL)
  go_loopg [16, 17, 18, 19, 20] n (fun q v16 v17 v18 v19 v20 wr => ∃ (i : Nat) (L1 L2 : List Op2), i + q = n ∧ v18 = .int .i64 (i : Int) ∧ SrAt w wL v16 v17 L1 L2 wr ∧ L1.map (·.1) = pickN (askd R q0) xs i ∧ L2.map (·.1) = pickN (fun j => !askd R q0 j) xs i)
  case atStart => exact ⟨0, [], [], by omega, rfl, HL.out, rfl, rfl⟩
  case round =>
    obtain ⟨i, L1, L2, hiq, rfl, hS, he1, he2⟩ := hrel
    have S := Lib.hid hS
    have E1 := Lib.hid he1
    have E2 := Lib.hid he2
    clear hS he1 he2
    obtain ⟨wo, hwo⟩ : ∃ wo, wo = wr := ⟨_, rfl⟩
    subst hwo
    have Bo := Lib.hid (BL.out.trans (S.out.bel.mono BL.out.size))
    by_cases hlt : i < n
    · obtain ⟨q, rfl⟩ : ∃ q, gk = q + 1 := ⟨gk - 1, by omega⟩
      go_wp2_with fail
      go_loopg [19, 20] q0 (fun q v19 v20 wx => ∃ k : Nat, k + q = q0 ∧ v20 = .int .i64 (k : Int) ∧ v19 = .bool (askd R k i) ∧ wx = wo)
      case atStart => exact ⟨0, by omega, rfl, rfl, rfl⟩
      case round =>
        obtain ⟨k, hkq, rfl, rfl, hwx⟩ := hrel
        subst hwx
        obtain ⟨wo, hwo⟩ : ∃ wo, wo = wr := ⟨_, rfl⟩
        subst hwo
        by_cases hlk : k < q0
        · obtain ⟨q2, hq2⟩ : ∃ q2, gk = q2 + 1 := ⟨gk - 1, by omega⟩
          subst hq2
          rcases hI'.out.on' Bo.out (Nat.le_refl _) with h0 | ⟨b4, o4, rfl, hc4⟩
          · omega
          have c4 := hc4 k hlk
          obtain ⟨y, hy⟩ : ∃ y, R k = y := ⟨_, rfl⟩
          rw [hy] at c4
          have nxt := Lib.hid (askd_succ R k i)
          rw [hy] at nxt
          clear hc4 hy
          obtain ⟨bb, hbb⟩ : ∃ bb, askd R k i = bb := ⟨_, rfl⟩
          rw [hbb] at nxt ⊢
          clear hbb
          cases bb
          · go_wp2_with fail
            go_roundg q2
            case measure => omega
            case rel => exact ⟨k + 1, by omega, by go_num, by rw [nxt.out]; first | (simp; done) | exact congrArg Value.bool (by rw [Bool.eq_iff_iff]; simp), rfl⟩
          · go_wp2_with fail
            go_roundg q2
            case measure => omega
            case rel => exact ⟨k + 1, by omega, by go_num, by rw [nxt.out]; first | (simp; done) | exact congrArg Value.bool (by rw [Bool.eq_iff_iff]; simp), rfl⟩
        · obtain rfl : k = q0 := by omega
          obtain ⟨b, off, u, had, hobj⟩ := hO.out.obs.1.at (k := i) (by rw [hl'.out]; exact hlt)
          obtain ⟨b', off', u0, had', hobj0⟩ := hO.out.obs.1.at (k := 0) (by rw [hl'.out]; omega)
          subst had
          cases had'
          rw [Nat.zero_mul, Nat.add_zero] at hobj0
          have hlen := Lib.hid (hb'.out _ (ob_mem (L := xs) (k := i) (by rw [hl'.out]; exact hlt)))
          have hlen0 := Lib.hid (hb'.out _ (ob_mem (L := xs) (k := 0) (by rw [hl'.out]; omega)))
          obtain ⟨⟨xs0, xp, xb⟩, hx⟩ : ∃ x, ob xs i = x := ⟨_, rfl⟩
          obtain ⟨⟨ys0, yp, yb⟩, hy⟩ : ∃ x, ob xs 0 = x := ⟨_, rfl⟩
          rw [hx] at hobj hlen
          rw [hy] at hobj0 hlen0
          have hx' := Lib.hid hx
          have hOb := Lib.hid hobj
          have hOc := Lib.hid hobj0
          have hus := Lib.hid hobj.2
          have hu1 := hobj.2.one
          have hld := run_ldO (hobj.on Bo.out).1
          unfold ov oc at hld
          simp only at hld
          obtain ⟨mx, hmx⟩ : ∃ m, mayO ⟨xs0, xp, xb⟩ = m := ⟨_, rfl⟩
          obtain ⟨tx, htx⟩ : ∃ m, touchO ⟨xs0, xp, xb⟩ ⟨ys0, yp, yb⟩ = m := ⟨_, rfl⟩
          have hmx := Lib.hid hmx
          have htx := Lib.hid htx
          have hba := Lib.hid ((Below.refl wo.heap.size wo).alloc (Nat.le_refl _) (.cells (oc ⟨xs0, xp, xb⟩ u).toArray 37))
          have n1 := Lib.hid (Nat.le_trans (Nat.le_of_eq (by rw [← List.length_map (f := fun p : Op2 => p.1), E1.out] : L1.length = (pickN (askd R k) xs i).length)) (pickN_len _ _ _))
          have n2 := Lib.hid (Nat.le_trans (Nat.le_of_eq (by rw [← List.length_map (f := fun p : Op2 => p.1), E2.out] : L2.length = (pickN (fun j => !askd R k j) xs i).length)) (pickN_len _ _ _))
          clear hx hy hobj hobj0
          have n0 : 0 < n := by omega
          obtain ⟨bq, hbq⟩ : ∃ bq, askd R k i = bq := ⟨_, rfl⟩
          rw [hbq]
          have hbq := Lib.hid hbq
          cases bq
          · skip
            go_upto_region 18 with (at_builtin; refine wpList_append_ob_at rfl (.tmp 103) (.tmp 108) rfl wL.heap.size u17 L2 rfl (S.out.r2.alloc _) ⟨wo.heap.size, 0, none⟩ 1 (⟨xs0, xp, xb⟩, u) rfl (ob_news wo _ _) hu1 (by have := n2.out; omega) (by have := S.out.bel.size; simp; omega) ?_; intro v6 w6 ho6 hg6 hn6)
            have S6 := Lib.hid ((S.out.on hba.out).more2 (x := ⟨xs0, xp, xb⟩) (u := u) hus.out ho6.out hg6.out hn6.out)
            have B6' := Lib.hid (BL.out.trans (S6.out.bel.mono BL.out.size))
            clear ho6 hg6 hn6
            have hX := Lib.hid (fun w' (h : Below w6.heap.size w6 w') => (hOb.out.on (B6'.out.trans (h.mono B6'.out.size)) : ObAt w' b (off + i * 3) ⟨xs0, xp, xb⟩ u))
            have hY := Lib.hid (fun w' (h : Below w6.heap.size w6 w') => (hOc.out.on (B6'.out.trans (h.mono B6'.out.size)) : ObAt w' b off ⟨ys0, yp, yb⟩ u0))
            have hm1 := Lib.hid (fun w' (h : Below w6.heap.size w6 w') => (by have k := may_c ⟨xs0, xp, xb⟩ u w' (hX.out w' h).2 hlen.out; rw [hmx.out] at k; unfold ov oc at k; exact k : Calls Try.prog 18 #[.agg #[.int .i64 xs0, .int .i64 xp, u]] w' (Tells (.bool mx) w')))
            have hm2 := Lib.hid (fun w' (h : Below w6.heap.size w6 w') => (by have k := refMay_c ⟨xs0, xp, xb⟩ u w' (hX.out w' h).2 hlen.out; rw [hmx.out] at k; unfold ov oc at k; exact k : Calls Try.prog 19 #[.agg #[.int .i64 xs0, .int .i64 xp, u]] w' (Tells (.bool mx) w')))
            have ht1 := Lib.hid (fun w' (h : Below w6.heap.size w6 w') => (by have k := touch_c ⟨xs0, xp, xb⟩ ⟨ys0, yp, yb⟩ u u0 w' (hX.out w' h).2 (hY.out w' h).2 hlen.out hlen0.out; rw [htx.out] at k; unfold ov oc at k; exact k : Calls Try.prog 20 #[.agg #[.int .i64 xs0, .int .i64 xp, u], .agg #[.int .i64 ys0, .int .i64 yp, u0]] w' (Tells (.bool tx) w')))
            have ht2 := Lib.hid (fun w' (h : Below w6.heap.size w6 w') => (by have k := refTouch_c ⟨xs0, xp, xb⟩ ⟨ys0, yp, yb⟩ u u0 w' (hX.out w' h).2 (hY.out w' h).2 hlen.out hlen0.out; rw [htx.out] at k; unfold ov oc at k; exact k : Calls Try.prog 21 #[.agg #[.int .i64 xs0, .int .i64 xp, u], .agg #[.int .i64 ys0, .int .i64 yp, u0]] w' (Tells (.bool tx) w')))
            clear hld
            refine wp_region_at (C := fun w' => Below w6.heap.size w6 w') (by kernel_rfl) (by kernel_rfl) (below_drewN w6 1) ?_
            go_big_quiet_want; go_big_quiet_op; go_big_quiet_on
            go_big_quiet_want; go_big_quiet_op; go_big_quiet_on
            go_big_quiet_want; refine quiet_val (.pointer (some ⟨b, off + i * 3, none⟩)) (fun _ _ => by unfold Oper.quietAt Oper.quietUpon; go_simp) ?_; go_simp; try go_big_quiet_on
            go_big_quiet_want; refine quiet_val (.agg #[.int .i64 xs0, .int .i64 xp, u]) (fun _ hC => by have hq := run_ldO (hX.out _ hC).1; unfold ov oc at hq; unfold Oper.quietAt Oper.quietUpon; go_simp) ?_; go_simp; try go_big_quiet_on
            go_big_quiet_want; refine quiet_val (.bool mx) (fun _ hC => by unfold Oper.quietAt Oper.quietUpon; go_simp; exact told_of hC (hm1.out _ hC)) ?_; go_simp; try go_big_quiet_on
            go_big_quiet_want; go_big_quiet_op; go_big_quiet_on
            go_big_quiet_want; go_big_quiet_op; go_big_quiet_on
            go_big_quiet_want; refine quiet_val (.pointer (some ⟨b, off + i * 3, none⟩)) (fun _ _ => by unfold Oper.quietAt Oper.quietUpon; go_simp) ?_; go_simp; try go_big_quiet_on
            go_big_quiet_want; refine quiet_val (.agg #[.int .i64 xs0, .int .i64 xp, u]) (fun _ hC => by have hq := run_ldO (hX.out _ hC).1; unfold ov oc at hq; unfold Oper.quietAt Oper.quietUpon; go_simp) ?_; go_simp; try go_big_quiet_on
            go_big_quiet_want; refine quiet_val (.bool mx) (fun _ hC => by unfold Oper.quietAt Oper.quietUpon; go_simp; exact told_of hC (hm2.out _ hC)) ?_; go_simp; try go_big_quiet_on
            go_big_quiet_want; refine quiet_val (.bool false) (fun _ _ => by unfold Oper.quietAt Oper.quietUpon; go_simp) ?_; go_simp; try go_big_quiet_on
            go_big_quiet_want; refine quiet_val (.bool false) (fun _ _ => by unfold Oper.quietAt Oper.quietUpon; go_simp) ?_; go_simp; try go_big_quiet_on
            go_big_quiet_want; go_big_quiet_op; go_big_quiet_on
            go_big_quiet_want; go_big_quiet_op; go_big_quiet_on
            go_big_quiet_want; refine quiet_val (.pointer (some ⟨b, off + i * 3, none⟩)) (fun _ _ => by unfold Oper.quietAt Oper.quietUpon; go_simp) ?_; go_simp; try go_big_quiet_on
            go_big_quiet_want; refine quiet_val (.agg #[.int .i64 xs0, .int .i64 xp, u]) (fun _ hC => by have hq := run_ldO (hX.out _ hC).1; unfold ov oc at hq; unfold Oper.quietAt Oper.quietUpon; go_simp) ?_; go_simp; try go_big_quiet_on
            go_big_quiet_want; go_big_quiet_op; go_big_quiet_on
            go_big_quiet_want; refine quiet_val (.pointer (some ⟨b, off, none⟩)) (fun _ _ => by unfold Oper.quietAt Oper.quietUpon; go_simp) ?_; go_simp; try go_big_quiet_on
            go_big_quiet_want; refine quiet_val (.agg #[.int .i64 ys0, .int .i64 yp, u0]) (fun _ hC => by have hq := run_ldO (hY.out _ hC).1; unfold ov oc at hq; unfold Oper.quietAt Oper.quietUpon; go_simp) ?_; go_simp; try go_big_quiet_on
            go_big_quiet_want; refine quiet_val (.bool tx) (fun _ hC => by unfold Oper.quietAt Oper.quietUpon; go_simp; exact told_of hC (ht1.out _ hC)) ?_; go_simp; try go_big_quiet_on
            go_big_quiet_want; go_big_quiet_op; go_big_quiet_on
            go_big_quiet_want; go_big_quiet_op; go_big_quiet_on
            go_big_quiet_want; refine quiet_val (.pointer (some ⟨b, off + i * 3, none⟩)) (fun _ _ => by unfold Oper.quietAt Oper.quietUpon; go_simp) ?_; go_simp; try go_big_quiet_on
            go_big_quiet_want; refine quiet_val (.agg #[.int .i64 xs0, .int .i64 xp, u]) (fun _ hC => by have hq := run_ldO (hX.out _ hC).1; unfold ov oc at hq; unfold Oper.quietAt Oper.quietUpon; go_simp) ?_; go_simp; try go_big_quiet_on
            go_big_quiet_want; go_big_quiet_op; go_big_quiet_on
            go_big_quiet_want; refine quiet_val (.pointer (some ⟨b, off, none⟩)) (fun _ _ => by unfold Oper.quietAt Oper.quietUpon; go_simp) ?_; go_simp; try go_big_quiet_on
            go_big_quiet_want; refine quiet_val (.agg #[.int .i64 ys0, .int .i64 yp, u0]) (fun _ hC => by have hq := run_ldO (hY.out _ hC).1; unfold ov oc at hq; unfold Oper.quietAt Oper.quietUpon; go_simp) ?_; go_simp; try go_big_quiet_on
            go_big_quiet_want; refine quiet_val (.bool tx) (fun _ hC => by unfold Oper.quietAt Oper.quietUpon; go_simp; exact told_of hC (ht2.out _ hC)) ?_; go_simp; try go_big_quiet_on
            go_big_quiet_want; refine quiet_val (.bool false) (fun _ _ => by unfold Oper.quietAt Oper.quietUpon; go_simp) ?_; go_simp; try go_big_quiet_on
            go_big_quiet_want; refine quiet_val (.bool false) (fun _ _ => by unfold Oper.quietAt Oper.quietUpon; go_simp) ?_; go_simp; try go_big_quiet_on
            refine wpQuiet_nil ?_
            intro w9 hC
            have S9 := Lib.hid (S6.out.on hC)
            clear hC
            go_wp2_with fail
            go_roundg q
            case measure => omega
            case rel => exact ⟨i + 1, L1, L2 ++ [(⟨xs0, xp, xb⟩, u)], by omega, by go_num, S9.out, by rw [pickN_no hbq.out]; exact E1.out, by rw [pickN_yes (by rw [hbq.out]; rfl), List.map_append, E2.out, hx'.out]; rfl⟩
          · skip
            go_upto_region 18 with (at_builtin; refine wpList_append_ob_at rfl (.tmp 96) (.tmp 101) rfl wL.heap.size u16 L1 rfl (S.out.r1.alloc _) ⟨wo.heap.size, 0, none⟩ 1 (⟨xs0, xp, xb⟩, u) rfl (ob_news wo _ _) hu1 (by have := n1.out; omega) (by have := S.out.bel.size; simp; omega) ?_; intro v6 w6 ho6 hg6 hn6)
            have S6 := Lib.hid ((S.out.on hba.out).more1 (x := ⟨xs0, xp, xb⟩) (u := u) hus.out ho6.out hg6.out hn6.out)
            have B6' := Lib.hid (BL.out.trans (S6.out.bel.mono BL.out.size))
            clear ho6 hg6 hn6
            have hX := Lib.hid (fun w' (h : Below w6.heap.size w6 w') => (hOb.out.on (B6'.out.trans (h.mono B6'.out.size)) : ObAt w' b (off + i * 3) ⟨xs0, xp, xb⟩ u))
            have hY := Lib.hid (fun w' (h : Below w6.heap.size w6 w') => (hOc.out.on (B6'.out.trans (h.mono B6'.out.size)) : ObAt w' b off ⟨ys0, yp, yb⟩ u0))
            have hm1 := Lib.hid (fun w' (h : Below w6.heap.size w6 w') => (by have k := may_c ⟨xs0, xp, xb⟩ u w' (hX.out w' h).2 hlen.out; rw [hmx.out] at k; unfold ov oc at k; exact k : Calls Try.prog 18 #[.agg #[.int .i64 xs0, .int .i64 xp, u]] w' (Tells (.bool mx) w')))
            have hm2 := Lib.hid (fun w' (h : Below w6.heap.size w6 w') => (by have k := refMay_c ⟨xs0, xp, xb⟩ u w' (hX.out w' h).2 hlen.out; rw [hmx.out] at k; unfold ov oc at k; exact k : Calls Try.prog 19 #[.agg #[.int .i64 xs0, .int .i64 xp, u]] w' (Tells (.bool mx) w')))
            have ht1 := Lib.hid (fun w' (h : Below w6.heap.size w6 w') => (by have k := touch_c ⟨xs0, xp, xb⟩ ⟨ys0, yp, yb⟩ u u0 w' (hX.out w' h).2 (hY.out w' h).2 hlen.out hlen0.out; rw [htx.out] at k; unfold ov oc at k; exact k : Calls Try.prog 20 #[.agg #[.int .i64 xs0, .int .i64 xp, u], .agg #[.int .i64 ys0, .int .i64 yp, u0]] w' (Tells (.bool tx) w')))
            have ht2 := Lib.hid (fun w' (h : Below w6.heap.size w6 w') => (by have k := refTouch_c ⟨xs0, xp, xb⟩ ⟨ys0, yp, yb⟩ u u0 w' (hX.out w' h).2 (hY.out w' h).2 hlen.out hlen0.out; rw [htx.out] at k; unfold ov oc at k; exact k : Calls Try.prog 21 #[.agg #[.int .i64 xs0, .int .i64 xp, u], .agg #[.int .i64 ys0, .int .i64 yp, u0]] w' (Tells (.bool tx) w')))
            clear hld
            refine wp_region_at (C := fun w' => Below w6.heap.size w6 w') (by kernel_rfl) (by kernel_rfl) (below_drewN w6 1) ?_
            go_big_quiet_want; go_big_quiet_op; go_big_quiet_on
            go_big_quiet_want; go_big_quiet_op; go_big_quiet_on
            go_big_quiet_want; refine quiet_val (.pointer (some ⟨b, off + i * 3, none⟩)) (fun _ _ => by unfold Oper.quietAt Oper.quietUpon; go_simp) ?_; go_simp; try go_big_quiet_on
            go_big_quiet_want; refine quiet_val (.agg #[.int .i64 xs0, .int .i64 xp, u]) (fun _ hC => by have hq := run_ldO (hX.out _ hC).1; unfold ov oc at hq; unfold Oper.quietAt Oper.quietUpon; go_simp) ?_; go_simp; try go_big_quiet_on
            go_big_quiet_want; refine quiet_val (.bool mx) (fun _ hC => by unfold Oper.quietAt Oper.quietUpon; go_simp; exact told_of hC (hm1.out _ hC)) ?_; go_simp; try go_big_quiet_on
            go_big_quiet_want; go_big_quiet_op; go_big_quiet_on
            go_big_quiet_want; go_big_quiet_op; go_big_quiet_on
            go_big_quiet_want; refine quiet_val (.pointer (some ⟨b, off + i * 3, none⟩)) (fun _ _ => by unfold Oper.quietAt Oper.quietUpon; go_simp) ?_; go_simp; try go_big_quiet_on
            go_big_quiet_want; refine quiet_val (.agg #[.int .i64 xs0, .int .i64 xp, u]) (fun _ hC => by have hq := run_ldO (hX.out _ hC).1; unfold ov oc at hq; unfold Oper.quietAt Oper.quietUpon; go_simp) ?_; go_simp; try go_big_quiet_on
            go_big_quiet_want; refine quiet_val (.bool mx) (fun _ hC => by unfold Oper.quietAt Oper.quietUpon; go_simp; exact told_of hC (hm2.out _ hC)) ?_; go_simp; try go_big_quiet_on
            go_big_quiet_want; refine quiet_val (.bool false) (fun _ _ => by unfold Oper.quietAt Oper.quietUpon; go_simp) ?_; go_simp; try go_big_quiet_on
            go_big_quiet_want; refine quiet_val (.bool false) (fun _ _ => by unfold Oper.quietAt Oper.quietUpon; go_simp) ?_; go_simp; try go_big_quiet_on
            go_big_quiet_want; go_big_quiet_op; go_big_quiet_on
            go_big_quiet_want; go_big_quiet_op; go_big_quiet_on
            go_big_quiet_want; refine quiet_val (.pointer (some ⟨b, off + i * 3, none⟩)) (fun _ _ => by unfold Oper.quietAt Oper.quietUpon; go_simp) ?_; go_simp; try go_big_quiet_on
            go_big_quiet_want; refine quiet_val (.agg #[.int .i64 xs0, .int .i64 xp, u]) (fun _ hC => by have hq := run_ldO (hX.out _ hC).1; unfold ov oc at hq; unfold Oper.quietAt Oper.quietUpon; go_simp) ?_; go_simp; try go_big_quiet_on
            go_big_quiet_want; go_big_quiet_op; go_big_quiet_on
            go_big_quiet_want; refine quiet_val (.pointer (some ⟨b, off, none⟩)) (fun _ _ => by unfold Oper.quietAt Oper.quietUpon; go_simp) ?_; go_simp; try go_big_quiet_on
            go_big_quiet_want; refine quiet_val (.agg #[.int .i64 ys0, .int .i64 yp, u0]) (fun _ hC => by have hq := run_ldO (hY.out _ hC).1; unfold ov oc at hq; unfold Oper.quietAt Oper.quietUpon; go_simp) ?_; go_simp; try go_big_quiet_on
            go_big_quiet_want; refine quiet_val (.bool tx) (fun _ hC => by unfold Oper.quietAt Oper.quietUpon; go_simp; exact told_of hC (ht1.out _ hC)) ?_; go_simp; try go_big_quiet_on
            go_big_quiet_want; go_big_quiet_op; go_big_quiet_on
            go_big_quiet_want; go_big_quiet_op; go_big_quiet_on
            go_big_quiet_want; refine quiet_val (.pointer (some ⟨b, off + i * 3, none⟩)) (fun _ _ => by unfold Oper.quietAt Oper.quietUpon; go_simp) ?_; go_simp; try go_big_quiet_on
            go_big_quiet_want; refine quiet_val (.agg #[.int .i64 xs0, .int .i64 xp, u]) (fun _ hC => by have hq := run_ldO (hX.out _ hC).1; unfold ov oc at hq; unfold Oper.quietAt Oper.quietUpon; go_simp) ?_; go_simp; try go_big_quiet_on
            go_big_quiet_want; go_big_quiet_op; go_big_quiet_on
            go_big_quiet_want; refine quiet_val (.pointer (some ⟨b, off, none⟩)) (fun _ _ => by unfold Oper.quietAt Oper.quietUpon; go_simp) ?_; go_simp; try go_big_quiet_on
            go_big_quiet_want; refine quiet_val (.agg #[.int .i64 ys0, .int .i64 yp, u0]) (fun _ hC => by have hq := run_ldO (hY.out _ hC).1; unfold ov oc at hq; unfold Oper.quietAt Oper.quietUpon; go_simp) ?_; go_simp; try go_big_quiet_on
            go_big_quiet_want; refine quiet_val (.bool tx) (fun _ hC => by unfold Oper.quietAt Oper.quietUpon; go_simp; exact told_of hC (ht2.out _ hC)) ?_; go_simp; try go_big_quiet_on
            go_big_quiet_want; refine quiet_val (.bool false) (fun _ _ => by unfold Oper.quietAt Oper.quietUpon; go_simp) ?_; go_simp; try go_big_quiet_on
            go_big_quiet_want; refine quiet_val (.bool false) (fun _ _ => by unfold Oper.quietAt Oper.quietUpon; go_simp) ?_; go_simp; try go_big_quiet_on
            refine wpQuiet_nil ?_
            intro w9 hC
            have S9 := Lib.hid (S6.out.on hC)
            clear hC
            go_wp2_with fail
            go_roundg q
            case measure => omega
            case rel => exact ⟨i + 1, L1 ++ [(⟨xs0, xp, xb⟩, u)], L2, by omega, by go_num, S9.out, by rw [pickN_yes hbq.out, List.map_append, E1.out, hx'.out]; rfl, by rw [pickN_no (by rw [hbq.out]; rfl)]; exact E2.out⟩
    · obtain rfl : i = n := by omega
      have hsp := Lib.hid (split_c (.slice a i cap) xs a4 q0 cap4 R wo (hO.out.on Bo.out) (by rw [hl'.out]; omega) hb'.out (by omega) (hI'.out.on' Bo.out (Nat.le_refl _)))
      rw [hl'.out] at hsp
      have F1 := Lib.hid (S.out.slo1 Bo.out)
      have F2 := Lib.hid (S.out.slo2 Bo.out)
      rw [E1.out] at F1
      rw [E2.out] at F2
      obtain ⟨X, hX⟩ : ∃ X, pickN (askd R q0) xs i = X := ⟨_, rfl⟩
      obtain ⟨Y, hY⟩ : ∃ Y, pickN (fun j => !askd R q0 j) xs i = Y := ⟨_, rfl⟩
      have lX := Lib.hid (show X.length ≤ 20 by rw [← hX]; exact Nat.le_trans (pickN_len _ _ _) hn16)
      have lY := Lib.hid (show Y.length ≤ 20 by rw [← hY]; exact Nat.le_trans (pickN_len _ _ _) hn16)
      have sX := Lib.hid (show ∀ x ∈ X, x.b.length ≤ 100000 from fun x hx => by
        rw [← hX] at hx
        obtain ⟨j, hj, rfl⟩ := List.mem_map.1 hx
        exact hb'.out _ (ob_mem (by rw [hl'.out]; exact List.mem_range.1 (List.mem_filter.1 hj).1)))
      have sY := Lib.hid (show ∀ x ∈ Y, x.b.length ≤ 100000 from fun x hx => by
        rw [← hY] at hx
        obtain ⟨j, hj, rfl⟩ := List.mem_map.1 hx
        exact hb'.out _ (ob_mem (by rw [hl'.out]; exact List.mem_range.1 (List.mem_filter.1 hj).1)))
      rw [hX] at hsp F1
      rw [hY] at hsp F2
      have hYY := Lib.hid hY
      clear hX hY
      have w3L := Lib.hid (show w3.heap.size ≤ wL.heap.size from szL.out)
      have t1 : True := trivial
      go_upto_region 24 with (first
        | (go_at_call 22; refine hsp.out.mono ?_; rintro e w3' ⟨v1, v2, M1, M2, rfl, hS, e1, e2⟩; have P3 := Lib.hid hS; have E1' := Lib.hid e1; have E2' := Lib.hid e2; have G1 := Lib.hid (F1.out.on hS.bel); have G2 := Lib.hid (F2.out.on hS.bel); have X3 := Lib.hid (show SlO w3' v1 X by have := hS.r1.slo (fun p hp => (hS.d1 p hp).slb); rwa [e1] at this); have Y3 := Lib.hid (show SlO w3' v2 Y by have := hS.r2.slo (fun p hp => (hS.d2 p hp).slb); rwa [e2] at this); have B3' := Lib.hid (Bo.out.trans (hS.bel.mono Bo.out.size)); clear hS e1 e2)
        | (clear t1; go_at_call 16; refine (sameObs_c _ _ X _ X3.out G1.out (by have := lX.out; omega) sX.out).mono ?_; rintro e w4' ⟨rfl, hq⟩; have hb := below_of_drew hq; have P4 := Lib.hid (P3.out.on hb); have Y4 := Lib.hid (Y3.out.on hb); have G24 := Lib.hid (G2.out.on hb); have B4' := Lib.hid (below_two B3'.out hb); clear hq hb)
        | (go_at_call 16; refine (sameObs_c _ _ Y _ Y4.out G24.out (by have := lY.out; omega) sY.out).mono ?_; rintro e w5' ⟨rfl, hq⟩; have hb := below_of_drew hq; have P5 := Lib.hid (P4.out.on hb); have B5' := Lib.hid (below_two B4'.out hb); clear hq hb)
        | (go_at_call 23
           have hb5 := (S.out.bel.trans (P5.out.bel.mono S.out.bel.size) : Below wL.heap.size wL w5')
           have hK := Lib.hid (show KeepX w wL wo g0 l u17 L2 v2 M2 v1 M1 0 w5' from ⟨⟨R0L.out.on hb5 R0L.out.lt, (S.out.r2.on P5.out.bel), P5.out.r2, P5.out.d2, B5'.out⟩, P5.out.r1, fun j p _ hp => P5.out.d1 p (List.mem_of_getElem? hp)⟩)
           have hRb := RbL.out.on hb5 RbL.out.lt
           have hZs := ZsL.out.on hb5
           have hgb := RbL.out.lt
           refine (over_rowT _ gb 128 _ _ lO.out (by omega) hRb).mono ?_
           rintro e w6' ⟨rfl, hg⟩
           have K6 := Lib.hid (hK.out.old S.out.bel.size hg (fun k hk => by have := Option.some.inj hk; have := G0.out; have := Gb.out; omega))
           have Z6 := Lib.hid (hZs.blk (w' := w6') (fun k hk => hg.block k (hZs.block k hk).2 (fun e => by have := (hZs.block k hk).1; have := Option.some.inj e; have := Rb.out.lt; omega)))
           have s6 := Lib.hid (hg.size)
           have L6 := Lib.hid hb5.size
           clear hb5 hRb hZs hgb hg hK)
        | (go_at_call 24
           have hzi := Z6.out.ownI
           rw [ZL.out] at hzi
           have zl1000 : zl ≤ 1000 := by
             have h1 := uniq_len U4.out; have := msec_len xs; have := ZL.out; have := hl'.out; omega
           refine (overI_own _ zl _ _ _ (by omega) hzi (by have := s6.out; have := L6.out; have := w3L.out; omega)).mono ?_
           rintro e w7' ⟨rfl, hg⟩
           have K7 := Lib.hid (K6.out.old S.out.bel.size hg (fun k hk => by have := (ZsL.out.block k hk); have := G0.out; have := Gb.out; have := Rb.out.lt; have := B3.out.size; omega))
           clear hzi zl1000 hg))
      obtain ⟨c1, capx, hv1, -, -⟩ := P3.out.r1.form
      obtain ⟨nx, hnx⟩ : ∃ nx, M1.length = nx := ⟨_, rfl⟩
      rw [hnx] at hv1
      subst hv1
      have hnx' := Lib.hid hnx
      have nx20 : nx ≤ 20 := by
        rw [← hnx, ← List.length_map (f := fun p : Op2 => p.1), E1'.out]; exact lX.out
      have sz8 := Lib.hid (Nat.le_trans BL.out.size S.out.bel.size)
      have g08 := Lib.hid (show g0 < wo.heap.size by have := R0L.out.lt; have := S.out.bel.size; omega)
      have pd := Lib.hid P3.out.p1
      have p12 := Lib.hid P3.out.p12
      clear hnx
      go_wp2_with fail
      go_loopg [23] nx (fun q v23 wx => ∃ j : Nat, j + q = nx ∧ v23 = .int .i64 (j : Int) ∧ KeepX w wL wo g0 l u17 L2 v2 M2 (.slice c1 nx capx) M1 j wx)
      case atStart => exact ⟨0, by omega, rfl, K7.out⟩
      case round =>
        obtain ⟨j, hjq, rfl, hK⟩ := hrel
        have K := Lib.hid hK
        clear hK
        by_cases hlj : j < nx
        · obtain ⟨q2, hq2⟩ : ∃ q2, gk = q2 + 1 := ⟨gk - 1, by omega⟩
          subst hq2
          obtain ⟨g, cg, hcg⟩ := K.out.r1.ofSome (by rw [hnx'.out]; omega)
          simp only [Value.slice.injEq] at hcg
          obtain ⟨rfl, -, rfl⟩ := hcg
          obtain ⟨⟨ox, pv⟩, hpj⟩ : ∃ p, M1[j]? = some p := ⟨M1[j]'(by rw [hnx'.out]; exact hlj), List.getElem?_eq_getElem _⟩
          have c2 := K.out.r1.cellOf hpj 2 _ rfl
          have hob := K.out.d1 j _ (Nat.le_refl _) hpj
          simp only at c2 hob
          have hlb : ox.b.length ≤ 100000 := by
            refine sX.out _ ?_
            rw [← E1'.out]
            exact List.mem_map.2 ⟨_, List.mem_of_getElem? hpj, rfl⟩
          have hpj' := Lib.hid hpj
          have hrt := Lib.hid (RowO.apart' K.out.k.rr hob)
          obtain ⟨pa, pc, hpv, -⟩ := hob.slice
          obtain ⟨pn, hpn⟩ : ∃ pn, ox.b.length = pn := ⟨_, rfl⟩
          rw [hpn] at hpv
          subst hpv
          have hOB := Lib.hid hob
          have hlb' := Lib.hid hlb
          clear hpj hob hlb hpn
          go_wp2_with (go_at_call 23; refine (over_own _ _ _ _ hlb'.out hOB.out).mono ?_; rintro e w8' ⟨rfl, hg⟩; have K8 := Lib.hid (K.out.next hpj'.out sz8.out g08.out pd.out p12.out hrt.out hg); clear hg)
          go_roundg q2
          case measure => omega
          case rel => exact ⟨j + 1, by omega, by go_num, K8.out⟩
        · obtain rfl : j = nx := by omega
          have hb0 := K.out.k.bel
          have Y9 : SlO wr v2 Y := by have := K.out.k.r2.slo (fun p hp => (K.out.k.d2 p hp).slb); rwa [E2'.out] at this
          have G9 : SlO wr u17 Y := by
            have := K.out.k.rr.slo (fun p hp => (S.out.s2 p hp).on hb0)
            rwa [E2.out, hYY.out] at this
          have Y9' := Lib.hid Y9
          have G9' := Lib.hid G9
          clear Y9 G9 hb0
          go_wp2_with (first
            | (go_at_call 16; refine (sameObs_c _ _ Y _ G9'.out Y9'.out (by have := lY.out; omega) sY.out).mono ?_; rintro e w9' ⟨rfl, hq⟩; have K9 := Lib.hid (K.out.on (below_of_drew hq)); clear hq)
            | (go_at_call 25; refine (kept_b g0 cap2 m a2 l _ hm'.out (by omega) K9.out.k.r0 (hA2.out.on K9.out.k.bel (Nat.le_refl _))).mono ?_; rintro e w10' ⟨rfl, hb⟩; have B10' := Lib.hid (below_two K9.out.k.bel hb); clear hb)
            | (go_at_call 7; refine (awake_any _).mono ?_; rintro e w11' ⟨rfl, hb⟩; have B11' := Lib.hid (below_two B10'.out hb); clear hb))
          go_ret
          exact ⟨rfl, B11'.out⟩
end Go.Proofs.Ytcmomnfefaolaaa
