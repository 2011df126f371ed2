/-
  What differs, laid over the old, is the new; laid back it is the old; objects that do not touch may come in either order.
-/
import Derived.Test.YtcmomnfefaolaaaRlc
import Derived.Test.YtcmomnfefaolaaaRlo
import Derived.Test.YtcmomnfefaolaaaRly
import Derived.Test.YtcmomnfefaolaaaRlz
import Derived.StillTailTactics
namespace Go.Proofs.Ytcmomnfefaolaaa
open Go.RowKit BigFrame
set_option maxRecDepth 100000
attribute [local go_sem ↓] ldO_of
theorem slb_rowT {w : World} {t : TypeId} {g : Nat} {l : List Nat} (h : RowT w t g l) (hl : l.length = 128) : SlB w (.slice (some ⟨g, 0, none⟩) 128 128) l := ⟨_, 128, by rw [hl], by rw [hl]; exact Nat.le_refl _, h.bat, fun h => by cases h⟩
theorem slo_nil (w : World) : SlO w (.slice none 0 0) [] := ⟨none, 0, rfl, Nat.le_refl _, .inl rfl, fun _ => rfl⟩
theorem ObsAt.drop {w : World} {b off : Nat} {xs : List Ob} (h : ObsAt w (some ⟨b, off, none⟩) xs) (t : Nat) : ObsAt w (some ⟨b, off + t * 3, none⟩) (xs.drop t) := by
  rcases h with h | ⟨b', o', e, h⟩
  · exact .inl (by rw [List.length_drop]; omega)
  · simp only [Option.some.injEq, Addr.mk.injEq, and_true] at e
    obtain ⟨rfl, rfl⟩ := e
    refine .inr ⟨b, off + t * 3, rfl, fun k hk => ?_⟩
    rw [List.length_drop] at hk
    obtain ⟨v, hv⟩ := h (t + k) (by omega)
    refine ⟨v, ?_⟩
    rw [show ob (xs.drop t) k = ob xs (t + k) by simp [ob, List.getD], show off + t * 3 + k * 3 = off + (t + k) * 3 by omega]
    exact hv
theorem ObsAt.take {w : World} {a : Option Addr} {xs : List Ob} (h : ObsAt w a xs) (t : Nat) : ObsAt w a (xs.take t) := by
  rcases h with h | ⟨b, off, rfl, h⟩
  · exact .inl (by rw [List.length_take]; omega)
  · refine .inr ⟨b, off, rfl, fun k hk => ?_⟩
    rw [List.length_take] at hk
    obtain ⟨v, hv⟩ := h k (by omega)
    refine ⟨v, ?_⟩
    rw [show ob (xs.take t) k = ob xs k by simp [ob, List.getD, show k < t by omega]]
    exact hv
set_option maxHeartbeats 8000000 in
theorem rollBack_any (old new os : Value) (l r : List Nat) (xs : List Ob) (z : Int) (w : World) (hs : SlB w old l) (hr : SlB w new r) (ho : SlO w os xs) :
    Calls Try.prog 4 #[old, new, os, .int .i64 z] w (Tells (.bool true) w) := by
  obtain ⟨a, cap, rfl, hc, hX, hnil⟩ := ho
  obtain ⟨n, hl⟩ : ∃ n, xs.length = n := ⟨_, rfl⟩
  obtain ⟨a2, cap2, rfl, hc2, hX2, hnil2⟩ := hs
  obtain ⟨m, hm⟩ : ∃ m, l.length = m := ⟨_, rfl⟩
  obtain ⟨a3, cap3, rfl, hc3, hX3, hnil3⟩ := hr
  obtain ⟨p, hp⟩ : ∃ p, r.length = p := ⟨_, rfl⟩
  have hO := Lib.hid (show SlO w (.slice a n cap) xs from ⟨a, cap, by rw [hl], hc, hX, hnil⟩)
  have hA := Lib.hid (show SlB w (.slice a2 m cap2) l from ⟨a2, cap2, by rw [hm], hc2, hX2, hnil2⟩)
  have hB := Lib.hid (show SlB w (.slice a3 p cap3) r from ⟨a3, cap3, by rw [hp], hc3, hX3, hnil3⟩)
  rw [hl] at hc ⊢
  rw [hm] at hc2 ⊢
  rw [hp] at hc3 ⊢
  have hl' := Lib.hid hl
  clear hl hm hp hX hX2 hX3 hnil hnil2 hnil3
  by_cases hm128 : 128 < m
  · have x1 : (128 : Int) < (m : Int) := by omega
    go_enter Try.func4, Try.ntmps4
    go_wp2_with (go_at_call 7; refine (awake_any _).mono ?_; rintro e w2 ⟨rfl, hb2⟩; have B2 := Lib.hid hb2; clear hb2)
    go_ret
    exact ⟨rfl, B2.out⟩
  by_cases hp128 : 128 < p
  · have x1 : ¬ (128 : Int) < (m : Int) := by omega
    have x2 : (128 : Int) < (p : Int) := by omega
    go_enter Try.func4, Try.ntmps4
    go_wp2_with (go_at_call 7; refine (awake_any _).mono ?_; rintro e w2 ⟨rfl, hb2⟩; have B2 := Lib.hid hb2; clear hb2)
    go_ret
    exact ⟨rfl, B2.out⟩
  have x1 : ¬ (128 : Int) < (m : Int) := by omega
  have x2 : ¬ (128 : Int) < (p : Int) := by omega
  have hgr := Lib.hid (great_c _ xs 12 w hO.out (by omega))
  obtain ⟨fw, hfw⟩ : ∃ f, few xs 12 = f := ⟨_, rfl⟩
  rw [hfw] at hgr
  have hfw' := Lib.hid hfw
  clear hfw
  cases fw
  · go_enter Try.func4, Try.ntmps4
    go_wp2_with (first
      | (go_at_call 6; refine hgr.out.mono ?_; rintro e w1 ⟨rfl, hq⟩; have B1 := Lib.hid (below_of_drew hq); clear hq)
      | (go_at_call 7; refine (awake_any _).mono ?_; rintro e w2 ⟨rfl, hb2⟩; have B2 := Lib.hid (below_two B1.out hb2); clear hb2))
    go_ret
    exact ⟨rfl, B2.out⟩
  obtain ⟨hn16, hb200⟩ := few_is.1 hfw'.out
  have hn16 : n ≤ 12 := by rw [← hl'.out]; exact hn16
  have hb' := Lib.hid (fun x hx => Nat.le_trans (hb200 x hx) (by omega : 200 ≤ 100000))
  clear hb200
  have lA := Lib.hid (sec_length l)
  have lB := Lib.hid (sec_length r)
  have d1 := Lib.hid (lays_dlist 5 (by omega) (sec l) (sec r) lA.out lB.out 128 0 (sec l) (by omega) lA.out (fun j hj => by omega) (fun j _ => rfl))
  have d2 := Lib.hid (lays_dlist 5 (by omega) (sec r) (sec l) lB.out lA.out 128 0 (sec r) (by omega) lB.out (fun j hj => by omega) (fun j _ => rfl))
  have d3 := Lib.hid (show dlist 5 (sec (sec l)) (sec l) 0 = [] by rw [sec_id lA.out]; exact dlist_same 5 (sec l) 128 0 (by omega))
  have n1 := Lib.hid (dlist_len 5 (sec l) (sec r) 128 0 (by omega))
  have n2 := Lib.hid (dlist_len 5 (sec r) (sec l) 128 0 (by omega))
  have s1 := Lib.hid (dlist_small 5 (sec l) (sec r) lB.out 128 0 (by omega))
  have s2 := Lib.hid (dlist_small 5 (sec r) (sec l) lA.out 128 0 (by omega))
  have t1 : True := trivial
  have t2 : True := trivial
  have t3 : True := trivial
  have t4 : True := trivial
  have t5 : True := trivial
  have t6 : True := trivial
  go_enter Try.func4, Try.ntmps4
  go_wp2_with (first
    | (go_at_call 6; refine hgr.out.mono ?_; rintro e w1 ⟨rfl, hq⟩; have B1 := Lib.hid (below_of_drew hq); clear hq)
    | (clear t1; go_at_call 9; refine (over_c _ l 0 _ [] _ (hA.out.on B1.out) (slo_nil _) (by simp) (fun x hx => by cases hx)).mono ?_; rintro e w2 ⟨g2, rfl, hg2, hr2, hb2⟩; have R2 := Lib.hid (show RowT w2 48 g2 (sec l) from hr2); have B2 := Lib.hid (below_two B1.out hb2); clear hr2 hg2 hb2)
    | (clear t2; go_at_call 9; refine (over_c _ r 0 _ [] _ (hB.out.on B2.out) (slo_nil _) (by simp) (fun x hx => by cases hx)).mono ?_; rintro e w3 ⟨g3, rfl, hg3, hr3, hb3⟩; have R3 := Lib.hid (show RowT w3 48 g3 (sec r) from hr3); have R2b := Lib.hid (R2.out.on hb3 R2.out.lt); have B3 := Lib.hid (below_two B2.out hb3); clear hr3 hg3 hb3)
    | (clear t3; go_at_call 11; refine (diff_c 5 _ _ l r _ (by omega) (hA.out.on B3.out) (hB.out.on B3.out)).mono ?_; rintro e w4 ⟨v4, rfl, ho4, hb4⟩; have O4 := Lib.hid ho4; have R2c := Lib.hid (R2b.out.on hb4 R2b.out.lt); have R3b := Lib.hid (R3.out.on hb4 R3.out.lt); have B4 := Lib.hid (below_two B3.out hb4); clear ho4 hb4)
    | (clear t4; go_at_call 9; refine (over_c _ l 5 _ _ _ (hA.out.on B4.out) O4.out (Nat.le_trans n1.out (by omega)) (fun x hx => Nat.le_trans (s1.out x hx) (by omega))).mono ?_; rw [d1.out]; rintro e w5 ⟨g5, rfl, hg5, hr5, hb5⟩; have R5 := Lib.hid hr5; have R2d := Lib.hid (R2c.out.on hb5 R2c.out.lt); have R3c := Lib.hid (R3b.out.on hb5 R3b.out.lt); have B5 := Lib.hid (below_two B4.out hb5); clear hr5 hg5 hb5)
    | (clear t5; go_at_call 12; refine (same_same _ _ _ _ 128 (sec r) (sec r) _ lB.out rfl (by omega) R5.out.bat R3c.out.bat).mono ?_; rintro e w6 ⟨rfl, hb6⟩; have R2e := Lib.hid (R2d.out.on hb6 R2d.out.lt); have B6 := Lib.hid (below_two B5.out hb6); clear hb6)
    | (clear t6; go_at_call 11; refine (diff_c 5 _ _ r l _ (by omega) (hB.out.on B6.out) (hA.out.on B6.out)).mono ?_; rintro e w7 ⟨v7, rfl, ho7, hb7⟩; have O7 := Lib.hid ho7; have R2f := Lib.hid (R2e.out.on hb7 R2e.out.lt); have B7 := Lib.hid (below_two B6.out hb7); clear ho7 hb7)
    | (go_at_call 9; refine (over_c _ r 5 _ _ _ (hB.out.on B7.out) O7.out (Nat.le_trans n2.out (by omega)) (fun x hx => Nat.le_trans (s2.out x hx) (by omega))).mono ?_; rw [d2.out]; rintro e w8 ⟨g8, rfl, hg8, hr8, hb8⟩; have R8 := Lib.hid hr8; have R2g := Lib.hid (R2f.out.on hb8 R2f.out.lt); have B8 := Lib.hid (below_two B7.out hb8); clear hr8 hg8 hb8)
    | (go_at_call 12; refine (same_same _ _ _ _ 128 (sec l) (sec l) _ lA.out rfl (by omega) R8.out.bat R2g.out.bat).mono ?_; rintro e w9 ⟨rfl, hb9⟩; have R2h := Lib.hid (R2g.out.on hb9 R2g.out.lt); have B9 := Lib.hid (below_two B8.out hb9); clear hb9)
    | (go_at_call 11; refine (diff_c 5 _ _ (sec l) l _ (by omega) (slb_rowT R2h.out lA.out) (hA.out.on B9.out)).mono ?_; rw [d3.out]; rintro e w10 ⟨v10, rfl, ho10, hb10⟩; obtain ⟨a10, cap10, hv10, -⟩ := ho10; have hv10 : v10 = .slice a10 0 cap10 := hv10; subst hv10; have B10 := Lib.hid (below_two B9.out hb10); clear hb10))
  go_loopg [11, 12] n (fun q v11 v12 wr => ∃ i : Nat, i + q = n ∧ v11 = .int .i64 (i : Int) ∧ Below w.heap.size w wr ∧ ∀ j, j < i → ∀ k, k < j → touchO (ob xs j) (ob xs k) = false)
  case atStart => exact ⟨0, by omega, rfl, B10.out, fun j hj => by omega⟩
  case round =>
    obtain ⟨i, hiq, rfl, hbl, hno⟩ := hrel
    have Bi := Lib.hid hbl
    have No := Lib.hid hno
    clear hbl hno
    obtain ⟨wo, hwo⟩ : ∃ wo, wo = wr := ⟨_, rfl⟩
    subst hwo
    by_cases hlt : i < n
    · obtain ⟨q, rfl⟩ : ∃ q, gk = q + 1 := ⟨gk - 1, by omega⟩
      go_wp2_with fail
      go_loopg [12] i (fun q v12 wx => ∃ k : Nat, k + q = i ∧ v12 = .int .i64 (k : Int) ∧ Below w.heap.size w wx ∧ ∀ j, j < k → touchO (ob xs i) (ob xs j) = false)
      case atStart => exact ⟨0, by omega, rfl, Bi.out, fun j hj => by omega⟩
      case round =>
        obtain ⟨k, hkq, rfl, hbl, hno⟩ := hrel
        have Bk := Lib.hid hbl
        have Nk := Lib.hid hno
        clear hbl hno
        by_cases hlk : k < i
        · obtain ⟨q2, hq2⟩ : ∃ q2, gk = q2 + 1 := ⟨gk - 1, by omega⟩
          subst hq2
          obtain ⟨b, off, u, had, hobj⟩ := (hO.out.on Bk.out).obs.1.at (k := i) (by rw [hl'.out]; exact hlt)
          obtain ⟨b', off', u', had', hobj'⟩ := (hO.out.on Bk.out).obs.1.at (k := k) (by rw [hl'.out]; omega)
          subst had
          cases had'
          have hlen := hb'.out _ (ob_mem (L := xs) (k := i) (by rw [hl'.out]; exact hlt))
          have hlen' := hb'.out _ (ob_mem (L := xs) (k := k) (by rw [hl'.out]; omega))
          have hld := run_ldO (w := wr.drew) hobj.1
          have hld' := run_ldO (w := wr.drew) hobj'.1
          have ht := Lib.hid (touch_c (ob xs i) (ob xs k) u u' wr.drew hobj.2 hobj'.2 hlen hlen')
          have y1 : (i : Int) < (n : Int) := by omega
          have y2 : (k : Int) < (n : Int) := by omega
          obtain ⟨tt, htt⟩ : ∃ tt, touchO (ob xs i) (ob xs k) = tt := ⟨_, rfl⟩
          rw [htt] at ht
          have htt := Lib.hid htt
          unfold ov oc at hld hld' ht
          clear hobj hobj' hlen hlen'
          go_upto_region 12 with fail
          go_still_tail 8, (by kernel_rfl)
          change wpList _ _ _ _ _ wr.drew
          cases tt
          · go_wp2_with (go_at_call 20; refine ht.out.mono ?_; rintro e w5 ⟨rfl, hb5⟩; have B5 := Lib.hid (Bk.out.trans (((below_drewN wr 1).trans hb5).mono Bk.out.size)); clear hb5)
            go_roundg q2
            case measure => omega
            case rel => exact ⟨k + 1, by omega, by go_num, B5.out, fun j hj => by
              rcases Nat.lt_succ_iff_lt_or_eq.1 hj with h | h
              · exact Nk.out j h
              · subst h; exact htt.out⟩
          · go_wp2_with (first
              | (go_at_call 20; refine ht.out.mono ?_; rintro e w5 ⟨rfl, hb5⟩; have B5 := Lib.hid (Bk.out.trans (((below_drewN wr 1).trans hb5).mono Bk.out.size)); clear hb5)
              | (go_at_call 7; refine (awake_any _).mono ?_; rintro e w6 ⟨rfl, hb6⟩; have B6 := Lib.hid (below_two B5.out hb6); clear hb6))
            go_ret
            exact ⟨rfl, B6.out⟩
        · obtain rfl : k = i := by omega
          go_wp2_with fail
          go_roundg q
          case measure => omega
          case rel => exact ⟨k + 1, by omega, by go_num, Bk.out, fun j hj => by
            rcases Nat.lt_succ_iff_lt_or_eq.1 hj with h | h
            · exact No.out j h
            · subst h; exact Nk.out⟩
    · obtain rfl : i = n := by omega
      go_upto_region 15 with (go_at_call 26; go_loud (refine (low_c z ((i : Int) + 1) (i + 1) _ (by omega) (by omega) (by omega)).mono ?_; rintro e w11' ⟨tn, htn, rfl, rfl⟩))
      have htn' : tn ≤ i := by omega
      have Bd := Lib.hid (below_drewN wo 1)
      have lt1 := Lib.hid (show (xs.take tn).length = tn by rw [List.length_take, hl'.out]; omega)
      have lt2 := Lib.hid (show (xs.drop tn).length = i - tn by rw [List.length_drop, hl'.out])
      have tln := Lib.hid (show (xs.drop tn ++ xs.take tn).length = i by rw [List.length_append, lt1.out, lt2.out]; omega)
      have tle := Lib.hid (show (xs.drop tn ++ xs.take tn).length ≤ 100000 by rw [tln.out]; omega)
      have tbl := Lib.hid (show ∀ x ∈ xs.drop tn ++ xs.take tn, x.b.length ≤ 100000 from fun x hx => by
        rcases List.mem_append.1 hx with hx | hx
        · exact hb'.out x (List.mem_of_mem_drop hx)
        · exact hb'.out x (List.mem_of_mem_take hx))
      obtain ⟨hob, hnil⟩ := (hO.out.on Bi.out).obs
      obtain ⟨M1, mm1, ms1, mv1⟩ := (hob.take tn).view
      have m1l := Lib.hid (show M1.length = tn by rw [← lt1.out, ← mm1, List.length_map])
      have m1v := Lib.hid (fun w' (h : Below wo.heap.size wo w') => (mv1.on h : ViewO w' a M1))
      have m1o := Lib.hid (fun p hp => (ms1 p hp).one)
      have m1n := Lib.hid hnil
      have hM2 : ∃ M2 : List Op2, M2.map (·.1) = xs.drop tn ∧ (∀ p ∈ M2, SlB wo p.2 p.1.b) ∧ ∀ b off, a = some ⟨b, off, none⟩ → ViewO wo (some ⟨b, off + tn * 3, none⟩) M2 := by
        cases ha : a with
        | none =>
          rw [ha] at hob
          have h0 : xs = [] := by
            rcases hob with h | ⟨_, _, e, _⟩
            · exact List.eq_nil_of_length_eq_zero h
            · cases e
          exact ⟨[], by rw [h0]; simp, (fun p hp => by cases hp), fun b off e => by cases e⟩
        | some ad =>
          by_cases hsp : ∃ b off, ad = ⟨b, off, none⟩
          · obtain ⟨b, off, rfl⟩ := hsp
            rw [ha] at hob
            obtain ⟨M2, h1, h2, h3⟩ := (hob.drop tn).view
            exact ⟨M2, h1, h2, fun b' off' e => by cases e; exact h3⟩
          · rw [ha] at hob
            have h0 : xs = [] := by
              rcases hob with h | ⟨b, off, e, _⟩
              · exact List.eq_nil_of_length_eq_zero h
              · exact absurd ⟨b, off, Option.some.inj e⟩ hsp
            exact ⟨[], by rw [h0]; simp, (fun p hp => by cases hp), fun b off e => absurd ⟨b, off, Option.some.inj e⟩ hsp⟩
      obtain ⟨M2, mm2, ms2, mv2⟩ := hM2
      have m2l := Lib.hid (show M2.length = i - tn by rw [← lt2.out, ← mm2, List.length_map])
      have m2o := Lib.hid (fun p hp => (ms2 p hp).one)
      have mall := Lib.hid (fun w' (h : Below wo.heap.size wo w') (p : Op2) (hp : p ∈ M2 ++ M1) => (by
        rcases List.mem_append.1 hp with hp | hp
        · exact (ms2 p hp).on h
        · exact (ms1 p hp).on h : SlB w' p.2 p.1.b))
      have mmap := Lib.hid (show (M2 ++ M1).map (·.1) = xs.drop tn ++ xs.take tn by rw [List.map_append, mm1, mm2])
      have m2v := Lib.hid mv2
      clear mm1 mm2 ms1 ms2 mv1 mv2
      have z1 : (tn : Int) ≤ (i : Int) := by omega
      have z2 : (tn : Int) ≤ (cap : Int) := by omega
      have m2w : ViewO wo (if cap = tn then a else Option.map (fun x => x.add (tn * 3)) a) M2 ∧ ((if cap = tn then a else Option.map (fun x => x.add (tn * 3)) a) = none → cap - tn = 0) := by
        by_cases e : cap = tn
        · exact ⟨.inl (by rw [m2l.out]; omega), fun _ => by omega⟩
        · rw [if_neg e]
          cases a with
          | none =>
            have := m1n.out rfl
            exact ⟨.inl (by rw [m2l.out]; omega), fun _ => by omega⟩
          | some ad =>
            refine ⟨?_, fun h => by cases h⟩
            by_cases h0 : i = 0
            · exact .inl (by rw [m2l.out]; omega)
            · rcases (hO.out.on Bi.out).obs.1 with h | ⟨b, off, e2, _⟩
              · rw [hl'.out] at h; omega
              · obtain rfl := Option.some.inj e2
                have e3 : Option.map (fun x => Addr.add x (tn * 3)) (some (⟨b, off, none⟩ : Addr)) = some ⟨b, off + tn * 3, none⟩ := congrArg some (addr_add b off (tn * 3))
                rw [e3]
                exact m2v.out b off rfl
      have m2w' := Lib.hid m2w.1
      have m2n := Lib.hid m2w.2
      clear m2w
      go_region_law (first
        | (refine step_append_obs (by rfl) (.const (.slice none 0 0)) (.tmp 85) (by rfl) wo.heap.size (.slice none 0 0) [] (by simp [Act.eval, Act.put]) (RowO.nil _ _) (if cap = tn then a else Option.map (fun x => x.add (tn * 3)) a) (i - tn) (cap - tn) M2 (by simp [Act.eval, Act.put]) m2l.out (m2w'.out.on Bd.out) m2o.out m2n.out (by simp; omega) Bd.out.size ?_; intro v10' w10' hr10 hg10; rw [List.nil_append] at hr10; have R10 := Lib.hid hr10; have B10' := Lib.hid (Bd.out.trans (grownBy_below hg10 Bd.out.size (fun k e => by cases e))); clear hr10 hg10)
        | (refine step_append_obs (by rfl) (.tmp 86) (.tmp 89) (by rfl) wo.heap.size v10' M2 (by simp [Act.eval, Act.put]) R10.out a tn cap M1 (by simp [Act.eval, Act.put]) m1l.out (m1v.out _ B10'.out) m1o.out m1n.out (by rw [m2l.out]; omega) B10'.out.size ?_; intro v11 w11 hr11 hg11; have R11 := Lib.hid hr11; have B11 := Lib.hid (B10'.out.trans (grownBy_below hg11 B10'.out.size (fun k e => (R10.out.block k e).1))); clear hr11 hg11))
      all_goals
        clear m2w' m2n
        generalize (if cap = tn then a else Option.map (fun x => x.add (tn * 3)) a) = sp
        have T11 := R11.out.slo (fun p hp => mall.out w11 B11.out p hp)
        rw [mmap.out] at T11
        have T12 := T11
        obtain ⟨a13, cap13, hv13, -⟩ := T12
        rw [tln.out] at hv13
        subst hv13
        have T13 := Lib.hid T11
        have B13 := Lib.hid (Bi.out.trans (B11.out.mono Bi.out.size))
        clear T11
        go_wp2_with fail
        go_loopg [14] 3 (fun q v14 wx => ∃ s : Nat, s + q = 3 ∧ v14 = .int .i64 (s : Int) ∧ Below w.heap.size w wx ∧ SlO wx (.slice a13 i cap13) (xs.drop tn ++ xs.take tn))
        case atStart => exact ⟨0, by omega, rfl, B13.out, T13.out⟩
        case round =>
          obtain ⟨s, hsq, rfl, hbl, hsl⟩ := hrel
          have Bs := Lib.hid hbl
          have Ts := Lib.hid hsl
          clear hbl hsl
          by_cases hl3 : s < 3
          · obtain ⟨q2, hq2⟩ : ∃ q2, gk = q2 + 1 := ⟨gk - 1, by omega⟩
            subst hq2
            have et := Lib.hid (turned (s := (s : Int)) (L := sec l) (t := tn) lA.out (fun j hj k hk => No.out j (by rw [← hl'.out]; exact hj) k hk))
            have tk : True := trivial
            go_wp2_with (first
              | (clear tk; go_at_call 9; refine (over_c _ l (s : Int) _ xs _ (hA.out.on Bs.out) (hO.out.on Bs.out) (by rw [hl'.out]; omega) hb'.out).mono ?_; rintro e u1 ⟨h1, rfl, hg1, hr1, hb1⟩; have P1 := Lib.hid hr1; have Ts1 := Lib.hid (Ts.out.on hb1); have Bs1 := Lib.hid (below_two Bs.out hb1); clear hr1 hg1 hb1)
              | (go_at_call 9; refine (over_c _ l (s : Int) _ (xs.drop tn ++ xs.take tn) _ (hA.out.on Bs1.out) Ts1.out tle.out tbl.out).mono ?_; rw [et.out]; rintro e u2 ⟨h2, rfl, hg2, hr2, hb2⟩; have P2 := Lib.hid hr2; have P1b := Lib.hid (P1.out.on hb2 P1.out.lt); have Ts2 := Lib.hid (Ts1.out.on hb2); have Bs2 := Lib.hid (below_two Bs1.out hb2); clear hr2 hg2 hb2)
              | (go_at_call 12; refine (same_same _ _ _ _ 128 _ _ _ (lays_length lA.out) rfl (by omega) P1b.out.bat P2.out.bat).mono ?_; rintro e u3 ⟨rfl, hb3⟩; have Ts3 := Lib.hid (Ts2.out.on hb3); have Bs3 := Lib.hid (below_two Bs2.out hb3); clear hb3))
            go_roundg q2
            case measure => omega
            case rel => exact ⟨s + 1, by omega, by go_num, Bs3.out, Ts3.out⟩
          · obtain rfl : s = 3 := by omega
            go_wp2_with (go_at_call 7; refine (awake_any _).mono ?_; rintro e u4 ⟨rfl, hb4⟩; have Bs4 := Lib.hid (below_two Bs.out hb4); clear hb4)
            go_ret
            exact ⟨rfl, Bs4.out⟩
end Go.Proofs.Ytcmomnfefaolaaa
