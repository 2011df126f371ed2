/-
  Objects that are laid in two goes are as all of them at once.
-/
import Derived.Test.YtcmomnfefaolaaaRlr
import Derived.Test.YtcmomnfefaolaaaRlu
import Derived.Test.YtcmomnfefaolaaaRli
import Derived.Test.YtcmomnfefaolaaaRlw
import Derived.Test.YtcmomnfefaolaaaRlx
import Derived.Test.YtcmomnfefaolaaaLo
import Derived.Test.YtcmomnfefaolaaaSb
namespace Go.Proofs.Ytcmomnfefaolaaa
open Go.RowKit BigFrame
set_option maxRecDepth 100000
attribute [local go_sem ↓] ldO_of
theorem nodup_subL : ∀ {l m : List Nat}, l.Nodup → (∀ x ∈ l, x ∈ m) → l.length ≤ m.length
  | [], _, _, _ => Nat.zero_le _
  | x :: r, m, hn, hs => by
    obtain ⟨h1, h2⟩ := List.nodup_cons.1 hn
    have hx := hs x List.mem_cons_self
    have ih := nodup_subL (l := r) (m := m.erase x) h2 fun y hy => (List.mem_erase_of_ne (show y ≠ x from fun e => h1 (e ▸ hy))).2 (hs y (List.mem_cons_of_mem _ hy))
    rw [List.length_erase_of_mem hx] at ih
    have := List.length_pos_of_mem hx
    simp only [List.length_cons]
    omega
theorem uniq_len {l Z : List Nat} (h : Uniq l Z) : Z.length ≤ l.length := by
  have hd : Z.Nodup := h.lt.imp (fun h e => by subst e; exact Nat.lt_irrefl _ h)
  exact nodup_subL hd fun z hz => (h.mem z).1 hz
theorem below_of_drew {w w' : World} (h : ∃ q, w' = w.drewN q) : Below w.heap.size w w' := by
  obtain ⟨q, rfl⟩ := h
  exact below_drewN w q
set_option maxHeartbeats 8000000 in
theorem rollParts_any (os old : Value) (xs : List Ob) (l : List Nat) (c z : Int) (w : World) (ho : SlO w os xs) (hs : SlB w old l) :
    Calls Try.prog 5 #[os, .int .i64 c, old, .int .i64 z] w (Tells (.bool true) w) := by
  obtain ⟨a, cap, rfl, hc, hX, hnil⟩ := ho
  obtain ⟨n, hl⟩ : ∃ n, xs.length = n := ⟨_, rfl⟩
  obtain ⟨a2, cap2, rfl, hc2, hX2, hnil2⟩ := hs
  obtain ⟨m, hm⟩ : ∃ m, l.length = m := ⟨_, rfl⟩
  have hO := Lib.hid (show SlO w (.slice a n cap) xs from ⟨a, cap, by rw [hl], hc, hX, hnil⟩)
  have hB := Lib.hid (show SlB w (.slice a2 m cap2) l from ⟨a2, cap2, by rw [hm], hc2, hX2, hnil2⟩)
  rw [hl] at hc ⊢
  rw [hm] at hc2 ⊢
  have hl' := Lib.hid hl
  have hm' := Lib.hid hm
  have hgr := Lib.hid (great_c _ xs 16 w hO.out (by omega))
  obtain ⟨fw, hfw⟩ : ∃ f, few xs 16 = f := ⟨_, rfl⟩
  rw [hfw] at hgr
  have hfw' := Lib.hid hfw
  clear hl hm hX hX2 hnil hnil2 hfw
  cases fw
  · go_enter Try.func5, Try.ntmps5
    go_wp2_with (first
      | (go_at_call 6; refine hgr.out.mono ?_; rintro e w1 ⟨rfl, hq⟩; have B1 := Lib.hid (below_of_drew hq); clear hq)
      | (go_at_call 7; refine (awake_any _).mono ?_; rintro e w2 ⟨rfl, hb2⟩; have B2 := Lib.hid (below_two B1.out hb2); clear hb2))
    go_ret
    exact ⟨rfl, B2.out⟩
  by_cases hm128 : 128 < m
  · have x1 : (128 : Int) < (m : Int) := by omega
    go_enter Try.func5, Try.ntmps5
    go_wp2_with (first
      | (go_at_call 6; refine hgr.out.mono ?_; rintro e w1 ⟨rfl, hq⟩; have B1 := Lib.hid (below_of_drew hq); clear hq)
      | (go_at_call 7; refine (awake_any _).mono ?_; rintro e w2 ⟨rfl, hb2⟩; have B2 := Lib.hid (below_two B1.out hb2); clear hb2))
    go_ret
    exact ⟨rfl, B2.out⟩
  obtain ⟨hn16, hb200⟩ := few_is.1 hfw'.out
  have hn16 : n ≤ 16 := by rw [← hl'.out]; exact hn16
  have hb' := Lib.hid (fun x hx => Nat.le_trans (hb200 x hx) (by omega : 200 ≤ 100000))
  clear hb200
  have x1 : ¬ (128 : Int) < (m : Int) := by omega
  have tk : True := trivial
  go_enter Try.func5, Try.ntmps5
  go_wp2_with (first
    | (go_at_call 6; refine hgr.out.mono ?_; rintro e w1 ⟨rfl, hq⟩; have B1 := Lib.hid (below_of_drew hq); clear hq)
    | (clear tk; go_at_call 26; refine (low_c c ((n : Int) + 1) (n + 1) _ (by omega) (by omega) (by omega)).mono ?_; rintro e w2 ⟨cn, hcn, rfl, rfl⟩)
    | (go_at_call 26; refine (low_c z 5 5 _ (by omega) (by omega) (by omega)).mono ?_; rintro e w2 ⟨zn, hzn, rfl, rfl⟩))
  have hn17 : cn ≤ n := by omega
  go_loopg [9, 10] cn (fun q v9 v10 wr => ∃ k : Nat, k + q = cn ∧ v10 = .int .i64 (k : Int) ∧ OwnZ wr w.heap.size v9 (List.range k) ∧ Below w.heap.size w wr)
  case atStart => exact ⟨0, by omega, rfl, OwnZ.nil _ _, B1.out⟩
  case round =>
    obtain ⟨k, hkq, rfl, hz9, hbl⟩ := hrel
    have Z9 := Lib.hid hz9
    have B9 := Lib.hid hbl
    clear hz9 hbl
    by_cases hlt : k < cn
    · obtain ⟨q, rfl⟩ : ∃ q, gk = q + 1 := ⟨gk - 1, by omega⟩
      go_wp2_with (at_builtin; refine wpList_append_nat rfl (.tmp 38) (.tmp 40) rfl w.heap.size u9 (List.range k) rfl (Z9.out.alloc _) ⟨wr.heap.size, 0, none⟩ 1 k rfl (nat_new _ _) (by simp; omega) (by have := B9.out.size; simp; omega) ?_; intro v6 w6 ho6 hg6 hn6)
      go_roundg q
      case measure => omega
      case rel => exact ⟨k + 1, by omega, by go_num, by rw [List.range_succ]; exact ho6.out, (B9.out.alloc B9.out.size _).trans (grownBy_below hg6.out (by have := B9.out.size; simp; omega) fun k hk => (Z9.out.block k hk).1)⟩
    · obtain rfl : k = cn := by omega
      obtain ⟨a9, cap9, hv9, -, hi9⟩ := Z9.out.ints
      rw [List.length_range] at hv9 hi9
      subst hv9
      have I9 := Lib.hid hi9
      have hask := Lib.hid (askd_upto (R := fun j => (((List.range k).getD j 0 : Nat) : Int)) (m := k) (fun j hj => by simp [List.getD, hj]))
      have hsp := Lib.hid (split_c (.slice a n cap) xs a9 k cap9 _ wr (hO.out.on B9.out) (by rw [hl'.out]; omega) hb'.out (by omega) hi9)
      rw [hl'.out, pickN_upto (c := k) hask.out (by rw [hl'.out]; exact Nat.le_refl _), pickN_from (c := k) (fun j => by rw [hask.out]) (by rw [hl'.out]; exact Nat.le_refl _), List.take_of_length_le (l := xs) (by rw [hl'.out]; exact Nat.le_refl _)] at hsp
      clear hi9
      obtain ⟨n2, hn2⟩ : ∃ n2, n - k = n2 := ⟨_, rfl⟩
      have hkn2 : k + n2 = n := by omega
      have lt1 := Lib.hid (show (xs.take k).length = k by rw [List.length_take, hl'.out]; omega)
      have lt2 := Lib.hid (show (xs.drop k).length = n2 by rw [List.length_drop, hl'.out]; exact hn2)
      have bt1 := Lib.hid (fun x hx => hb'.out x (List.mem_of_mem_take (i := k) hx))
      have bt2 := Lib.hid (fun x hx => hb'.out x (List.mem_of_mem_drop (i := k) hx))
      obtain ⟨L4, hL4⟩ : ∃ L, lays (zn : Int) (sec l) xs = L := ⟨_, rfl⟩
      obtain ⟨L5, hL5⟩ : ∃ L, lays (zn : Int) (sec l) (xs.take k) = L := ⟨_, rfl⟩
      have l4 := Lib.hid (show L4.length = 128 by rw [← hL4]; exact lays_length (sec_length l))
      have l5 := Lib.hid (show L5.length = 128 by rw [← hL5]; exact lays_length (sec_length l))
      have e45 := Lib.hid (show lays (zn : Int) (sec L5) (xs.drop k) = L4 by
        rw [sec_id l5.out, ← hL4, ← hL5, ← lays_app, List.take_append_drop])
      have hL4' := Lib.hid hL4
      have hL5' := Lib.hid hL5
      clear hn2 hL4 hL5
      have t1 : True := trivial
      have t2 : True := trivial
      have t3 : True := trivial
      go_wp2_with (first
        | (go_at_call 22; refine hsp.out.mono ?_; rintro e w3 ⟨v1, v2, L1, L2, rfl, hS, e1, e2⟩
           have s1 : SlO w3 v1 (xs.take k) := by have := hS.r1.slo (fun p hp => (hS.d1 p hp).slb); rwa [e1] at this
           have s2 : SlO w3 v2 (xs.drop k) := by have := hS.r2.slo (fun p hp => (hS.d2 p hp).slb); rwa [e2] at this
           have bb := B9.out.trans (hS.bel.mono B9.out.size)
           obtain ⟨b1, c1, hv1, -⟩ := s1
           obtain ⟨b2, c2, hv2, -⟩ := s2
           rw [lt1.out] at hv1
           rw [lt2.out] at hv2
           subst hv1 hv2
           have S1 := Lib.hid (show SlO w3 (.slice b1 k c1) (xs.take k) by have := hS.r1.slo (fun p hp => (hS.d1 p hp).slb); rwa [e1] at this)
           have S2 := Lib.hid (show SlO w3 (.slice b2 n2 c2) (xs.drop k) by have := hS.r2.slo (fun p hp => (hS.d2 p hp).slb); rwa [e2] at this)
           have B3 := Lib.hid bb
           clear hS e1 e2 bb)
        | (clear t1; go_at_call 9; refine (over_c _ l (zn : Int) _ xs _ (hB.out.on B3.out) (hO.out.on B3.out) (by rw [hl'.out]; omega) hb'.out).mono ?_; rw [hL4'.out]; rintro e w4 ⟨g4, rfl, hg4, hr4, hb4⟩; have R4 := Lib.hid hr4; have S1b := Lib.hid (S1.out.on hb4); have S2b := Lib.hid (S2.out.on hb4); have B4 := Lib.hid (below_two B3.out hb4); clear hr4 hg4 hb4)
        | (clear t2; go_at_call 9; refine (over_c _ l (zn : Int) _ (xs.take k) _ (hB.out.on B4.out) S1b.out (by rw [lt1.out]; omega) bt1.out).mono ?_; rw [hL5'.out]; rintro e w5 ⟨g5, rfl, hg5, hr5, hb5⟩; have R5 := Lib.hid hr5; have R4b := Lib.hid (R4.out.on hb5 R4.out.lt); have S1c := Lib.hid (S1b.out.on hb5); have S2c := Lib.hid (S2b.out.on hb5); have B5 := Lib.hid (below_two B4.out hb5); clear hr5 hg5 hb5)
        | (clear t3; go_at_call 9; refine (over_c (.slice (some ⟨g5, 0, none⟩) 128 128) L5 (zn : Int) _ (xs.drop k) _ ⟨_, 128, by rw [l5.out], by rw [l5.out]; exact Nat.le_refl _, R5.out.bat, (fun h => by cases h)⟩ S2c.out (by rw [lt2.out]; omega) bt2.out).mono ?_; rw [e45.out]; rintro e w6 ⟨g6, rfl, hg6, hr6, hb6⟩; have R6 := Lib.hid hr6; have R4c := Lib.hid (R4b.out.on hb6 R4b.out.lt); have S1d := Lib.hid (S1c.out.on hb6); have S2d := Lib.hid (S2c.out.on hb6); have B6 := Lib.hid (below_two B5.out hb6); clear hr6 hg6 hb6)
        | (go_at_call 10; refine (sectors_c _ xs _ (hO.out.on B6.out) (by rw [hl'.out]; omega) hb'.out).mono ?_; rintro e w7 ⟨v7, Z, rfl, ho7, hu7, hb7⟩
           obtain ⟨a7, cap7, hv7, -, hi7⟩ := ho7.ints
           obtain ⟨zl, hzl⟩ : ∃ zl, Z.length = zl := ⟨_, rfl⟩
           rw [hzl] at hv7 hi7
           subst hv7
           have I7 := Lib.hid hi7
           have U7 := Lib.hid hu7
           have ZL := Lib.hid hzl
           have R6b := Lib.hid (R6.out.on hb7 R6.out.lt)
           have R4d := Lib.hid (R4c.out.on hb7 R4c.out.lt)
           have S1e := Lib.hid (S1d.out.on hb7)
           have S2e := Lib.hid (S2d.out.on hb7)
           have B7 := Lib.hid (below_two B6.out hb7)
           clear hi7 hzl hu7 hb7 ho7))
      obtain ⟨wo, hwo⟩ : ∃ wo, wo = wr := ⟨_, rfl⟩
      subst hwo
      have zl16 : zl ≤ 16 := by
        have h1 : Z.length ≤ (msec xs).length := uniq_len U7.out
        have := msec_len xs; have := ZL.out; have := hl'.out; omega
      go_loopg [16, 17] zl (fun q v16 v17 wx => ∃ (j : Nat) (r : Bool), j + q = zl ∧ v17 = .int .i64 (j : Int) ∧ v16 = .bool r ∧ wx = w7 ∧ (r = true ↔ ∃ i, i < j ∧ Z.getD i 0 = zn))
      case atStart => exact ⟨0, false, by omega, rfl, rfl, rfl, by simp⟩
      case round =>
        obtain ⟨j, r, hjq, rfl, rfl, rfl, hr⟩ := hrel
        have hr' := Lib.hid hr
        clear hr
        by_cases hlt : j < zl
        · obtain ⟨q, rfl⟩ : ∃ q, gk = q + 1 := ⟨gk - 1, by omega⟩
          rcases I7.out with h0 | ⟨b7, o7, rfl, hc7⟩
          · omega
          have cj : wr.cell? ⟨b7, o7 + j, none⟩ = some (.int .i64 ((Z.getD j 0 : Nat) : Int)) := hc7 j hlt
          clear hc7
          obtain ⟨y, hy⟩ : ∃ y, Z.getD j 0 = y := ⟨_, rfl⟩
          rw [hy] at cj
          have hy' := Lib.hid hy
          clear hy
          have nxt := Lib.hid (show ((r || decide ((y : Int) = (zn : Int))) = true ↔ ∃ i, i < j + 1 ∧ Z.getD i 0 = zn) by
            rw [Bool.or_eq_true, hr'.out, decide_eq_true_iff]
            constructor
            · rintro (⟨i, h1, h2⟩ | h)
              · exact ⟨i, by omega, h2⟩
              · exact ⟨j, by omega, by rw [hy'.out]; omega⟩
            · rintro ⟨i, h1, h2⟩
              rcases Nat.lt_succ_iff_lt_or_eq.1 h1 with h | h
              · exact .inl ⟨i, h, h2⟩
              · subst h; right; rw [← h2, hy'.out])
          cases r
          · go_wp2_with fail
            go_roundg q
            case measure => omega
            case rel => exact ⟨j + 1, (false || decide ((y : Int) = (zn : Int))), by omega, by go_num, by first | rfl | (simp; done), rfl, nxt.out⟩
          · go_wp2_with fail
            go_roundg q
            case measure => omega
            case rel => exact ⟨j + 1, true, by omega, by go_num, rfl, rfl, by have := nxt.out; rwa [Bool.true_or] at this⟩
        · obtain rfl : j = zl := by omega
          have e11 : ((n : Nat) : Int) = (k : Int) + (n2 : Int) := by omega
          have zl1000 := Lib.hid (show j ≤ 1000 by omega)
          obtain ⟨M1, mm1, ms1, mv1⟩ := S1e.out.obs.1.view
          obtain ⟨M2, mm2, ms2, mv2⟩ := S2e.out.obs.1.view
          have m1l := Lib.hid (show M1.length = k by rw [← lt1.out, ← mm1, List.length_map])
          have m2l := Lib.hid (show M2.length = n2 by rw [← lt2.out, ← mm2, List.length_map])
          have m1v := Lib.hid (fun w' (h : Below wr.heap.size wr w') => (mv1.on h : ViewO w' b1 M1))
          have m2v := Lib.hid (fun w' (h : Below wr.heap.size wr w') => (mv2.on h : ViewO w' b2 M2))
          have m1o := Lib.hid (fun p hp => (ms1 p hp).one)
          have m2o := Lib.hid (fun p hp => (ms2 p hp).one)
          have m1n := Lib.hid S1e.out.obs.2
          have m2n := Lib.hid S2e.out.obs.2
          have mall := Lib.hid (fun w' (h : Below wr.heap.size wr w') (p : Op2) (hp : p ∈ M2 ++ M1) => (by
            rcases List.mem_append.1 hp with hp | hp
            · exact (ms2 p hp).on h
            · exact (ms1 p hp).on h : SlB w' p.2 p.1.b))
          have mmap := Lib.hid (show (M2 ++ M1).map (·.1) = xs.drop k ++ xs.take k by rw [List.map_append, mm1, mm2])
          have mle := Lib.hid (show (xs.drop k ++ xs.take k).length ≤ 100000 by rw [List.length_append, lt1.out, lt2.out]; omega)
          have mbl := Lib.hid (show ∀ x ∈ xs.drop k ++ xs.take k, x.b.length ≤ 100000 from fun x hx => by
            rcases List.mem_append.1 hx with hx | hx
            · exact bt2.out x hx
            · exact bt1.out x hx)
          have usame := Lib.hid (fun Z2 (h : Uniq (msec (xs.drop k ++ xs.take k)) Z2) => (lt_uniq h.lt U7.out.lt fun z => by rw [h.mem, U7.out.mem, msec_turn] : Z2 = Z))
          clear mm1 mm2 ms1 ms2 mv1 mv2
          cases r
          · have hout := Lib.hid (show L4 = sec l by
              rw [← hL4'.out]
              refine lays_out U7.out fun hz => ?_
              obtain ⟨i, hi, e⟩ := List.mem_iff_getElem.1 hz
              have h1 : i < j := by have := ZL.out; omega
              have := hr'.out.2 ⟨i, h1, by simp [List.getD, hi, e]⟩
              cases this)
            have t4 : True := trivial
            go_wp2_with (first
            | (clear t4; go_at_call 12; refine (same_same _ _ _ _ 128 L4 L4 _ l4.out rfl (by omega) R4d.out.bat R6b.out.bat).mono ?_; rintro e w8 ⟨rfl, hb8⟩; have R4e := Lib.hid (R4d.out.on hb8 R4d.out.lt); have B8 := Lib.hid hb8; clear hb8)
            | (go_at_call 9; refine (over_c _ l (zn : Int) (.slice none 0 0) [] _ (hB.out.on (B7.out.trans (B8.out.mono B7.out.size))) ⟨none, 0, rfl, Nat.le_refl _, .inl rfl, fun _ => rfl⟩ (by simp) (fun x hx => by cases hx)).mono ?_; rintro e w9 ⟨g9, rfl, hg9, hr9, hb9⟩; have R9 := Lib.hid (show RowT w9 48 g9 (sec l) from hr9); have R4f := Lib.hid (R4e.out.on hb9 R4e.out.lt); have B9b := Lib.hid (B8.out.trans (hb9.mono B8.out.size)); clear hr9 hg9 hb9)
            | (go_at_call 12; refine (same_same _ _ _ _ 128 L4 (sec l) _ l4.out hout.out (by omega) R4f.out.bat R9.out.bat).mono ?_; rintro e w9' ⟨rfl, hb9'⟩; have B9c := Lib.hid (B9b.out.trans (hb9'.mono B9b.out.size)); clear hb9')
            | (at_builtin; refine wpList_append_obs_want rfl (.const (.slice none 0 0)) (.tmp 107) rfl w9'.heap.size (.slice none 0 0) [] rfl (RowO.nil _ _) b2 n2 c2 M2 rfl (m2l.out) (m2v.out _ B9c.out) m2o.out m2n.out (by simp; omega) (Nat.le_refl _) ?_; intro v10 w10 hr10 hg10; rw [List.nil_append] at hr10; have R10 := hr10; have D10 := Lib.hid (show Below w9'.heap.size w9' w10 from grownBy_below hg10.out (Nat.le_refl _) (fun k e => by cases e)); have B10 := Lib.hid (B9c.out.trans (D10.out.mono B9c.out.size)); clear hr10 hg10)
            | (at_builtin; refine wpList_append_obs_want rfl (.tmp 108) (.tmp 109) rfl w9'.heap.size v10 M2 rfl R10.out b1 k c1 M1 rfl (m1l.out) (m1v.out _ B10.out) m1o.out m1n.out (by rw [m2l.out]; omega) D10.out.size ?_; intro v11 w11 hr11 hg11; have R11 := hr11; have D11 := Lib.hid (D10.out.trans (grownBy_below hg11.out D10.out.size (fun k e => (R10.out.block k e).1))); have B11 := Lib.hid (B9c.out.trans (D11.out.mono B9c.out.size)); clear hr11 hg11)
            | (go_at_call 10; have hso := R11.out.slo (fun p hp => mall.out w11 B11.out p hp); rw [mmap.out] at hso; refine (sectors_c _ (xs.drop k ++ xs.take k) _ hso mle.out mbl.out).mono ?_; rintro e w12 ⟨v12, Z2, rfl, ho12, hu12, hb12⟩; obtain rfl : Z2 = Z := usame.out Z2 hu12; obtain ⟨a12, cap12, hv12, -, hi12⟩ := ho12.ints; rw [ZL.out] at hv12 hi12; subst hv12; have I12 := Lib.hid hi12; have B12 := Lib.hid (B11.out.trans (hb12.mono B11.out.size)); clear hi12 hu12 hb12 ho12 hso)
            | (go_at_call 14; refine (sameI_any _ _ _ _ j _ _ _ zl1000.out (I7.out.on' B12.out (Nat.le_refl _)) I12.out (fun k hk => rfl)).mono ?_; rintro e w13 ⟨rfl, hb13⟩; have B13 := Lib.hid (B12.out.trans (hb13.mono B12.out.size)); clear hb13)
            | (go_at_call 7; refine (awake_any _).mono ?_; rintro e w14 ⟨rfl, hb14⟩; have B14 := Lib.hid (B13.out.trans (hb14.mono B13.out.size)); clear hb14))
            go_ret
            exact ⟨rfl, B7.out.trans (B14.out.mono B7.out.size)⟩
          · go_wp2_with (first
            | (go_at_call 12; refine (same_same _ _ _ _ 128 L4 L4 _ l4.out rfl (by omega) R4d.out.bat R6b.out.bat).mono ?_; rintro e w8 ⟨rfl, hb8⟩; have B8 := Lib.hid hb8; clear hb8)
            | (at_builtin; refine wpList_append_obs_want rfl (.const (.slice none 0 0)) (.tmp 107) rfl w8.heap.size (.slice none 0 0) [] rfl (RowO.nil _ _) b2 n2 c2 M2 rfl (m2l.out) (m2v.out _ B8.out) m2o.out m2n.out (by simp; omega) (Nat.le_refl _) ?_; intro v10 w10 hr10 hg10; rw [List.nil_append] at hr10; have R10 := hr10; have D10 := Lib.hid (show Below w8.heap.size w8 w10 from grownBy_below hg10.out (Nat.le_refl _) (fun k e => by cases e)); have B10 := Lib.hid (B8.out.trans (D10.out.mono B8.out.size)); clear hr10 hg10)
            | (at_builtin; refine wpList_append_obs_want rfl (.tmp 108) (.tmp 109) rfl w8.heap.size v10 M2 rfl R10.out b1 k c1 M1 rfl (m1l.out) (m1v.out _ B10.out) m1o.out m1n.out (by rw [m2l.out]; omega) D10.out.size ?_; intro v11 w11 hr11 hg11; have R11 := hr11; have D11 := Lib.hid (D10.out.trans (grownBy_below hg11.out D10.out.size (fun k e => (R10.out.block k e).1))); have B11 := Lib.hid (B8.out.trans (D11.out.mono B8.out.size)); clear hr11 hg11)
            | (go_at_call 10; have hso := R11.out.slo (fun p hp => mall.out w11 B11.out p hp); rw [mmap.out] at hso; refine (sectors_c _ (xs.drop k ++ xs.take k) _ hso mle.out mbl.out).mono ?_; rintro e w12 ⟨v12, Z2, rfl, ho12, hu12, hb12⟩; obtain rfl : Z2 = Z := usame.out Z2 hu12; obtain ⟨a12, cap12, hv12, -, hi12⟩ := ho12.ints; rw [ZL.out] at hv12 hi12; subst hv12; have I12 := Lib.hid hi12; have B12 := Lib.hid (B11.out.trans (hb12.mono B11.out.size)); clear hi12 hu12 hb12 ho12 hso)
            | (go_at_call 14; refine (sameI_any _ _ _ _ j _ _ _ zl1000.out (I7.out.on' B12.out (Nat.le_refl _)) I12.out (fun k hk => rfl)).mono ?_; rintro e w13 ⟨rfl, hb13⟩; have B13 := Lib.hid (B12.out.trans (hb13.mono B12.out.size)); clear hb13)
            | (go_at_call 7; refine (awake_any _).mono ?_; rintro e w14 ⟨rfl, hb14⟩; have B14 := Lib.hid (B13.out.trans (hb14.mono B13.out.size)); clear hb14))
            go_ret
            exact ⟨rfl, B7.out.trans (B14.out.mono B7.out.size)⟩
end Go.Proofs.Ytcmomnfefaolaaa
