/-
  What the document's own Read tells.
-/
import Derived.Test.YtpogaognobgfhaaEk
import Derived.Test.YtpogaognobgfhaaEn
import Derived.Test.YtpogaognobgfhaaYo
import Derived.BigRegion
namespace Go.Proofs.Ytpogaognobgfhaa
open Go.RowKit BigFrame

/-- what is told so far, in block G; the result's block; the body's bytes -/
def DsAt (m : List Nat) (k G g2 g1 : Nat) (w wr : World) : Prop :=
  Vw wr 24 G (fc (tlD tlR m k ++ List.replicate (4 - k) s0)) ∧ Vw wr 24 g2 (fc z4) ∧ BAt wr (some ⟨g1, 0, none⟩) m ∧ Below w.heap.size w wr ∧ g2 < G ∧ G < g1 ∧ w.heap.size ≤ g2
theorem DsAt.on {m : List Nat} {k G g2 g1 : Nat} {w wr wx : World} (h : DsAt m k G g2 g1 w wr) (hb : Below wr.heap.size wr wx) : DsAt m k G g2 g1 w wx := by
  obtain ⟨h1, h2, h3, h4, h5⟩ := h
  exact ⟨h1.on' hb, h2.on' hb, h3.on hb (Nat.le_refl _), below_two h4 hb, h5⟩
theorem DsAt.put {m : List Nat} {k G g2 g1 : Nat} {w wr : World} (h : DsAt m k G g2 g1 w wr) (hk : k < 4) (x : Slt) (hx : tlR (pc m k) = x) : DsAt m (k + 1) G g2 g1 w (wr.setCells G (k * 3) (sc x)) := by
  obtain ⟨h1, h2, h3, h4, h5, h6, h7⟩ := h
  have ho := Oth.setCells (Oth.refl G wr) (k * 3) (sc x)
  have hl := tlD_len4 tlR m (Nat.le_of_lt hk)
  have hp := Vw.put (sc x) (k * 3) h1 (by rw [fc_length, hl, sc_length]; omega)
  rw [fc_put x (by omega), tlD_set tlR m hk x hx] at hp
  exact ⟨hp, h2.oth ho (by omega), h3.oth ho (by omega), below_setCells h4 (by omega) _ _, h5, h6, h7⟩
def DsRel (m : List Nat) (G g2 g1 : Nat) (w : World) (i : Value) (wr : World) : Prop := ∃ k : Nat, k ≤ 4 ∧ i = .int .i64 k ∧ DsAt m k G g2 g1 w wr
theorem rdN_list2 (x y : Nat) : rdN [x, y] = x * 256 + y := by simp [rdN]
theorem rdN_list1 (x : Nat) : rdN [x] = x := by simp [rdN]
/-- the first bytes of a piece -/
theorem pc_bz {m : List Nat} {k j : Nat} (hj : j < 28) : bz (pc m k) j = bz m (k * 28 + j) := by
  unfold pc; rw [bz_take hj, bz_drop]
theorem tlR_is {m : List Nat} {k : Nat} (hl : (pc m k).length = 28) : tlR (pc m k) = ⟨((bz m (k * 28) * 256 + bz m (k * 28 + 1) : Nat) : Int), ((bz m (k * 28 + 2) : Nat) : Int), strOf ((m.drop (k * 28 + 4)).take (min (bz m (k * 28 + 3)) 24))⟩ := by
  have e0 := pc_bz (m := m) (k := k) (j := 0) (by omega)
  have e1 := pc_bz (m := m) (k := k) (j := 1) (by omega)
  have e2 := pc_bz (m := m) (k := k) (j := 2) (by omega)
  have e3 := pc_bz (m := m) (k := k) (j := 3) (by omega)
  rw [Nat.add_zero] at e0
  have t2 : (pc m k).take 2 = [bz (pc m k) 0, bz (pc m k) 1] := by
    have a := take_succ_bz (l := pc m k) (k := 0) (by omega)
    have b := take_succ_bz (l := pc m k) (k := 1) (by omega)
    rw [a] at b
    exact b
  have t1 : ((pc m k).drop 2).take 1 = [bz (pc m k) 2] := by
    have a := take_succ_bz (l := (pc m k).drop 2) (k := 0) (by rw [List.length_drop]; omega)
    rw [bz_drop] at a
    exact a
  have t4 : ((pc m k).drop 4).take (min (bz (pc m k) 3) 24) = (m.drop (k * 28 + 4)).take (min (bz m (k * 28 + 3)) 24) := by
    rw [e3]
    unfold pc
    rw [List.drop_take, List.drop_drop, List.take_take]
    congr 1
    omega
  unfold tlR nmOf
  rw [t2, t1, t4, rdN_list2, rdN_list1, e0, e1, e2]

attribute [local go_sem ↓] ldL_of ldLs_of stL_of stLs_of bdL_of bdLs_of
set_option maxRecDepth 100000 in
set_option maxHeartbeats 1000000 in
theorem refDirRead_bad (a : Option Addr) (cap n : Nat) (l : List Nat) (w : World) (hn : l.length = n) (hk : kindOf l ≠ 68) (ho : Octs l) (hc : n ≤ cap) (hx : BAt w a l) :
    Calls Try.prog 13 #[.slice a n cap] w (Tells (readDV l) w) := by
  have hv := Lib.hid (show readDV l = .tuple #[fv z4, .int .i64 3] by unfold readDV; rw [readD_no (l := l) (fun h => hk h.1)]; rfl)
  have hx' := Lib.hid hx
  have ho' := Lib.hid ho
  have hn' := Lib.hid hn
  have hk' := Lib.hid hk
  obtain ⟨Z, hZ⟩ : ∃ Z, z4 = Z := ⟨_, rfl⟩
  have hZl := Lib.hid (show Z.length = 4 by rw [← hZ]; rfl)
  rw [hZ] at hv
  have hZ' := Lib.hid hZ
  clear hx ho hn hk hZ
  go_enter Try.func13, Try.ntmps13
  have tk0 : True := trivial
  have tk1 : True := trivial
  go_wp2_with (first
    | (go_at_call 34; refine (refOpen_bad 68 (kindOf l) _ _ n l _ hn'.out rfl (.inr hk'.out) ho'.out hc hx2.out).mono ?_; rintro e w3 ⟨rfl, hb3⟩; have hv5 := Lib.hid (hv1b.out.on' hb3); have hv6 := Lib.hid (hv4.out.on' hb3); have hB3 := Lib.hid (below_two hB2.out hb3); have hld := run_ldLs hv6.out.whole hZl.out; have hst := run_stLs (w := w3) hZl.out (hv5.out.there (o := 0) (n := 12) (by rw [fc_length, hZl.out]; omega)); unfold fv at hst hld; clear hb3)
    | (clear tk0; refine wpList_alloc_slots rfl rfl ?_; intro g1 w1 hv1 hg1 hb1; rw [hZ'.out] at hv1; have hB1 := Lib.hid hb1; have hx1 := Lib.hid (hx'.out.on hb1 (Nat.le_refl _)); clear hb1)
    | (clear tk1; refine wpList_alloc_slots rfl rfl ?_; intro g4 w2 hv4 hg4 hb2; rw [hZ'.out] at hv4; have hv1b := Lib.hid (hv1.out.on' hb2); have hB2 := Lib.hid (below_two hB1.out hb2); have hx2 := Lib.hid (hx1.out.on hb2 (Nat.le_refl _)); clear hb2))
  refine bodyPost_ret (slots_ret rfl rfl (hv5.out.over (m := fc Z) rfl) hZl.out) rfl ⟨by rw [hv.out]; rfl, below_setCells hB3.out hg1 0 _⟩

set_option maxRecDepth 100000 in
set_option maxHeartbeats 2000000 in
theorem refDirRead_good (a : Option Addr) (cap n : Nat) (l : List Nat) (w : World) (hn : l.length = n) (hk : kindOf l = 68) (ho : Octs l) (hc : n ≤ cap) (hx : BAt w a l) :
    Calls Try.prog 13 #[.slice a n cap] w (Tells (readDV l) w) := by
  have hfs := Lib.hid (fineD_sec ho hk)
  obtain ⟨m, hme⟩ : ∃ m, m = bodyOf l := ⟨_, rfl⟩
  have hml := Lib.hid (show m.length = 123 by rw [hme]; exact bodyOf_length (kindOf_len (by omega)))
  have hmo := Lib.hid (show Octs m by rw [hme]; exact (ho.drop 1).take 123)
  obtain ⟨Z, hZ⟩ : ∃ Z, z4 = Z := ⟨_, rfl⟩
  have hZl := Lib.hid (show Z.length = 4 by rw [← hZ]; rfl)
  have hno := Lib.hid (show ¬ fineD m = true → readDV l = .tuple #[fv Z, .int .i64 3] from fun h => by unfold readDV; rw [readD_no (l := l) (fun h2 => h (by rw [hme]; exact h2.2)), ← hZ]; rfl)
  have hyes := Lib.hid (show fineD m = true → readDV l = .tuple #[fv (tlD tlS m 4), .int .i64 0] from fun h => by unfold readDV; rw [readD_yes (l := l) hk (by rw [← hme]; exact h), ← hme])
  rw [← hme] at hfs
  have hme' := Lib.hid hme
  have hx' := Lib.hid hx
  have ho' := Lib.hid ho
  have hn' := Lib.hid hn
  have hk' := Lib.hid hk
  have hZ' := Lib.hid hZ
  have hbz := run_bd0Ls
  rw [hZ] at hbz
  unfold fv at hbz
  obtain ⟨V, hV⟩ : ∃ V, readDV l = V := ⟨_, rfl⟩
  rw [hV] at hno hyes ⊢
  clear hx ho hn hk hZ hme hV
  go_enter Try.func13, Try.ntmps13
  have tk0 : True := trivial
  have tk1 : True := trivial
  go_wp2_with (first
    | (go_at_call 34; refine (refOpen_room 68 _ _ n l _ hn'.out (by decide) hk'.out ho'.out hc hx2.out).mono ?_; rintro e w3 ⟨g1, cp1, rfl, hcp, hg1, hr1, hb3⟩; rw [← hme'.out] at hr1; have hcp1 := Lib.hid hcp; have S0 := Lib.hid (show DsAt m 0 G g2 g1 w w3 from ⟨hv4.out.on' hb3, hv1b.out.on' hb3, hr1, below_two hB2.out hb3, h2G.out, Nat.lt_of_lt_of_le hv4.out.lt hg1, hg2⟩); clear hb3 hr1 hcp)
    | (clear tk0; refine wpList_alloc_slots rfl rfl ?_; intro g2 w1 hv1 hg2 hb1; have hB1 := Lib.hid hb1; have hx1 := Lib.hid (hx'.out.on hb1 (Nat.le_refl _)); clear hb1)
    | (clear tk1; refine wpList_alloc_slots rfl rfl ?_; intro G w2 hv4 hg4 hb2; have hv1b := Lib.hid (hv1.out.on' hb2); have hB2 := Lib.hid (below_two hB1.out hb2); have hx2 := Lib.hid (hx1.out.on hb2 (Nat.le_refl _)); have h2G := Lib.hid (Nat.lt_of_lt_of_le hv1.out.lt hg4); clear hb2))
  go_loopw [7] (fun i wr => DsRel m G g2 g1 w i wr) (fun i _ => 4 - (intOf i).toNat)
  case atStart => exact ⟨0, by omega, rfl, S0.out⟩
  case round =>
    obtain ⟨k, hk4, rfl, hS0⟩ := hrel
    have S := Lib.hid hS0
    clear hS0
    by_cases hlt : k < 4
    · have hput := Lib.hid (fun (x : Slt) hx => S.out.put hlt x hx)
      have htl := Lib.hid (tlR_is (pc_length hml.out hlt))
      obtain ⟨q, hq⟩ : ∃ q, k * 28 = q := ⟨_, rfl⟩
      rw [hq] at htl
      have m1 : (28 : Int) * (k : Int) = (q : Int) := by omega
      have p0 : (0 : Int) ≤ (q : Int) := by omega
      have p1 : (q : Int) ≤ (123 : Int) := by omega
      have hne : ¬ cp1 = q := by have := hcp1.out; omega
      obtain ⟨R, hR⟩ : ∃ R, 123 - q = R := ⟨_, rfl⟩
      obtain ⟨C, hC⟩ : ∃ C, cp1 - q = C := ⟨_, rfl⟩
      have hR39 : 39 ≤ R := by omega
      have hC39 : 39 ≤ C := by have := hcp1.out; omega
      have b0 := S.out.2.2.1.cell (k := q) (by rw [hml.out]; omega)
      have b1 := S.out.2.2.1.cell (k := q + 1) (by rw [hml.out]; omega)
      have b2 := S.out.2.2.1.cell (k := q + 2) (by rw [hml.out]; omega)
      have b3 := S.out.2.2.1.cell (k := q + 3) (by rw [hml.out]; omega)
      have o0 := hmo.out q (by rw [hml.out]; omega)
      have o1 := hmo.out (q + 1) (by rw [hml.out]; omega)
      have o2 := hmo.out (q + 2) (by rw [hml.out]; omega)
      have o3 := hmo.out (q + 3) (by rw [hml.out]; omega)
      obtain ⟨x, hx⟩ : ∃ x, bz m q = x := ⟨_, rfl⟩
      obtain ⟨y, hy⟩ : ∃ y, bz m (q + 1) = y := ⟨_, rfl⟩
      obtain ⟨z, hz⟩ : ∃ z, bz m (q + 2) = z := ⟨_, rfl⟩
      obtain ⟨d, hd⟩ : ∃ d, bz m (q + 3) = d := ⟨_, rfl⟩
      rw [hx, hy, hz, hd] at htl
      rw [Nat.zero_add, hx] at b0
      rw [Nat.zero_add, hy] at b1
      rw [Nat.zero_add, hz] at b2
      rw [Nat.zero_add, hd] at b3
      rw [hx] at o0
      rw [hy] at o1
      rw [hz] at o2
      rw [hd] at o3
      have hj := i64_join 8 (x * 256) y (by omega) (by omega) (by omega) (by omega)
      have k0 : (0 : Int) ≤ (k : Int) := by omega
      have k4 : (k : Int) < 4 := by omega
      by_cases hd24 : d ≤ 24
      · obtain ⟨r, hr⟩ : ∃ r, 4 + d = r := ⟨_, rfl⟩
        have er : 4 + (d : Int) = (r : Int) := by omega
        have hq1 := run_string (w := wr.drew) (a := some ⟨g1, q + 4, none⟩) (n := r - 4) (cap := C - 4) (l := (m.drop (q + 4)).take d) (by rw [List.length_take, List.length_drop, hml.out]; omega) ((hmo.out.drop _).take _) (by have := S.out.2.2.1.drew1.sub (q + 4) d; rwa [Nat.zero_add] at this)
        obtain ⟨T, hT⟩ : ∃ T, strOf ((m.drop (q + 4)).take d) = T := ⟨_, rfl⟩
        rw [hT] at hq1
        have hxx := Lib.hid (show tlR (pc m k) = ⟨bits .or .i64 ((x : Int) * 256) (y : Int), (z : Int), T⟩ by rw [htl.out, Nat.min_eq_left hd24, hT, ← hj, show ((x * 256 : Nat) : Int) = (x : Int) * 256 by omega])
        have hbd := fun (w : World) (i k : Int) (n : ByteArray) => run_bdL w i k n
        have hst := run_stL (w := wr.drew) (s := ⟨bits .or .i64 ((x : Int) * 256) (y : Int), (z : Int), T⟩) (S.out.1.drew1.there (o := k * 3) (n := 3) (by rw [fc_length, tlD_len4 tlR m (Nat.le_of_lt hlt)]; omega))
        unfold sv at hbd hst
        clear hx hy hz hd hq hT hj hr
        go_wp2_with fail
        go_region
        have S5 := Lib.hid (hput.out _ hxx.out)
        clear b0 b1 b2 b3 hst hq1
        go_wp2_with fail
        exact ⟨⟨k + 1, by omega, by go_num, S5.out.on ((Below.refl _ _).drew)⟩, by simp [intOf]; omega⟩
      · have hq1 := run_string (w := wr.drew) (a := some ⟨g1, q + 4, none⟩) (n := 24) (cap := C - 4) (l := (m.drop (q + 4)).take 24) (by rw [List.length_take, List.length_drop, hml.out]; omega) ((hmo.out.drop _).take _) (by have := S.out.2.2.1.drew1.sub (q + 4) 24; rwa [Nat.zero_add] at this)
        obtain ⟨T, hT⟩ : ∃ T, strOf ((m.drop (q + 4)).take 24) = T := ⟨_, rfl⟩
        rw [hT] at hq1
        have hxx := Lib.hid (show tlR (pc m k) = ⟨bits .or .i64 ((x : Int) * 256) (y : Int), (z : Int), T⟩ by rw [htl.out, Nat.min_eq_right (by omega), hT, ← hj, show ((x * 256 : Nat) : Int) = (x : Int) * 256 by omega])
        have hbd := fun (w : World) (i k : Int) (n : ByteArray) => run_bdL w i k n
        have hst := run_stL (w := wr.drew) (s := ⟨bits .or .i64 ((x : Int) * 256) (y : Int), (z : Int), T⟩) (S.out.1.drew1.there (o := k * 3) (n := 3) (by rw [fc_length, tlD_len4 tlR m (Nat.le_of_lt hlt)]; omega))
        unfold sv at hbd hst
        clear hx hy hz hd hq hT hj
        go_wp2_with fail
        go_region
        have S5 := Lib.hid (hput.out _ hxx.out)
        clear b0 b1 b2 b3 hst hq1
        go_wp2_with fail
        exact ⟨⟨k + 1, by omega, by go_num, S5.out.on ((Below.refl _ _).drew)⟩, by simp [intOf]; omega⟩
    · obtain rfl : k = 4 := by omega
      obtain ⟨F, hF⟩ : ∃ F, tlD tlR m 4 = F := ⟨_, rfl⟩
      have hFl := Lib.hid (show F.length = 4 by rw [← hF]; exact tlD_length _ _ _)
      have hSV := S.out.1
      have e4 : tlD tlR m 4 ++ List.replicate (4 - 4) s0 = F := by rw [← hF]; exact List.append_nil _
      rw [e4] at hSV
      have hSF := Lib.hid hSV
      have hFe := Lib.hid (show okD m = true → tlD tlS m 4 = F from fun h => by rw [← hF]; exact (tlD_congr fun k hk => tlR_ok (okD_iff.1 h k hk)).symm)
      rw [hF] at hfs
      clear hF hSV e4
      have hld := run_ldLs hSF.out.whole hFl.out
      unfold fv at hld
      cases hm0 : stand4 F
      · have hv := Lib.hid (hno.out (fun h => by have := (hfs.out.1 h).1; rw [hm0] at this; cases this))
        have hQ := Lib.hid (fun w => refDirLay_no F w hFl.out hm0)
        unfold fv at hQ
        clear hm0
        go_wp2_with (go_at_call 11; refine (hQ.out _).mono ?_; unfold noDir; rintro e w10 ⟨rfl, hb⟩; have S6 := Lib.hid (S.out.on hb); have hst := run_stLs hZl.out (S6.out.2.1.there (o := 0) (n := 12) (by rw [fc_z4]; omega)); unfold fv at hst; clear hb)
        refine bodyPost_ret (slots_ret rfl rfl (S6.out.2.1.over (m := fc Z) (by rw [fc_z4, fc_length, hZl.out])) hZl.out) rfl ⟨by rw [hv.out]; rfl, below_setCells S6.out.2.2.2.1 S6.out.2.2.2.2.2.2 0 _⟩
      · have hQ := Lib.hid (fun w => refDirLay_ok F w hFl.out hm0)
        have hFm := Lib.hid (standP_may (stand4_iff.1 hm0))
        have hm := Lib.hid hm0
        unfold fv at hQ
        have hsl := Lib.hid (secD_length hFm.out)
        have hso := Lib.hid (secD_octs hFm.out)
        clear hm0
        by_cases he : secD F = l
        · have hfi := hfs.out.2 ⟨hm.out, he⟩
          have hFe2 := hFe.out (by unfold fineD at hfi; rw [Bool.and_eq_true] at hfi; exact hfi.1)
          have hv := Lib.hid ((hyes.out hfi).trans (by rw [hFe2]))
          have he' := Lib.hid he
          clear he hfi hFe2
          go_wp2_with (go_at_call 11; refine (hQ.out _).mono ?_; rintro e w10 ⟨g5, cp5, rfl, hg5, hcp5, hr5, hb⟩; have S6 := Lib.hid (S.out.on hb); have F6 := Lib.hid (hSF.out.on' hb); have hst := run_stLs (w := w10) hFl.out (S6.out.2.1.there (o := 0) (n := 12) (by rw [fc_z4]; omega)); have hld2 := run_ldLs F6.out.whole hFl.out; unfold fv at hst hld2; have q1 := run_string (cap := cp5) hsl.out hso.out hr5; have q2 := run_string (cap := cap) hn'.out ho'.out (hx'.out.on S6.out.2.2.2.1 (Nat.le_refl _)); rw [he'.out] at q1; have hs0 : ((strOf l).toList == (strOf l).toList) = true := (beq_self_eq_true _); clear hb hr5)
          refine bodyPost_ret (slots_ret rfl rfl (S6.out.2.1.over (m := fc F) (by rw [fc_z4, fc_length, hFl.out])) hFl.out) rfl ⟨by rw [hv.out]; rfl, below_setCells S6.out.2.2.2.1 S6.out.2.2.2.2.2.2 0 _⟩
        · have hv := Lib.hid (hno.out (fun h => he (hfs.out.1 h).2))
          have hs0 := strOf_ne hso.out ho'.out he
          clear he
          go_wp2_with (go_at_call 11; refine (hQ.out _).mono ?_; rintro e w10 ⟨g5, cp5, rfl, hg5, hcp5, hr5, hb⟩; have S6 := Lib.hid (S.out.on hb); have hst := run_stLs (w := w10) hZl.out (S6.out.2.1.there (o := 0) (n := 12) (by rw [fc_z4]; omega)); unfold fv at hst; have q1 := run_string (cap := cp5) hsl.out hso.out hr5; have q2 := run_string (cap := cap) hn'.out ho'.out (hx'.out.on S6.out.2.2.2.1 (Nat.le_refl _)); clear hb hr5)
          refine bodyPost_ret (slots_ret rfl rfl (S6.out.2.1.over (m := fc Z) (by rw [fc_z4, fc_length, hZl.out])) hZl.out) rfl ⟨by rw [hv.out]; rfl, below_setCells S6.out.2.2.2.1 S6.out.2.2.2.2.2.2 0 _⟩
theorem refDirRead_any (a : Option Addr) (cap n : Nat) (l : List Nat) (w : World) (hn : l.length = n) (ho : Octs l) (hc : n ≤ cap) (hx : BAt w a l) :
    Calls Try.prog 13 #[.slice a n cap] w (Tells (readDV l) w) := by
  by_cases hk : kindOf l = 68
  · exact refDirRead_good a cap n l w hn hk ho hc hx
  · exact refDirRead_bad a cap n l w hn hk ho hc hx
end Go.Proofs.Ytpogaognobgfhaa
