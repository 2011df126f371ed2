/-
  Superblocks of two geometries that may be: alike just if the geometries are, and whether they were left in order.
-/
import Derived.Test.YtmoclgijjmmdjaaUn
import Derived.Test.YtmoclgijjmmdjaaGq
import Derived.Test.YtmoclgijjmmdjaaGb
namespace Go.Proofs.Ytmoclgijjmmdjaa
open Go.RowKit BigFrame

/-- worlds in which both superblocks, and three geometries, lie where they lay, and what was there is as it was -/
structure CApart (w0 : World) (gx gy ag ah ai : Nat) (X Y : List Nat) (g i b g' i' b' : Int) (w : World) : Prop where
  x : Row w gx X
  y : Row w gy Y
  ga : GeoAt w ag g i b
  ha : GeoAt w ah g' i' b'
  ia : GeoAt w ai g i b
  wb : Below w0.heap.size w0 w
theorem CApart.on {w0 w w' : World} {gx gy ag ah ai : Nat} {X Y : List Nat} {g i b g' i' b' : Int} (h : CApart w0 gx gy ag ah ai X Y g i b g' i' b' w) (hb : Below w.heap.size w w') : CApart w0 gx gy ag ah ai X Y g i b g' i' b' w' :=
  ⟨h.x.on hb h.x.lt, h.y.on hb h.y.lt, h.ga.on hb h.ga.lt, h.ha.on hb h.ha.lt, h.ia.on hb h.ia.lt, below_two h.wb hb⟩
theorem told_apart {w0 w : World} {gx gy ag ah ai : Nat} {X Y : List Nat} {g i b g' i' b' : Int} {f : FuncId} {args : Array Value} {v : Value} (hc : Calls Try.prog f args w (Tells v w)) (hw : CApart w0 gx gy ag ah ai X Y g i b g' i' b' w) :
    Calls Try.prog f args w (fun e w' => e = .returned v ∧ CApart w0 gx gy ag ah ai X Y g i b g' i' b' w') := hc.mono fun _ _ ⟨he, hd⟩ => ⟨he, hw.on hd⟩
theorem same_apart {w0 w : World} {gx gy ag ah ai : Nat} {X Y : List Nat} {g i b g' i' b' : Int} {r : Bool} (hX : X.length = 128) (hY : Y.length = 128) (hr : decide (X = Y) = r) (hw : CApart w0 gx gy ag ah ai X Y g i b g' i' b' w) :
    Calls Try.prog 12 #[.slice (some ⟨gx, 0, none⟩) 128 128, .slice (some ⟨gy, 0, none⟩) 128 128] w (fun e w' => e = .returned (.bool r) ∧ CApart w0 gx gy ag ah ai X Y g i b g' i' b' w') := by
  subst hr
  exact told_apart ((same_any _ _ 128 128 128 128 X Y w hX hY (by decide) hw.x.bat hw.y.bat).mono fun _ _ h => h.below) hw

set_option maxHeartbeats 2000000 in
theorem apart_tt (g i b g' i' b' : Nat) (p q : Bool) (w : World) (k1 : Ok g i b) (k2 : Ok g' i' b') :
    Calls Try.prog 5 #[geo g i b, geo g' i' b', .bool p, .bool q] w (Tells (.bool true) w) := by
  obtain ⟨X, hX⟩ : ∃ X, X = superS g i b p := ⟨_, rfl⟩
  obtain ⟨Y, hY⟩ : ∃ Y, Y = superS g' i' b' q := ⟨_, rfl⟩
  have hXo := Lib.hid (show Octs X by rw [hX]; exact k1.sup p)
  have hXl := Lib.hid (show X.length = 128 by rw [hX]; exact superS_length _ _ _ p)
  have hYl := Lib.hid (show Y.length = 128 by rw [hY]; exact superS_length _ _ _ q)
  have hrd := Lib.hid (show readOf X = .tuple #[geo g i b, .bool p, .int .i64 0] by rw [hX]; exact readOf_super p k1)
  have hXY := Lib.hid (show X = Y ↔ (g = g' ∧ i = i' ∧ b = b') ∧ p = q by
    rw [hX, hY]
    constructor
    · intro h
      obtain ⟨h1, h2, h3, h4⟩ := superS_inj h
      exact ⟨⟨h1, h2, h3⟩, h4⟩
    · rintro ⟨⟨rfl, rfl, rfl⟩, rfl⟩
      rfl)
  have hX' := Lib.hid hX
  have hY' := Lib.hid hY
  have ok1 := Lib.hid k1
  have ok2 := Lib.hid k2
  clear hX hY k1 k2
  have tk0 : True := trivial
  have tk1 : True := trivial
  have hH0 := Lib.hid (geo_second w g i b g' i' b')
  have hG0 := Lib.hid ((geoAt_alloc w g i b).on ((Below.refl _ _).alloc (Nat.le_refl _) (.cells #[.int .i64 (g' : Int), .int .i64 (i' : Int), .int .i64 (b' : Int)] 23)) (geoAt_alloc w g i b).lt)
  have hb0 := Lib.hid (((Below.refl w.heap.size w).alloc (Nat.le_refl _) (.cells #[.int .i64 (g : Int), .int .i64 (i : Int), .int .i64 (b : Int)] 23)).alloc (by simp) (.cells #[.int .i64 (g' : Int), .int .i64 (i' : Int), .int .i64 (b' : Int)] 23))
  unfold geo
  go_enter Try.func5, Try.ntmps5
  go_wp2_with (first
    | (clear tk0; go_at_call 8; refine (lay_c g i b p _ ok1.out rfl rfl rfl hX'.out).mono ?_; rintro e w1 ⟨g1, rfl, hg1, hr1, hb⟩; have hR1 := Lib.hid hr1; have hB1 := Lib.hid (below_two hb0.out hb); have hH1 := Lib.hid (hH0.out.on hb hH0.out.lt); have hG1 := Lib.hid (hG0.out.on hb hG0.out.lt); obtain ⟨c0, c1, c2, clt⟩ := hH1.out.box; clear hb hr1 hg1)
    | (clear tk1; go_at_call 8; refine (lay_c g' i' b' q _ ok2.out rfl rfl rfl hY'.out).mono ?_; rintro e w2 ⟨g2, rfl, hg2, hr2, hb⟩; have hR2 := Lib.hid (hR1.out.on hb hR1.out.lt); have hS2 := Lib.hid hr2; have hB2 := Lib.hid (below_two hB1.out hb); have hH2 := Lib.hid (hH1.out.on hb hH1.out.lt); have hG2 := Lib.hid (hG1.out.on hb hG1.out.lt); clear hb hr2 hg2 c0 c1 c2 clt)
    | (go_at_call 10; refine (read_any _ _ 128 X _ hXl.out hXo.out (by omega) hR2.out.bat).mono ?_; rw [hrd.out]; unfold geo; rintro e w3 ⟨rfl, hb⟩; have hR3 := Lib.hid (hR2.out.on hb hR2.out.lt); have hS3 := Lib.hid (hS2.out.on hb hS2.out.lt); have hB3 := Lib.hid (below_two hB2.out hb); have hH3 := Lib.hid (hH2.out.on hb hH2.out.lt); have hG3 := Lib.hid (hG2.out.on hb hG2.out.lt); clear hb))
  have hA : Below w3.heap.size w3 (w3.alloc (.cells #[.int .i64 (g : Int), .int .i64 (i : Int), .int .i64 (b : Int)] 23)).drew := ((Below.refl _ _).alloc (Nat.le_refl _) _).drew
  have hC : CApart w g1 g2 w.heap.size (w.heap.size + 1) w3.heap.size X Y g i b g' i' b' (w3.alloc (.cells #[.int .i64 (g : Int), .int .i64 (i : Int), .int .i64 (b : Int)] 23)).drew :=
    ⟨hR3.out.on hA hR3.out.lt, hS3.out.on hA hS3.out.lt, hG3.out.on hA hG3.out.lt, hH3.out.on hA hH3.out.lt, geoAt_alloc w3 g i b, below_two hB3.out hA⟩
  have hC' := Lib.hid hC
  clear hC hA hR3 hS3 hG3 hH3 hB3 hR2 hS2 hG2 hH2 hB2 hR1 hG1 hH1 hB1 hH0 hG0 hb0
  refine wp_region_at (C := CApart w g1 g2 w.heap.size (w.heap.size + 1) w3.heap.size X Y g i b g' i' b') (by kernel_rfl) (by kernel_rfl) hC'.out ?_
  by_cases hs : g = g' ∧ i = i' ∧ b = b'
  · by_cases hpq : p = q
    · have hr := Lib.hid (show decide (X = Y) = true from decide_eq_true (hXY.out.2 ⟨hs, hpq⟩))
      obtain ⟨rfl, rfl, rfl⟩ := hs
      subst hpq
      go_big_quiet_want; go_big_quiet_op; go_big_quiet_on
      go_big_quiet_want; go_big_quiet_op; go_big_quiet_on
      go_big_quiet_want; refine quiet_val (.bool true) (fun _ hC => by unfold Oper.quietAt Oper.quietUpon; go_simp; exact same_apart hXl.out hYl.out hr.out hC) ?_; go_simp; try go_big_quiet_on
      go_big_quiet_want; refine quiet_geo (A := w.heap.size) (g := g) (i := i) (b := b) rfl rfl (fun _ h => h.ga.box) ?_; unfold geo; go_simp; try go_big_quiet_on
      go_big_quiet_want; refine quiet_geo (A := w.heap.size + 1) (g := g) (i := i) (b := b) rfl rfl (fun _ h => h.ha.box) ?_; unfold geo; go_simp; try go_big_quiet_on
      go_big_quiet_want; refine quiet_val (.bool true) (fun _ _ => by unfold Oper.quietAt Oper.quietUpon; go_simp) ?_; go_simp; try go_big_quiet_on
      go_big_quiet_want; go_big_quiet_op; go_big_quiet_on
      go_big_quiet_want; go_big_quiet_op; go_big_quiet_on
      go_big_quiet_want; go_big_quiet_op; go_big_quiet_on
      go_big_quiet_want; refine quiet_val (.bool true) (fun _ _ => by unfold Oper.quietAt Oper.quietUpon; go_simp) ?_; go_simp; try go_big_quiet_on
      go_big_quiet_want; refine quiet_val (.bool true) (fun _ _ => by unfold Oper.quietAt Oper.quietUpon; go_simp) ?_; go_simp; try go_big_quiet_on
      go_big_quiet_want; refine quiet_val (.bool true) (fun _ _ => by unfold Oper.quietAt Oper.quietUpon; go_simp) ?_; go_simp; try go_big_quiet_on
      go_big_quiet_want; go_big_quiet_op; go_big_quiet_on
      go_big_quiet_want; refine quiet_geo (A := w3.heap.size) (g := g) (i := i) (b := b) rfl rfl (fun _ h => h.ia.box) ?_; unfold geo; go_simp; try go_big_quiet_on
      go_big_quiet_want; refine quiet_geo (A := w.heap.size) (g := g) (i := i) (b := b) rfl rfl (fun _ h => h.ga.box) ?_; unfold geo; go_simp; try go_big_quiet_on
      go_big_quiet_want; refine quiet_val (.bool true) (fun _ _ => by unfold Oper.quietAt Oper.quietUpon; go_simp) ?_; go_simp; try go_big_quiet_on
      go_big_quiet_want; refine quiet_val (.bool true) (fun _ _ => by unfold Oper.quietAt Oper.quietUpon; go_simp) ?_; go_simp; try go_big_quiet_on
      go_big_quiet_want; go_big_quiet_op; go_big_quiet_on
      go_big_quiet_want; go_big_quiet_op; go_big_quiet_on
      go_big_quiet_want; go_big_quiet_op; go_big_quiet_on
      go_big_quiet_want; refine quiet_val (.bool true) (fun _ _ => by unfold Oper.quietAt Oper.quietUpon; go_simp) ?_; go_simp; try go_big_quiet_on
      go_big_quiet_want; refine quiet_val (.bool true) (fun _ _ => by unfold Oper.quietAt Oper.quietUpon; go_simp) ?_; go_simp; try go_big_quiet_on
      go_big_quiet_want; go_big_quiet_op; go_big_quiet_on
      go_big_quiet_want; go_big_quiet_op; go_big_quiet_on
      go_big_quiet_want; refine quiet_val (.bool true) (fun _ _ => by unfold Oper.quietAt Oper.quietUpon; go_simp) ?_; go_simp; try go_big_quiet_on
      go_big_quiet_want; refine quiet_val (.bool true) (fun _ _ => by unfold Oper.quietAt Oper.quietUpon; go_simp) ?_; go_simp; try go_big_quiet_on
      go_big_quiet_want; go_big_quiet_op; go_big_quiet_on
      go_big_quiet_want; refine quiet_val (.bool true) (fun _ hC => by unfold Oper.quietAt Oper.quietUpon; go_simp; exact told_apart (awake_any _) hC) ?_; go_simp; try go_big_quiet_on
      go_big_quiet_want; refine quiet_val (.bool true) (fun _ _ => by unfold Oper.quietAt Oper.quietUpon; go_simp) ?_; go_simp; try go_big_quiet_on
      go_big_quiet_want; go_big_quiet_op; go_big_quiet_on
      refine wpQuiet_nil ?_
      intro w4 hC
      have hd := hC.wb
      go_wp2_with fail
      go_ret
      exact ⟨rfl, hd⟩
    · have hr := Lib.hid (show decide (X = Y) = false from decide_eq_false (fun h => hpq (hXY.out.1 h).2))
      have t1 : (p == q) = false := by rw [beq_eq_false_iff_ne]; exact hpq
      obtain ⟨rfl, rfl, rfl⟩ := hs
      clear hpq
      go_big_quiet_want; go_big_quiet_op; go_big_quiet_on
      go_big_quiet_want; go_big_quiet_op; go_big_quiet_on
      go_big_quiet_want; refine quiet_val (.bool false) (fun _ hC => by unfold Oper.quietAt Oper.quietUpon; go_simp; exact same_apart hXl.out hYl.out hr.out hC) ?_; go_simp; try go_big_quiet_on
      go_big_quiet_want; refine quiet_geo (A := w.heap.size) (g := g) (i := i) (b := b) rfl rfl (fun _ h => h.ga.box) ?_; unfold geo; go_simp; try go_big_quiet_on
      go_big_quiet_want; refine quiet_geo (A := w.heap.size + 1) (g := g) (i := i) (b := b) rfl rfl (fun _ h => h.ha.box) ?_; unfold geo; go_simp; try go_big_quiet_on
      go_big_quiet_want; refine quiet_val (.bool true) (fun _ _ => by unfold Oper.quietAt Oper.quietUpon; go_simp) ?_; go_simp; try go_big_quiet_on
      go_big_quiet_want; go_big_quiet_op; go_big_quiet_on
      go_big_quiet_want; go_big_quiet_op; go_big_quiet_on
      go_big_quiet_want; go_big_quiet_op; go_big_quiet_on
      go_big_quiet_want; refine quiet_val (.bool false) (fun _ _ => by unfold Oper.quietAt Oper.quietUpon; go_simp) ?_; go_simp; try go_big_quiet_on
      go_big_quiet_want; refine quiet_val (.bool false) (fun _ _ => by unfold Oper.quietAt Oper.quietUpon; go_simp) ?_; go_simp; try go_big_quiet_on
      go_big_quiet_want; refine quiet_val (.bool true) (fun _ _ => by unfold Oper.quietAt Oper.quietUpon; go_simp) ?_; go_simp; try go_big_quiet_on
      go_big_quiet_want; go_big_quiet_op; go_big_quiet_on
      go_big_quiet_want; refine quiet_geo (A := w3.heap.size) (g := g) (i := i) (b := b) rfl rfl (fun _ h => h.ia.box) ?_; unfold geo; go_simp; try go_big_quiet_on
      go_big_quiet_want; refine quiet_geo (A := w.heap.size) (g := g) (i := i) (b := b) rfl rfl (fun _ h => h.ga.box) ?_; unfold geo; go_simp; try go_big_quiet_on
      go_big_quiet_want; refine quiet_val (.bool true) (fun _ _ => by unfold Oper.quietAt Oper.quietUpon; go_simp) ?_; go_simp; try go_big_quiet_on
      go_big_quiet_want; refine quiet_val (.bool true) (fun _ _ => by unfold Oper.quietAt Oper.quietUpon; go_simp) ?_; go_simp; try go_big_quiet_on
      go_big_quiet_want; go_big_quiet_op; go_big_quiet_on
      go_big_quiet_want; go_big_quiet_op; go_big_quiet_on
      go_big_quiet_want; go_big_quiet_op; go_big_quiet_on
      go_big_quiet_want; refine quiet_val (.bool true) (fun _ _ => by unfold Oper.quietAt Oper.quietUpon; go_simp) ?_; go_simp; try go_big_quiet_on
      go_big_quiet_want; refine quiet_val (.bool true) (fun _ _ => by unfold Oper.quietAt Oper.quietUpon; go_simp) ?_; go_simp; try go_big_quiet_on
      go_big_quiet_want; go_big_quiet_op; go_big_quiet_on
      go_big_quiet_want; go_big_quiet_op; go_big_quiet_on
      go_big_quiet_want; refine quiet_val (.bool true) (fun _ _ => by unfold Oper.quietAt Oper.quietUpon; go_simp) ?_; go_simp; try go_big_quiet_on
      go_big_quiet_want; refine quiet_val (.bool true) (fun _ _ => by unfold Oper.quietAt Oper.quietUpon; go_simp) ?_; go_simp; try go_big_quiet_on
      go_big_quiet_want; go_big_quiet_op; go_big_quiet_on
      go_big_quiet_want; refine quiet_val (.bool true) (fun _ hC => by unfold Oper.quietAt Oper.quietUpon; go_simp; exact told_apart (awake_any _) hC) ?_; go_simp; try go_big_quiet_on
      go_big_quiet_want; refine quiet_val (.bool true) (fun _ _ => by unfold Oper.quietAt Oper.quietUpon; go_simp) ?_; go_simp; try go_big_quiet_on
      go_big_quiet_want; go_big_quiet_op; go_big_quiet_on
      refine wpQuiet_nil ?_
      intro w4 hC
      have hd := hC.wb
      go_wp2_with fail
      go_ret
      exact ⟨rfl, hd⟩
  · have hr := Lib.hid (show decide (X = Y) = false from decide_eq_false (fun h => hs (hXY.out.1 h).1))
    have hcase : ((g : Int) == (g' : Int)) = false ∨ (((g : Int) == (g' : Int)) = true ∧ ((i : Int) == (i' : Int)) = false) ∨ (((g : Int) == (g' : Int)) = true ∧ ((i : Int) == (i' : Int)) = true ∧ ((b : Int) == (b' : Int)) = false) := by
      simp only [beq_eq_false_iff_ne, beq_iff_eq]
      omega
    clear hs
    rcases hcase with t1 | ⟨t1, t2⟩ | ⟨t1, t2, t3⟩
    all_goals
      go_big_quiet_want; go_big_quiet_op; go_big_quiet_on
      go_big_quiet_want; go_big_quiet_op; go_big_quiet_on
      go_big_quiet_want; refine quiet_val (.bool false) (fun _ hC => by unfold Oper.quietAt Oper.quietUpon; go_simp; exact same_apart hXl.out hYl.out hr.out hC) ?_; go_simp; try go_big_quiet_on
      go_big_quiet_want; refine quiet_geo (A := w.heap.size) (g := g) (i := i) (b := b) rfl rfl (fun _ h => h.ga.box) ?_; unfold geo; go_simp; try go_big_quiet_on
      go_big_quiet_want; refine quiet_geo (A := w.heap.size + 1) (g := g') (i := i') (b := b') rfl rfl (fun _ h => h.ha.box) ?_; unfold geo; go_simp; try go_big_quiet_on
      go_big_quiet_want; refine quiet_val (.bool false) (fun _ _ => by unfold Oper.quietAt Oper.quietUpon; go_simp) ?_; go_simp; try go_big_quiet_on
      go_big_quiet_want; go_big_quiet_op; go_big_quiet_on
      go_big_quiet_skip
      go_big_quiet_skip
      go_big_quiet_skip
      go_big_quiet_want; refine quiet_val (.bool false) (fun _ _ => by unfold Oper.quietAt Oper.quietUpon; go_simp) ?_; go_simp; try go_big_quiet_on
      go_big_quiet_want; refine quiet_val (.bool true) (fun _ _ => by unfold Oper.quietAt Oper.quietUpon; go_simp) ?_; go_simp; try go_big_quiet_on
      go_big_quiet_want; go_big_quiet_op; go_big_quiet_on
      go_big_quiet_want; refine quiet_geo (A := w3.heap.size) (g := g) (i := i) (b := b) rfl rfl (fun _ h => h.ia.box) ?_; unfold geo; go_simp; try go_big_quiet_on
      go_big_quiet_want; refine quiet_geo (A := w.heap.size) (g := g) (i := i) (b := b) rfl rfl (fun _ h => h.ga.box) ?_; unfold geo; go_simp; try go_big_quiet_on
      go_big_quiet_want; refine quiet_val (.bool true) (fun _ _ => by unfold Oper.quietAt Oper.quietUpon; go_simp) ?_; go_simp; try go_big_quiet_on
      go_big_quiet_want; refine quiet_val (.bool true) (fun _ _ => by unfold Oper.quietAt Oper.quietUpon; go_simp) ?_; go_simp; try go_big_quiet_on
      go_big_quiet_want; go_big_quiet_op; go_big_quiet_on
      go_big_quiet_want; go_big_quiet_op; go_big_quiet_on
      go_big_quiet_want; go_big_quiet_op; go_big_quiet_on
      go_big_quiet_want; refine quiet_val (.bool true) (fun _ _ => by unfold Oper.quietAt Oper.quietUpon; go_simp) ?_; go_simp; try go_big_quiet_on
      go_big_quiet_want; refine quiet_val (.bool true) (fun _ _ => by unfold Oper.quietAt Oper.quietUpon; go_simp) ?_; go_simp; try go_big_quiet_on
      go_big_quiet_want; go_big_quiet_op; go_big_quiet_on
      go_big_quiet_want; go_big_quiet_op; go_big_quiet_on
      go_big_quiet_want; refine quiet_val (.bool true) (fun _ _ => by unfold Oper.quietAt Oper.quietUpon; go_simp) ?_; go_simp; try go_big_quiet_on
      go_big_quiet_want; refine quiet_val (.bool true) (fun _ _ => by unfold Oper.quietAt Oper.quietUpon; go_simp) ?_; go_simp; try go_big_quiet_on
      go_big_quiet_want; go_big_quiet_op; go_big_quiet_on
      go_big_quiet_want; refine quiet_val (.bool true) (fun _ hC => by unfold Oper.quietAt Oper.quietUpon; go_simp; exact told_apart (awake_any _) hC) ?_; go_simp; try go_big_quiet_on
      go_big_quiet_want; refine quiet_val (.bool true) (fun _ _ => by unfold Oper.quietAt Oper.quietUpon; go_simp) ?_; go_simp; try go_big_quiet_on
      go_big_quiet_want; go_big_quiet_op; go_big_quiet_on
      refine wpQuiet_nil ?_
      intro w4 hC
      have hd := hC.wb
      go_wp2_with fail
      go_ret
      exact ⟨rfl, hd⟩
theorem apart_any (G I B G' I' B' : Int) (p q : Bool) (w : World) :
    Calls Try.prog 5 #[geo G I B, geo G' I' B', .bool p, .bool q] w (Tells (.bool true) w) := by
  cases h1 : mayZ G I B <;> cases h2 : mayZ G' I' B'
  · exact apart_ff G I B G' I' B' p q w h1 h2
  · exact apart_ft G I B G' I' B' p q w h1 h2
  · exact apart_tf G I B G' I' B' p q w h1 h2
  · obtain ⟨g, i, b, rfl, rfl, rfl, k1⟩ := may_geom h1
    obtain ⟨g', i', b', rfl, rfl, rfl, k2⟩ := may_geom h2
    exact apart_tt g i b g' i' b' p q w k1 k2
end Go.Proofs.Ytmoclgijjmmdjaa
