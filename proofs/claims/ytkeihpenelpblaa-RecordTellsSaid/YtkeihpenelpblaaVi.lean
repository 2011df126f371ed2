/-
  What the document's own Read tells.
-/
import Derived.Test.YtkeihpenelpblaaVh
import Derived.Test.YtkeihpenelpblaaYo
import Derived.Test.YtkeihpenelpblaaPi
import Derived.Deep.RegionHeld3
import Derived.Deep.DeepCutAuto
namespace Go.Proofs.Ytkeihpenelpblaa
open Go.RowKit BigFrame

attribute [local go_sem ↓] ldR_of stR_of bdR_of
set_option maxHeartbeats 1000000 in
theorem refRecRead_bad (a : Option Addr) (cap n : Nat) (l : List Nat) (w : World) (hn : l.length = n) (hk : kindOf l ≠ 82) (ho : Octs l) (hc : n ≤ cap) (hx : BAt w a l) :
    Calls Try.prog 10 #[.slice a n cap] w (Tells (readRV l) w) := by
  have hv := Lib.hid (show readRV l = .tuple #[rv r0, .int .i64 3] by unfold readRV; rw [readR_no (l := l) (fun h => hk h.1)])
  have hx' := Lib.hid hx
  have ho' := Lib.hid ho
  have hn' := Lib.hid hn
  have hk' := Lib.hid hk
  have hbd := run_bd0R
  obtain ⟨Z, hZ⟩ : ∃ Z, r0 = Z := ⟨_, rfl⟩
  rw [hZ] at hbd hv
  obtain ⟨Cz, hCz0⟩ : ∃ Cz, rc Z = Cz := ⟨_, rfl⟩
  have hCz := Lib.hid hCz0
  unfold rv at hbd
  rw [hCz0] at hbd
  clear hx ho hn hk hZ hCz0
  have tk0 : True := trivial
  go_enter Try.func10, Try.ntmps10
  go_wp2_with (first
    | (clear tk0; refine wpList_alloc_rec rfl rfl ?_; intro B w1 hv1 hg1 hb1; have S1 := Lib.hid (show Vw w1 23 B (rc r0) ∧ Below w.heap.size w w1 ∧ w.heap.size ≤ B from ⟨hv1.out, hb1, hg1⟩); have hx1 := Lib.hid (hx'.out.on hb1 (Nat.le_refl _)); clear hb1)
    | (go_at_call 26; refine (refOpen_bad 82 (kindOf l) _ _ n l _ hn'.out rfl (.inr hk'.out) ho'.out hc hx1.out).mono ?_; rintro e w2 ⟨rfl, hb2⟩; have V2 := Lib.hid (S1.out.1.on' hb2); have B2 := Lib.hid (below_two S1.out.2.1 hb2); have hst := run_stR (w := w2) (r := Z) (V2.out.there (o := 0) (n := 7) (by rw [rc_length]; omega)); have hend := Lib.hid (V2.out.over (m := rc Z) rfl); unfold rv at hst; rw [hCz.out] at hst hend; clear hb2))
  refine bodyPost_ret (rec_ret rfl rfl (r := Z) (by rw [hCz.out]; exact hend.out)) rfl ⟨by rw [hv.out]; rfl, below_setCells B2.out S1.out.2.2 0 _⟩

theorem nmT_two {m : List Nat} {k : Nat} (h : 2 + k * 2 < m.length) : nmT m k = ((bz m (1 + k * 2) * 256 + bz m (2 + k * 2) : Nat) : Int) := by
  unfold nmT
  have e : (m.drop (1 + k * 2)).take 2 = [bz m (1 + k * 2), bz m (2 + k * 2)] := by
    rw [List.drop_eq_getElem_cons (by omega), show 1 + k * 2 + 1 = 2 + k * 2 by omega, List.drop_eq_getElem_cons h, bz_get (by omega), bz_get h]
    rfl
  rw [e]
  simp [rdN]
theorem num_two {x y : Nat} (hx : x < 256) (hy : y < 256) : bits .or .i64 (IntKind.i64.wrap (IntKind.i64.wrap (x : Int) * 256)) (IntKind.i64.wrap (y : Int)) = ((x * 256 + y : Nat) : Int) := by
  rw [wrap_in (n := (x : Int)) (by omega), wrap_in (n := (y : Int)) (by omega), wrap_in (by omega), show (x : Int) * 256 = ((x * 256 : Nat) : Int) by omega]
  exact i64_join 8 (x * 256) y (by omega) (by omega) (by omega) (by omega)
/-- what is told so far, in block D; the result's block; the body's bytes -/
def RdAt (r : Rcd) (D B g1 : Nat) (m : List Nat) (w wx : World) : Prop :=
  Vw wx 23 D (rc r) ∧ Vw wx 23 B (rc r0) ∧ BAt wx (some ⟨g1, 0, none⟩) m ∧ Below w.heap.size w wx ∧ w.heap.size ≤ B ∧ B < D ∧ g1 < D
theorem RdAt.drew {r : Rcd} {D B g1 : Nat} {m : List Nat} {w wx : World} (h : RdAt r D B g1 m w wx) : RdAt r D B g1 m w wx.drew := ⟨h.1.drew1, h.2.1.drew1, h.2.2.1.drew1, h.2.2.2.1.drew, h.2.2.2.2⟩
theorem RdAt.on {r : Rcd} {D B g1 : Nat} {m : List Nat} {w wx wy : World} (h : RdAt r D B g1 m w wx) (hb : Below wx.heap.size wx wy) : RdAt r D B g1 m w wy :=
  ⟨h.1.on' hb, h.2.1.on' hb, h.2.2.1.on hb (Nat.le_refl _), below_two h.2.2.2.1 hb, h.2.2.2.2⟩
theorem RdAt.set {r q : Rcd} {D B g1 k : Nat} {m : List Nat} {w wx : World} {v : Value} (h : RdAt r D B g1 m w wx) (hq : (rc r).set k v = rc q) : RdAt q D B g1 m w (wx.setCell ⟨D, k, none⟩ v) := by
  obtain ⟨h1, h2, h3, h4, h5, h6, h7⟩ := h
  have hp := Vw.set h1 k v
  rw [hq] at hp
  have ho := (Oth.refl D wx).setCell (p := k) v
  exact ⟨hp, h2.oth ho (by omega), h3.oth ho (by omega), h4.setCell (p := ⟨D, k, none⟩) (by show w.heap.size ≤ D; omega) _, h5, h6, h7⟩

set_option maxRecDepth 100000 in
set_option maxHeartbeats 2000000 in
theorem refRecRead_good (a : Option Addr) (cap n : Nat) (l : List Nat) (w : World) (hn : l.length = n) (hk : kindOf l = 82) (ho : Octs l) (hc : n ≤ cap) (hx : BAt w a l) :
    Calls Try.prog 10 #[.slice a n cap] w (Tells (readRV l) w) := by
  have hfs := Lib.hid (fineR_sec ho hk)
  obtain ⟨m, hme⟩ : ∃ m, m = bodyOf l := ⟨_, rfl⟩
  have hml := Lib.hid (show m.length = 123 by rw [hme]; exact bodyOf_length (kindOf_len (by omega)))
  have hmo := Lib.hid (show Octs m by rw [hme]; exact (ho.drop 1).take 123)
  have hno := Lib.hid (show ¬ fineR m = true → readRV l = .tuple #[rv r0, .int .i64 3] from fun h => by unfold readRV; rw [readR_no (l := l) (fun h2 => h (by rw [hme]; exact h2.2))])
  have hyes := Lib.hid (show fineR m = true → readRV l = .tuple #[rv (tlM m), .int .i64 0] from fun h => by unfold readRV; rw [readR_yes (l := l) hk (by rw [← hme]; exact h), ← hme])
  have hme' := Lib.hid hme
  rw [← hme] at hfs
  have hx' := Lib.hid hx
  have ho' := Lib.hid ho
  have hn' := Lib.hid hn
  have hk' := Lib.hid hk
  have hbd0 := run_bd0R
  obtain ⟨Z, hZ⟩ : ∃ Z, r0 = Z := ⟨_, rfl⟩
  rw [hZ] at hbd0 hno
  have hZ' := Lib.hid hZ
  obtain ⟨Cz, hCz0⟩ : ∃ Cz, rc Z = Cz := ⟨_, rfl⟩
  have hCz := Lib.hid hCz0
  unfold rv at hbd0
  rw [hCz0] at hbd0
  obtain ⟨V, hV⟩ : ∃ V, readRV l = V := ⟨_, rfl⟩
  rw [hV] at hno hyes ⊢
  clear hx ho hn hk hZ hCz0 hme hV
  have tk0 : True := trivial
  obtain ⟨x0, e0⟩ : ∃ x, bz m 0 = x := ⟨_, rfl⟩
  have l0 := hmo.out 0 (by rw [hml.out]; omega)
  rw [e0] at l0
  have e0' := Lib.hid e0
  obtain ⟨x1, e1⟩ : ∃ x, bz m 1 = x := ⟨_, rfl⟩
  have l1 := hmo.out 1 (by rw [hml.out]; omega)
  rw [e1] at l1
  have e1' := Lib.hid e1
  obtain ⟨x2, e2⟩ : ∃ x, bz m 2 = x := ⟨_, rfl⟩
  have l2 := hmo.out 2 (by rw [hml.out]; omega)
  rw [e2] at l2
  have e2' := Lib.hid e2
  obtain ⟨x3, e3⟩ : ∃ x, bz m 3 = x := ⟨_, rfl⟩
  have l3 := hmo.out 3 (by rw [hml.out]; omega)
  rw [e3] at l3
  have e3' := Lib.hid e3
  obtain ⟨x4, e4⟩ : ∃ x, bz m 4 = x := ⟨_, rfl⟩
  have l4 := hmo.out 4 (by rw [hml.out]; omega)
  rw [e4] at l4
  have e4' := Lib.hid e4
  obtain ⟨x5, e5⟩ : ∃ x, bz m 5 = x := ⟨_, rfl⟩
  have l5 := hmo.out 5 (by rw [hml.out]; omega)
  rw [e5] at l5
  have e5' := Lib.hid e5
  obtain ⟨x6, e6⟩ : ∃ x, bz m 6 = x := ⟨_, rfl⟩
  have l6 := hmo.out 6 (by rw [hml.out]; omega)
  rw [e6] at l6
  have e6' := Lib.hid e6
  obtain ⟨x7, e7⟩ : ∃ x, bz m 7 = x := ⟨_, rfl⟩
  have l7 := hmo.out 7 (by rw [hml.out]; omega)
  rw [e7] at l7
  have e7' := Lib.hid e7
  obtain ⟨x8, e8⟩ : ∃ x, bz m 8 = x := ⟨_, rfl⟩
  have l8 := hmo.out 8 (by rw [hml.out]; omega)
  rw [e8] at l8
  have e8' := Lib.hid e8
  clear e0 e1 e2 e3 e4 e5 e6 e7 e8
  obtain ⟨O, hO0⟩ : ∃ O, ((x0 : Int) == 1) = O := ⟨_, rfl⟩
  have hO := Lib.hid (show decide (x0 = 1) = O by rw [← hO0]; by_cases h : x0 = 1 <;> simp [h]; omega)
  obtain ⟨n0, h0⟩ : ∃ z, bits .or .i64 (IntKind.i64.wrap (IntKind.i64.wrap (x1 : Int) * 256)) (IntKind.i64.wrap (x2 : Int)) = z := ⟨_, rfl⟩
  obtain ⟨n1, h1⟩ : ∃ z, bits .or .i64 (IntKind.i64.wrap (IntKind.i64.wrap (x3 : Int) * 256)) (IntKind.i64.wrap (x4 : Int)) = z := ⟨_, rfl⟩
  obtain ⟨n2, h2⟩ : ∃ z, bits .or .i64 (IntKind.i64.wrap (IntKind.i64.wrap (x5 : Int) * 256)) (IntKind.i64.wrap (x6 : Int)) = z := ⟨_, rfl⟩
  obtain ⟨n3, h3⟩ : ∃ z, bits .or .i64 (IntKind.i64.wrap (IntKind.i64.wrap (x7 : Int) * 256)) (IntKind.i64.wrap (x8 : Int)) = z := ⟨_, rfl⟩
  have hbd := fun w => run_bd5R w O n0 n1 n2 n3
  obtain ⟨Y, hY0⟩ : ∃ Y, (⟨O, n0, n1, n2, n3, ⟨#[]⟩, ⟨#[]⟩⟩ : Rcd) = Y := ⟨_, rfl⟩
  have hY := Lib.hid hY0
  rw [hY0] at hbd
  unfold rv at hbd
  obtain ⟨Cy, hCy0⟩ : ∃ Cy, rc Y = Cy := ⟨_, rfl⟩
  have hCy := Lib.hid hCy0
  rw [hCy0] at hbd
  clear hY0 hCy0
  go_enter Try.func10, Try.ntmps10
  go_upto_region 4 with (first
    | (clear tk0; refine wpList_alloc_rec rfl rfl ?_; intro B w1 hv1 hB0 hb1; have V1 := Lib.hid hv1.out; have B1 := Lib.hid hb1; have hx1 := Lib.hid (hx'.out.on hb1 (Nat.le_refl _)); clear hb1)
    | (go_at_call 26; refine (refOpen_room 82 _ _ n l _ hn'.out (by decide) hk'.out ho'.out hc hx1.out).mono ?_; rintro e w2 ⟨g1, cp1, rfl, hcp1, hg1, hr1, hb2⟩; rw [← hme'.out] at hr1; have R2 := Lib.hid hr1; have V2 := Lib.hid (V1.out.on' hb2); have B2 := Lib.hid (below_two B1.out hb2); have c0 := hr1.cell (k := 0) (by rw [hml.out]; omega); rw [Nat.add_zero, e0'.out] at c0; have c1 := hr1.cell (k := 1) (by rw [hml.out]; omega); rw [Nat.zero_add, e1'.out] at c1; have c2 := hr1.cell (k := 2) (by rw [hml.out]; omega); rw [Nat.zero_add, e2'.out] at c2; have c3 := hr1.cell (k := 3) (by rw [hml.out]; omega); rw [Nat.zero_add, e3'.out] at c3; have c4 := hr1.cell (k := 4) (by rw [hml.out]; omega); rw [Nat.zero_add, e4'.out] at c4; have c5 := hr1.cell (k := 5) (by rw [hml.out]; omega); rw [Nat.zero_add, e5'.out] at c5; have c6 := hr1.cell (k := 6) (by rw [hml.out]; omega); rw [Nat.zero_add, e6'.out] at c6; have c7 := hr1.cell (k := 7) (by rw [hml.out]; omega); rw [Nat.zero_add, e7'.out] at c7; have c8 := hr1.cell (k := 8) (by rw [hml.out]; omega); rw [Nat.zero_add, e8'.out] at c8; have hlt := World.block_lt_of_cell? w2 _ c0; have hne : ¬ g1 = w2.heap.size := Nat.ne_of_lt hlt; clear hb2 hr1))
  go_cut [6] (fun v wx => v = .pointer (some ⟨w2.heap.size, 0, none⟩) ∧ RdAt Y w2.heap.size B g1 m w wx)
  case first =>
    have D3 := Vw.alloc w2 (rc r0) 23
    have hbA := ((Below.refl w2.heap.size w2).alloc (Nat.le_refl _) (.cells (rc r0).toArray 23)).drew
    have hst := run_stR (r := Y) (D3.drew1.there (o := 0) (n := 7) (by rw [rc_length]; omega))
    have hBD := V2.out.lt
    have ho := Oth.setCells (Oth.refl w2.heap.size (w2.alloc (.cells (rc r0).toArray 23)).drew) 0 (rc Y)
    have S3 := Lib.hid (show RdAt Y w2.heap.size B g1 m w _ from ⟨D3.drew1.over (m := rc Y) rfl, (V2.out.on' hbA).oth ho (by omega), (R2.out.on hbA (Nat.le_refl _)).oth ho (Nat.ne_of_lt hlt), below_setCells (below_two B2.out hbA) B2.out.size 0 (rc Y), hB0, hBD, hlt⟩)
    unfold rv at hst
    rw [hCy.out] at hst S3
    have hst2 : (stA 23 (.pointer (some ⟨w2.heap.size, 0, none⟩)) (.agg Cy.toArray)).run Try.prog (w2.alloc (.cells #[.bool false, .int .i64 0, .int .i64 0, .int .i64 0, .int .i64 0, .string ⟨#[]⟩, .string ⟨#[]⟩] 23)).drew = .ok () ((w2.alloc (.cells #[.bool false, .int .i64 0, .int .i64 0, .int .i64 0, .int .i64 0, .string ⟨#[]⟩, .string ⟨#[]⟩] 23)).drew.setCells w2.heap.size 0 Cy) := hst
    have S4 := Lib.hid (show RdAt Y w2.heap.size B g1 m w ((w2.alloc (.cells #[.bool false, .int .i64 0, .int .i64 0, .int .i64 0, .int .i64 0, .string ⟨#[]⟩, .string ⟨#[]⟩] 23)).drew.setCells w2.heap.size 0 Cy) from S3.out)
    clear hst S3 ho hbA D3
    obtain ⟨w5, hw5⟩ : ∃ w5, w5 = ((w2.alloc (.cells #[.bool false, .int .i64 0, .int .i64 0, .int .i64 0, .int .i64 0, .string ⟨#[]⟩, .string ⟨#[]⟩] 23)).drew.setCells w2.heap.size 0 Cy) := ⟨_, rfl⟩
    rw [← hw5] at S4 hst2
    clear hw5
    have hRA := (R2.out.on ((Below.refl w2.heap.size w2).alloc (Nat.le_refl _) (.cells #[.bool false, .int .i64 0, .int .i64 0, .int .i64 0, .int .i64 0, .string ⟨#[]⟩, .string ⟨#[]⟩] 23)) (Nat.le_refl _)).drew1
    have d0 := hRA.cell (k := 0) (by rw [hml.out]; omega)
    rw [Nat.add_zero, e0'.out] at d0
    have d1 := hRA.cell (k := 1) (by rw [hml.out]; omega)
    rw [Nat.zero_add, e1'.out] at d1
    have d2 := hRA.cell (k := 2) (by rw [hml.out]; omega)
    rw [Nat.zero_add, e2'.out] at d2
    have d3 := hRA.cell (k := 3) (by rw [hml.out]; omega)
    rw [Nat.zero_add, e3'.out] at d3
    have d4 := hRA.cell (k := 4) (by rw [hml.out]; omega)
    rw [Nat.zero_add, e4'.out] at d4
    have d5 := hRA.cell (k := 5) (by rw [hml.out]; omega)
    rw [Nat.zero_add, e5'.out] at d5
    have d6 := hRA.cell (k := 6) (by rw [hml.out]; omega)
    rw [Nat.zero_add, e6'.out] at d6
    have d7 := hRA.cell (k := 7) (by rw [hml.out]; omega)
    rw [Nat.zero_add, e7'.out] at d7
    have d8 := hRA.cell (k := 8) (by rw [hml.out]; omega)
    rw [Nat.zero_add, e8'.out] at d8
    clear hRA
    have g0' := S4.out.2.2.1.cell (k := 0) (by rw [hml.out]; omega)
    rw [Nat.add_zero, e0'.out] at g0'
    have g1' := S4.out.2.2.1.cell (k := 1) (by rw [hml.out]; omega)
    rw [Nat.zero_add, e1'.out] at g1'
    have g2' := S4.out.2.2.1.cell (k := 2) (by rw [hml.out]; omega)
    rw [Nat.zero_add, e2'.out] at g2'
    have g3' := S4.out.2.2.1.cell (k := 3) (by rw [hml.out]; omega)
    rw [Nat.zero_add, e3'.out] at g3'
    have g4' := S4.out.2.2.1.cell (k := 4) (by rw [hml.out]; omega)
    rw [Nat.zero_add, e4'.out] at g4'
    have g5' := S4.out.2.2.1.cell (k := 5) (by rw [hml.out]; omega)
    rw [Nat.zero_add, e5'.out] at g5'
    have g6' := S4.out.2.2.1.cell (k := 6) (by rw [hml.out]; omega)
    rw [Nat.zero_add, e6'.out] at g6'
    have g7' := S4.out.2.2.1.cell (k := 7) (by rw [hml.out]; omega)
    rw [Nat.zero_add, e7'.out] at g7'
    have g8' := S4.out.2.2.1.cell (k := 8) (by rw [hml.out]; omega)
    rw [Nat.zero_add, e8'.out] at g8'
    go_region_held3 (fun w' => w'.cell? ⟨g1, 0, none⟩ = some (.int .u8 (x0 : Int)) ∧ w'.cell? ⟨g1, 1, none⟩ = some (.int .u8 (x1 : Int)) ∧ w'.cell? ⟨g1, 2, none⟩ = some (.int .u8 (x2 : Int)) ∧ w'.cell? ⟨g1, 3, none⟩ = some (.int .u8 (x3 : Int)) ∧ w'.cell? ⟨g1, 4, none⟩ = some (.int .u8 (x4 : Int)) ∧ w'.cell? ⟨g1, 5, none⟩ = some (.int .u8 (x5 : Int)) ∧ w'.cell? ⟨g1, 6, none⟩ = some (.int .u8 (x6 : Int)) ∧ w'.cell? ⟨g1, 7, none⟩ = some (.int .u8 (x7 : Int)) ∧ w'.cell? ⟨g1, 8, none⟩ = some (.int .u8 (x8 : Int))) (first | exact ⟨c0, c1, c2, c3, c4, c5, c6, c7, c8⟩ | exact ⟨d0, d1, d2, d3, d4, d5, d6, d7, d8⟩ | exact ⟨g0', g1', g2', g3', g4', g5', g6', g7', g8'⟩) (first | fail)
    go_wp2_with fail
    go_meet
    exact ⟨rfl, S4.out⟩
  case rest =>
    obtain ⟨rfl, hS4⟩ := hcut
    have S4 := Lib.hid hS4
    obtain ⟨D, hD⟩ : ∃ D, D = w2.heap.size := ⟨_, rfl⟩
    rw [← hD] at S4 ⊢
    clear hD hS4 c0 c1 c2 c3 c4 c5 c6 c7 c8 hlt hne hbd
    go_upto_region 5 with fail
    go_cut [6] (fun v wx => v = .pointer (some ⟨D, 0, none⟩) ∧ RdAt ({ Y with fn := strOf ((m.drop 10).take (min (bz m 9) 24)) } : Rcd) D B g1 m w wx)
    case first =>
      have b0 := S4.out.2.2.1.cell (k := 9) (by rw [hml.out]; omega)
      have hx8 := hmo.out 9 (by rw [hml.out]; omega)
      obtain ⟨x, hxe⟩ : ∃ x, bz m 9 = x := ⟨_, rfl⟩
      rw [Nat.zero_add, hxe] at b0
      rw [hxe] at hx8
      have hxe' := Lib.hid hxe
      have c0 := S4.out.1.cell (k := 5) rfl
      have f0 := S4.out.1.frozen 5
      have hput := Lib.hid (fun (s : ByteArray) (q : Rcd) (h : (rc Y).set 5 (.string s) = rc q) => S4.out.set h)
      clear hxe
      by_cases hd : x ≤ 24
      · obtain ⟨r, hr⟩ : ∃ r, 10 + x = r := ⟨_, rfl⟩
        have er : 10 + (x : Int) = (r : Int) := by omega
        have hq1 := run_string (w := wc) (a := some ⟨g1, 10, none⟩) (n := r - 10) (cap := cp1 - 10) (l := (m.drop 10).take x) (by rw [List.length_take, List.length_drop, hml.out]; omega) ((hmo.out.drop _).take _) (by have := S4.out.2.2.1.sub 10 x; rwa [Nat.zero_add] at this)
        have hmin := Lib.hid (show min (bz m 9) 24 = x by rw [hxe'.out]; omega)
        clear hr
        go_wp2_with fail
        go_meet
        exact ⟨rfl, hput.out _ _ (by rw [hmin.out]; rfl)⟩
      · have hq1 := run_string (w := wc) (a := some ⟨g1, 10, none⟩) (n := 24) (cap := cp1 - 10) (l := (m.drop 10).take 24) (by rw [List.length_take, List.length_drop, hml.out]; omega) ((hmo.out.drop _).take _) (by have := S4.out.2.2.1.sub 10 24; rwa [Nat.zero_add] at this)
        have hmin := Lib.hid (show min (bz m 9) 24 = 24 by rw [hxe'.out]; omega)
        go_wp2_with fail
        go_meet
        exact ⟨rfl, hput.out _ _ (by rw [hmin.out]; rfl)⟩
    case rest =>
      obtain ⟨rfl, S50⟩ := hcut
      have S5 := Lib.hid S50
      clear S50
      obtain ⟨Y1, hY1⟩ : ∃ Y1, ({ Y with fn := strOf ((m.drop 10).take (min (bz m 9) 24)) } : Rcd) = Y1 := ⟨_, rfl⟩
      have hY1' := Lib.hid hY1
      rw [hY1] at S5
      clear hY1
      go_upto_region 6 with fail
      go_cut [6] (fun v wx => v = .pointer (some ⟨D, 0, none⟩) ∧ RdAt ({ Y1 with tn := strOf ((m.drop 35).take (min (bz m 34) 24)) } : Rcd) D B g1 m w wx)
      case first =>
        have b0 := S5.out.2.2.1.cell (k := 34) (by rw [hml.out]; omega)
        have hx8 := hmo.out 34 (by rw [hml.out]; omega)
        obtain ⟨x, hxe⟩ : ∃ x, bz m 34 = x := ⟨_, rfl⟩
        rw [Nat.zero_add, hxe] at b0
        rw [hxe] at hx8
        have hxe' := Lib.hid hxe
        have c0 := S5.out.1.cell (k := 6) rfl
        have f0 := S5.out.1.frozen 6
        have hput := Lib.hid (fun (s : ByteArray) (q : Rcd) (h : (rc Y1).set 6 (.string s) = rc q) => S5.out.set h)
        clear hxe
        by_cases hd : x ≤ 24
        · obtain ⟨r, hr⟩ : ∃ r, 35 + x = r := ⟨_, rfl⟩
          have er : 35 + (x : Int) = (r : Int) := by omega
          have hq1 := run_string (w := wc) (a := some ⟨g1, 35, none⟩) (n := r - 35) (cap := cp1 - 35) (l := (m.drop 35).take x) (by rw [List.length_take, List.length_drop, hml.out]; omega) ((hmo.out.drop _).take _) (by have := S5.out.2.2.1.sub 35 x; rwa [Nat.zero_add] at this)
          have hmin := Lib.hid (show min (bz m 34) 24 = x by rw [hxe'.out]; omega)
          clear hr
          go_wp2_with fail
          go_meet
          exact ⟨rfl, hput.out _ _ (by rw [hmin.out]; rfl)⟩
        · have hq1 := run_string (w := wc) (a := some ⟨g1, 35, none⟩) (n := 24) (cap := cp1 - 35) (l := (m.drop 35).take 24) (by rw [List.length_take, List.length_drop, hml.out]; omega) ((hmo.out.drop _).take _) (by have := S5.out.2.2.1.sub 35 24; rwa [Nat.zero_add] at this)
          have hmin := Lib.hid (show min (bz m 34) 24 = 24 by rw [hxe'.out]; omega)
          go_wp2_with fail
          go_meet
          exact ⟨rfl, hput.out _ _ (by rw [hmin.out]; rfl)⟩
      case rest =>
        obtain ⟨rfl, S60⟩ := hcut
        have S6 := Lib.hid S60
        clear S60
        have hF := Lib.hid (show ({ Y1 with tn := strOf ((m.drop 35).take (min (bz m 34) 24)) } : Rcd) = tlD' m by
          have q0 := nmT_two (m := m) (k := 0) (by rw [hml.out]; omega)
          have q1 := nmT_two (m := m) (k := 1) (by rw [hml.out]; omega)
          have q2 := nmT_two (m := m) (k := 2) (by rw [hml.out]; omega)
          have q3 := nmT_two (m := m) (k := 3) (by rw [hml.out]; omega)
          rw [← hY1'.out, ← hY.out]
          unfold tlD'
          rw [q0, q1, q2, q3, e0'.out, hO.out]
          rw [show bz m (1 + 0 * 2) = x1 from e1'.out, show bz m (2 + 0 * 2) = x2 from e2'.out, show bz m (1 + 1 * 2) = x3 from e3'.out, show bz m (2 + 1 * 2) = x4 from e4'.out, show bz m (1 + 2 * 2) = x5 from e5'.out, show bz m (2 + 2 * 2) = x6 from e6'.out, show bz m (1 + 3 * 2) = x7 from e7'.out, show bz m (2 + 3 * 2) = x8 from e8'.out]
          rw [← num_two l1 l2, ← num_two l3 l4, ← num_two l5 l6, ← num_two l7 l8, h0, h1, h2, h3])
        rw [hF.out] at S6
        have hFs := Lib.hid (show fineR m = true → tlM m = tlD' m from fun h => by unfold fineR at h; rw [Bool.and_eq_true] at h; exact (tl_same h.1).symm)
        clear hF hY hY1' S4 S5 h0 h1 h2 h3 hO hO0 l0 l1 l2 l3 l4 l5 l6 l7 l8 e0' e1' e2' e3' e4' e5' e6' e7' e8'
        obtain ⟨F, hFe⟩ : ∃ F, tlD' m = F := ⟨_, rfl⟩
        rw [hFe] at S6 hFs hfs
        clear hFe
        have hld := run_ldR S6.out.1.whole
        unfold rv at hld
        obtain ⟨Cf, hCf0⟩ : ∃ Cf, rc F = Cf := ⟨_, rfl⟩
        have hCf := Lib.hid hCf0
        rw [hCf0] at hld
        clear hCf0
        cases hm0 : mayR F
        · have hv := Lib.hid (hno.out (fun h => by have := (hfs.out.1 h).1; rw [hm0] at this; cases this))
          have hQ := Lib.hid (fun w => refRecLay_no F w hm0)
          unfold rv at hQ
          rw [hCf.out] at hQ
          clear hm0
          go_wp2_with (go_at_call 8; refine (hQ.out _).mono ?_; unfold noRec; rintro e w10 ⟨rfl, hb⟩; have S7 := Lib.hid (S6.out.on hb); have hst := run_stR (r := Z) (S7.out.2.1.there (o := 0) (n := 7) (by rw [rc_length]; omega)); have hend := Lib.hid (S7.out.2.1.over (m := rc Z) rfl); unfold rv at hst; rw [hCz.out] at hst hend; clear hb)
          refine bodyPost_ret (rec_ret rfl rfl (r := Z) (by rw [hCz.out]; exact hend.out)) rfl ⟨by rw [hv.out]; rfl, below_setCells S7.out.2.2.2.1 S7.out.2.2.2.2.1 0 _⟩
        · have hQ := Lib.hid (fun w => refRecLay_ok F w hm0)
          unfold rv at hQ
          rw [hCf.out] at hQ
          have hsl := Lib.hid (secR_length (mayR_len hm0))
          have hso := Lib.hid (secR_octs (mayR_len hm0))
          have hm := Lib.hid hm0
          clear hm0
          by_cases he : secR F = l
          · have hfi := hfs.out.2 ⟨hm.out, he⟩
            have hv := Lib.hid ((hyes.out hfi).trans (by rw [hFs.out hfi]))
            have he' := Lib.hid he
            clear he hfi
            go_wp2_with (go_at_call 8; refine (hQ.out _).mono ?_; rintro e w10 ⟨g5, cp5, rfl, hg5, hcp5, hr5, hb⟩; have S7 := Lib.hid (S6.out.on hb); have hst := run_stR (w := w10) (r := F) (S7.out.2.1.there (o := 0) (n := 7) (by rw [rc_length]; omega)); have hend := Lib.hid (S7.out.2.1.over (m := rc F) rfl); have hld2 := run_ldR S7.out.1.whole; unfold rv at hst hld2; rw [hCf.out] at hst hend hld2; have q1 := run_string (cap := cp5) hsl.out hso.out hr5; have q2 := run_string (cap := cap) hn'.out ho'.out (hx'.out.on S7.out.2.2.2.1 (Nat.le_refl _)); rw [he'.out] at q1; have hs0 : ((strOf l).toList == (strOf l).toList) = true := (beq_self_eq_true _); clear hb hr5)
            refine bodyPost_ret (rec_ret rfl rfl (r := F) (by rw [hCf.out]; exact hend.out)) rfl ⟨by rw [hv.out]; rfl, below_setCells S7.out.2.2.2.1 S7.out.2.2.2.2.1 0 _⟩
          · have hv := Lib.hid (hno.out (fun h => he (hfs.out.1 h).2))
            have hs0 := strOf_ne hso.out ho'.out he
            clear he
            go_wp2_with (go_at_call 8; refine (hQ.out _).mono ?_; rintro e w10 ⟨g5, cp5, rfl, hg5, hcp5, hr5, hb⟩; have S7 := Lib.hid (S6.out.on hb); have hst := run_stR (w := w10) (r := Z) (S7.out.2.1.there (o := 0) (n := 7) (by rw [rc_length]; omega)); have hend := Lib.hid (S7.out.2.1.over (m := rc Z) rfl); unfold rv at hst; rw [hCz.out] at hst hend; have q1 := run_string (cap := cp5) hsl.out hso.out hr5; have q2 := run_string (cap := cap) hn'.out ho'.out (hx'.out.on S7.out.2.2.2.1 (Nat.le_refl _)); clear hb hr5)
            refine bodyPost_ret (rec_ret rfl rfl (r := Z) (by rw [hCz.out]; exact hend.out)) rfl ⟨by rw [hv.out]; rfl, below_setCells S7.out.2.2.2.1 S7.out.2.2.2.2.1 0 _⟩
theorem refRecRead_any (a : Option Addr) (cap n : Nat) (l : List Nat) (w : World) (hn : l.length = n) (ho : Octs l) (hc : n ≤ cap) (hx : BAt w a l) :
    Calls Try.prog 10 #[.slice a n cap] w (Tells (readRV l) w) := by
  by_cases hk : kindOf l = 82
  · exact refRecRead_good a cap n l w hn hk ho hc hx
  · exact refRecRead_bad a cap n l w hn hk ho hc hx
end Go.Proofs.Ytkeihpenelpblaa
