/-
  Do two objects touch?
-/
import Derived.Test.YtcmomnfefaolaaaRlb
import Derived.Test.YtcmomnfefaolaaaQv
import Derived.Deep.DeepCutAuto
namespace Go.Proofs.Ytcmomnfefaolaaa
open Go.RowKit BigFrame
set_option maxRecDepth 100000
attribute [local go_sem ↓] ldO_of

/-- two objects in variables of one's own -/
def heldS (g h : Nat) (x : Ob) (v : Value) (y : Ob) (u : Value) (w : World) : Prop :=
  Vw w 37 g (oc x v) ∧ Vw w 37 h (oc y u)
section
variable {g h : Nat} {x y : Ob} {v u : Value} {w w' : World}
theorem heldS.on (k : heldS g h x v y u w) (hb : Below w.heap.size w w') : heldS g h x v y u w' := ⟨k.1.on' hb, k.2.on' hb⟩
theorem heldS.la (k : heldS g h x v y u w) : (ldA 37 (.pointer (some ⟨g, 0, none⟩))).run Try.prog w = .ok (ov x v) w := run_ldO k.1.whole
theorem heldS.lb (k : heldS g h x v y u w) : (ldA 37 (.pointer (some ⟨h, 0, none⟩))).run Try.prog w = .ok (ov y u) w := run_ldO k.2.whole
theorem heldS.a0 (k : heldS g h x v y u w) : w.cell? ⟨g, 0, none⟩ = some (.int .i64 x.s) := k.1.cell (k := 0) rfl
theorem heldS.a1 (k : heldS g h x v y u w) : w.cell? ⟨g, 1, none⟩ = some (.int .i64 x.p) := k.1.cell (k := 1) rfl
theorem heldS.a2 (k : heldS g h x v y u w) : w.cell? ⟨g, 2, none⟩ = some v := k.1.cell (k := 2) rfl
theorem heldS.b0 (k : heldS g h x v y u w) : w.cell? ⟨h, 0, none⟩ = some (.int .i64 y.s) := k.2.cell (k := 0) rfl
theorem heldS.b1 (k : heldS g h x v y u w) : w.cell? ⟨h, 1, none⟩ = some (.int .i64 y.p) := k.2.cell (k := 1) rfl
theorem heldS.b2 (k : heldS g h x v y u w) : w.cell? ⟨h, 2, none⟩ = some u := k.2.cell (k := 2) rfl
end
def boxes (w : World) (x : Ob) (v : Value) (y : Ob) (u : Value) : World := (w.alloc (.cells (oc x v).toArray 37)).alloc (.cells (oc y u).toArray 37)
theorem heldS.new (w : World) (x : Ob) (v : Value) (y : Ob) (u : Value) : heldS w.heap.size (w.heap.size + 1) x v y u (boxes w x v y u).drew := by
  have h1 := Vw.alloc w (oc x v) 37
  have h2 := Vw.alloc (w.alloc (.cells (oc x v).toArray 37)) (oc y u) 37
  have hb := (Below.refl (w.alloc (.cells (oc x v).toArray 37)).heap.size (w.alloc (.cells (oc x v).toArray 37))).alloc (Nat.le_refl _) (.cells (oc y u).toArray 37)
  rw [World.size_alloc] at h2
  exact ⟨(h1.on' hb).drew1, h2.drew1⟩
theorem heldS.low (w : World) (x : Ob) (v : Value) (y : Ob) (u : Value) : Below w.heap.size w (boxes w x v y u).drew := by
  have hb := ((Below.refl w.heap.size w).alloc (Nat.le_refl _) (.cells (oc x v).toArray 37))
  exact (hb.alloc hb.size (.cells (oc y u).toArray 37)).trans (below_drewN (boxes w x v y u) 1 |>.mono (by unfold boxes; simp; omega))
/-- a class of worlds -/
def TcC (w0 : World) (g h : Nat) (x : Ob) (v : Value) (y : Ob) (u : Value) (w : World) : Prop := Below w0.heap.size w0 w ∧ heldS g h x v y u w
theorem TcC.told {w0 w : World} {g h : Nat} {x y : Ob} {v u q : Value} {f : FuncId} {args : Array Value} (k : TcC w0 g h x v y u w) (hc : Calls Try.prog f args w (Tells q w)) : Calls Try.prog f args w (fun e w' => e = .returned q ∧ TcC w0 g h x v y u w') :=
  hc.mono fun _ _ ⟨he, hd⟩ => ⟨he, k.1.trans (hd.mono k.1.size), k.2.on hd⟩
set_option maxHeartbeats 4000000 in
theorem touch_c (x y : Ob) (v u : Value) (w : World) (hs : SlB w v x.b) (hu : SlB w u y.b) (hl : x.b.length ≤ 100000) (hm : y.b.length ≤ 100000) : Calls Try.prog 20 #[ov x v, ov y u] w (Tells (.bool (touchO x y)) w) := by
  have hS := Lib.hid hs
  have hU := Lib.hid hu
  obtain ⟨r, hr⟩ : ∃ r, touchO x y = r := ⟨_, rfl⟩
  rw [hr]
  have W2 := heldS.new w x v y u
  have B2 := heldS.low w x v y u
  have hx := Lib.hid (fun w' (hb : Below w.heap.size w w') => may_c x v w' (hS.out.on hb) hl)
  have hy := Lib.hid (fun w' (hb : Below w.heap.size w w') => may_c y u w' (hU.out.on hb) hm)
  have ex := Lib.hid (fun w' (hb : Below w.heap.size w w') h0 => end_c x v w' (hS.out.on hb) h0 _ rfl)
  have ey := Lib.hid (fun w' (hb : Below w.heap.size w w') h0 => end_c y u w' (hU.out.on hb) h0 _ rfl)
  have ox := @mayO_is x
  have oy := @mayO_is y
  have hr2 : (mayO x && (mayO y && (decide (x.s = y.s) && (decide (x.p < y.p + (y.b.length : Int)) && decide (y.p < x.p + (x.b.length : Int)))))) = r := by
    rw [← hr]
    unfold touchO
    cases mayO x <;> cases mayO y <;> simp [Bool.decide_and]
  obtain ⟨mx, hmx⟩ : ∃ m, mayO x = m := ⟨_, rfl⟩
  obtain ⟨my, hmy⟩ : ∃ m, mayO y = m := ⟨_, rfl⟩
  obtain ⟨qs, hqs⟩ : ∃ q, decide (x.s = y.s) = q := ⟨_, rfl⟩
  obtain ⟨q1, hq1⟩ : ∃ q, decide (x.p < y.p + (y.b.length : Int)) = q := ⟨_, rfl⟩
  obtain ⟨q2, hq2⟩ : ∃ q, decide (y.p < x.p + (x.b.length : Int)) = q := ⟨_, rfl⟩
  rw [hmx, hmy, hqs, hq1, hq2] at hr2
  rw [hmx] at hx ex ox
  rw [hmy] at hy ey oy
  obtain ⟨C, hCe⟩ : ∃ C, TcC w w.heap.size (w.heap.size + 1) x v y u = C := ⟨_, rfl⟩
  have hC7 : C (boxes w x v y u).drew := by rw [← hCe]; exact ⟨B2, W2⟩
  obtain ⟨xs, xp, xb⟩ := x
  obtain ⟨ys, yp, yb⟩ := y
  simp only at hq1 hq2 hqs hl hm hx hy ox oy ex ey
  unfold boxes at hC7
  obtain ⟨xe, hxe⟩ : ∃ n, xp + (xb.length : Int) = n := ⟨_, rfl⟩
  obtain ⟨ye, hye⟩ : ∃ n, yp + (yb.length : Int) = n := ⟨_, rfl⟩
  rw [hxe] at hq2 ex
  rw [hye] at hq1 ey
  unfold ov oc at *
  simp only at *
  have hqs := Lib.hid hqs
  have hq1 := Lib.hid hq1
  have hq2 := Lib.hid hq2
  have hr2 := Lib.hid hr2
  have hxe := Lib.hid hxe
  have hye := Lib.hid hye
  have hCC := Lib.hid hCe
  have hC7 := Lib.hid hC7
  have hox := Lib.hid ox
  have hoy := Lib.hid oy
  clear ox oy hr hmx hmy hCe W2 B2 hs hu
  go_enter Try.func20, Try.ntmps20
  go_upto_region 1 with fail
  refine wp_region_at (C := C) (by kernel_rfl) (by kernel_rfl) hC7.out ?_
  rw [← hCC.out]
  cases mx
  · go_big_quiet_want; refine quiet_val (.agg #[.int .i64 xs, .int .i64 xp, v]) (fun _ hC => by have hq := hC.2.la; unfold ov oc at hq; unfold Oper.quietAt Oper.quietUpon; go_simp) ?_; go_simp; try go_big_quiet_on
    go_big_quiet_want; refine quiet_val (.bool false) (fun _ hC => by unfold Oper.quietAt Oper.quietUpon; go_simp; exact hC.told (hx.out _ hC.1)) ?_; go_simp; try go_big_quiet_on
    go_big_quiet_want; go_big_quiet_op; go_big_quiet_on
    go_big_quiet_skip
    go_big_quiet_skip
    go_big_quiet_want; refine quiet_val (.bool false) (fun _ _ => by unfold Oper.quietAt Oper.quietUpon; go_simp) ?_; go_simp; try go_big_quiet_on
    go_big_quiet_want; refine quiet_val (.bool false) (fun _ _ => by unfold Oper.quietAt Oper.quietUpon; go_simp) ?_; go_simp; try go_big_quiet_on
    go_big_quiet_skip
    go_big_quiet_skip
    go_big_quiet_skip
    go_big_quiet_skip
    go_big_quiet_skip
    go_big_quiet_want; refine quiet_val (.bool false) (fun _ _ => by unfold Oper.quietAt Oper.quietUpon; go_simp) ?_; go_simp; try go_big_quiet_on
    go_big_quiet_want; refine quiet_val (.bool false) (fun _ _ => by unfold Oper.quietAt Oper.quietUpon; go_simp) ?_; go_simp; try go_big_quiet_on
    go_big_quiet_skip
    go_big_quiet_skip
    go_big_quiet_skip
    go_big_quiet_skip
    go_big_quiet_skip
    go_big_quiet_want; refine quiet_val (.bool false) (fun _ _ => by unfold Oper.quietAt Oper.quietUpon; go_simp) ?_; go_simp; try go_big_quiet_on
    go_big_quiet_want; refine quiet_val (.bool false) (fun _ _ => by unfold Oper.quietAt Oper.quietUpon; go_simp) ?_; go_simp; try go_big_quiet_on
    go_big_quiet_skip
    go_big_quiet_skip
    go_big_quiet_skip
    go_big_quiet_skip
    go_big_quiet_skip
    go_big_quiet_want; refine quiet_val (.bool false) (fun _ _ => by unfold Oper.quietAt Oper.quietUpon; go_simp) ?_; go_simp; try go_big_quiet_on
    go_big_quiet_want; refine quiet_val (.bool false) (fun _ _ => by unfold Oper.quietAt Oper.quietUpon; go_simp) ?_; go_simp; try go_big_quiet_on
    refine wpQuiet_nil ?_
    intro w9 hC
    have B9 := Lib.hid hC.1
    go_wp2_with fail
    go_ret
    exact ⟨ret_bool hr2.out, B9.out⟩
  · skip
    cases my
    · go_big_quiet_want; refine quiet_val (.agg #[.int .i64 xs, .int .i64 xp, v]) (fun _ hC => by have hq := hC.2.la; unfold ov oc at hq; unfold Oper.quietAt Oper.quietUpon; go_simp) ?_; go_simp; try go_big_quiet_on
      go_big_quiet_want; refine quiet_val (.bool true) (fun _ hC => by unfold Oper.quietAt Oper.quietUpon; go_simp; exact hC.told (hx.out _ hC.1)) ?_; go_simp; try go_big_quiet_on
      go_big_quiet_want; go_big_quiet_op; go_big_quiet_on
      go_big_quiet_want; refine quiet_val (.agg #[.int .i64 ys, .int .i64 yp, u]) (fun _ hC => by have hq := hC.2.lb; unfold ov oc at hq; unfold Oper.quietAt Oper.quietUpon; go_simp) ?_; go_simp; try go_big_quiet_on
      go_big_quiet_want; refine quiet_val (.bool false) (fun _ hC => by unfold Oper.quietAt Oper.quietUpon; go_simp; exact hC.told (hy.out _ hC.1)) ?_; go_simp; try go_big_quiet_on
      go_big_quiet_want; refine quiet_val (.bool false) (fun _ _ => by unfold Oper.quietAt Oper.quietUpon; go_simp) ?_; go_simp; try go_big_quiet_on
      go_big_quiet_want; refine quiet_val (.bool false) (fun _ _ => by unfold Oper.quietAt Oper.quietUpon; go_simp) ?_; go_simp; try go_big_quiet_on
      go_big_quiet_skip
      go_big_quiet_skip
      go_big_quiet_skip
      go_big_quiet_skip
      go_big_quiet_skip
      go_big_quiet_want; refine quiet_val (.bool false) (fun _ _ => by unfold Oper.quietAt Oper.quietUpon; go_simp) ?_; go_simp; try go_big_quiet_on
      go_big_quiet_want; refine quiet_val (.bool false) (fun _ _ => by unfold Oper.quietAt Oper.quietUpon; go_simp) ?_; go_simp; try go_big_quiet_on
      go_big_quiet_skip
      go_big_quiet_skip
      go_big_quiet_skip
      go_big_quiet_skip
      go_big_quiet_skip
      go_big_quiet_want; refine quiet_val (.bool false) (fun _ _ => by unfold Oper.quietAt Oper.quietUpon; go_simp) ?_; go_simp; try go_big_quiet_on
      go_big_quiet_want; refine quiet_val (.bool false) (fun _ _ => by unfold Oper.quietAt Oper.quietUpon; go_simp) ?_; go_simp; try go_big_quiet_on
      go_big_quiet_skip
      go_big_quiet_skip
      go_big_quiet_skip
      go_big_quiet_skip
      go_big_quiet_skip
      go_big_quiet_want; refine quiet_val (.bool false) (fun _ _ => by unfold Oper.quietAt Oper.quietUpon; go_simp) ?_; go_simp; try go_big_quiet_on
      go_big_quiet_want; refine quiet_val (.bool false) (fun _ _ => by unfold Oper.quietAt Oper.quietUpon; go_simp) ?_; go_simp; try go_big_quiet_on
      refine wpQuiet_nil ?_
      intro w9 hC
      have B9 := Lib.hid hC.1
      go_wp2_with fail
      go_ret
      exact ⟨ret_bool hr2.out, B9.out⟩
    · skip
      cases qs
      · go_big_quiet_want; refine quiet_val (.agg #[.int .i64 xs, .int .i64 xp, v]) (fun _ hC => by have hq := hC.2.la; unfold ov oc at hq; unfold Oper.quietAt Oper.quietUpon; go_simp) ?_; go_simp; try go_big_quiet_on
        go_big_quiet_want; refine quiet_val (.bool true) (fun _ hC => by unfold Oper.quietAt Oper.quietUpon; go_simp; exact hC.told (hx.out _ hC.1)) ?_; go_simp; try go_big_quiet_on
        go_big_quiet_want; go_big_quiet_op; go_big_quiet_on
        go_big_quiet_want; refine quiet_val (.agg #[.int .i64 ys, .int .i64 yp, u]) (fun _ hC => by have hq := hC.2.lb; unfold ov oc at hq; unfold Oper.quietAt Oper.quietUpon; go_simp) ?_; go_simp; try go_big_quiet_on
        go_big_quiet_want; refine quiet_val (.bool true) (fun _ hC => by unfold Oper.quietAt Oper.quietUpon; go_simp; exact hC.told (hy.out _ hC.1)) ?_; go_simp; try go_big_quiet_on
        go_big_quiet_want; refine quiet_val (.bool true) (fun _ _ => by unfold Oper.quietAt Oper.quietUpon; go_simp) ?_; go_simp; try go_big_quiet_on
        go_big_quiet_want; refine quiet_val (.bool true) (fun _ _ => by unfold Oper.quietAt Oper.quietUpon; go_simp) ?_; go_simp; try go_big_quiet_on
        go_big_quiet_want; refine quiet_val (.pointer (some ⟨w.heap.size, 0, none⟩)) (fun _ _ => by unfold Oper.quietAt Oper.quietUpon; go_simp) ?_; go_simp; try go_big_quiet_on
        go_big_quiet_want; refine quiet_val (.int .i64 xs) (fun _ hC => by have hq := hC.2.a0; unfold Oper.quietAt Oper.quietUpon; go_simp) ?_; go_simp; try go_big_quiet_on
        go_big_quiet_want; refine quiet_val (.pointer (some ⟨w.heap.size + 1, 0, none⟩)) (fun _ _ => by unfold Oper.quietAt Oper.quietUpon; go_simp) ?_; go_simp; try go_big_quiet_on
        go_big_quiet_want; refine quiet_val (.int .i64 ys) (fun _ hC => by have hq := hC.2.b0; unfold Oper.quietAt Oper.quietUpon; go_simp) ?_; go_simp; try go_big_quiet_on
        go_big_quiet_want; refine quiet_val (.bool false) (fun _ _ => by have hq := hqs.out; unfold Oper.quietAt Oper.quietUpon; go_simp; all_goals (first | exact hq | exact of_decide_eq_true hq | exact of_decide_eq_false hq | (have := of_decide_eq_true hq; omega) | (have := of_decide_eq_false hq; omega))) ?_; go_simp; try go_big_quiet_on
        go_big_quiet_want; refine quiet_val (.bool false) (fun _ _ => by unfold Oper.quietAt Oper.quietUpon; go_simp) ?_; go_simp; try go_big_quiet_on
        go_big_quiet_want; refine quiet_val (.bool false) (fun _ _ => by unfold Oper.quietAt Oper.quietUpon; go_simp) ?_; go_simp; try go_big_quiet_on
        go_big_quiet_skip
        go_big_quiet_skip
        go_big_quiet_skip
        go_big_quiet_skip
        go_big_quiet_skip
        go_big_quiet_want; refine quiet_val (.bool false) (fun _ _ => by unfold Oper.quietAt Oper.quietUpon; go_simp) ?_; go_simp; try go_big_quiet_on
        go_big_quiet_want; refine quiet_val (.bool false) (fun _ _ => by unfold Oper.quietAt Oper.quietUpon; go_simp) ?_; go_simp; try go_big_quiet_on
        go_big_quiet_skip
        go_big_quiet_skip
        go_big_quiet_skip
        go_big_quiet_skip
        go_big_quiet_skip
        go_big_quiet_want; refine quiet_val (.bool false) (fun _ _ => by unfold Oper.quietAt Oper.quietUpon; go_simp) ?_; go_simp; try go_big_quiet_on
        go_big_quiet_want; refine quiet_val (.bool false) (fun _ _ => by unfold Oper.quietAt Oper.quietUpon; go_simp) ?_; go_simp; try go_big_quiet_on
        refine wpQuiet_nil ?_
        intro w9 hC
        have B9 := Lib.hid hC.1
        go_wp2_with fail
        go_ret
        exact ⟨ret_bool hr2.out, B9.out⟩
      · skip
        cases q1
        · go_big_quiet_want; refine quiet_val (.agg #[.int .i64 xs, .int .i64 xp, v]) (fun _ hC => by have hq := hC.2.la; unfold ov oc at hq; unfold Oper.quietAt Oper.quietUpon; go_simp) ?_; go_simp; try go_big_quiet_on
          go_big_quiet_want; refine quiet_val (.bool true) (fun _ hC => by unfold Oper.quietAt Oper.quietUpon; go_simp; exact hC.told (hx.out _ hC.1)) ?_; go_simp; try go_big_quiet_on
          go_big_quiet_want; go_big_quiet_op; go_big_quiet_on
          go_big_quiet_want; refine quiet_val (.agg #[.int .i64 ys, .int .i64 yp, u]) (fun _ hC => by have hq := hC.2.lb; unfold ov oc at hq; unfold Oper.quietAt Oper.quietUpon; go_simp) ?_; go_simp; try go_big_quiet_on
          go_big_quiet_want; refine quiet_val (.bool true) (fun _ hC => by unfold Oper.quietAt Oper.quietUpon; go_simp; exact hC.told (hy.out _ hC.1)) ?_; go_simp; try go_big_quiet_on
          go_big_quiet_want; refine quiet_val (.bool true) (fun _ _ => by unfold Oper.quietAt Oper.quietUpon; go_simp) ?_; go_simp; try go_big_quiet_on
          go_big_quiet_want; refine quiet_val (.bool true) (fun _ _ => by unfold Oper.quietAt Oper.quietUpon; go_simp) ?_; go_simp; try go_big_quiet_on
          go_big_quiet_want; refine quiet_val (.pointer (some ⟨w.heap.size, 0, none⟩)) (fun _ _ => by unfold Oper.quietAt Oper.quietUpon; go_simp) ?_; go_simp; try go_big_quiet_on
          go_big_quiet_want; refine quiet_val (.int .i64 xs) (fun _ hC => by have hq := hC.2.a0; unfold Oper.quietAt Oper.quietUpon; go_simp) ?_; go_simp; try go_big_quiet_on
          go_big_quiet_want; refine quiet_val (.pointer (some ⟨w.heap.size + 1, 0, none⟩)) (fun _ _ => by unfold Oper.quietAt Oper.quietUpon; go_simp) ?_; go_simp; try go_big_quiet_on
          go_big_quiet_want; refine quiet_val (.int .i64 ys) (fun _ hC => by have hq := hC.2.b0; unfold Oper.quietAt Oper.quietUpon; go_simp) ?_; go_simp; try go_big_quiet_on
          go_big_quiet_want; refine quiet_val (.bool true) (fun _ _ => by have hq := hqs.out; unfold Oper.quietAt Oper.quietUpon; go_simp; all_goals (first | exact hq | exact of_decide_eq_true hq | exact of_decide_eq_false hq | (have := of_decide_eq_true hq; omega) | (have := of_decide_eq_false hq; omega))) ?_; go_simp; try go_big_quiet_on
          go_big_quiet_want; refine quiet_val (.bool true) (fun _ _ => by unfold Oper.quietAt Oper.quietUpon; go_simp) ?_; go_simp; try go_big_quiet_on
          go_big_quiet_want; refine quiet_val (.bool true) (fun _ _ => by unfold Oper.quietAt Oper.quietUpon; go_simp) ?_; go_simp; try go_big_quiet_on
          go_big_quiet_want; refine quiet_val (.pointer (some ⟨w.heap.size, 1, none⟩)) (fun _ _ => by unfold Oper.quietAt Oper.quietUpon; go_simp) ?_; go_simp; try go_big_quiet_on
          go_big_quiet_want; refine quiet_val (.int .i64 xp) (fun _ hC => by have hq := hC.2.a1; unfold Oper.quietAt Oper.quietUpon; go_simp) ?_; go_simp; try go_big_quiet_on
          go_big_quiet_want; refine quiet_val (.agg #[.int .i64 ys, .int .i64 yp, u]) (fun _ hC => by have hq := hC.2.lb; unfold ov oc at hq; unfold Oper.quietAt Oper.quietUpon; go_simp) ?_; go_simp; try go_big_quiet_on
          go_big_quiet_want; refine quiet_val (.int .i64 ye) (fun _ hC => by unfold Oper.quietAt Oper.quietUpon; go_simp; exact hC.told (ey.out _ hC.1 rfl)) ?_; go_simp; try go_big_quiet_on
          go_big_quiet_want; refine quiet_val (.bool false) (fun _ _ => by have hq := hq1.out; unfold Oper.quietAt Oper.quietUpon; go_simp; all_goals (first | exact hq | exact of_decide_eq_true hq | exact of_decide_eq_false hq | (have := of_decide_eq_true hq; omega) | (have := of_decide_eq_false hq; omega))) ?_; go_simp; try go_big_quiet_on
          go_big_quiet_want; refine quiet_val (.bool false) (fun _ _ => by unfold Oper.quietAt Oper.quietUpon; go_simp) ?_; go_simp; try go_big_quiet_on
          go_big_quiet_want; refine quiet_val (.bool false) (fun _ _ => by unfold Oper.quietAt Oper.quietUpon; go_simp) ?_; go_simp; try go_big_quiet_on
          go_big_quiet_skip
          go_big_quiet_skip
          go_big_quiet_skip
          go_big_quiet_skip
          go_big_quiet_skip
          go_big_quiet_want; refine quiet_val (.bool false) (fun _ _ => by unfold Oper.quietAt Oper.quietUpon; go_simp) ?_; go_simp; try go_big_quiet_on
          go_big_quiet_want; refine quiet_val (.bool false) (fun _ _ => by unfold Oper.quietAt Oper.quietUpon; go_simp) ?_; go_simp; try go_big_quiet_on
          refine wpQuiet_nil ?_
          intro w9 hC
          have B9 := Lib.hid hC.1
          go_wp2_with fail
          go_ret
          exact ⟨ret_bool hr2.out, B9.out⟩
        · skip
          go_big_quiet_want; refine quiet_val (.agg #[.int .i64 xs, .int .i64 xp, v]) (fun _ hC => by have hq := hC.2.la; unfold ov oc at hq; unfold Oper.quietAt Oper.quietUpon; go_simp) ?_; go_simp; try go_big_quiet_on
          go_big_quiet_want; refine quiet_val (.bool true) (fun _ hC => by unfold Oper.quietAt Oper.quietUpon; go_simp; exact hC.told (hx.out _ hC.1)) ?_; go_simp; try go_big_quiet_on
          go_big_quiet_want; go_big_quiet_op; go_big_quiet_on
          go_big_quiet_want; refine quiet_val (.agg #[.int .i64 ys, .int .i64 yp, u]) (fun _ hC => by have hq := hC.2.lb; unfold ov oc at hq; unfold Oper.quietAt Oper.quietUpon; go_simp) ?_; go_simp; try go_big_quiet_on
          go_big_quiet_want; refine quiet_val (.bool true) (fun _ hC => by unfold Oper.quietAt Oper.quietUpon; go_simp; exact hC.told (hy.out _ hC.1)) ?_; go_simp; try go_big_quiet_on
          go_big_quiet_want; refine quiet_val (.bool true) (fun _ _ => by unfold Oper.quietAt Oper.quietUpon; go_simp) ?_; go_simp; try go_big_quiet_on
          go_big_quiet_want; refine quiet_val (.bool true) (fun _ _ => by unfold Oper.quietAt Oper.quietUpon; go_simp) ?_; go_simp; try go_big_quiet_on
          go_big_quiet_want; refine quiet_val (.pointer (some ⟨w.heap.size, 0, none⟩)) (fun _ _ => by unfold Oper.quietAt Oper.quietUpon; go_simp) ?_; go_simp; try go_big_quiet_on
          go_big_quiet_want; refine quiet_val (.int .i64 xs) (fun _ hC => by have hq := hC.2.a0; unfold Oper.quietAt Oper.quietUpon; go_simp) ?_; go_simp; try go_big_quiet_on
          go_big_quiet_want; refine quiet_val (.pointer (some ⟨w.heap.size + 1, 0, none⟩)) (fun _ _ => by unfold Oper.quietAt Oper.quietUpon; go_simp) ?_; go_simp; try go_big_quiet_on
          go_big_quiet_want; refine quiet_val (.int .i64 ys) (fun _ hC => by have hq := hC.2.b0; unfold Oper.quietAt Oper.quietUpon; go_simp) ?_; go_simp; try go_big_quiet_on
          go_big_quiet_want; refine quiet_val (.bool true) (fun _ _ => by have hq := hqs.out; unfold Oper.quietAt Oper.quietUpon; go_simp; all_goals (first | exact hq | exact of_decide_eq_true hq | exact of_decide_eq_false hq | (have := of_decide_eq_true hq; omega) | (have := of_decide_eq_false hq; omega))) ?_; go_simp; try go_big_quiet_on
          go_big_quiet_want; refine quiet_val (.bool true) (fun _ _ => by unfold Oper.quietAt Oper.quietUpon; go_simp) ?_; go_simp; try go_big_quiet_on
          go_big_quiet_want; refine quiet_val (.bool true) (fun _ _ => by unfold Oper.quietAt Oper.quietUpon; go_simp) ?_; go_simp; try go_big_quiet_on
          go_big_quiet_want; refine quiet_val (.pointer (some ⟨w.heap.size, 1, none⟩)) (fun _ _ => by unfold Oper.quietAt Oper.quietUpon; go_simp) ?_; go_simp; try go_big_quiet_on
          go_big_quiet_want; refine quiet_val (.int .i64 xp) (fun _ hC => by have hq := hC.2.a1; unfold Oper.quietAt Oper.quietUpon; go_simp) ?_; go_simp; try go_big_quiet_on
          go_big_quiet_want; refine quiet_val (.agg #[.int .i64 ys, .int .i64 yp, u]) (fun _ hC => by have hq := hC.2.lb; unfold ov oc at hq; unfold Oper.quietAt Oper.quietUpon; go_simp) ?_; go_simp; try go_big_quiet_on
          go_big_quiet_want; refine quiet_val (.int .i64 ye) (fun _ hC => by unfold Oper.quietAt Oper.quietUpon; go_simp; exact hC.told (ey.out _ hC.1 rfl)) ?_; go_simp; try go_big_quiet_on
          go_big_quiet_want; refine quiet_val (.bool true) (fun _ _ => by have hq := hq1.out; unfold Oper.quietAt Oper.quietUpon; go_simp; all_goals (first | exact hq | exact of_decide_eq_true hq | exact of_decide_eq_false hq | (have := of_decide_eq_true hq; omega) | (have := of_decide_eq_false hq; omega))) ?_; go_simp; try go_big_quiet_on
          go_big_quiet_want; refine quiet_val (.bool true) (fun _ _ => by unfold Oper.quietAt Oper.quietUpon; go_simp) ?_; go_simp; try go_big_quiet_on
          go_big_quiet_want; refine quiet_val (.bool true) (fun _ _ => by unfold Oper.quietAt Oper.quietUpon; go_simp) ?_; go_simp; try go_big_quiet_on
          go_big_quiet_want; refine quiet_val (.pointer (some ⟨w.heap.size + 1, 1, none⟩)) (fun _ _ => by unfold Oper.quietAt Oper.quietUpon; go_simp) ?_; go_simp; try go_big_quiet_on
          go_big_quiet_want; refine quiet_val (.int .i64 yp) (fun _ hC => by have hq := hC.2.b1; unfold Oper.quietAt Oper.quietUpon; go_simp) ?_; go_simp; try go_big_quiet_on
          go_big_quiet_want; refine quiet_val (.agg #[.int .i64 xs, .int .i64 xp, v]) (fun _ hC => by have hq := hC.2.la; unfold ov oc at hq; unfold Oper.quietAt Oper.quietUpon; go_simp) ?_; go_simp; try go_big_quiet_on
          go_big_quiet_want; refine quiet_val (.int .i64 xe) (fun _ hC => by unfold Oper.quietAt Oper.quietUpon; go_simp; exact hC.told (ex.out _ hC.1 rfl)) ?_; go_simp; try go_big_quiet_on
          go_big_quiet_want; refine quiet_val (.bool q2) (fun _ _ => by have hq := hq2.out; unfold Oper.quietAt Oper.quietUpon; go_simp; all_goals (first | exact hq | exact of_decide_eq_true hq | exact of_decide_eq_false hq | (have := of_decide_eq_true hq; omega) | (have := of_decide_eq_false hq; omega))) ?_; go_simp; try go_big_quiet_on
          go_big_quiet_want; refine quiet_val (.bool q2) (fun _ _ => by unfold Oper.quietAt Oper.quietUpon; go_simp) ?_; go_simp; try go_big_quiet_on
          go_big_quiet_want; refine quiet_val (.bool q2) (fun _ _ => by unfold Oper.quietAt Oper.quietUpon; go_simp) ?_; go_simp; try go_big_quiet_on
          refine wpQuiet_nil ?_
          intro w9 hC
          have B9 := Lib.hid hC.1
          go_wp2_with fail
          go_ret
          exact ⟨ret_bool hr2.out, B9.out⟩
end Go.Proofs.Ytcmomnfefaolaaa
