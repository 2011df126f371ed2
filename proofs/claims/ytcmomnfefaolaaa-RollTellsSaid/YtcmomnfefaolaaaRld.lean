/-
  Do two objects touch? The document's own.
-/
import Derived.Test.YtcmomnfefaolaaaRlc
namespace Go.Proofs.Ytcmomnfefaolaaa
open Go.RowKit BigFrame
set_option maxRecDepth 100000
attribute [local go_sem ↓] ldO_of
section
variable {g h : Nat} {x y : Ob} {v u : Value} {w w' : World}
theorem heldS.all (k : heldS g h x v y u w) : ((ldA 37 (.pointer (some ⟨g, 0, none⟩))).run Try.prog w = .ok (.agg #[.int .i64 x.s, .int .i64 x.p, v]) w ∧ (ldA 37 (.pointer (some ⟨h, 0, none⟩))).run Try.prog w = .ok (.agg #[.int .i64 y.s, .int .i64 y.p, u]) w) ∧
    w.cell? ⟨g, 0, none⟩ = some (.int .i64 x.s) ∧ w.cell? ⟨g, 1, none⟩ = some (.int .i64 x.p) ∧ w.cell? ⟨g, 2, none⟩ = some v ∧ w.cell? ⟨h, 0, none⟩ = some (.int .i64 y.s) ∧ w.cell? ⟨h, 1, none⟩ = some (.int .i64 y.p) ∧ w.cell? ⟨h, 2, none⟩ = some u :=
  ⟨⟨k.la, k.lb⟩, k.a0, k.a1, k.a2, k.b0, k.b1, k.b2⟩
end
theorem heldS.low0 (w : World) (x : Ob) (v : Value) (y : Ob) (u : Value) : Below w.heap.size w (boxes w x v y u) := by
  have hb := ((Below.refl w.heap.size w).alloc (Nat.le_refl _) (.cells (oc x v).toArray 37))
  exact hb.alloc hb.size (.cells (oc y u).toArray 37)
set_option maxHeartbeats 4000000 in
theorem refTouch_c (x y : Ob) (v u : Value) (w : World) (hs : SlB w v x.b) (hu : SlB w u y.b) (hl : x.b.length ≤ 100000) (hm : y.b.length ≤ 100000) : Calls Try.prog 21 #[ov x v, ov y u] w (Tells (.bool (touchO x y)) w) := by
  have hS := Lib.hid hs
  have hU := Lib.hid hu
  obtain ⟨r, hr⟩ : ∃ r, touchO x y = r := ⟨_, rfl⟩
  rw [hr]
  have W2 := Lib.hid (show heldS w.heap.size (w.heap.size + 1) x v y u (boxes w x v y u) from heldS.new w x v y u)
  have B2 := Lib.hid (show Below w.heap.size w (boxes w x v y u) from heldS.low0 w x v y u)
  have hx := Lib.hid (fun w' (hb : Below w.heap.size w w') => refMay_c x v w' (hS.out.on hb) hl)
  have hy := Lib.hid (fun w' (hb : Below w.heap.size w w') => refMay_c y u w' (hU.out.on hb) hm)
  have ox := @mayO_is x
  have oy := @mayO_is y
  have hr2 : (mayO x && (mayO y && (decide (x.s = y.s) && (decide (x.p < y.p + (y.b.length : Int)) && decide (y.p < x.p + (x.b.length : Int)))))) = r := by
    rw [← hr]
    unfold touchO
    cases mayO x <;> cases mayO y <;> simp [Bool.decide_and]
  obtain ⟨mx, hmx⟩ : ∃ m, mayO x = m := ⟨_, rfl⟩
  obtain ⟨my, hmy⟩ : ∃ m, mayO y = m := ⟨_, rfl⟩
  rw [hmx, hmy] at hr2
  rw [hmx] at hx ox
  rw [hmy] at hy oy
  have W3 := Lib.hid (fun w' (h : heldS w.heap.size (w.heap.size + 1) x v y u w') => h.all)
  obtain ⟨a1, cap1, rfl, -⟩ := hs
  obtain ⟨a2, cap2, rfl, -⟩ := hu
  obtain ⟨xs, xp, xb⟩ := x
  obtain ⟨ys, yp, yb⟩ := y
  simp only at hr2 hl hm ox oy
  have hox := Lib.hid ox
  have hoy := Lib.hid oy
  unfold boxes at W2 B2
  have c0 := W3.out _ W2.out
  unfold ov oc at *
  obtain ⟨xn, hxn⟩ : ∃ n, xb.length = n := ⟨_, rfl⟩
  obtain ⟨yn, hyn⟩ : ∃ n, yb.length = n := ⟨_, rfl⟩
  simp only [hxn, hyn] at *
  have hr2 := Lib.hid hr2
  clear hr hmx hmy ox oy hxn hyn
  go_enter Try.func21, Try.ntmps21
  go_upto_region 1 with fail
  generalize ((w.alloc (.cells #[.int .i64 xs, .int .i64 xp, .slice a1 xn cap1] 37)).alloc (.cells #[.int .i64 ys, .int .i64 yp, .slice a2 yn cap2] 37)) = wb at W2 B2 c0 ⊢
  obtain ⟨⟨c1, c2⟩, c3, c4, c5, c6, c7, c8⟩ := c0
  cases mx
  · go_wp2_with ((go_at_call 19; refine (hx.out _ B2.out).mono ?_; rintro e w3 ⟨rfl, hb3⟩; have B3 := Lib.hid (B2.out.trans (hb3.mono B2.out.size)); clear hb3))
    go_ret
    exact ⟨ret_bool hr2.out, B3.out⟩
  · cases my
    · have tk : True := trivial
      go_wp2_with (first
        | (clear tk; go_at_call 19; refine (hx.out _ B2.out).mono ?_; rintro e w3 ⟨rfl, hb3⟩; have V3 := Lib.hid (W2.out.on hb3); obtain ⟨⟨d1, d2⟩, d3, d4, d5, d6, d7, d8⟩ := W3.out _ V3.out; have B3 := Lib.hid (B2.out.trans (hb3.mono B2.out.size)); clear hb3)
        | (go_at_call 19; refine (hy.out _ B3.out).mono ?_; rintro e w4 ⟨rfl, hb4⟩; have B4 := Lib.hid (B3.out.trans (hb4.mono B3.out.size)); clear hb4))
      go_ret
      exact ⟨ret_bool hr2.out, B4.out⟩
    · obtain ⟨-, bx1, bx2, bx3⟩ := hox.out.1 rfl
      obtain ⟨-, by1, by2, by3⟩ := hoy.out.1 rfl
      have tk : True := trivial
      go_wp2_with (first
        | (clear tk; go_at_call 19; refine (hx.out _ B2.out).mono ?_; rintro e w3 ⟨rfl, hb3⟩; have V3 := Lib.hid (W2.out.on hb3); obtain ⟨⟨d1, d2⟩, d3, d4, d5, d6, d7, d8⟩ := W3.out _ V3.out; have B3 := Lib.hid (B2.out.trans (hb3.mono B2.out.size)); clear hb3)
        | (go_at_call 19; refine (hy.out _ B3.out).mono ?_; rintro e w4 ⟨rfl, hb4⟩; have V4 := Lib.hid (V3.out.on hb4); obtain ⟨⟨f1, f2⟩, f3, f4, f5, f6, f7, f8⟩ := W3.out _ V4.out; have B4 := Lib.hid (B3.out.trans (hb4.mono B3.out.size)); clear hb4))
      all_goals
        go_ret
        refine ⟨ret_bool ?_, B4.out⟩
        rw [← hr2.out]
        simp only [Bool.true_and]
        first | (simp_all; done) | (simp; omega)
end Go.Proofs.Ytcmomnfefaolaaa
