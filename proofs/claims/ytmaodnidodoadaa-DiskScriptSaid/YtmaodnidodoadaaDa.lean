/-
  An act of both disks: Arm.
-/
import Derived.Test.YtmaodnidodoadaaDn
import Derived.Deep.RegionHeld3
namespace Go.Proofs.Ytmaodnidodoadaa
open Go.RowKit BigFrame

set_option maxRecDepth 100000 in
set_option maxHeartbeats 2000000 in
theorem done_arm (w0 w : World) (G : Nat) (A : Lies) (d d1 : Dk) (H : Nat) (C : RLies) (b : Both w0 w G A d H C d) (x y z : Int) (sh : Bool) (ka : Option Addr) (nk kcap : Nat)
    (h1 : ∀ w' A', Both w0 w' G A' d H C d → Calls Try.prog 31 #[.pointer (some ⟨G, 0, none⟩), .int .i64 y, .slice ka nk kcap] w' (GivesS (.int .i64 z) d1 w0.heap.size G A' w'))
    (h2 : ∀ w' A', Both w0 w' G A' d1 H C d → Calls Try.prog 32 #[.pointer (some ⟨H, 0, none⟩), .int .i64 y, .slice ka nk kcap] w' (GivesRf (.int .i64 z) d1 w0.heap.size H C (A'.foot G) w')) :
    Calls Try.prog 7 #[.pointer (some ⟨G, 0, none⟩), .pointer (some ⟨H, 0, none⟩), .agg #[.int .i64 3, .int .i64 x, .int .i64 y, .bool sh, .slice ka nk kcap]] w (GivesBo w0 G H d1) := by
  have b0 := Lib.hid ((b.read ((Below.refl w.heap.size w).alloc (Nat.le_refl _) (.cells #[.int .i64 3, .int .i64 x, .int .i64 y, .bool sh, .slice ka nk kcap] 30))).drewN (m := 1))
  have k2 : (w.alloc (.cells #[.int .i64 3, .int .i64 x, .int .i64 y, .bool sh, .slice ka nk kcap] 30)).cell? ⟨w.heap.size, 2, none⟩ = some (.int .i64 y) := cell_of_row _ _ 2 _ _ _ (heap_alloc_new _ _)
  have k4 : (w.alloc (.cells #[.int .i64 3, .int .i64 x, .int .i64 y, .bool sh, .slice ka nk kcap] 30)).cell? ⟨w.heap.size, 4, none⟩ = some (.slice ka nk kcap) := cell_of_row _ _ 4 _ _ _ (heap_alloc_new _ _)
  have hoff := Lib.hid (b.live.fresh (w' := (w.alloc (.cells #[.int .i64 3, .int .i64 x, .int .i64 y, .bool sh, .slice ka nk kcap] 30))) (Nat.le_refl _) (by simp))
  have hoff2 := Lib.hid (show w.heap.size ∉ C.foot H from fun e => by have := (b.ref.over _ e).2.2; omega)
  have h1' := Lib.hid h1
  have h2' := Lib.hid h2
  clear b h1 h2
  go_enter Try.func7, Try.ntmps7
  go_wp2_with fail
  go_region_held3 (fun w' => w'.cell? ⟨w.heap.size, 2, none⟩ = some (.int .i64 y) ∧ w'.cell? ⟨w.heap.size, 4, none⟩ = some (.slice ka nk kcap)) (first | exact ⟨cell_drew1 k2, cell_drew1 k4⟩ | exact ⟨m2, m4⟩ | exact ⟨l2, l4⟩) (first | (go_at_call 31; refine (h1'.out _ A b0.out).mono ?_; rintro e w1 ⟨rfl, A1, hD1, hS1⟩; have b1 := Lib.hid (b0.out.disk hD1 hS1); have l2 : w1.cell? ⟨w.heap.size, 2, none⟩ = some (.int .i64 y) := ((World.cell?_of_block (a := ⟨w.heap.size, 2, none⟩) (hS1.same hoff.out)).trans k2); have l4 : w1.cell? ⟨w.heap.size, 4, none⟩ = some (.slice ka nk kcap) := ((World.cell?_of_block (a := ⟨w.heap.size, 4, none⟩) (hS1.same hoff.out)).trans k4); have o1 := Lib.hid (hS1.off hoff.out); clear hD1 hS1) | (go_at_call 32; refine (h2'.out _ A1 b1.out).mono ?_; rintro e w2 ⟨rfl, C2, hD2, hS2⟩; have b2 := Lib.hid (b1.out.doc hD2 hS2); have m2 : w2.cell? ⟨w.heap.size, 2, none⟩ = some (.int .i64 y) := ((World.cell?_of_block (a := ⟨w.heap.size, 2, none⟩) (hS2.same ⟨hoff2.out, o1.out.2⟩)).trans l2); have m4 : w2.cell? ⟨w.heap.size, 4, none⟩ = some (.slice ka nk kcap) := ((World.cell?_of_block (a := ⟨w.heap.size, 4, none⟩) (hS2.same ⟨hoff2.out, o1.out.2⟩)).trans l4); clear hD2 hS2))
  go_wp2_with fail
  go_ret
  exact ⟨by simp, A1, C2, b2.out⟩
set_option maxRecDepth 100000 in
set_option maxHeartbeats 1000000 in
/-- an act that is none -/
theorem done_none (w0 w : World) (G : Nat) (A : Lies) (d : Dk) (H : Nat) (C : RLies) (b : Both w0 w G A d H C d) (k x y : Int) (sh : Bool) (v : Value) (hk : k < 0 ∨ 5 < k) :
    Calls Try.prog 7 #[.pointer (some ⟨G, 0, none⟩), .pointer (some ⟨H, 0, none⟩), .agg #[.int .i64 k, .int .i64 x, .int .i64 y, .bool sh, v]] w (GivesBo w0 G H d) := by
  have b0 := Lib.hid (b.read ((Below.refl w.heap.size w).alloc (Nat.le_refl _) (.cells #[.int .i64 k, .int .i64 x, .int .i64 y, .bool sh, v] 30)))
  have t0 : decide (k = 0) = false := decide_eq_false (by omega)
  have t1 : decide (k = 1) = false := decide_eq_false (by omega)
  have t2 : decide (k = 2) = false := decide_eq_false (by omega)
  have t3 : decide (k = 3) = false := decide_eq_false (by omega)
  have t4 : decide (k = 4) = false := decide_eq_false (by omega)
  have t5 : decide (k = 5) = false := decide_eq_false (by omega)
  clear b
  go_enter Try.func7, Try.ntmps7
  go_wp2_with fail
  go_ret
  exact ⟨rfl, A, C, b0.out⟩
end Go.Proofs.Ytmaodnidodoadaa
