/-
  An act of both disks: Write.
-/
import Derived.Test.YtmaodnidodoadaaDr
import Derived.Test.YtmaodnidodoadaaFi
import Derived.Test.YtmaodnidodoadaaKb
import Derived.Deep.RegionHeld3
import Derived.Deep.DrawnRows
namespace Go.Proofs.Ytmaodnidodoadaa
open Go.RowKit BigFrame

/-- what was lent is a slice of one's own, with room behind it -/
theorem row_lent {w : World} {g base n : Nat} {l : List Nat} (h : Row w g (marked l)) (hn : l.length = n) (hl : n ≤ 100000) (hb : base ≤ g) : OwnB w base (.slice (some ⟨g, 0, none⟩) n (n + 3)) l := by
  subst hn
  refine ⟨by simp [bv], .inr ⟨g, l.length + 3, (bv (marked l)).toArray, rfl, hb, h, by omega, by unfold maxLen; omega, by simp [bv, marked], ?_⟩⟩
  simp [bv, marked]
theorem Row.front {w : World} {g : Nat} {l : List Nat} (h : Row w g (marked l)) : BAt w (some ⟨g, 0, none⟩) l := h.bat_front
theorem step_lent {w w1 w2 : World} {F F' : List Nat} {g : Nat} (h : Step w F w1 F') (hg : w1.grownBy w2 (some g)) (hw : w.heap.size ≤ g) : Step w F w2 F' :=
  ⟨hg.os.trans h.os, hg.tape.trans h.tape, hg.output.trans h.output, Nat.le_trans h.size hg.size, fun k hk hf => (hg.block k (Nat.lt_of_lt_of_le hk h.size) (by intro e; have := Option.some.inj e; omega)).trans (h.block k hk hf), h.foot⟩
theorem dk_grown {w1 w2 : World} {B G g : Nat} {A : Lies} {d : Dk} (h : IsDk w1 B G A d) (hg : w1.grownBy w2 (some g)) (ho : g ∉ A.foot G) : IsDk w2 B G A d :=
  IsDkS.carry h hg.size (fun k hk => hg.block k (IsDkS.over h k hk).2 (by intro e; have := Option.some.inj e; subst this; exact ho hk))

set_option maxRecDepth 100000 in
set_option maxHeartbeats 2000000 in
theorem done_write (w0 w : World) (G : Nat) (A : Lies) (d d1 : Dk) (H : Nat) (C : RLies) (b : Both w0 w G A d H C d) (x y z : Int) (sh : Bool) (v : Value) (m : Nat) (L : List Nat) (hm : (bif sh then 127 else 128) = m) (hL : fillN y m = L)
    (h1 : ∀ w' g, Both w0 w' G A d H C d → Off w' (A.foot G) g → BAt w' (some ⟨g, 0, none⟩) L → Calls Try.prog 19 #[.pointer (some ⟨G, 0, none⟩), .int .i64 x, .slice (some ⟨g, 0, none⟩) m (m + 3)] w' (GivesS (.int .i64 z) d1 w0.heap.size G A w'))
    (h2 : ∀ w' A' g cap, Both w0 w' G A' d1 H C d → Off w' (C.foot H) g → BAt w' (some ⟨g, 0, none⟩) L → Calls Try.prog 28 #[.pointer (some ⟨H, 0, none⟩), .int .i64 x, .slice (some ⟨g, 0, none⟩) m cap] w' (GivesRf (.int .i64 z) d1 w0.heap.size H C (A'.foot G) w')) :
    Calls Try.prog 7 #[.pointer (some ⟨G, 0, none⟩), .pointer (some ⟨H, 0, none⟩), .agg #[.int .i64 1, .int .i64 x, .int .i64 y, .bool sh, v]] w (GivesBo w0 G H d1) := by
  obtain ⟨wb, hwb⟩ : ∃ wb, (w.alloc (.cells #[.int .i64 1, .int .i64 x, .int .i64 y, .bool sh, v] 30)) = wb := ⟨_, rfl⟩
  have b0 := Lib.hid (show Both w0 wb G A d H C d by rw [← hwb]; exact b.read ((Below.refl w.heap.size w).alloc (Nat.le_refl _) _))
  have k0 : wb.cell? ⟨w.heap.size, 0, none⟩ = some (.int .i64 1) := by rw [← hwb]; exact cell_of_row _ _ 0 _ _ _ (heap_alloc_new _ _)
  have k1 : wb.cell? ⟨w.heap.size, 1, none⟩ = some (.int .i64 x) := by rw [← hwb]; exact cell_of_row _ _ 1 _ _ _ (heap_alloc_new _ _)
  have k2 : wb.cell? ⟨w.heap.size, 2, none⟩ = some (.int .i64 y) := by rw [← hwb]; exact cell_of_row _ _ 2 _ _ _ (heap_alloc_new _ _)
  have k3 : wb.cell? ⟨w.heap.size, 3, none⟩ = some (.bool sh) := by rw [← hwb]; exact cell_of_row _ _ 3 _ _ _ (heap_alloc_new _ _)
  have hs := Lib.hid (show w.heap.size < wb.heap.size by rw [← hwb]; simp)
  have hoff := Lib.hid (show Off wb (A.foot G) w.heap.size from b.live.fresh (Nat.le_refl _) hs.out)
  have hoff2 := Lib.hid (show w.heap.size ∉ C.foot H from fun e => by have := (b.ref.over _ e).2.2; omega)
  have h1' := Lib.hid h1
  have h2' := Lib.hid h2
  have hL' := Lib.hid hL
  have hm0 : 0 < m := by rw [← hm]; cases sh <;> decide
  have hm1 : m ≤ 128 := by rw [← hm]; cases sh <;> decide
  have hLm := Lib.hid (show L.length = m by rw [← hL]; exact fillN_length _ _)
  have hm' := Lib.hid hm
  subst hwb
  clear b h1 h2 hL hm
  go_enter Try.func7, Try.ntmps7
  cases sh
  · obtain rfl : m = 128 := hm'.out.symm
    go_wp2_with (go_at_call 20; refine (fill_c y _ 128 _ rfl (by omega)).mono ?_; rw [hL'.out]; rintro e w2 ⟨v2, rfl, ho2, hb2⟩; obtain ⟨g2, cap2, rfl, hc2, hg2, hlt2⟩ := ho2.at hLm.out hm0; have X2 := Lib.hid ho2.bat; have b2 := Lib.hid (b0.out.read hb2); have B2 := Lib.hid hb2; have f2 := Lib.hid ((Step.of_below hb2 (A.foot G)).off hoff.out); clear ho2 hb2)
    go_wp2_with (go_at_call 26; refine (lend_any _ cap2 128 L _ hLm.out (by omega) X2.out (fun h => by cases h)).mono ?_; rintro e w3 ⟨g3, rfl, hg3, hr3, hb3⟩; have R3 := Lib.hid hr3; have b3 := Lib.hid (b2.out.read hb3); have B3 := Lib.hid (B2.out.trans (hb3.mono B2.out.size)); have S3 := Lib.hid (Step.of_below hb3 (A.foot G)); have o3 := Lib.hid (b2.out.live.fresh hg3 hr3.lt); have j1 : w3.cell? ⟨w.heap.size, 1, none⟩ = some (.int .i64 x) := (by rw [B3.out.cell (p := ⟨w.heap.size, 1, none⟩) hs.out]; exact k1); clear hr3 hb3 X2)
    go_wp2_with (go_at_call 19; refine (h1'.out _ g3 b3.out o3.out R3.out.front).mono ?_; rintro e w4 ⟨rfl, A1, hD4, hS4⟩; have D4 := Lib.hid hD4; have R4 := Lib.hid (show Row w4 g3 (marked L) by unfold Row; rw [hS4.same o3.out]; exact R3.out); have S4 := Lib.hid (S3.out.trans hS4); have o4 := Lib.hid (hS4.off o3.out); have i2 : w4.cell? ⟨w.heap.size, 2, none⟩ = some (.int .i64 y) := (by rw [World.cell?_of_block (w := w2) (a := ⟨w.heap.size, 2, none⟩) (S4.out.same f2.out), B2.out.cell (p := ⟨w.heap.size, 2, none⟩) hs.out]; exact k2); clear hD4 hS4 j1)
    go_wp2_with (go_at_call 20; refine (fill_c y _ 128 _ rfl (by omega)).mono ?_; rw [hL'.out]; rintro e w5 ⟨v5, rfl, ho5, hb5⟩; obtain ⟨g5, cap5, rfl, hc5, hg5, hlt5⟩ := ho5.at hLm.out hm0; have X5 := Lib.hid ho5.bat; have B5 := Lib.hid hb5; have R5 := Lib.hid (R4.out.on hb5 R4.out.lt); clear ho5 hb5 i2)
    go_wp2_with (go_at_call 27; refine (kept_b g3 cap5 128 _ L _ hLm.out (by omega) R5.out X5.out).mono ?_; rintro e w6 ⟨rfl, hb6⟩; have B6 := Lib.hid (B5.out.trans (hb6.mono B5.out.size)); have R6 := Lib.hid (R5.out.on hb6 R5.out.lt); clear hb6)
    go_wp2_with (go_at_call 16; refine (over_own g3 _ L _ (by rw [hLm.out]; omega) (row_lent R6.out hLm.out (by omega) (Nat.le_refl _))).mono ?_; rintro e w7 ⟨rfl, hg7⟩; have D7 := Lib.hid (dk_grown (IsDkS.on D4.out B6.out (Nat.le_refl _)) hg7 o4.out.1); have S7 := Lib.hid (step_lent (S4.out.more B6.out) hg7 hg3); have b7 := Lib.hid ((b2.out.disk D7.out S7.out).drewN (m := 1)); have l1 : w7.cell? ⟨w.heap.size, 1, none⟩ = some (.int .i64 x) := (by rw [World.cell?_of_block (w := w2) (a := ⟨w.heap.size, 1, none⟩) (S7.out.same f2.out), B2.out.cell (p := ⟨w.heap.size, 1, none⟩) hs.out]; exact k1); have l2 : w7.cell? ⟨w.heap.size, 2, none⟩ = some (.int .i64 y) := (by rw [World.cell?_of_block (w := w2) (a := ⟨w.heap.size, 2, none⟩) (S7.out.same f2.out), B2.out.cell (p := ⟨w.heap.size, 2, none⟩) hs.out]; exact k2); have z7 := Lib.hid (Nat.lt_of_lt_of_le hs.out (Nat.le_trans B2.out.size S7.out.size)); clear hg7)
    go_region_held3 (fun w' => w'.cell? ⟨w.heap.size, 1, none⟩ = some (.int .i64 x) ∧ w'.cell? ⟨w.heap.size, 2, none⟩ = some (.int .i64 y)) (first | exact ⟨cell_drew1 l1, cell_drew1 l2⟩ | exact ⟨m1, m2⟩ | exact ⟨n1, n2⟩) (first | (go_at_call 20; refine (fill_c y _ 128 _ rfl (by omega)).mono ?_; rw [hL'.out]; rintro e w8 ⟨v8, rfl, ho8, hb8⟩; obtain ⟨g8, cap8, rfl, hc8, hg8, hlt8⟩ := ho8.at hLm.out hm0; have X8 := Lib.hid ho8.bat; have b8 := Lib.hid (b7.out.read hb8); have m1 : w8.cell? ⟨w.heap.size, 1, none⟩ = some (.int .i64 x) := (by rw [hb8.cell (p := ⟨w.heap.size, 1, none⟩) z7.out]; exact l1); have m2 : w8.cell? ⟨w.heap.size, 2, none⟩ = some (.int .i64 y) := (by rw [hb8.cell (p := ⟨w.heap.size, 2, none⟩) z7.out]; exact l2); have o8 := Lib.hid (show Off w8 (C.foot H) g8 from ⟨fun e => by have := (b7.out.ref.over _ e).2.2; exact absurd hg8 (Nat.not_le.2 this), hlt8⟩); have zz8 := Lib.hid (show Off w8 (C.foot H) w.heap.size from ⟨hoff2.out, Nat.lt_of_lt_of_le z7.out hb8.size⟩); clear ho8 hb8) | (go_at_call 28; refine (h2'.out _ A1 g8 cap8 b8.out o8.out X8.out).mono ?_; rintro e w9 ⟨rfl, C9, hD9, hS9⟩; have b9 := Lib.hid (b8.out.doc hD9 hS9); have n1 : w9.cell? ⟨w.heap.size, 1, none⟩ = some (.int .i64 x) := ((World.cell?_of_block (a := ⟨w.heap.size, 1, none⟩) (hS9.same zz8.out)).trans m1); have n2 : w9.cell? ⟨w.heap.size, 2, none⟩ = some (.int .i64 y) := ((World.cell?_of_block (a := ⟨w.heap.size, 2, none⟩) (hS9.same zz8.out)).trans m2); clear hD9 hS9))
    go_wp2_with fail
    go_ret
    exact ⟨by simp, A1, C9, b9.out⟩
  · obtain rfl : m = 127 := hm'.out.symm
    go_wp2_with (go_at_call 20; refine (fill_c y _ 127 _ rfl (by omega)).mono ?_; rw [hL'.out]; rintro e w2 ⟨v2, rfl, ho2, hb2⟩; obtain ⟨g2, cap2, rfl, hc2, hg2, hlt2⟩ := ho2.at hLm.out hm0; have X2 := Lib.hid ho2.bat; have b2 := Lib.hid (b0.out.read hb2); have B2 := Lib.hid hb2; have f2 := Lib.hid ((Step.of_below hb2 (A.foot G)).off hoff.out); clear ho2 hb2)
    go_wp2_with (go_at_call 26; refine (lend_any _ cap2 127 L _ hLm.out (by omega) X2.out (fun h => by cases h)).mono ?_; rintro e w3 ⟨g3, rfl, hg3, hr3, hb3⟩; have R3 := Lib.hid hr3; have b3 := Lib.hid (b2.out.read hb3); have B3 := Lib.hid (B2.out.trans (hb3.mono B2.out.size)); have S3 := Lib.hid (Step.of_below hb3 (A.foot G)); have o3 := Lib.hid (b2.out.live.fresh hg3 hr3.lt); have j1 : w3.cell? ⟨w.heap.size, 1, none⟩ = some (.int .i64 x) := (by rw [B3.out.cell (p := ⟨w.heap.size, 1, none⟩) hs.out]; exact k1); clear hr3 hb3 X2)
    go_wp2_with (go_at_call 19; refine (h1'.out _ g3 b3.out o3.out R3.out.front).mono ?_; rintro e w4 ⟨rfl, A1, hD4, hS4⟩; have D4 := Lib.hid hD4; have R4 := Lib.hid (show Row w4 g3 (marked L) by unfold Row; rw [hS4.same o3.out]; exact R3.out); have S4 := Lib.hid (S3.out.trans hS4); have o4 := Lib.hid (hS4.off o3.out); have i2 : w4.cell? ⟨w.heap.size, 2, none⟩ = some (.int .i64 y) := (by rw [World.cell?_of_block (w := w2) (a := ⟨w.heap.size, 2, none⟩) (S4.out.same f2.out), B2.out.cell (p := ⟨w.heap.size, 2, none⟩) hs.out]; exact k2); clear hD4 hS4 j1)
    go_wp2_with (go_at_call 20; refine (fill_c y _ 127 _ rfl (by omega)).mono ?_; rw [hL'.out]; rintro e w5 ⟨v5, rfl, ho5, hb5⟩; obtain ⟨g5, cap5, rfl, hc5, hg5, hlt5⟩ := ho5.at hLm.out hm0; have X5 := Lib.hid ho5.bat; have B5 := Lib.hid hb5; have R5 := Lib.hid (R4.out.on hb5 R4.out.lt); clear ho5 hb5 i2)
    go_wp2_with (go_at_call 27; refine (kept_b g3 cap5 127 _ L _ hLm.out (by omega) R5.out X5.out).mono ?_; rintro e w6 ⟨rfl, hb6⟩; have B6 := Lib.hid (B5.out.trans (hb6.mono B5.out.size)); have R6 := Lib.hid (R5.out.on hb6 R5.out.lt); clear hb6)
    go_wp2_with (go_at_call 16; refine (over_own g3 _ L _ (by rw [hLm.out]; omega) (row_lent R6.out hLm.out (by omega) (Nat.le_refl _))).mono ?_; rintro e w7 ⟨rfl, hg7⟩; have D7 := Lib.hid (dk_grown (IsDkS.on D4.out B6.out (Nat.le_refl _)) hg7 o4.out.1); have S7 := Lib.hid (step_lent (S4.out.more B6.out) hg7 hg3); have b7 := Lib.hid ((b2.out.disk D7.out S7.out).drewN (m := 1)); have l1 : w7.cell? ⟨w.heap.size, 1, none⟩ = some (.int .i64 x) := (by rw [World.cell?_of_block (w := w2) (a := ⟨w.heap.size, 1, none⟩) (S7.out.same f2.out), B2.out.cell (p := ⟨w.heap.size, 1, none⟩) hs.out]; exact k1); have l2 : w7.cell? ⟨w.heap.size, 2, none⟩ = some (.int .i64 y) := (by rw [World.cell?_of_block (w := w2) (a := ⟨w.heap.size, 2, none⟩) (S7.out.same f2.out), B2.out.cell (p := ⟨w.heap.size, 2, none⟩) hs.out]; exact k2); have z7 := Lib.hid (Nat.lt_of_lt_of_le hs.out (Nat.le_trans B2.out.size S7.out.size)); clear hg7)
    go_region_held3 (fun w' => w'.cell? ⟨w.heap.size, 1, none⟩ = some (.int .i64 x) ∧ w'.cell? ⟨w.heap.size, 2, none⟩ = some (.int .i64 y)) (first | exact ⟨cell_drew1 l1, cell_drew1 l2⟩ | exact ⟨m1, m2⟩ | exact ⟨n1, n2⟩) (first | (go_at_call 20; refine (fill_c y _ 127 _ rfl (by omega)).mono ?_; rw [hL'.out]; rintro e w8 ⟨v8, rfl, ho8, hb8⟩; obtain ⟨g8, cap8, rfl, hc8, hg8, hlt8⟩ := ho8.at hLm.out hm0; have X8 := Lib.hid ho8.bat; have b8 := Lib.hid (b7.out.read hb8); have m1 : w8.cell? ⟨w.heap.size, 1, none⟩ = some (.int .i64 x) := (by rw [hb8.cell (p := ⟨w.heap.size, 1, none⟩) z7.out]; exact l1); have m2 : w8.cell? ⟨w.heap.size, 2, none⟩ = some (.int .i64 y) := (by rw [hb8.cell (p := ⟨w.heap.size, 2, none⟩) z7.out]; exact l2); have o8 := Lib.hid (show Off w8 (C.foot H) g8 from ⟨fun e => by have := (b7.out.ref.over _ e).2.2; exact absurd hg8 (Nat.not_le.2 this), hlt8⟩); have zz8 := Lib.hid (show Off w8 (C.foot H) w.heap.size from ⟨hoff2.out, Nat.lt_of_lt_of_le z7.out hb8.size⟩); clear ho8 hb8) | (go_at_call 28; refine (h2'.out _ A1 g8 cap8 b8.out o8.out X8.out).mono ?_; rintro e w9 ⟨rfl, C9, hD9, hS9⟩; have b9 := Lib.hid (b8.out.doc hD9 hS9); have n1 : w9.cell? ⟨w.heap.size, 1, none⟩ = some (.int .i64 x) := ((World.cell?_of_block (a := ⟨w.heap.size, 1, none⟩) (hS9.same zz8.out)).trans m1); have n2 : w9.cell? ⟨w.heap.size, 2, none⟩ = some (.int .i64 y) := ((World.cell?_of_block (a := ⟨w.heap.size, 2, none⟩) (hS9.same zz8.out)).trans m2); clear hD9 hS9))
    go_wp2_with fail
    go_ret
    exact ⟨by simp, A1, C9, b9.out⟩
end Go.Proofs.Ytmaodnidodoadaa
