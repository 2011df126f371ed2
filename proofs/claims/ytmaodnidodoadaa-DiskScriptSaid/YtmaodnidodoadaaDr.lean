/-
  An act of both disks: Read.
-/
import Derived.Test.YtmaodnidodoadaaDa
namespace Go.Proofs.Ytmaodnidodoadaa
open Go.RowKit BigFrame

set_option maxRecDepth 100000 in
set_option maxHeartbeats 2000000 in
theorem done_read (w0 w : World) (G : Nat) (A : Lies) (d : Dk) (H : Nat) (C : RLies) (b : Both w0 w G A d H C d) (x y z : Int) (sh : Bool) (v : Value) (l : List Nat) (hl : l.length ≤ 100000)
    (h1 : ∀ w', Both w0 w' G A d H C d → Calls Try.prog 22 #[.pointer (some ⟨G, 0, none⟩), .int .i64 x] w' (GivesR l z w'))
    (h2 : ∀ w', Both w0 w' G A d H C d → Calls Try.prog 25 #[.pointer (some ⟨H, 0, none⟩), .int .i64 x] w' (GivesR l z w')) :
    Calls Try.prog 7 #[.pointer (some ⟨G, 0, none⟩), .pointer (some ⟨H, 0, none⟩), .agg #[.int .i64 0, .int .i64 x, .int .i64 y, .bool sh, v]] w (GivesBo w0 G H d) := by
  obtain ⟨wb, hwb⟩ : ∃ wb, (w.alloc (.cells #[.int .i64 0, .int .i64 x, .int .i64 y, .bool sh, v] 30)) = wb := ⟨_, rfl⟩
  have b0 := Lib.hid (show Both w0 wb G A d H C d by rw [← hwb]; exact b.read ((Below.refl w.heap.size w).alloc (Nat.le_refl _) _))
  have k1 : wb.cell? ⟨w.heap.size, 1, none⟩ = some (.int .i64 x) := by rw [← hwb]; exact cell_of_row _ _ 1 _ _ _ (heap_alloc_new _ _)
  have k0 : wb.cell? ⟨w.heap.size, 0, none⟩ = some (.int .i64 0) := by rw [← hwb]; exact cell_of_row _ _ 0 _ _ _ (heap_alloc_new _ _)
  have hs := Lib.hid (show w.heap.size < wb.heap.size by rw [← hwb]; simp)
  have h1' := Lib.hid h1
  have h2' := Lib.hid h2
  subst hwb
  clear b h1 h2
  go_enter Try.func7, Try.ntmps7

  go_wp2_with (first
    | (go_at_call 22; refine (h1'.out _ b0.out).mono ?_; rintro e w1 ⟨v1, rfl, ho1, hb1⟩; obtain ⟨a1, c1, rfl, hx1, _, _⟩ := ho1.slice; have O1 := Lib.hid ho1; have X1 := Lib.hid hx1; have B1 := Lib.hid hb1; have b1 := Lib.hid (b0.out.read hb1); have k2 : w1.cell? ⟨w.heap.size, 1, none⟩ = some (.int .i64 x) := (by rw [hb1.cell (p := ⟨w.heap.size, 1, none⟩) hs.out]; exact k1); clear ho1 hx1 hb1 k1)
    | (go_at_call 25; refine (h2'.out _ b1.out).mono ?_; rintro e w2 ⟨v2, rfl, ho2, hb2⟩; obtain ⟨a2, c2, rfl, hx2, _, _⟩ := ho2.slice; have X2 := Lib.hid hx2; have X1b := Lib.hid (X1.out.on hb2 (Nat.le_refl _)); have O2 := Lib.hid (OwnB.block (w' := w2) O1.out (fun k hk => hb2.block k (OwnB.lt O1.out k hk).2)); have B2 := Lib.hid (B1.out.trans (hb2.mono B1.out.size)); clear ho2 hx2 hb2 k2)
    | (go_at_call 24; refine (same_same _ _ _ _ _ l l _ rfl rfl hl X1b.out X2.out).mono ?_; rintro e w3 ⟨rfl, hb3⟩; have O3 := Lib.hid (OwnB.block (w' := w3) O2.out (fun k hk => hb3.block k (OwnB.lt O2.out k hk).2)); have B3 := Lib.hid (B2.out.trans (hb3.mono B2.out.size)); clear hb3)
    | (go_at_call 16; refine (over_own _ _ l _ hl O3.out).mono ?_; rintro e w4 ⟨rfl, hg4⟩; have b4 := Lib.hid (b0.out.read (B3.out.trans (grownBy_below hg4 B3.out.size (fun k hk => (OwnB.lt O3.out k hk).1)))); clear hg4))
  go_ret
  exact ⟨by simp, A, C, b4.out⟩
end Go.Proofs.Ytmaodnidodoadaa
