/-
  An act of both disks: Boot, Flush, anything else.
-/
import Derived.Test.YtmaodnidodoadaaBo
import Derived.Test.YtmaodnidodoadaaOvi
namespace Go.Proofs.Ytmaodnidodoadaa
open Go.RowKit BigFrame

/-- both answered the same, and are the same -/
def GivesBo (w0 : World) (G H : Nat) (d' : Dk) (e : Ending) (w' : World) : Prop := e = .returned (.bool true) ∧ ∃ A' C', Both w0 w' G A' d' H C' d'
set_option maxRecDepth 100000 in
set_option maxHeartbeats 1000000 in
theorem done_boot (w0 w : World) (G : Nat) (A : Lies) (d : Dk) (H : Nat) (C : RLies) (b : Both w0 w G A d H C d) (x y : Int) (sh : Bool) (v : Value) :
    Calls Try.prog 7 #[.pointer (some ⟨G, 0, none⟩), .pointer (some ⟨H, 0, none⟩), .agg #[.int .i64 5, .int .i64 x, .int .i64 y, .bool sh, v]] w (GivesBo w0 G H d.booted) := by
  have b0 := Lib.hid (b.read ((Below.refl w.heap.size w).alloc (Nat.le_refl _) (.cells #[.int .i64 5, .int .i64 x, .int .i64 y, .bool sh, v] 30)))
  clear b
  obtain ⟨z, hz⟩ : ∃ z : Int, (if d.on then 19 else 0) = z := ⟨_, rfl⟩
  have hz' := Lib.hid hz
  clear hz
  go_enter Try.func7, Try.ntmps7
  go_wp2_with (first
    | (go_at_call 23; refine (boot_any _ _ G A d b0.out.live.disk).mono ?_; rw [hz'.out]; rintro e w1 ⟨rfl, A1, hD1, hS1⟩; have b1 := Lib.hid (b0.out.disk hD1 hS1); clear hD1 hS1)
    | (go_at_call 34; refine (rboot_any _ _ H C (A1.foot G) d b1.out.ref).mono ?_; rw [hz'.out]; rintro e w2 ⟨rfl, C2, hD2, hS2⟩; have b2 := Lib.hid (b1.out.doc hD2 hS2); clear hD2 hS2))
  go_ret
  exact ⟨by simp, A1, C2, b2.out⟩
set_option maxRecDepth 100000 in
set_option maxHeartbeats 1000000 in
/-- a Flush that two contracts tell alike -/
theorem done_flush (w0 w : World) (G : Nat) (A : Lies) (d d1 : Dk) (H : Nat) (C : RLies) (b : Both w0 w G A d H C d) (x y z : Int) (sh : Bool) (v : Value)
    (h1 : ∀ w B G A, IsDk w B G A d → Calls Try.prog 29 #[.pointer (some ⟨G, 0, none⟩)] w (GivesS (.int .i64 z) d1 B G A w))
    (h2 : ∀ w B G A R, IsRf w B G A R d → Calls Try.prog 30 #[.pointer (some ⟨G, 0, none⟩)] w (GivesRf (.int .i64 z) d1 B G A R w)) :
    Calls Try.prog 7 #[.pointer (some ⟨G, 0, none⟩), .pointer (some ⟨H, 0, none⟩), .agg #[.int .i64 2, .int .i64 x, .int .i64 y, .bool sh, v]] w (GivesBo w0 G H d1) := by
  have b0 := Lib.hid (b.read ((Below.refl w.heap.size w).alloc (Nat.le_refl _) (.cells #[.int .i64 2, .int .i64 x, .int .i64 y, .bool sh, v] 30)))
  have h1' := Lib.hid h1
  have h2' := Lib.hid h2
  clear b h1 h2
  go_enter Try.func7, Try.ntmps7
  go_wp2_with (first
    | (go_at_call 29; refine (h1'.out _ _ G A b0.out.live.disk).mono ?_; rintro e w1 ⟨rfl, A1, hD1, hS1⟩; have b1 := Lib.hid (b0.out.disk hD1 hS1); clear hD1 hS1)
    | (go_at_call 30; refine (h2'.out _ _ H C (A1.foot G) b1.out.ref).mono ?_; rintro e w2 ⟨rfl, C2, hD2, hS2⟩; have b2 := Lib.hid (b1.out.doc hD2 hS2); clear hD2 hS2))
  go_ret
  exact ⟨by simp, A1, C2, b2.out⟩
set_option maxRecDepth 100000 in
set_option maxHeartbeats 1000000 in
theorem done_crash (w0 w : World) (G : Nat) (A : Lies) (d d1 : Dk) (H : Nat) (C : RLies) (b : Both w0 w G A d H C d) (x y : Int) (sh : Bool) (ka : Option Addr) (nk kcap : Nat)
    (h1 : ∀ w' A', Both w0 w' G A' d H C d → Calls Try.prog 21 #[.pointer (some ⟨G, 0, none⟩), .slice ka nk kcap] w' (GivesS (.tuple #[]) d1 w0.heap.size G A' w'))
    (h2 : ∀ w' A', Both w0 w' G A' d1 H C d → Calls Try.prog 33 #[.pointer (some ⟨H, 0, none⟩), .slice ka nk kcap] w' (GivesRf (.tuple #[]) d1 w0.heap.size H C (A'.foot G) w')) :
    Calls Try.prog 7 #[.pointer (some ⟨G, 0, none⟩), .pointer (some ⟨H, 0, none⟩), .agg #[.int .i64 4, .int .i64 x, .int .i64 y, .bool sh, .slice ka nk kcap]] w (GivesBo w0 G H d1) := by
  have b0 := Lib.hid (b.read ((Below.refl w.heap.size w).alloc (Nat.le_refl _) (.cells #[.int .i64 4, .int .i64 x, .int .i64 y, .bool sh, .slice ka nk kcap] 30)))
  have k0 : (w.alloc (.cells #[.int .i64 4, .int .i64 x, .int .i64 y, .bool sh, .slice ka nk kcap] 30)).cell? ⟨w.heap.size, 4, none⟩ = some (.slice ka nk kcap) := cell_of_row _ _ 4 _ _ _ (heap_alloc_new _ _)
  have hoff := Lib.hid (b.live.fresh (w' := (w.alloc (.cells #[.int .i64 4, .int .i64 x, .int .i64 y, .bool sh, .slice ka nk kcap] 30))) (Nat.le_refl _) (by simp))
  have h1' := Lib.hid h1
  have h2' := Lib.hid h2
  clear b h1 h2
  go_enter Try.func7, Try.ntmps7
  go_wp2_with (first
    | (go_at_call 21; refine (h1'.out _ A b0.out).mono ?_; rintro e w1 ⟨rfl, A1, hD1, hS1⟩; have b1 := Lib.hid (b0.out.disk hD1 hS1); have k1 : w1.cell? ⟨w.heap.size, 4, none⟩ = some (.slice ka nk kcap) := (by rw [World.cell?_of_block (a := ⟨w.heap.size, 4, none⟩) (hS1.same hoff.out)]; exact k0); clear hD1 hS1 k0)
    | (go_at_call 33; refine (h2'.out _ A1 b1.out).mono ?_; rintro e w2 ⟨rfl, C2, hD2, hS2⟩; have b2 := Lib.hid (b1.out.doc hD2 hS2); clear hD2 hS2))
  go_ret
  exact ⟨by simp, A1, C2, b2.out⟩
end Go.Proofs.Ytmaodnidodoadaa
