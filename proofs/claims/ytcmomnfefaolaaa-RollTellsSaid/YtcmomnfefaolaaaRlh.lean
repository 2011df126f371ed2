/-
  A sector that was answered is written over, and beyond.
-/
import Derived.Test.YtcmomnfefaolaaaRlf
import Derived.Test.YtcmomnfefaolaaaOi
import Derived.Test.YtcmomnfefaolaaaGr
namespace Go.Proofs.Ytcmomnfefaolaaa
open Go.RowKit BigFrame
set_option maxRecDepth 100000
theorem grown_of {w w' : World} (h : Below w.heap.size w w') (r : Option Nat) : w.grownBy w' r := ⟨h.os, h.tape, h.output, h.size, fun k hk _ => h.block k hk⟩
def OverRelT (t : TypeId) (g n : Nat) (w : World) (i : Value) (wr : World) : Prop :=
  ∃ (k : Nat) (L : List Nat), k ≤ n ∧ i = .int .i64 k ∧ RowT wr t g L ∧ L.length = n ∧ w.grownBy wr (some g)
set_option maxHeartbeats 400000 in
theorem over_rowT (t : TypeId) (g n : Nat) (L : List Nat) (w : World) (hn : L.length = n) (hl : n ≤ 100000) (hr : RowT w t g L) :
    Calls Try.prog 23 #[.slice (some ⟨g, 0, none⟩) n n] w (OverPost (some g) w) := by
  have hn' := Lib.hid hn
  have hr' := Lib.hid hr
  clear hn hr
  go_enter Try.func23, Try.ntmps23
  go_wp2_with fail
  go_loopw [2] (fun i wr => OverRelT t g n w i wr) (fun i _ => n - (intOf i).toNat)
  case atStart => exact ⟨0, L, by omega, rfl, hr'.out, hn'.out, World.grownBy.refl _ _⟩
  case round =>
    obtain ⟨k, M, hk, rfl, hR, hM, hB⟩ := hrel
    by_cases hlt : k < n
    · have c1 := hR.cell (k := k) (by omega)
      have c2 := hR.frozen k
      have hend := Lib.hid (show OverRelT t g n w (.int .i64 ((k : Int) + 1)) (wr.setCell ⟨g, k, none⟩ (.int .u8 238)) from ⟨k + 1, M.set k 238, by omega, by go_num, hR.set k 238, by rw [List.length_set, hM], grownBy_trans hB (grownBy_setCell _ _ _ _)⟩)
      clear hR hB hM
      go_wp2_with fail
      exact ⟨hend.out, by simp [intOf]; omega⟩
    · have hb1 := (Below.refl wr.heap.size wr).alloc (Nat.le_refl _) (.cells #[.int .u8 238] 5)
      have hO := Lib.hid (hR.on hb1 hR.lt)
      have hN := Lib.hid (row_alloc wr [238])
      have hBB : w.grownBy (wr.alloc (.cells #[.int .u8 238] 5)) (some g) := grownBy_trans hB (World.grownBy_alloc _ _ _)
      have hB' := Lib.hid hBB
      have hM' := Lib.hid hM
      clear hR hB hb1 hBB hM
      obtain ⟨i, hi, hz0, hz1, hz2⟩ := info_parts Try.infoB
      have hcap : Builtin.nextslicecap (n + 1) n * i.bytes ≤ 281474976710656 := by
        have := nextslicecap_le (show n < n + 1 by omega)
        rw [hz2]; omega
      have hcap' := Lib.hid hcap
      clear hcap
      go_wp2_with (at_builtin; refine wpList_append_grow rfl (.tmp 12) (.tmp 13) 22 rfl 5 i (.int .u8 0) Try.underlying22 hi hz0 ⟨g, 0, none⟩ n n (bv M) rfl (by rw [bv_length, hM'.out, hz1, Nat.mul_one]) (fun j v hv => by obtain ⟨hj, rfl⟩ := bv_at hv; rw [addr_add, Nat.zero_add]; exact hO.out.cell hj) ⟨wr.heap.size, 0, none⟩ 1 1 [.int .u8 238] rfl (by rw [hz1]; rfl) (fun j v hv => by obtain ⟨hj, rfl⟩ := bv_at (l := [238]) hv; rw [addr_add, Nat.zero_add]; exact hN.out.cell hj) (by omega) (by omega) hcap'.out ?_)
      intro v' w' hg2
      have hend := Lib.hid (grownBy_trans hB'.out (grown_of (hg2 _ _ (by simp) (Below.refl _ _)) _))
      clear hg2
      go_wp2_with fail
      go_end0
      exact ⟨rfl, hend.out⟩
end Go.Proofs.Ytcmomnfefaolaaa
