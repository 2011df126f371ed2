/-
  A new disk.
-/
import Derived.Test.YtmaodnidodoadaaDs
import Derived.Deep.RegionWith
namespace Go.Proofs.Ytmaodnidodoadaa
open Go.RowKit BigFrame

/-- n sectors of zeros, as cells -/
def zsecs (n : Nat) : Array Value := madeCells (bv (zs 128)).toArray (n * 128)
theorem zsecs_get {n i j : Nat} (hi : i < n) (hj : j < 128) : (zsecs n)[i * 128 + j]? = some (.int .u8 0) := by
  have h : i * 128 + j < n * 128 := by have := Nat.mul_le_mul_right 128 (show i + 1 ≤ n from hi); omega
  have hm : (i * 128 + j) % 128 = j := by omega
  have hs : (bv (zs 128)).toArray.size = 128 := by rw [List.size_toArray, bv_length, zs_length]
  have hg : (bv (zs 128)).toArray[j]! = .int .u8 0 := by
    have := bv_get (l := zs 128) (k := j) (by rw [zs_length]; exact hj)
    rw [getElem!_def, List.getElem?_toArray, this, zs, bz_rep _ _ _ hj]; rfl
  obtain ⟨C, hC⟩ : ∃ C, (bv (zs 128)).toArray = C := ⟨_, rfl⟩
  rw [zsecs, madeCells, Array.getElem?_map, Array.getElem?_range, hC]
  rw [hC] at hs hg
  simp only [h, if_true, Option.map_some, hs, hm, hg]
theorem zsecs_size (n : Nat) : (zsecs n).size = n * 128 := by simp [zsecs, madeCells]
theorem secs_zs {w : World} {g n : Nat} (h : w.heap[g]? = some (.cells (zsecs n) 65 (0, 0))) : Secs w g n (fun _ => zs 128) := fun i hi => by
  refine ⟨fun j v hv => ?_, fun j hj => ?_⟩
  · obtain ⟨hj, rfl⟩ := bv_at hv
    rw [zs_length] at hj
    rw [cell_of_row _ _ _ _ _ _ h, zsecs_get hi hj, zs, bz_rep _ _ _ hj]
    rfl
  · rw [cell_of_row _ _ _ _ _ _ h, zsecs_get hi hj, frozen_of_row _ _ _ _ _ h]
    exact ⟨rfl, rfl⟩
theorem Try.infoS : (Try.prog.info? 65).map (fun i => (i.zero, i.size, i.bytes)) = some (some (.agg (bv (zs 128)).toArray), 128, 128) := by kernel_rfl
theorem run_make_secs (n : Nat) (hn : n ≤ 2048) (w : World) :
    (Instr.makeSlice 54 (.int .i64 (n : Int)) (.int .i64 (n : Int))).run Try.prog w = .ok (.slice (some ⟨w.heap.size, 0, none⟩) n n) (w.alloc (.cells (zsecs n) 65)) := by
  obtain ⟨i, hi, hz0, hz1, hz2⟩ := info_parts Try.infoS
  have hr := run_make (P := Try.prog) w 54 65 i _ Try.underlying54 hi hz0 .i64 .i64 n n (by omega) (Int.le_refl _) (by rw [hz2]; omega) (by omega)
  simp only [Int.toNat_natCast, hz1] at hr
  exact hr

/-- a new disk -/
def GivesD (d : Dk) (w : World) (e : Ending) (w' : World) : Prop := ∃ (G : Nat) (A : Lies), e = .returned (.pointer (some ⟨G, 0, none⟩)) ∧ IsDk w' w.heap.size G A d ∧ Below w.heap.size w w'

theorem isdk_new (w : World) (n f s : Nat) (hn : n ≤ 2048) (hf : f = w.heap.size ∧ s = w.heap.size + 1 ∨ s = w.heap.size ∧ f = w.heap.size + 1) :
    IsDk (((w.alloc (.cells (zsecs n) 65)).alloc (.cells (zsecs n) 65)).alloc (.cells (hcells ⟨f, s, .slice none 0 0, .slice none 0 0, .slice none 0 0⟩ (Dk.fresh n fun _ => zs 128)) 59)) w.heap.size (w.heap.size + 2)
      ⟨f, s, .slice none 0 0, .slice none 0 0, .slice none 0 0⟩ (Dk.fresh n fun _ => zs 128) := by
  obtain ⟨w1, hw1⟩ : ∃ w1, w.alloc (.cells (zsecs n) 65) = w1 := ⟨_, rfl⟩
  obtain ⟨w2, hw2⟩ : ∃ w2, w1.alloc (.cells (zsecs n) 65) = w2 := ⟨_, rfl⟩
  have s1 : w1.heap.size = w.heap.size + 1 := by rw [← hw1]; simp
  have s2 : w2.heap.size = w.heap.size + 2 := by rw [← hw2]; simp [s1]
  have b1 : w2.heap[w.heap.size]? = some (.cells (zsecs n) 65 (0, 0)) := by
    rw [← hw2, heap_alloc_old _ _ (by omega), ← hw1]; exact heap_alloc_new _ _
  have b2 : w2.heap[w.heap.size + 1]? = some (.cells (zsecs n) 65 (0, 0)) := by
    rw [← hw2, ← s1]; exact heap_alloc_new _ _
  rw [hw1, hw2]
  have hF : ∀ k, k = w.heap.size ∨ k = w.heap.size + 1 → (w2.alloc (.cells (hcells ⟨f, s, .slice none 0 0, .slice none 0 0, .slice none 0 0⟩ (Dk.fresh n fun _ => zs 128)) 59)).heap[k]? = some (.cells (zsecs n) 65 (0, 0)) := by
    intro k hk
    rw [heap_alloc_old _ _ (by omega)]
    rcases hk with rfl | rfl
    · exact b1
    · exact b2
  refine ⟨.fresh hn (fun i _ => zs_length 128), ?_, secs_zs (hF f (by omega)), (secs_zs (hF s (by omega))).congr (fun i _ => rfl), World.ownsRow_nil _ _ _ _, World.ownsRow_nil _ _ _ _, World.ownsRow_nil _ _ _ _, ?_, ?_⟩
  · show (w2.alloc _).heap[w.heap.size + 2]? = _
    rw [← s2]; exact heap_alloc_new _ _
  · simp [Lies.foot, Value.ownBlock]; omega
  · intro k hk
    simp [Lies.foot, Value.ownBlock] at hk
    simp [s2]; omega

theorem below_new (w : World) (n : Nat) (o : Obj) : Below w.heap.size w (((w.alloc (.cells (zsecs n) 65)).alloc (.cells (zsecs n) 65)).alloc o).drew :=
  ((((Below.refl _ _).alloc (Nat.le_refl _) _).alloc (by simp) _).alloc (by simp; omega) _).drew

set_option maxHeartbeats 1000000 in
theorem new_some (n : Nat) (w : World) (h0 : 0 < n) (hn : n ≤ 2048) :
    Calls Try.prog 5 #[.int .i64 (n : Int)] w (GivesD (.fresh n fun _ => zs 128) w) := by
  have hmk := run_make_secs n hn
  have t1 : decide ((n : Int) < 1) = false := by simp; omega
  have t2 : decide (2048 < (n : Int)) = false := by simp; omega
  go_enter Try.func5, Try.ntmps5
  go_wp2_with fail
  go_region
  all_goals go_wp2_with fail
  · go_ret
    exact ⟨w.heap.size + 2, ⟨w.heap.size, w.heap.size + 1, .slice none 0 0, .slice none 0 0, .slice none 0 0⟩, rfl, IsDkS.drew1 (isdk_new w n _ _ hn (.inl ⟨rfl, rfl⟩)), below_new w n _⟩
  · go_ret
    exact ⟨w.heap.size + 2, ⟨w.heap.size + 1, w.heap.size, .slice none 0 0, .slice none 0 0, .slice none 0 0⟩, rfl, IsDkS.drew1 (isdk_new w n _ _ hn (.inr ⟨rfl, rfl⟩)), below_new w n _⟩
theorem new_none (n : Int) (w : World) (hn : n < 1 ∨ 2048 < n) :
    Calls Try.prog 5 #[.int .i64 n] w fun e w' => e = .returned (.pointer none) ∧ w = w' := by
  by_cases h1 : n < 1
  · go_enter Try.func5, Try.ntmps5
    go_wp2_with fail
    go_ret
    exact ⟨rfl, rfl⟩
  · have h2 : 2048 < n := by omega
    clear hn
    go_enter Try.func5, Try.ntmps5
    go_wp2_with fail
    go_ret
    exact ⟨rfl, rfl⟩
theorem new_c (C : Int) (n : Nat) (w : World) (hC : C = (n : Int)) (h0 : 0 < n) (hn : n ≤ 2048) :
    Calls Try.prog 5 #[.int .i64 C] w (GivesD (.fresh n fun _ => zs 128) w) := by
  subst hC; exact new_some n w h0 hn
end Go.Proofs.Ytmaodnidodoadaa
