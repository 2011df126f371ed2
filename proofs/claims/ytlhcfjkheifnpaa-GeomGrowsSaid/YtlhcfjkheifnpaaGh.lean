/-
  A block more, four inodes more, a group more: four geometries in memory.
-/
import Derived.Test.YtlhcfjkheifnpaaGw
import Derived.Test.YtlhcfjkheifnpaaGq
namespace Go.Proofs.Ytlhcfjkheifnpaa
open Go.RowKit BigFrame

/-- block a holds a geometry, and no more -/
def OwnG (w : World) (a : Nat) (g i b : Int) : Prop := w.heap[a]? = some (.cells #[.int .i64 g, .int .i64 i, .int .i64 b] 23 (0, 0))
variable {w w' : World} {a k : Nat} {g i b x : Int}
theorem OwnG.box (h : OwnG w a g i b) : BoxAt w a g i b := by
  refine ⟨?_, ?_, ?_, (Array.getElem?_eq_some_iff.1 h).1⟩ <;> rw [cell_of_row _ a _ _ _ _ h] <;> rfl
theorem OwnG.frozen (h : OwnG w a g i b) (k : Nat) : w.frozen? ⟨a, k, none⟩ = false := by
  unfold OwnG at h
  simp [World.frozen?, h]
theorem OwnG.alloc (h : OwnG w a g i b) (o : Obj) : OwnG (w.alloc o) a g i b := by
  have hlt := (Array.getElem?_eq_some_iff.1 h).1
  unfold OwnG; rw [Below.heap_alloc _ _ _ hlt]; exact h
theorem OwnG.drew (h : OwnG w a g i b) : OwnG w.drew a g i b := h
theorem OwnG.far (h : OwnG w a g i b) {c : Nat} (hc : a ≠ c) (v : Value) : OwnG (w.setCell ⟨c, k, none⟩ v) a g i b := by
  unfold OwnG; rw [Below.heap_setCell _ _ _ _ hc]; exact h
theorem ownG_new (w : World) (g i b : Int) : OwnG (w.alloc (.cells #[.int .i64 g, .int .i64 i, .int .i64 b] 23)) w.heap.size g i b := heap_alloc_new w _
theorem OwnG.set0 (h : OwnG w a g i b) : OwnG (w.setCell ⟨a, 0, none⟩ (.int .i64 x)) a x i b := by
  have e := setCell_eq_setRow w a 0 _ _ _ (.int .i64 x) h
  unfold OwnG
  rw [e, setRow_heap w a _ _ _ _ h]
  simp
theorem OwnG.set1 (h : OwnG w a g i b) : OwnG (w.setCell ⟨a, 1, none⟩ (.int .i64 x)) a g x b := by
  have e := setCell_eq_setRow w a 1 _ _ _ (.int .i64 x) h
  unfold OwnG
  rw [e, setRow_heap w a _ _ _ _ h]
  simp
theorem OwnG.set2 (h : OwnG w a g i b) : OwnG (w.setCell ⟨a, 2, none⟩ (.int .i64 x)) a g i x := by
  have e := setCell_eq_setRow w a 2 _ _ _ (.int .i64 x) h
  unfold OwnG
  rw [e, setRow_heap w a _ _ _ _ h]
  simp

/-- the geometry, and three more that are like it, in blocks of their own -/
structure Alike (w : World) (g i b : Int) (x y z : Nat) (wx : World) : Prop where
  h0 : OwnG wx w.heap.size g i b
  hx : OwnG wx x g i b
  hy : OwnG wx y g i b
  hz : OwnG wx z g i b
  a0 : w.heap.size < x ∧ w.heap.size < y ∧ w.heap.size < z
  ap : x ≠ y ∧ x ≠ z ∧ y ≠ z
  bl : Below w.heap.size w wx
/-- four geometries -/
structure Four (w : World) (g i b g1 i1 b1 : Int) (x y z : Nat) (wx : World) : Prop where
  h0 : BoxAt wx w.heap.size g i b
  hx : BoxAt wx x g i b1
  hy : BoxAt wx y g i1 b
  hz : BoxAt wx z g1 i b
  bl : Below w.heap.size w wx
theorem Four.on {g1 i1 b1 : Int} {x y z : Nat} {wx wy : World} (h : Four w g i b g1 i1 b1 x y z wx) (hb : Below wx.heap.size wx wy) : Four w g i b g1 i1 b1 x y z wy :=
  ⟨box_on hb h.h0, box_on hb h.hx, box_on hb h.hy, box_on hb h.hz, below_two h.bl hb⟩
theorem Four.drew {g1 i1 b1 : Int} {x y z : Nat} {wx : World} (h : Four w g i b g1 i1 b1 x y z wx) : Four w g i b g1 i1 b1 x y z wx.drew := ⟨h.h0, h.hx, h.hy, h.hz, h.bl.drew⟩
theorem Alike.four {g1 i1 b1 : Int} {x y z : Nat} {wx : World} (h : Alike w g i b x y z wx) :
    Four w g i b g1 i1 b1 x y z (((wx.setCell ⟨x, 2, none⟩ (.int .i64 b1)).setCell ⟨y, 1, none⟩ (.int .i64 i1)).setCell ⟨z, 0, none⟩ (.int .i64 g1)) := by
  obtain ⟨h0, hx, hy, hz, ⟨a1, a2, a3⟩, ⟨p1, p2, p3⟩, bl⟩ := h
  refine ⟨?_, ?_, ?_, ?_, ?_⟩
  · exact (((h0.far (by omega) _).far (by omega) _).far (by omega) _).box
  · exact ((hx.set2.far (by omega) _).far (by omega) _).box
  · exact (((hy.far (by omega) _).set1).far (by omega) _).box
  · exact ((hz.far (by omega) _).far (by omega) _).set0.box
  · exact ((bl.setCell (by show w.heap.size ≤ x; omega) _).setCell (by show w.heap.size ≤ y; omega) _).setCell (by show w.heap.size ≤ z; omega) _
/-- four blocks made one behind the other -/
theorem alike_new (w : World) (g i b : Int) : ∀ W, W = ((((w.alloc (.cells #[.int .i64 g, .int .i64 i, .int .i64 b] 23)).alloc (.cells #[.int .i64 g, .int .i64 i, .int .i64 b] 23)).alloc (.cells #[.int .i64 g, .int .i64 i, .int .i64 b] 23)).alloc (.cells #[.int .i64 g, .int .i64 i, .int .i64 b] 23)).drew →
    ∀ x y z, (x ≠ y ∧ x ≠ z ∧ y ≠ z) → (∀ c, c = x ∨ c = y ∨ c = z → c = w.heap.size + 1 ∨ c = w.heap.size + 1 + 1 ∨ c = w.heap.size + 1 + 1 + 1) → Alike w g i b x y z W := by
  intro W hW x y z hap hc
  subst hW
  have b0 := ownG_new w g i b
  have s1 : ∀ (v : World) (o : Obj), (v.alloc o).heap.size = v.heap.size + 1 := fun v o => by simp
  have key : ∀ c, c = w.heap.size ∨ c = w.heap.size + 1 ∨ c = w.heap.size + 1 + 1 ∨ c = w.heap.size + 1 + 1 + 1 → OwnG ((((w.alloc (.cells #[.int .i64 g, .int .i64 i, .int .i64 b] 23)).alloc (.cells #[.int .i64 g, .int .i64 i, .int .i64 b] 23)).alloc (.cells #[.int .i64 g, .int .i64 i, .int .i64 b] 23)).alloc (.cells #[.int .i64 g, .int .i64 i, .int .i64 b] 23)).drew c g i b := by
    intro c hc
    rcases hc with rfl | rfl | rfl | rfl
    · exact (((b0.alloc _).alloc _).alloc _).drew
    · have h := ownG_new (w.alloc (.cells #[.int .i64 g, .int .i64 i, .int .i64 b] 23)) g i b
      rw [s1] at h
      exact ((h.alloc _).alloc _).drew
    · have h := ownG_new ((w.alloc (.cells #[.int .i64 g, .int .i64 i, .int .i64 b] 23)).alloc (.cells #[.int .i64 g, .int .i64 i, .int .i64 b] 23)) g i b
      rw [s1, s1] at h
      exact (h.alloc _).drew
    · have h := ownG_new (((w.alloc (.cells #[.int .i64 g, .int .i64 i, .int .i64 b] 23)).alloc (.cells #[.int .i64 g, .int .i64 i, .int .i64 b] 23)).alloc (.cells #[.int .i64 g, .int .i64 i, .int .i64 b] 23)) g i b
      rw [s1, s1, s1] at h
      exact h.drew
  have cx := hc x (.inl rfl)
  have cy := hc y (.inr (.inl rfl))
  have cz := hc z (.inr (.inr rfl))
  refine ⟨key _ (.inl rfl), key x (by omega), key y (by omega), key z (by omega), by omega, hap, ?_⟩
  refine (((((Below.refl _ _).alloc (Nat.le_refl _) _).alloc ?_ _).alloc ?_ _).alloc ?_ _).drew <;> simp only [s1] <;> omega
end Go.Proofs.Ytlhcfjkheifnpaa
