/-
  A geometry in a block of the call's own: laid, stored, told as a result.
-/
import Derived.Test.YtdkjmpicdkfgoaaGt
import Derived.Laws.Rows
namespace Go.Proofs.Ytdkjmpicdkfgoaa
open Go.RowKit BigFrame

/-- a geometry of the call's own lies in block a -/
def GeoAt (w : World) (a : Nat) (g i b : Int) : Prop := w.heap[a]? = some (.cells #[.int .i64 g, .int .i64 i, .int .i64 b] 23 (0, 0))
theorem geoAt_alloc (w : World) (g i b : Int) : GeoAt (w.alloc (.cells #[.int .i64 g, .int .i64 i, .int .i64 b] 23)) w.heap.size g i b := heap_alloc_new w _
theorem GeoAt.box {w : World} {a : Nat} {g i b : Int} (h : GeoAt w a g i b) : BoxAt w a g i b := by
  refine ⟨?_, ?_, ?_, (Array.getElem?_eq_some_iff.1 h).1⟩ <;> rw [cell_of_row _ a _ _ _ _ h] <;> rfl
theorem GeoAt.frozen {w : World} {a : Nat} {g i b : Int} (h : GeoAt w a g i b) (k : Nat) : w.frozen? ⟨a, k, none⟩ = false := by
  unfold GeoAt at h
  simp [World.frozen?, h]
theorem GeoAt.lt {w : World} {a : Nat} {g i b : Int} (h : GeoAt w a g i b) : a < w.heap.size := (Array.getElem?_eq_some_iff.1 h).1
theorem GeoAt.on {w w' : World} {a B : Nat} {g i b : Int} (h : GeoAt w a g i b) (hb : Below B w w') (ha : a < B) : GeoAt w' a g i b := by
  unfold GeoAt; rw [hb.block a ha]; exact h

theorem cells_set {w : World} {a : Nat} {cs : Array Value} {t : TypeId} (h : w.heap[a]? = some (.cells cs t (0, 0))) (k : Nat) (v : Value) : (w.setCell ⟨a, k, none⟩ v).heap[a]? = some (.cells (cs.setIfInBounds k v) t (0, 0)) := by
  rw [setCell_eq_setRow w a k _ _ _ v h]
  exact setRow_heap w a _ _ _ _ h
theorem GeoAt.put {w : World} {a : Nat} {g i b : Int} (h : GeoAt w a g i b) (g' i' b' : Int) : GeoAt (((w.setCell ⟨a, 0, none⟩ (.int .i64 g')).setCell ⟨a, 1, none⟩ (.int .i64 i')).setCell ⟨a, 2, none⟩ (.int .i64 b')) a g' i' b' :=
  cells_set (cells_set (cells_set h 0 (.int .i64 g')) 1 (.int .i64 i')) 2 (.int .i64 b')
theorem below_put {w0 w : World} {B a : Nat} (h : Below B w0 w) (ha : B ≤ a) (x y z : Value) : Below B w0 (((w.setCell ⟨a, 0, none⟩ x).setCell ⟨a, 1, none⟩ y).setCell ⟨a, 2, none⟩ z) :=
  ((h.setCell (p := ⟨a, 0, none⟩) ha _).setCell (p := ⟨a, 1, none⟩) ha _).setCell (p := ⟨a, 2, none⟩) ha _
theorem Try.sizeGeo : (Try.prog.info? 23).map (·.size) = some 3 := by kernel_rfl
/-- the results are a geometry that lies in a block, and two more -/
theorem geo_ret {fn : Func} {p u v : Tmp} (h : fn.results = #[.cell p 23, .tmp u, .tmp v]) {tmps : Array Value} {w : World} {a : Nat} {g i b : Int} (hp : tmps.getD p undef = .pointer (some ⟨a, 0, none⟩)) (hG : GeoAt w a g i b) :
    (results fn tmps).run Try.prog w = .ok (.tuple #[geo g i b, tmps.getD u undef, tmps.getD v undef]) w := by
  have hp' : tmps[p]?.getD undef = .pointer (some ⟨a, 0, none⟩) := by simpa using hp
  simp [results, h, hp', asAddr, run_loadVar_row w a _ 23 _ _ _ hG Try.underlying23 rfl Try.sizeGeo, geo]
end Go.Proofs.Ytdkjmpicdkfgoaa
