/-
  Bytes in a variable of the call's own, of whatever type its block is of.
-/
import Derived.Test.YtcmomnfefaolaaaRw
import Derived.Test.YtcmomnfefaolaaaOt
import Derived.Deep.WholeRow
namespace Go.Proofs.Ytcmomnfefaolaaa
open Go.RowKit BigFrame

/-- block g, of type t, holds these bytes, and no more -/
def RowT (w : World) (t : TypeId) (g : Nat) (l : List Nat) : Prop := w.heap[g]? = some (.cells (bv l).toArray t (0, 0))
theorem RowT.lt {w : World} {t : TypeId} {g : Nat} {l : List Nat} (h : RowT w t g l) : g < w.heap.size := (Array.getElem?_eq_some_iff.1 h).1
theorem RowT.cell {w : World} {t : TypeId} {g : Nat} {l : List Nat} (h : RowT w t g l) {k : Nat} (hk : k < l.length) : w.cell? ⟨g, k, none⟩ = some (.int .u8 ((bz l k : Nat) : Int)) := by
  rw [cell_of_row w g k _ _ _ h]
  simpa using bv_get hk
theorem RowT.frozen {w : World} {t : TypeId} {g : Nat} {l : List Nat} (h : RowT w t g l) (k : Nat) : w.frozen? ⟨g, k, none⟩ = false := by
  unfold RowT at h
  simp [World.frozen?, h]
theorem RowT.bat {w : World} {t : TypeId} {g : Nat} {l : List Nat} (h : RowT w t g l) : BAt w (some ⟨g, 0, none⟩) l :=
  .inr ⟨g, 0, rfl, fun k hk => by rw [Nat.zero_add]; exact h.cell hk⟩
theorem RowT.drew {w : World} {t : TypeId} {g : Nat} {l : List Nat} {m : Nat} (h : RowT w t g l) : RowT (w.drewN m) t g l := h
theorem RowT.drew1 {w : World} {t : TypeId} {g : Nat} {l : List Nat} (h : RowT w t g l) : RowT w.drew t g l := h
theorem RowT.on {w w' : World} {t : TypeId} {g B : Nat} {l : List Nat} (h : RowT w t g l) (hb : Below B w w') (hg : g < B) : RowT w' t g l := by
  unfold RowT; rw [hb.block g hg]; exact h
theorem RowT.oth {w w' : World} {t : TypeId} {g G : Nat} {l : List Nat} (h : RowT w t G l) (ho : Oth g w w') (hn : ¬ G = g) : RowT w' t G l := by
  unfold RowT; rw [ho.block _ hn]; exact h
theorem RowT.set {w : World} {t : TypeId} {g : Nat} {l : List Nat} (h : RowT w t g l) (k x : Nat) : RowT (w.setCell ⟨g, k, none⟩ (.int .u8 ((x : Nat) : Int))) t g (l.set k x) := by
  have e := setCell_eq_setRow w g k _ _ _ (.int .u8 ((x : Nat) : Int)) h
  unfold RowT
  rw [e, ← bv_set]
  have := setRow_heap w g _ ((bv l).toArray.setIfInBounds k (.int .u8 ((x : Nat) : Int))) _ _ h
  rw [this]
  simp
/-- an array variable of n bytes is laid: zeros -/
theorem wpList_alloc_zeros {t : TypeId} {n m : Nat} (hz : (Try.prog.info? t).map (fun i => (i.zero, i.size)) = some (some (.agg (bv (zs n)).toArray), m)) {w : World} {ops : Array Oper} {rest : List Oper} {o : Oper} {a : Act} {Q : Exit → Act → World → Prop} (hgd : o.guard = none) (ho : o.op = .alloc t)
    (h : ∀ g w1, Hid (RowT w1 t g (zs n)) → w.heap.size ≤ g → Below w.heap.size w w1 → wpList Try.prog ops Q rest (a.put o.dst (.pointer (some ⟨g, 0, none⟩))) w1) : wpList Try.prog ops Q (o :: rest) a w := by
  refine wpList_plain hgd fun K hK => ?_
  have hz := (zero_of_info hz).1 w
  unfold Oper.wp
  simp [execOp, ho, Instr.alloc, Sem.run_bind, hz, newVar, Value.cells, Result.andThen]
  exact hK _ _ (h _ _ (heap_alloc_new w _) (Nat.le_refl _) ((Below.refl _ _).alloc (Nat.le_refl _) _))
end Go.Proofs.Ytcmomnfefaolaaa
