/-
  Each descriptor stands where it was moved last: what holds from move to move.
-/
import Derived.Test.YtgflccdplffjmaaMl
import Derived.Test.YtgflccdplffjmaaMk
import Derived.Test.YtgflccdplffjmaaLo
import Derived.Test.YtgflccdplffjmaaOt
namespace Go.Proofs.Ytgflccdplffjmaa
open Go.RowKit BigFrame

theorem Try.infoFive : (Try.prog.info? 50).map (fun i => (i.zero, i.size)) = some (some (.agg #[.int .i64 0, .int .i64 0, .int .i64 0, .int .i64 0, .int .i64 0]), 5) := by kernel_rfl
theorem five_at (w : World) : At w.heap.size 5 (fun _ => 0) (w.alloc (.cells #[.int .i64 0, .int .i64 0, .int .i64 0, .int .i64 0, .int .i64 0] 50)) := fun p hp => by
  have hb := heap_alloc_new w (.cells #[.int .i64 0, .int .i64 0, .int .i64 0, .int .i64 0, .int .i64 0] 50)
  rw [cell_of_row _ _ _ _ _ _ hb, frozen_of_row _ _ _ _ _ hb]
  have : p = 0 ∨ p = 1 ∨ p = 2 ∨ p = 3 ∨ p = 4 := by omega
  rcases this with rfl | rfl | rfl | rfl | rfl <;> exact ⟨rfl, rfl⟩
theorem wpList_alloc_five {w : World} {ops : Array Oper} {rest : List Oper} {o : Oper} {a : Act} {Q : Exit → Act → World → Prop} (hgd : o.guard = none) (ho : o.op = .alloc 50)
    (h : ∀ g w1, Hid (At g 5 (fun _ => 0) w1) → w.heap.size ≤ g → g < w1.heap.size → Below w.heap.size w w1 → wpList Try.prog ops Q rest (a.put o.dst (.pointer (some ⟨g, 0, none⟩))) w1) : wpList Try.prog ops Q (o :: rest) a w := by
  refine wpList_plain hgd fun K hK => ?_
  have hz := (zero_of_info Try.infoFive).1 w
  unfold Oper.wp
  simp [execOp, ho, Instr.alloc, Sem.run_bind, hz, newVar, Value.cells, Result.andThen]
  exact hK _ _ (h _ _ (five_at w) (Nat.le_refl _) (by simp) ((Below.refl _ _).alloc (Nat.le_refl _) _))
theorem upd_same (D : Nat → Int) (k : Nat) (x : Int) : upd D k x k = x := by unfold upd; rw [if_pos rfl]
theorem upd_other {D : Nat → Int} {k j : Nat} {x : Int} (h : ¬ j = k) : upd D k x j = D j := by unfold upd; rw [if_neg h]
theorem At.turn {a g n : Nat} {D : Nat → Int} {w w' : World} (h : At g n D w) (hT : Turn a w w') (hn : g ≠ a) (hg : g < w.heap.size) : At g n D w' := fun p hp => by
  have e := hT.block g hg hn
  rw [World.cell?_of_block (a := ⟨g, p, none⟩) e, World.frozen?_of_block (a := ⟨g, p, none⟩) e]; exact h p hp

/-- the j-th of the five -/
def fiveP (D : Nat → Int) (j : Nat) : Plc := ⟨true, 100 + (j : Int), D j, (j : Int)⟩
/-- both: the table in block a, what is remembered in block g -/
structure StAt (w0 w : World) (a g : Nat) (L : List Plc) (D : Nat → Int) : Prop where
  tab : TabAt w a L
  off : At g 5 D w
  glt : g < w.heap.size
  hag : a < g
  below : Below a w0 w
  each : ∀ j, j < 5 → pl L j = fiveP D j
  free : (pl L 5).on = false
theorem StAt.least {w0 w : World} {a g : Nat} {L : List Plc} {D : Nat → Int} (h : StAt w0 w a g L D) : LeastP L 5 :=
  ⟨by omega, fun j hj => by rw [h.each j hj]; rfl, fun _ => h.free⟩
theorem StAt.start {w0 w w1 : World} {a g : Nat} (hT : TabAt w a (fillL 100 5)) (ho : At g 5 (fun _ => 0) w) (hg : g < w.heap.size) (hag : a < g) (hb : Below a w0 w) (hw : w1 = w) : StAt w0 w1 a g (fillL 100 5) (fun _ => 0) := by
  subst hw
  exact ⟨hT, ho, hg, hag, hb, fun j hj => by
    rw [fillL_at 100 5 j (by omega), if_pos hj]
    unfold fillP fiveP
    exact Plc.ext' rfl (by show ((100 + j : Nat) : Int) = 100 + (j : Int); omega) rfl rfl, by rw [fillL_at 100 5 5 (by omega)]; rfl⟩
/-- one moved, and told so -/
theorem StAt.move {w0 w w1 w2 : World} {a g k : Nat} {L : List Plc} {D : Nat → Int} {x : Int} (h : StAt w0 w a g L D) (hk : k < 5) (hT1 : TabAt w1 a (L.set k ((pl L k).to x))) (hU1 : Turn a w w1) (hT2 : TabAt w2 a (L.set k ((pl L k).to x))) (hU2 : Turn a w1 w2) :
    StAt w0 (w2.setCell ⟨g, k, none⟩ (.int .i64 x)) a g (L.set k ((pl L k).to x)) (upd D k x) := by
  have hga : g ≠ a := by have := h.hag; omega
  have hU := hU1.trans hU2
  have hO : Oth g w2 (w2.setCell ⟨g, k, none⟩ (.int .i64 x)) := (Oth.refl _ _).setCell _
  have hl := h.tab.len
  refine ⟨⟨hT2.row.oth hO (Ne.symm hga), hT2.len⟩, (h.off.turn hU hga h.glt).setCell hk x, by rw [hO.size]; exact Nat.lt_of_lt_of_le h.glt hU.size, h.hag,
    below_oth (h.below.trans (hU.below (Nat.le_of_lt h.tab.lt) (Nat.le_refl _))) hO (Nat.le_of_lt h.hag), fun j hj => ?_, ?_⟩
  · rw [pl_set (by omega)]
    by_cases e : j = k
    · subst e
      rw [if_pos rfl, h.each j hj]
      unfold fiveP Plc.to
      rw [upd_same]
    · rw [if_neg e, h.each j hj]
      unfold fiveP
      rw [upd_other e]
  · rw [pl_set (by omega), if_neg (by omega)]; exact h.free
theorem below_drewN' {B : Nat} (w : World) (m : Nat) : Below B w (w.drewN m) := ⟨rfl, rfl, rfl, Nat.le_refl _, fun _ _ => rfl⟩
theorem StAt.drew {w0 w : World} {a g m : Nat} {L : List Plc} {D : Nat → Int} (h : StAt w0 w a g L D) : StAt w0 (w.drewN m) a g L D := ⟨⟨h.tab.row.drew, h.tab.len⟩, h.off.drewN, h.glt, h.hag, h.below.trans (below_drewN' w m), h.each, h.free⟩
theorem StAt.cell {w0 w : World} {a g : Nat} {L : List Plc} {D : Nat → Int} (h : StAt w0 w a g L D) {k : Nat} (hk : k < 5) : ∀ {w1 w2}, Turn a w w1 → Turn a w1 w2 → w2.cell? ⟨g, k, none⟩ = some (.int .i64 (D k)) ∧ w2.frozen? ⟨g, k, none⟩ = false := fun h1 h2 =>
  h.off.turn (h1.trans h2) (by have := h.hag; omega) h.glt k hk
/-- behind it all: the k-th opened anew -/
structure EndAt (w0 w : World) (a g k : Nat) (L : List Plc) (D : Nat → Int) : Prop where
  tab : TabAt w a L
  off : At g 5 D w
  glt : g < w.heap.size
  below : Below a w0 w
  each : ∀ j, j < 5 → pl L j = if j = k then ⟨true, 200, 0, 63⟩ else fiveP D j
theorem EndAt.on {w0 w w' : World} {a g k : Nat} {L : List Plc} {D : Nat → Int} (h : EndAt w0 w a g k L D) (hb : Below w.heap.size w w') : EndAt w0 w' a g k L D :=
  ⟨h.tab.on' hb, h.off.on hb h.glt, Nat.lt_of_lt_of_le h.glt hb.size, h.below.trans (hb.mono (Nat.le_of_lt h.tab.lt)), h.each⟩
theorem StAt.ends {w0 w w1 w2 : World} {a g k : Nat} {L : List Plc} {D : Nat → Int} (h : StAt w0 w a g L D) (hk : k < 5) (hU1 : Turn a w w1) (hT2 : TabAt w2 a (openL (L.set k p0) k 200 63)) (hU2 : Turn a w1 w2) :
    EndAt w0 (w2.setCell ⟨g, k, none⟩ (.int .i64 0)) a g k (openL (L.set k p0) k 200 63) (upd D k 0) := by
  have hga : g ≠ a := by have := h.hag; omega
  have hU := hU1.trans hU2
  have hO : Oth g w2 (w2.setCell ⟨g, k, none⟩ (.int .i64 0)) := (Oth.refl _ _).setCell _
  refine ⟨⟨hT2.row.oth hO (Ne.symm hga), hT2.len⟩, (h.off.turn hU hga h.glt).setCell hk 0, by rw [hO.size]; exact Nat.lt_of_lt_of_le h.glt hU.size,
    below_oth (h.below.trans (hU.below (Nat.le_of_lt h.tab.lt) (Nat.le_refl _))) hO (Nat.le_of_lt h.hag), fun j hj => ?_⟩
  rw [open_at h.tab.len (by omega)]
  by_cases e : j = k
  · rw [if_pos e, if_pos e]
  · rw [if_neg e, if_neg e, h.each j hj]
    unfold fiveP
    rw [upd_other e]
end Go.Proofs.Ytgflccdplffjmaa
