/-
  A write in a variable of its own: made, read out of what waits, laid into it.
-/
import Derived.Test.YtmaodnidodoadaaDs
import Derived.Deep.WholeRow
namespace Go.Proofs.Ytmaodnidodoadaa
open Go.RowKit BigFrame

/-- block g is new, and holds these cells -/
def NewVar (w : World) (g : Nat) (w1 : World) (cs : Array Value) (t : TypeId) : Prop := g = w.heap.size ∧ w1.heap[g]? = some (.cells cs t (0, 0)) ∧ Below w.heap.size w w1
def wzero : Array Value := (wcell (0, zs 128)).toArray
theorem Try.infoW : (Try.prog.info? 67).map (fun i => (i.zero, i.size, i.bytes)) = some (some (.agg (wcell (0, zs 128)).toArray), 129, 136) := by kernel_rfl
theorem wpList_alloc_w {w : World} {ops : Array Oper} {rest : List Oper} {o : Oper} {a : Act} {Q : Exit → Act → World → Prop} (hgd : o.guard = none) (ho : o.op = .alloc 67)
    (h : ∀ g w1, Hid (NewVar w g w1 wzero 67) → wpList Try.prog ops Q rest (a.put o.dst (.pointer (some ⟨g, 0, none⟩))) w1) : wpList Try.prog ops Q (o :: rest) a w := by
  refine wpList_plain hgd fun K hK => ?_
  obtain ⟨i, hi, hz0, hz1, hz2⟩ := info_parts Try.infoW
  have hz : (zeroValue 67).run Try.prog w = .ok (.agg wzero) w := by simp [zeroValue, typeInfo, hi, hz0, wzero]
  unfold Oper.wp
  simp [execOp, ho, Instr.alloc, Sem.run_bind, hz, newVar, Value.cells, Result.andThen]
  exact hK _ _ (h _ _ ⟨rfl, heap_alloc_new w _, (Below.refl _ _).alloc (Nat.le_refl _) _⟩)
theorem wpList_store_w {w0 w : World} {ops : Array Oper} {rest : List Oper} {o : Oper} {a : Act} {Q : Exit → Act → World → Prop} (hgd : o.guard = none) (x y : Operand) (ho : o.op = .store 67 x y)
    (g : Nat) (cs : List Value) (old : Array Value) (hx : a.eval x = .pointer (some ⟨g, 0, none⟩)) (hy : a.eval y = .agg cs.toArray) (hv : NewVar w0 g w old 67) (hold : old.size = 129) (hcs : cs.length = 129) (h1 : ∀ v ∈ cs, v.oneCell' = true)
    (h : ∀ w2, Hid (NewVar w0 g w2 cs.toArray 67) → wpList Try.prog ops Q rest (a.put o.dst undef) w2) : wpList Try.prog ops Q (o :: rest) a w := by
  obtain ⟨i, hi, hz0, hz1, hz2⟩ := info_parts Try.infoW
  obtain ⟨hg, hh, hb⟩ := hv
  refine wpList_store_row hgd _ x y ho g cs.toArray hx hy _ old hh (by rw [hi]; simp [hz1, hcs]) (by simp [hold, hcs]) (all_oneCell_toArray h1) ?_
  exact h _ ⟨hg, setRow_heap w g _ _ _ _ hh, hb.trans ⟨rfl, rfl, rfl, by simp, fun k hk => setRow_other w g k _ (by omega)⟩⟩
theorem zero_w (w : World) : (zeroValue 67).run Try.prog w = .ok (.agg wzero) w := by
  obtain ⟨i, hi, hz0, hz1, hz2⟩ := info_parts Try.infoW
  simp [zeroValue, typeInfo, hi, hz0, wzero]
theorem wzero_size : wzero.size = 129 := by simp [wzero, wcell, bv_length, zs_length]
/-- a write is read out of what waits -/
theorem own_w_range {w : World} {B : Nat} {v : Value} {l : List (Nat × List Nat)} (h : w.ownsRow B 67 129 v l.length (wcells l)) (hl : ∀ p ∈ l, p.2.length = 128) {k : Nat} (hk : k < l.length) :
    ∃ g cap, v = .slice (some ⟨g, 0, none⟩) l.length cap ∧ l.length ≤ cap ∧ v.ownBlock = some g ∧ B ≤ g ∧ g < w.heap.size ∧ ∀ k, k < l.length → w.rangeAt g (k * 129) (wcell (wtAt l k)) := by
  have hc := fun g hg => World.ownsRow.cells h (g := g) hg
  have hlt := World.ownsRow.lt h
  rcases h.2 with ⟨_, e⟩ | ⟨g, cap, cur, rfl, hb, hh, hn, _, _, _⟩
  · omega
  · refine ⟨g, cap, rfl, hn, rfl, hb, (hlt g rfl).2, fun k hk j u hu => ?_⟩
    have hj : j < 129 := by
      have := (List.getElem?_eq_some_iff.1 hu).1
      rwa [wcell_length (hl _ (wtAt_mem hk))] at this
    have := hc g rfl (k * 129 + j) u (by
      unfold wcells
      rw [flat_get wcell 129 l (fun x hx => wcell_length (hl x hx)) k hk j hj, ← wtAt_get hk]
      exact hu)
    rwa [addr_add, Nat.zero_add] at this
theorem NewVar.cell0 {w w1 : World} {g : Nat} {p : Nat × List Nat} {t : TypeId} (h : NewVar w g w1 (wcell p).toArray t) : w1.cell? ⟨g, 0, none⟩ = some (.int .i64 ((p.1 : Nat) : Int)) := by
  rw [cell_of_row _ _ _ _ _ _ h.2.1]; simp [wcell]
theorem NewVar.range {w w1 : World} {g : Nat} {p : Nat × List Nat} {t : TypeId} (h : NewVar w g w1 (wcell p).toArray t) : w1.rangeAt g 1 (bv p.2) := fun j v hv => by
  rw [cell_of_row _ _ _ _ _ _ h.2.1]
  simp only [wcell, List.getElem?_toArray]
  rw [Nat.add_comm, List.getElem?_cons_succ]
  exact hv
/-- what a round over what waits finds -/
theorem IsDkS.round {w : World} {B : Nat} {G : Nat} {A : Lies} {d : Dk} {sn : Nat → List Nat} (h : IsDkS w B G A d sn) {a : Option Addr} {nw cap k : Nat} (hv : A.vw = .slice a nw cap) (hk : k < nw) :
    nw = d.waits.length ∧ nw ≤ cap ∧ ∃ gw, a = some ⟨gw, 0, none⟩ ∧ w.rangeAt gw (k * 129) (wcell (wtAt d.waits k)) ∧ (wtAt d.waits k).1 < d.n ∧ (wtAt d.waits k).2.length = 128 := by
  have hn : nw = d.waits.length := by
    have := h.waits
    rw [hv] at this
    rcases this.2 with ⟨e, e2⟩ | ⟨g, cap, cur, e, _⟩
    · simp only [Value.slice.injEq] at e; omega
    · simp only [Value.slice.injEq] at e; exact e.2.1
  subst hn
  obtain ⟨gw, cap', e, hc, _, _, _, hr⟩ := own_w_range h.waits (fun p hp => (h.fine.waits p hp).2) hk
  rw [hv] at e
  simp only [Value.slice.injEq, true_and] at e
  obtain ⟨rfl, rfl⟩ := e
  have := h.fine.waits _ (wtAt_mem hk)
  exact ⟨rfl, hc, gw, rfl, hr k hk, this.1, this.2⟩
/-- the slice of what waits, as it stands in the disk -/
theorem IsDkS.vw {w : World} {B : Nat} {G : Nat} {A : Lies} {d : Dk} {sn : Nat → List Nat} (h : IsDkS w B G A d sn) : ∃ a cap, A.vw = .slice a d.waits.length cap := by
  rcases h.waits.2 with ⟨e, e2⟩ | ⟨g, cap, cur, e, _⟩
  · exact ⟨none, 0, by rw [e, e2]⟩
  · exact ⟨_, cap, e⟩
/-- a write, put together -/
def wcs (a : Nat) (cs : List Value) : List Value := .int .i64 ((a : Nat) : Int) :: cs
theorem wcs_length {a : Nat} {cs : List Value} (h : cs.length = 128) : (wcs a cs).length = 129 := by simp [wcs, h]
theorem fold_set : ∀ (cs : List Value) (k o : Nat) (X : List Value), X.length = o + k + cs.length → (cs.zipIdx k).foldl (fun (c : Array Value) x => c.setIfInBounds (o + x.2) x.1) X.toArray = (X.take (o + k) ++ cs).toArray
  | [], k, o, X, h => by simp at h; simp [List.take_of_length_le, h]
  | v :: r, k, o, X, h => by
    rw [List.zipIdx_cons, List.foldl_cons]
    have e : X.toArray.setIfInBounds (o + k) v = (X.set (o + k) v).toArray := by simp
    show (r.zipIdx (k + 1)).foldl _ (X.toArray.setIfInBounds (o + k) v) = _
    rw [e, fold_set r (k + 1) o (X.set (o + k) v) (by rw [List.length_set]; simp at h; omega)]
    have hlt : o + k < X.length := by simp at h; omega
    congr 1
    rw [show o + (k + 1) = o + k + 1 by omega, List.take_succ_eq_append_getElem (by rw [List.length_set]; exact hlt), List.getElem_set_self, List.take_set, List.set_eq_of_length_le (by simp; omega), List.append_assoc]
    rfl
def bldW (ps : Array (Nat × Value)) : Sem Value := Instr.build 67 ps
theorem bldW_of (ps : Array (Nat × Value)) : Instr.build 67 ps = bldW ps := rfl
theorem run_bldW (a : Nat) (cs : List Value) (h : cs.length = 128) (w : World) : (bldW #[(0, .int .i64 ((a : Nat) : Int)), (1, .agg cs.toArray)]).run Try.prog w = .ok (.agg (wcs a cs).toArray) w := by
  unfold bldW
  refine run_build w _ _ _ ?_
  have hp : Try.prog.built 67 #[(0, Value.int .i64 ((a : Nat) : Int)), (1, .agg cs.toArray)].toList = Instr.fill (#[(0, 1), (1, 128)][·]?) (wcell (0, zs 128)).toArray [(0, .int .i64 ((a : Nat) : Int)), (1, .agg cs.toArray)] := by kernel_rfl
  rw [hp]
  have hw : (wcell (0, zs 128)).length = 129 := wcell_length (zs_length 128)
  obtain ⟨X, hX⟩ : ∃ X, wcell (0, zs 128) = X := ⟨_, rfl⟩
  rw [hX] at hw ⊢
  have := fold_set cs 0 1 (X.set 0 (.int .i64 ((a : Nat) : Int))) (by rw [List.length_set, hw, h])
  simp [Instr.fill, Value.cells, hw, h, wcs] at this ⊢
  rw [this]
  cases X with
  | nil => simp at hw
  | cons x X => simp
def bldS (n : Nat) (ps : Array (Nat × Value)) : Sem Value := Instr.buildSlice 55 n ps
theorem bldS_of (n : Nat) (ps : Array (Nat × Value)) : Instr.buildSlice 55 n ps = bldS n ps := rfl
theorem run_bldS (c : List Value) (h : c.length = 129) (w : World) : (bldS 1 #[(0, .agg c.toArray)]).run Try.prog w = .ok (.slice (some ⟨w.heap.size, 0, none⟩) 1 1) (w.alloc (.cells c.toArray 67)) := by
  obtain ⟨i, hi, hz0, hz1, hz2⟩ := info_parts Try.infoW
  have hz := zero_w w
  obtain ⟨Z, hZ⟩ : ∃ Z : List Value, ((Array.range (1 * 129)).map (wzero[· % wzero.size]!)) = Z.toArray := ⟨_, rfl⟩
  have hZl : Z.length = 129 := by rw [← List.size_toArray, ← hZ]; simp
  have := fold_set c 0 0 Z (by rw [hZl, h])
  simp only [Nat.zero_add, Nat.add_zero, List.take_zero, List.nil_append] at this
  rw [Nat.one_mul] at hZ
  unfold bldS Instr.buildSlice
  simp [Sem.run_bind, run_underlying Try.underlying55, sizeOf, typeInfo, hi, hz1, hz, Value.cells, newRow, hZ, Instr.fill, h, this]
/-- a sector, loaded -/
def ldS (v : Value) : Sem Value := Instr.loadAt 65 v
theorem ldS_of (v : Value) : Instr.loadAt 65 v = ldS v := rfl
theorem Try.sizeW : (Try.prog.info? 67).map (·.size) = some 129 := by kernel_rfl
theorem Try.sizeS : (Try.prog.info? 65).map (·.size) = some 128 := by kernel_rfl
theorem cell_far {w : World} {a : Addr} {v : Value} (h : w.cell? a = some v) {b o : Nat} {cs : List Value} (hb : a.block ≠ b) : (w.setCells b o cs).cell? a = some v := by
  rw [World.cell?_setCells_out b cs o w a (fun e _ => absurd e hb)]; exact h
theorem run_ldS {w : World} {b o : Nat} {cs : List Value} (h : w.rangeAt b o cs) (hl : cs.length = 128) : (ldS (.pointer (some ⟨b, o, none⟩))).run Try.prog w = .ok (.agg cs.toArray) w :=
  run_loadAt_mid w b o _ cs _ h Try.underlying65 rfl (by rw [hl]; exact Try.sizeS)
theorem cell_set {w : World} {a p : Addr} {v u : Value} (h : w.cell? a = some v) (hp : p ≠ a) : (w.setCell p u).cell? a = some v := by rw [World.cell?_setCell_other _ _ _ _ hp]; exact h
theorem range_set {w : World} {b o : Nat} {cs : List Value} (h : w.rangeAt b o cs) {p : Addr} {u : Value} (hp : p.block ≠ b) : (w.setCell p u).rangeAt b o cs := fun j v hv => by
  rw [World.cell?_setCell_other _ _ _ _ (fun e => hp (by rw [e]))]; exact h j v hv
theorem cell_grown {w w' : World} {r : Option Nat} {a : Addr} {v : Value} (h : w.cell? a = some v) (hg : w.grownBy w' r) (hr : some a.block ≠ r) : w'.cell? a = some v := hg.cell h hr
theorem range_grown {w w' : World} {r : Option Nat} {b o : Nat} {cs : List Value} (h : w.rangeAt b o cs) (hg : w.grownBy w' r) (hr : some b ≠ r) : w'.rangeAt b o cs := fun j v hv => hg.cell (a := ⟨b, o + j, none⟩) (h j v hv) hr
theorem frozen_grown {w w' : World} {r : Option Nat} {a : Addr} (h : w.frozen? a = false) (hlt : a.block < w.heap.size) (hg : w.grownBy w' r) (hr : some a.block ≠ r) : w'.frozen? a = false := by rw [World.frozen?_of_block (hg.block _ hlt hr)]; exact h
theorem cell_alloc {w : World} {a : Addr} {v : Value} (h : w.cell? a = some v) (o : Obj) : (w.alloc o).cell? a = some v := by
  rw [World.cell?_alloc_lt _ _ _ (World.block_lt_of_cell? w _ h)]; exact h
theorem cell_drew1 {w : World} {a : Addr} {v : Value} (h : w.cell? a = some v) : w.drew.cell? a = some v := h
theorem range_drew1 {w : World} {b o : Nat} {cs : List Value} (h : w.rangeAt b o cs) : w.drew.rangeAt b o cs := h
theorem there_drew1 {w : World} {b o n : Nat} (h : w.there b o n) : w.drew.there b o n := h
end Go.Proofs.Ytmaodnidodoadaa
