/-
  A write in a variable of its own: made, read out of what waits, laid into it.
  Bytes that grow by append: onto a slice of the call's own; so many zeros.
  Bytes in a slice of the call's own: cell by cell, written, handed on.
  Copies: of bytes, of integers, of flags.
-/
import Derived.Test.YtnfaeejeipbciaaB4
import Derived.Deep.WholeRow
import Derived.Test.YtnfaeejeipbciaaB1
import Derived.Laws.AppendOwnNone
import Derived.WalkSpells

section
set_option linter.unusedVariables false
set_option linter.unusedSimpArgs false
namespace Go.Proofs.Ytnfaeejeipbciaa
open Go.RowKit BigFrame

/-- block g is new, and holds these cells -/
def NewVar (w : World) (g : Nat) (w1 : World) (cs : Array Value) (t : TypeId) : Prop := g = w.heap.size ∧ w1.heap[g]? = some (.cells cs t (0, 0)) ∧ Below w.heap.size w w1
def wzero : Array Value := (wcell (0, zs 128)).toArray
theorem Try.infoW : (Try.prog.info? 99).map (fun i => (i.zero, i.size, i.bytes)) = some (some (.agg (wcell (0, zs 128)).toArray), 129, 136) := by kernel_rfl
theorem wpList_alloc_w {w : World} {ops : Array Oper} {rest : List Oper} {o : Oper} {a : Act} {Q : Exit → Act → World → Prop} (hgd : o.guard = none) (ho : o.op = .alloc 99)
    (h : ∀ g w1, Hid (NewVar w g w1 wzero 99) → wpList Try.prog ops Q rest (a.put o.dst (.pointer (some ⟨g, 0, none⟩))) w1) : wpList Try.prog ops Q (o :: rest) a w := by
  refine wpList_plain hgd fun K hK => ?_
  obtain ⟨i, hi, hz0, hz1, hz2⟩ := info_parts Try.infoW
  have hz : (zeroValue 99).run Try.prog w = .ok (.agg wzero) w := by simp [zeroValue, typeInfo, hi, hz0, wzero]
  unfold Oper.wp
  simp [execOp, ho, Instr.alloc, Sem.run_bind, hz, newVar, Value.cells, Result.andThen]
  exact hK _ _ (h _ _ ⟨rfl, heap_alloc_new w _, (Below.refl _ _).alloc (Nat.le_refl _) _⟩)
theorem wpList_store_w {w0 w : World} {ops : Array Oper} {rest : List Oper} {o : Oper} {a : Act} {Q : Exit → Act → World → Prop} (hgd : o.guard = none) (x y : Operand) (ho : o.op = .store 99 x y)
    (g : Nat) (cs : List Value) (old : Array Value) (hx : a.eval x = .pointer (some ⟨g, 0, none⟩)) (hy : a.eval y = .agg cs.toArray) (hv : NewVar w0 g w old 99) (hold : old.size = 129) (hcs : cs.length = 129) (h1 : ∀ v ∈ cs, v.oneCell' = true)
    (h : ∀ w2, Hid (NewVar w0 g w2 cs.toArray 99) → wpList Try.prog ops Q rest (a.put o.dst undef) w2) : wpList Try.prog ops Q (o :: rest) a w := by
  obtain ⟨i, hi, hz0, hz1, hz2⟩ := info_parts Try.infoW
  obtain ⟨hg, hh, hb⟩ := hv
  refine wpList_store_row hgd _ x y ho g cs.toArray hx hy _ old hh (by rw [hi]; simp [hz1, hcs]) (by simp [hold, hcs]) (all_oneCell_toArray h1) ?_
  exact h _ ⟨hg, setRow_heap w g _ _ _ _ hh, hb.trans ⟨rfl, rfl, rfl, by simp, fun k hk => setRow_other w g k _ (by omega)⟩⟩
theorem zero_w (w : World) : (zeroValue 99).run Try.prog w = .ok (.agg wzero) w := by
  obtain ⟨i, hi, hz0, hz1, hz2⟩ := info_parts Try.infoW
  simp [zeroValue, typeInfo, hi, hz0, wzero]
theorem wzero_size : wzero.size = 129 := by simp [wzero, wcell, bv_length, zs_length]
/-- a write is read out of what waits -/
theorem own_w_range {w : World} {B : Nat} {v : Value} {l : List (Nat × List Nat)} (h : w.ownsRow B 99 129 v l.length (wcells l)) (hl : ∀ p ∈ l, p.2.length = 128) {k : Nat} (hk : k < l.length) :
    ∃ g cap, v = .slice (some ⟨g, 0, none⟩) l.length cap ∧ l.length ≤ cap ∧ v.ownBlock = some g ∧ B ≤ g ∧ g < w.heap.size ∧ ∀ k, k < l.length → w.rangeAt g (k * 129) (wcell (wtAt l k)) := by
  have hc := fun g hg => World.ownsRow.cells h (g := g) hg
  have hlt := World.ownsRow.lt h
  rcases h.2 with ⟨_, e⟩ | ⟨g, cap, cur, rfl, hb, hh, hn, _, _, _⟩
  · omega
  · refine ⟨g, cap, rfl, hn, rfl, hb, (hlt g rfl).2, fun k hk j u hu => ?_⟩
    have hj : j < 129 := by
      have := (List.getElem?_eq_some_iff.1 hu).1
      rwa [wcell_length (hl _ (wtAt_mem hk))] at this
    have := hc g rfl (k * 129 + j) u (by
      unfold wcells
      rw [flat_get wcell 129 l (fun x hx => wcell_length (hl x hx)) k hk j hj, ← wtAt_get hk]
      exact hu)
    rwa [addr_add, Nat.zero_add] at this
theorem NewVar.cell0 {w w1 : World} {g : Nat} {p : Nat × List Nat} {t : TypeId} (h : NewVar w g w1 (wcell p).toArray t) : w1.cell? ⟨g, 0, none⟩ = some (.int .i64 ((p.1 : Nat) : Int)) := by
  rw [cell_of_row _ _ _ _ _ _ h.2.1]; simp [wcell]
theorem NewVar.range {w w1 : World} {g : Nat} {p : Nat × List Nat} {t : TypeId} (h : NewVar w g w1 (wcell p).toArray t) : w1.rangeAt g 1 (bv p.2) := fun j v hv => by
  rw [cell_of_row _ _ _ _ _ _ h.2.1]
  simp only [wcell, List.getElem?_toArray]
  rw [Nat.add_comm, List.getElem?_cons_succ]
  exact hv
/-- what a round over what waits finds -/
theorem IsDkS.round {w : World} {B : Nat} {G : Nat} {A : Lies} {d : Dk} {sn : Nat → List Nat} (h : IsDkS w B G A d sn) {a : Option Addr} {nw cap k : Nat} (hv : A.vw = .slice a nw cap) (hk : k < nw) :
    nw = d.waits.length ∧ nw ≤ cap ∧ ∃ gw, a = some ⟨gw, 0, none⟩ ∧ w.rangeAt gw (k * 129) (wcell (wtAt d.waits k)) ∧ (wtAt d.waits k).1 < d.n ∧ (wtAt d.waits k).2.length = 128 := by
  have hn : nw = d.waits.length := by
    have := h.waits
    rw [hv] at this
    rcases this.2 with ⟨e, e2⟩ | ⟨g, cap, cur, e, _⟩
    · simp only [Value.slice.injEq] at e; omega
    · simp only [Value.slice.injEq] at e; exact e.2.1
  subst hn
  obtain ⟨gw, cap', e, hc, _, _, _, hr⟩ := own_w_range h.waits (fun p hp => (h.fine.waits p hp).2) hk
  rw [hv] at e
  simp only [Value.slice.injEq, true_and] at e
  obtain ⟨rfl, rfl⟩ := e
  have := h.fine.waits _ (wtAt_mem hk)
  exact ⟨rfl, hc, gw, rfl, hr k hk, this.1, this.2⟩
/-- the slice of what waits, as it stands in the disk -/
theorem IsDkS.vw {w : World} {B : Nat} {G : Nat} {A : Lies} {d : Dk} {sn : Nat → List Nat} (h : IsDkS w B G A d sn) : ∃ a cap, A.vw = .slice a d.waits.length cap := by
  rcases h.waits.2 with ⟨e, e2⟩ | ⟨g, cap, cur, e, _⟩
  · exact ⟨none, 0, by rw [e, e2]⟩
  · exact ⟨_, cap, e⟩
/-- a write, put together -/
def wcs (a : Nat) (cs : List Value) : List Value := .int .i64 ((a : Nat) : Int) :: cs
theorem wcs_length {a : Nat} {cs : List Value} (h : cs.length = 128) : (wcs a cs).length = 129 := by simp [wcs, h]
theorem fold_set : ∀ (cs : List Value) (k o : Nat) (X : List Value), X.length = o + k + cs.length → (cs.zipIdx k).foldl (fun (c : Array Value) x => c.setIfInBounds (o + x.2) x.1) X.toArray = (X.take (o + k) ++ cs).toArray
  | [], k, o, X, h => by simp at h; simp [List.take_of_length_le, h]
  | v :: r, k, o, X, h => by
    rw [List.zipIdx_cons, List.foldl_cons]
    have e : X.toArray.setIfInBounds (o + k) v = (X.set (o + k) v).toArray := by simp
    show (r.zipIdx (k + 1)).foldl _ (X.toArray.setIfInBounds (o + k) v) = _
    rw [e, fold_set r (k + 1) o (X.set (o + k) v) (by rw [List.length_set]; simp at h; omega)]
    have hlt : o + k < X.length := by simp at h; omega
    congr 1
    rw [show o + (k + 1) = o + k + 1 by omega, List.take_succ_eq_append_getElem (by rw [List.length_set]; exact hlt), List.getElem_set_self, List.take_set, List.set_eq_of_length_le (by simp; omega), List.append_assoc]
    rfl
def bldW (ps : Array (Nat × Value)) : Sem Value := Instr.build 99 ps
theorem bldW_of (ps : Array (Nat × Value)) : Instr.build 99 ps = bldW ps := rfl
theorem run_bldW (a : Nat) (cs : List Value) (h : cs.length = 128) (w : World) : (bldW #[(0, .int .i64 ((a : Nat) : Int)), (1, .agg cs.toArray)]).run Try.prog w = .ok (.agg (wcs a cs).toArray) w := by
  unfold bldW
  refine run_build w _ _ _ ?_
  have hp : Try.prog.built 99 #[(0, Value.int .i64 ((a : Nat) : Int)), (1, .agg cs.toArray)].toList = Instr.fill (#[(0, 1), (1, 128)][·]?) (wcell (0, zs 128)).toArray [(0, .int .i64 ((a : Nat) : Int)), (1, .agg cs.toArray)] := by kernel_rfl
  rw [hp]
  have hw : (wcell (0, zs 128)).length = 129 := wcell_length (zs_length 128)
  obtain ⟨X, hX⟩ : ∃ X, wcell (0, zs 128) = X := ⟨_, rfl⟩
  rw [hX] at hw ⊢
  have := fold_set cs 0 1 (X.set 0 (.int .i64 ((a : Nat) : Int))) (by rw [List.length_set, hw, h])
  simp [Instr.fill, Value.cells, hw, h, wcs] at this ⊢
  rw [this]
  cases X with
  | nil => simp at hw
  | cons x X => simp
def bldS (n : Nat) (ps : Array (Nat × Value)) : Sem Value := Instr.buildSlice 65 n ps
theorem bldS_of (n : Nat) (ps : Array (Nat × Value)) : Instr.buildSlice 65 n ps = bldS n ps := rfl
theorem run_bldS (c : List Value) (h : c.length = 129) (w : World) : (bldS 1 #[(0, .agg c.toArray)]).run Try.prog w = .ok (.slice (some ⟨w.heap.size, 0, none⟩) 1 1) (w.alloc (.cells c.toArray 99)) := by
  obtain ⟨i, hi, hz0, hz1, hz2⟩ := info_parts Try.infoW
  have hz := zero_w w
  obtain ⟨Z, hZ⟩ : ∃ Z : List Value, ((Array.range (1 * 129)).map (wzero[· % wzero.size]!)) = Z.toArray := ⟨_, rfl⟩
  have hZl : Z.length = 129 := by rw [← List.size_toArray, ← hZ]; simp
  have := fold_set c 0 0 Z (by rw [hZl, h])
  simp only [Nat.zero_add, Nat.add_zero, List.take_zero, List.nil_append] at this
  rw [Nat.one_mul] at hZ
  unfold bldS Instr.buildSlice
  simp [Sem.run_bind, run_underlying Try.underlying65, sizeOf, typeInfo, hi, hz1, hz, Value.cells, newRow, hZ, Instr.fill, h, this] <;> (rw [show Array.map (fun x => Try.zeroCells99[x % 129]!) (Array.range 129) = Z.toArray from (by rw [← hZ]; kernel_rfl), this])
/-- a sector, loaded -/
def ldS (v : Value) : Sem Value := Instr.loadAt 90 v
theorem ldS_of (v : Value) : Instr.loadAt 90 v = ldS v := rfl
theorem Try.sizeW : (Try.prog.info? 99).map (·.size) = some 129 := by kernel_rfl
theorem Try.sizeS : (Try.prog.info? 90).map (·.size) = some 128 := by kernel_rfl
theorem cell_far {w : World} {a : Addr} {v : Value} (h : w.cell? a = some v) {b o : Nat} {cs : List Value} (hb : a.block ≠ b) : (w.setCells b o cs).cell? a = some v := by
  rw [World.cell?_setCells_out b cs o w a (fun e _ => absurd e hb)]; exact h
theorem run_ldS {w : World} {b o : Nat} {cs : List Value} (h : w.rangeAt b o cs) (hl : cs.length = 128) : (ldS (.pointer (some ⟨b, o, none⟩))).run Try.prog w = .ok (.agg cs.toArray) w :=
  run_loadAt_mid w b o _ cs _ h Try.underlying90 rfl (by rw [hl]; exact Try.sizeS)
theorem cell_set {w : World} {a p : Addr} {v u : Value} (h : w.cell? a = some v) (hp : p ≠ a) : (w.setCell p u).cell? a = some v := by rw [World.cell?_setCell_other _ _ _ _ hp]; exact h
theorem range_set {w : World} {b o : Nat} {cs : List Value} (h : w.rangeAt b o cs) {p : Addr} {u : Value} (hp : p.block ≠ b) : (w.setCell p u).rangeAt b o cs := fun j v hv => by
  rw [World.cell?_setCell_other _ _ _ _ (fun e => hp (by rw [e]))]; exact h j v hv
theorem cell_grown {w w' : World} {r : Option Nat} {a : Addr} {v : Value} (h : w.cell? a = some v) (hg : w.grownBy w' r) (hr : some a.block ≠ r) : w'.cell? a = some v := hg.cell h hr
theorem range_grown {w w' : World} {r : Option Nat} {b o : Nat} {cs : List Value} (h : w.rangeAt b o cs) (hg : w.grownBy w' r) (hr : some b ≠ r) : w'.rangeAt b o cs := fun j v hv => hg.cell (a := ⟨b, o + j, none⟩) (h j v hv) hr
theorem frozen_grown {w w' : World} {r : Option Nat} {a : Addr} (h : w.frozen? a = false) (hlt : a.block < w.heap.size) (hg : w.grownBy w' r) (hr : some a.block ≠ r) : w'.frozen? a = false := by rw [World.frozen?_of_block (hg.block _ hlt hr)]; exact h
theorem cell_alloc {w : World} {a : Addr} {v : Value} (h : w.cell? a = some v) (o : Obj) : (w.alloc o).cell? a = some v := by
  rw [World.cell?_alloc_lt _ _ _ (World.block_lt_of_cell? w _ h)]; exact h
theorem cell_drew1 {w : World} {a : Addr} {v : Value} (h : w.cell? a = some v) : w.drew.cell? a = some v := h
theorem range_drew1 {w : World} {b o : Nat} {cs : List Value} (h : w.rangeAt b o cs) : w.drew.rangeAt b o cs := h
theorem there_drew1 {w : World} {b o n : Nat} (h : w.there b o n) : w.drew.there b o n := h
end Go.Proofs.Ytnfaeejeipbciaa
end

section
set_option linter.unusedVariables false
set_option linter.unusedSimpArgs false
namespace Go.Proofs.Ytnfaeejeipbciaa
open Go.RowKit

/-- v is a slice of the call's own, from block base on, that holds these bytes -/
def OwnB (w : World) (base : Nat) (v : Value) (l : List Nat) : Prop := w.ownsRow base 5 1 v l.length (bv l)
theorem OwnB.form {w : World} {base : Nat} {v : Value} {l : List Nat} (h : OwnB w base v l) (h0 : 0 < l.length) :
    ∃ g cap, v = .slice (some ⟨g, 0, none⟩) l.length cap ∧ l.length ≤ cap ∧ base ≤ g ∧ g < w.heap.size ∧ BAt w (some ⟨g, 0, none⟩) l := by
  have hc := fun g hg => World.ownsRow.cells h (g := g) hg
  rcases h.2 with ⟨_, e⟩ | ⟨g, cap, cur, rfl, hb, hh, hn, _, _, _⟩
  · omega
  · refine ⟨g, cap, rfl, hn, hb, (Array.getElem?_eq_some_iff.1 hh).1, .inr ⟨g, 0, rfl, fun k hk => ?_⟩⟩
    have := hc g rfl k _ (bv_get hk)
    rwa [addr_add] at this
theorem OwnB.on {w w' : World} {base B : Nat} {v : Value} {l : List Nat} (h : OwnB w base v l) (hb : Below B w w') (hB : w.heap.size ≤ B) : OwnB w' base v l :=
  World.ownsRow.kept h (row := none) ⟨hb.os, hb.tape, hb.output, hb.size, fun k hk _ => hb.block k (by omega)⟩ (by cases v.ownBlock with
    | none => exact .inl rfl
    | some k => exact .inr (fun h => by cases h))
theorem OwnB.nil (w : World) (base : Nat) : OwnB w base (.slice none 0 0) [] := World.ownsRow_nil _ _ _ _
theorem OwnB.grown {w w' : World} {base : Nat} {v : Value} {l : List Nat} (h : OwnB w base v l) (hg : w.grownBy w' v.ownBlock) (hb : base ≤ w.heap.size) : Below base w w' :=
  (Below.refl _ _).grown hg hb (fun k hk => (World.ownsRow.lt h k hk).1)
/-- a new block that holds these bytes, as a slice of the call's own -/
theorem OwnB.made (w : World) (l : List Nat) (base : Nat) (hb : base ≤ w.heap.size) (hl : l.length ≤ 1000000) : OwnB (w.alloc (.cells (bv l).toArray 5)) base (.slice (some ⟨w.heap.size, 0, none⟩) l.length l.length) l := by
  refine ⟨by rw [bv_length, Nat.mul_one], .inr ⟨w.heap.size, l.length, _, rfl, hb, heap_alloc_new w _, Nat.le_refl _, by unfold maxLen; omega, by simp [bv_length], ?_⟩⟩
  rw [Nat.mul_one, List.take_of_length_le (by simp [bv_length])]
theorem OwnB.len {w : World} {base : Nat} {v : Value} {l : List Nat} (h : OwnB w base v l) (h0 : l.length = 0) : ∃ a cap, v = .slice a 0 cap ∧ (a = none → cap = 0) := by
  rcases h.2 with ⟨rfl, e⟩ | ⟨g, cap, cur, rfl, _⟩
  · exact ⟨none, 0, rfl, fun _ => rfl⟩
  · rw [h0]; exact ⟨_, _, rfl, fun h => by cases h⟩

theorem wpList_append_bytes {w : World} {ops : Array Oper} {rest : List Oper} {o : Oper} {a : Act} {Q : Exit → Act → World → Prop} (hgd : o.guard = none) (s x : Operand)
    (ho : o.op = .call { callee := .builtin .append, args := #[s, x], argTypes := #[54, 54] })
    (base : Nat) (v : Value) (L : List Nat) (hs : a.eval s = v) (hown : OwnB w base v L) (sp : Option Addr) (n sCap : Nat) (m : List Nat) (hx : a.eval x = .slice sp n sCap) (hm : m.length = n) (hsrc : BAt w sp m) (hnil : sp = none → sCap = 0)
    (hlen : L.length + n ≤ 1000000) (hbase : base ≤ w.heap.size)
    (h : ∀ v' w', Hid (OwnB w' base v' (L ++ m)) → w.grownBy w' v.ownBlock → Below base w w' → wpList Try.prog ops Q rest (a.put o.dst v') w') : wpList Try.prog ops Q (o :: rest) a w := by
  subst hm
  obtain ⟨i, hi, hz0, hz1, hz2⟩ := info_parts Try.infoB
  cases sp with
  | none =>
    obtain rfl := hnil rfl
    have hm : m = [] := by
      rcases hsrc with h | ⟨b, off, e, _⟩
      · exact List.eq_nil_of_length_eq_zero h
      · cases e
    subst hm
    refine wpList_append_own_none hgd s x _ ho base 5 i 1 Try.underlying54 hi v L.length (bv L) hs hown hx (h _ _ ?_ (World.grownBy.refl _ _) (Below.refl _ _))
    show OwnB w base v (L ++ [])
    rw [List.append_nil]; exact hown
  | some ad =>
    refine wpList_append_own w hgd s x _ ho base 5 i (.int .u8 0) 1 1 Try.underlying54 hi hz0 hz1 hz2 rfl (by decide) v L.length (bv L) hs hown ad m.length sCap (bv m) hx (by rw [bv_length, Nat.mul_one]) ?_ (bv_one m) (by unfold maxLen; omega) (by omega) hbase ?_
    · intro j u hu
      obtain ⟨hj, rfl⟩ := bv_at hu
      obtain ⟨b, off, e⟩ := hsrc.addr (by omega)
      obtain rfl := Option.some.inj e
      rw [addr_add]; exact hsrc.cell hj
    · intro v' w' hv hg _
      refine h v' w' ?_ hg (hown.grown hg hbase)
      show OwnB w' base v' (L ++ m)
      unfold OwnB
      rw [List.length_append, bv_append]; exact hv

theorem zeroCells_bytes (n : Nat) : Builtin.zeroCells (Value.int .u8 0).cells n = (bv (zs n)).toArray := by
  apply Array.ext
  · simp [Builtin.zeroCells, bv, zs, Value.cells]
  · intro k h1 h2
    simp [Builtin.zeroCells, bv, zs, Value.cells, Nat.mod_one]

theorem take_front (X Y : List Value) : (X ++ Y).toArray.toList.take (X.length * 1) = X := by simp
theorem take_front2 (X Y : List Value) (Z : Array Value) : (X.toArray ++ Y.toArray ++ Z).toList.take ((X ++ Y).length * 1) = X ++ Y := by
  simp [List.take_append]
  exact List.take_of_length_le (by omega)

theorem run_append_zeros_new {w : World} (base g n cap k : Nat) (L : List Nat) (ty : TypeId) (hown : OwnB w base (.slice (some ⟨g, 0, none⟩) n cap) L) (hn : L.length = n) (hlen : n + k ≤ 1000000) (hbase : base ≤ w.heap.size) :
    ∃ v' w', (Builtin.append_ #[54, 3] ty #[.slice (some ⟨g, 0, none⟩) n cap, .int .i64 (k : Int)]).run Try.prog w = .ok v' w' ∧ OwnB w' base v' (L ++ zs k) ∧ w.grownBy w' (some g) ∧ ∀ j, v'.ownBlock = some j → some g = some j ∨ w.heap.size ≤ j := by
  obtain ⟨i, hi, hz0, hz1, hz2⟩ := info_parts Try.infoB
  subst hn
  have hcells := fun j u hu => World.ownsRow.cells hown (g := g) rfl j u hu
  have hlen2 : (bv (L ++ zs k)).length = (L ++ zs k).length * 1 := by rw [bv_length, Nat.mul_one]
  have hw : IntKind.i64.wrap (k : Int) = (k : Int) := by rw [IntKind.wrap_i64]; omega
  have hneg : ¬ (k : Int) < 0 := by omega
  have hbig : ¬ (281474976710656 : Int) < (k : Int) * (i.bytes : Int) := by rw [hz2]; omega
  have hap : (if k = 0 then #[] else Builtin.zeroCells (Value.int .u8 0).cells k) = (bv (zs k)).toArray := by
    rw [← zeroCells_bytes]
    split
    · rename_i h; subst h; simp [Builtin.zeroCells]
    · rfl
  rcases hown.2 with ⟨e, _⟩ | ⟨g', cap', cur, e, hbg, hg, hnc, hcm, hcs, htake⟩
  · cases e
  · simp only [Value.slice.injEq, Option.some.injEq, Addr.mk.injEq, and_true] at e
    obtain ⟨rfl, -, rfl⟩ := e
    by_cases hroom : L.length + k ≤ cap
    · have hst := run_storeCells_at Try.prog g L.length 5 (bv (zs k)) 0 cur w hg (by rw [bv_length, zs_length, hcs]; omega) (bv_one _)
      simp only [Nat.add_zero] at hst
      have e1 : cur.toList.take L.length = bv L := by rw [← htake, Nat.mul_one]
      rw [e1, bv_length, zs_length] at hst
      refine ⟨.slice (some ⟨g, 0, none⟩) (L.length + k) cap, w.setRow g (bv L ++ bv (zs k) ++ cur.toList.drop (L.length + k)).toArray, ?_, ⟨hlen2, .inr ⟨g, cap, (bv L ++ bv (zs k) ++ cur.toList.drop (L.length + k)).toArray, by rw [List.length_append, zs_length], hbg, setRow_heap w g cur _ _ _ hg, by rw [List.length_append, zs_length]; exact hroom, hcm, ?_, ?_⟩⟩, ⟨rfl, rfl, rfl, by simp, fun j _ hj => setRow_other w g j _ (fun e => hj (by rw [e]))⟩, fun j h => .inl h⟩
      · by_cases h0 : k = 0
        · subst h0
          have e3 : w.setRow g (bv L ++ bv (zs 0) ++ cur.toList.drop (L.length + 0)).toArray = w := by
            rw [← e1]
            simp [bv, zs, setRow_self w g cur _ _ hg]
          rw [e3]
          simp [Builtin.append_, run_underlying Try.underlying54, run_underlying Try.underlying3, sizeOf, typeInfo, hi, asInt, asIntOf, IntKind.wrap_i64, hnc, storeCells]
        · simp [Builtin.append_, run_underlying Try.underlying54, run_underlying Try.underlying3, sizeOf, typeInfo, hi, hz0, hz1, zeroValue, asInt, asIntOf, hw, hneg, hbig, hroom, h0, zeroCells_bytes, Addr.add_lit, hst]
      · simp only [List.size_toArray, List.length_append, List.length_drop, bv_length, zs_length, Array.length_toList]
        omega
      · rw [← bv_length (L ++ zs k), bv_append]
        exact take_front _ _
    · have hk0 : k ≠ 0 := by omega
      have hfo := run_firstCells_some (P := Try.prog) w.drew i.size L.length ⟨g, 0, none⟩ L.length cap (bv L) (by rw [bv_length, hz1, Nat.mul_one]) (by simpa using hcells)
      rw [hz1] at hfo
      have h48 : ¬ (281474976710656 < Builtin.nextslicecap (L.length + k) cap * i.bytes) := by
        have := nextslicecap_le (show cap < L.length + k by omega)
        rw [hz2]; omega
      have h63 : ¬ (9223372036854775807 < ((L.length : Int) + (k : Int))) := by omega
      have hge := grownCap_ge w (L.length + k) cap 5
      have hcm2 := grownCap_le_maxLen w (L.length + k) cap 5 (by unfold maxLen; omega)
      refine ⟨.slice (some ⟨w.heap.size, 0, none⟩) (L.length + k) (grownCap w (L.length + k) cap 5), w.drew.alloc (.cells ((bv L).toArray ++ (bv (zs k)).toArray ++ Builtin.zeroCells (Value.int .u8 0).cells (grownCap w (L.length + k) cap 5 - (L.length + k))) 5), ?_, ⟨hlen2, .inr ⟨w.heap.size, _, _, by rw [List.length_append, zs_length], hbase, heap_alloc_new w.drew _, by rw [List.length_append, zs_length]; exact hge, hcm2, ?_, ?_⟩⟩, ⟨rfl, rfl, rfl, by simp, fun j hj _ => heap_alloc_old w.drew _ hj⟩, fun j h => .inr (Nat.le_of_eq (Option.some.inj h))⟩
      · simp [Builtin.append_, run_underlying Try.underlying54, run_underlying Try.underlying3, sizeOf, typeInfo, hi, hz0, hz1, zeroValue, asInt, asIntOf, hw, hneg, hbig, hroom, hk0, h63, h48, Question.forced, hfo, newRow, grownCap, zeroCells_bytes]
      · simp only [Array.size_append, List.size_toArray, size_zeroCells, bv_length, zs_length, Value.cells]
        simp; omega
      · rw [← bv_length (L ++ zs k), bv_append]
        exact take_front2 _ _ _

theorem run_append_zeros {w : World} (base g n cap k : Nat) (L : List Nat) (ty : TypeId) (hown : OwnB w base (.slice (some ⟨g, 0, none⟩) n cap) L) (hn : L.length = n) (hlen : n + k ≤ 1000000) (hbase : base ≤ w.heap.size) :
    ∃ v' w', (Builtin.append_ #[54, 3] ty #[.slice (some ⟨g, 0, none⟩) n cap, .int .i64 (k : Int)]).run Try.prog w = .ok v' w' ∧ OwnB w' base v' (L ++ zs k) ∧ w.grownBy w' (some g) := by
  obtain ⟨v', w', h1, h2, h3, _⟩ := run_append_zeros_new base g n cap k L ty hown hn hlen hbase
  exact ⟨v', w', h1, h2, h3⟩
theorem run_append_zeros_nil_new {w : World} (base k : Nat) (ty : TypeId) (hlen : k ≤ 1000000) (hbase : base ≤ w.heap.size) :
    ∃ v' w', (Builtin.append_ #[54, 3] ty #[.slice none 0 0, .int .i64 (k : Int)]).run Try.prog w = .ok v' w' ∧ OwnB w' base v' (zs k) ∧ w.grownBy w' none ∧ ∀ j, v'.ownBlock = some j → w.heap.size ≤ j := by
  obtain ⟨i, hi, hz0, hz1, hz2⟩ := info_parts Try.infoB
  have hw : IntKind.i64.wrap (k : Int) = (k : Int) := by rw [IntKind.wrap_i64]; omega
  have hneg : ¬ (k : Int) < 0 := by omega
  have hbig : ¬ (281474976710656 : Int) < (k : Int) * (i.bytes : Int) := by rw [hz2]; omega
  by_cases h0 : k = 0
  · subst h0
    refine ⟨.slice none 0 0, w, ?_, OwnB.nil _ _, World.grownBy.refl _ _, fun j h => by cases h⟩
    simp [Builtin.append_, run_underlying Try.underlying54, run_underlying Try.underlying3, sizeOf, typeInfo, hi, asInt, asIntOf, IntKind.wrap_i64]
  · have h48 : ¬ (281474976710656 < Builtin.nextslicecap k 0 * i.bytes) := by
      rw [nextslicecap_zero (by omega), hz2]; omega
    have h63 : ¬ (9223372036854775807 < (k : Int)) := by omega
    have hge := grownCap_ge w k 0 5
    have hcm2 := grownCap_le_maxLen w k 0 5 (by unfold maxLen; omega)
    refine ⟨.slice (some ⟨w.heap.size, 0, none⟩) k (grownCap w k 0 5), w.drew.alloc (.cells ((bv (zs k)).toArray ++ Builtin.zeroCells (Value.int .u8 0).cells (grownCap w k 0 5 - k)) 5), ?_, ⟨by rw [bv_length, Nat.mul_one], .inr ⟨w.heap.size, _, _, by rw [zs_length], hbase, heap_alloc_new w.drew _, by rw [zs_length]; exact hge, hcm2, ?_, ?_⟩⟩, ⟨rfl, rfl, rfl, by simp, fun j hj _ => heap_alloc_old w.drew _ hj⟩, fun j h => Nat.le_of_eq (Option.some.inj h)⟩
    · simp [Builtin.append_, run_underlying Try.underlying54, run_underlying Try.underlying3, sizeOf, typeInfo, hi, hz0, hz1, zeroValue, asInt, asIntOf, hw, hneg, hbig, h0, h63, h48, Question.forced, run_firstCells_none, newRow, grownCap, zeroCells_bytes]
    · simp only [Array.size_append, List.size_toArray, size_zeroCells, bv_length, zs_length, Value.cells]
      simp; omega
    · rw [← bv_length (zs k)]
      simp
theorem run_append_zeros_nil {w : World} (base k : Nat) (ty : TypeId) (hlen : k ≤ 1000000) (hbase : base ≤ w.heap.size) :
    ∃ v' w', (Builtin.append_ #[54, 3] ty #[.slice none 0 0, .int .i64 (k : Int)]).run Try.prog w = .ok v' w' ∧ OwnB w' base v' (zs k) ∧ w.grownBy w' none := by
  obtain ⟨v', w', h1, h2, h3, _⟩ := run_append_zeros_nil_new (w := w) base k ty hlen hbase
  exact ⟨v', w', h1, h2, h3⟩

theorem wpList_append_zeros_any {w : World} {ops : Array Oper} {rest : List Oper} {o : Oper} {a : Act} {Q : Exit → Act → World → Prop} (hgd : o.guard = none) (s x : Operand)
    (ho : o.op = .call { callee := .builtin .append, args := #[s, x], argTypes := #[54, 3] })
    (base k : Nat) (v : Value) (L : List Nat) (hs : a.eval s = v) (hown : OwnB w base v L) (hx : a.eval x = .int .i64 (k : Int))
    (hlen : L.length + k ≤ 1000000) (hbase : base ≤ w.heap.size)
    (h : ∀ v' w', Hid (OwnB w' base v' (L ++ zs k)) → w.grownBy w' v.ownBlock → Below base w w' → wpList Try.prog ops Q rest (a.put o.dst v') w') : wpList Try.prog ops Q (o :: rest) a w := by
  have key : ∃ v' w', (Builtin.append_ #[54, 3] o.type #[v, .int .i64 (k : Int)]).run Try.prog w = .ok v' w' ∧ OwnB w' base v' (L ++ zs k) ∧ w.grownBy w' v.ownBlock := by
    have hown2 := hown
    rcases hown2.2 with ⟨rfl, e⟩ | ⟨g, cap, cur, rfl, _⟩
    · obtain rfl : L = [] := List.eq_nil_of_length_eq_zero e
      exact run_append_zeros_nil base k o.type (by simpa using hlen) hbase
    · exact run_append_zeros base g L.length cap k L o.type hown rfl hlen hbase
  refine wpList_plain hgd fun K hK => ?_
  obtain ⟨v', w', hr, h1, h2⟩ := key
  unfold Oper.wp
  simp [execOp, ho, resolve, invoke, builtin, hs, hx, hr, Result.andThen]
  exact hK _ _ (h v' w' h1 h2 (hown.grown h2 hbase))

/-- as a slice value with its bytes -/
theorem OwnB.slice {w : World} {base : Nat} {v : Value} {l : List Nat} (h : OwnB w base v l) : ∃ a cap, v = .slice a l.length cap ∧ BAt w a l ∧ (a = none → cap = 0) ∧ l.length ≤ cap := by
  by_cases h0 : 0 < l.length
  · obtain ⟨g, cap, rfl, hc, _, _, hb⟩ := h.form h0
    exact ⟨_, cap, rfl, hb, (fun h => by cases h), hc⟩
  · have e : l.length = 0 := by omega
    obtain ⟨a, cap, rfl, hn⟩ := h.len e
    exact ⟨a, cap, by rw [e], .inl e, hn, by omega⟩

theorem wpList_append_zeros {w : World} {ops : Array Oper} {rest : List Oper} {o : Oper} {a : Act} {Q : Exit → Act → World → Prop} (hgd : o.guard = none) (s x : Operand)
    (ho : o.op = .call { callee := .builtin .append, args := #[s, x], argTypes := #[54, 3] })
    (base g n cap k : Nat) (L : List Nat) (hs : a.eval s = .slice (some ⟨g, 0, none⟩) n cap) (hown : OwnB w base (.slice (some ⟨g, 0, none⟩) n cap) L) (hn : L.length = n) (hx : a.eval x = .int .i64 (k : Int))
    (hlen : n + k ≤ 1000000) (hbase : base ≤ w.heap.size)
    (h : ∀ v' w', Hid (OwnB w' base v' (L ++ zs k)) → w.grownBy w' (some g) → Below base w w' → wpList Try.prog ops Q rest (a.put o.dst v') w') : wpList Try.prog ops Q (o :: rest) a w := by
  refine wpList_plain hgd fun K hK => ?_
  obtain ⟨v', w', hr, h1, h2⟩ := run_append_zeros base g n cap k L o.type hown hn hlen hbase
  unfold Oper.wp
  simp [execOp, ho, resolve, invoke, builtin, hs, hx, hr, Result.andThen]
  exact hK _ _ (h v' w' h1 h2 (hown.grown h2 hbase))
end Go.Proofs.Ytnfaeejeipbciaa
end

section
set_option linter.unusedVariables false
set_option linter.unusedSimpArgs false
namespace Go.Proofs.Ytnfaeejeipbciaa
open Go.RowKit

theorem OwnB.cell {w : World} {base g n cap k : Nat} {l : List Nat} (h : OwnB w base (.slice (some ⟨g, 0, none⟩) n cap) l) (hk : k < l.length) : w.cell? ⟨g, k, none⟩ = some (.int .u8 ((bz l k : Nat) : Int)) :=
  World.ownsRow.cells h (g := g) rfl k _ (bv_get hk) |> fun h => by rwa [addr_add, Nat.zero_add] at h
theorem OwnB.frozen {w : World} {base g n cap : Nat} {l : List Nat} (h : OwnB w base (.slice (some ⟨g, 0, none⟩) n cap) l) (k : Nat) : w.frozen? ⟨g, k, none⟩ = false := by
  rcases h.2 with ⟨e, _⟩ | ⟨g', cap', cur, e, _, hg, _⟩
  · cases e
  · simp only [Value.slice.injEq, Option.some.injEq, Addr.mk.injEq, and_true] at e
    obtain ⟨rfl, _, rfl⟩ := e
    simp [World.frozen?, hg]
theorem OwnB.base {w : World} {base g n cap : Nat} {l : List Nat} (h : OwnB w base (.slice (some ⟨g, 0, none⟩) n cap) l) : base ≤ g ∧ g < w.heap.size := by
  rcases h.2 with ⟨e, _⟩ | ⟨g', cap', cur, e, hb, hg, _⟩
  · cases e
  · simp only [Value.slice.injEq, Option.some.injEq, Addr.mk.injEq, and_true] at e
    obtain ⟨rfl, _, rfl⟩ := e
    exact ⟨hb, (Array.getElem?_eq_some_iff.1 hg).1⟩
theorem OwnB.lower {w : World} {base base' : Nat} {v : Value} {l : List Nat} (h : OwnB w base v l) (hb : base' ≤ base) : OwnB w base' v l := by
  obtain ⟨h1, h2⟩ := h
  refine ⟨h1, ?_⟩
  rcases h2 with h2 | ⟨g, cap, cur, e, hg, rest⟩
  · exact .inl h2
  · exact .inr ⟨g, cap, cur, e, Nat.le_trans hb hg, rest⟩
theorem OwnB.drew {w : World} {base m : Nat} {v : Value} {l : List Nat} (h : OwnB w base v l) : OwnB (w.drewN m) base v l := h
theorem OwnB.bat {w : World} {base g n cap : Nat} {l : List Nat} (h : OwnB w base (.slice (some ⟨g, 0, none⟩) n cap) l) : BAt w (some ⟨g, 0, none⟩) l := .inr ⟨g, 0, rfl, fun k hk => by rw [Nat.zero_add]; exact h.cell hk⟩
theorem OwnB.set {w : World} {base g n cap : Nat} {l : List Nat} (h : OwnB w base (.slice (some ⟨g, 0, none⟩) n cap) l) (k x : Nat) : OwnB (w.setCell ⟨g, k, none⟩ (.int .u8 ((x : Nat) : Int))) base (.slice (some ⟨g, 0, none⟩) n cap) (l.set k x) := by
  rcases h.2 with ⟨e, _⟩ | ⟨g', cap', cur, e, hb, hg, hnc, hcm, hcs, ht⟩
  · cases e
  · simp only [Value.slice.injEq, Option.some.injEq, Addr.mk.injEq, and_true] at e
    obtain ⟨rfl, rfl, rfl⟩ := e
    have e := setCell_eq_setRow w g k _ _ _ (.int .u8 ((x : Nat) : Int)) hg
    refine ⟨by rw [bv_length, Nat.mul_one], .inr ⟨g, cap, cur.setIfInBounds k (.int .u8 ((x : Nat) : Int)), by rw [List.length_set], hb, ?_, by rw [List.length_set]; exact hnc, hcm, by simpa using hcs, ?_⟩⟩
    · rw [e]
      exact setRow_heap w g _ _ _ _ hg
    · rw [← bv_set, ← ht, List.length_set]
      simp [List.take_set]
theorem OwnB.at {w : World} {base n : Nat} {v : Value} {l : List Nat} (h : OwnB w base v l) (hn : l.length = n) (h0 : 0 < n) :
    ∃ g cap, v = .slice (some ⟨g, 0, none⟩) n cap ∧ n ≤ cap ∧ base ≤ g ∧ g < w.heap.size := by
  subst hn
  obtain ⟨g, cap, e, h1, h2, h3, _⟩ := h.form h0
  exact ⟨g, cap, e, h1, h2, h3⟩
theorem below_set {w : World} {g k B : Nat} {v : Value} (h : B ≤ g) : Below B w (w.setCell ⟨g, k, none⟩ v) := (Below.refl _ _).setCell (p := ⟨g, k, none⟩) h v

def GivesB (l : List Nat) (w : World) (e : Ending) (w' : World) : Prop := ∃ v, e = .returned v ∧ OwnB w' w.heap.size v l ∧ Below w.heap.size w w'
end Go.Proofs.Ytnfaeejeipbciaa
end

section
set_option linter.unusedVariables false
set_option linter.unusedSimpArgs false
namespace Go.Proofs.Ytnfaeejeipbciaa
open Go.RowKit BigFrame

set_option maxHeartbeats 400000 in
theorem clone_b (a : Option Addr) (cap n : Nat) (l : List Nat) (w : World) (hl : l.length = n) (hn : n ≤ 100000) (hx : BAt w a l) (hnil : a = none → cap = 0) :
    Calls Try.prog 49 #[.slice a n cap] w (GivesB l w) := by
  have q22 : ∀ (w : World) (a : Option Addr) (n c n' c' : Nat), (binOp .eql 54 (.slice a n c) (.slice none n' c')).run Try.prog w = .ok (.bool a.isNone) w := fun w a n c n' c' => Lib.run_eql_slice_nil w _ _ a n c n' c' Try.underlying54
  cases a with
  | none =>
    have e : l = [] := by
      rcases hx with h | ⟨_, _, e, _⟩
      · exact List.eq_nil_of_length_eq_zero h
      · cases e
    subst e
    go_enter Try.func49, Try.ntmps49
    go_wp2_with fail
    go_ret
    exact ⟨_, rfl, OwnB.nil _ _, Below.refl _ _⟩
  | some ad =>
    have hx' := Lib.hid hx
    have hl' := Lib.hid hl
    have O0 := Lib.hid (show OwnB (w.alloc (.cells #[] 5)) w.heap.size (.slice (some ⟨w.heap.size, 0, none⟩) 0 0) [] from OwnB.made w [] w.heap.size (Nat.le_refl _) (by simp))
    have B0 := Lib.hid ((Below.refl w.heap.size w).alloc (Nat.le_refl _) (.cells #[] 5))
    clear hx hl
    go_enter Try.func49, Try.ntmps49
    go_wp2_with (at_builtin; refine wpList_append_bytes rfl (.tmp 5) (.tmp 6) rfl w.heap.size _ [] rfl O0.out (some ad) n cap l rfl hl'.out (hx'.out.on B0.out (Nat.le_refl _)) (fun h => by cases h) (by simpa using by omega) B0.out.size ?_; intro v2 w2 ho2 hg2 hb2; have B2 := Lib.hid (B0.out.trans hb2); clear hb2 hg2)
    go_ret
    exact ⟨_, rfl, ho2.out, B2.out⟩

/-- flags that lie there, if any -/
def KAt (w : World) (a : Option Addr) (l : List Bool) : Prop := l.length = 0 ∨ ∃ b off, a = some ⟨b, off, none⟩ ∧ ∀ k, k < l.length → w.cell? ⟨b, off + k, none⟩ = some (.bool (l.getD k false))
theorem KAt.on {w w' : World} {a : Option Addr} {l : List Bool} {B : Nat} (h : KAt w a l) (hb : Below B w w') (hB : w.heap.size ≤ B) : KAt w' a l := by
  rcases h with h | ⟨b, off, rfl, hx⟩
  · exact .inl h
  · by_cases h0 : 0 < l.length
    · have hlt : b < w.heap.size := World.block_lt_of_cell? w _ (hx 0 h0)
      exact .inr ⟨b, off, rfl, fun k hk => by rw [hb.cell (p := ⟨b, off + k, none⟩) (by show b < B; omega)]; exact hx k hk⟩
    · exact .inl (by omega)
theorem KAt.drew {w : World} {a : Option Addr} {l : List Bool} {m : Nat} (h : KAt w a l) : KAt (w.drewN m) a l := h
theorem KAt.drew1 {w : World} {a : Option Addr} {l : List Bool} (h : KAt w a l) : KAt w.drew a l := h
theorem kcells_length (l : List Bool) : (kcells l).length = l.length := by simp [kcells]
theorem kcells_at {l : List Bool} {k : Nat} {v : Value} (h : (kcells l)[k]? = some v) : k < l.length ∧ v = .bool (l.getD k false) := by
  have hk : k < l.length := by have := (List.getElem?_eq_some_iff.1 h).1; rwa [kcells_length] at this
  refine ⟨hk, ?_⟩
  simp only [kcells, List.getElem?_map, List.getElem?_eq_getElem hk, Option.map_some, Option.some.injEq] at h
  rw [← h]; simp [List.getD, List.getElem?_eq_getElem hk]
theorem kcells_get {l : List Bool} {k : Nat} (h : k < l.length) : (kcells l)[k]? = some (.bool (l.getD k false)) := by
  simp [kcells, List.getD, List.getElem?_eq_getElem h]
theorem kcells_one (l : List Bool) : ∀ v ∈ kcells l, v.oneCell' = true := by
  intro v hv
  obtain ⟨n, _, rfl⟩ := List.mem_map.1 hv
  rfl
theorem Try.infoK : (Try.prog.info? 4).map (fun i => (i.zero, i.size, i.bytes)) = some (some (.bool false), 1, 1) := by kernel_rfl
/-- a new slice of these flags -/
def GivesK (l : List Bool) (w : World) (e : Ending) (w' : World) : Prop := ∃ v, e = .returned v ∧ w'.ownsRow w.heap.size 4 1 v l.length (kcells l) ∧ Below w.heap.size w w'
theorem own_none (w : World) (_base : Nat) (e : TypeId) (size : Nat) : (w.alloc (.cells #[] e)).ownsRow w.heap.size e size (.slice (some ⟨w.heap.size, 0, none⟩) 0 0) 0 [] :=
  ⟨by simp, .inr ⟨w.heap.size, 0, #[], rfl, Nat.le_refl _, heap_alloc_new w _, Nat.le_refl _, by unfold maxLen; omega, by simp, by simp⟩⟩

/-- a new slice of these integers -/
def GivesZ (n : Nat) (D : Nat → Int) (w : World) (e : Ending) (w' : World) : Prop := ∃ v, e = .returned v ∧ OwnI w' w.heap.size v n D ∧ Below w.heap.size w w'
set_option maxHeartbeats 400000 in
theorem clone_z (a : Option Addr) (cap n : Nat) (D : Nat → Int) (w : World) (hn : n ≤ 100000) (hx : IntsAt w a n D) (hnil : a = none → cap = 0) :
    Calls Try.prog 48 #[.slice a n cap] w (GivesZ n D w) := by
  have q22 : ∀ (w : World) (a : Option Addr) (n c n' c' : Nat), (binOp .eql 37 (.slice a n c) (.slice none n' c')).run Try.prog w = .ok (.bool a.isNone) w := fun w a n c n' c' => Lib.run_eql_slice_nil w _ _ a n c n' c' Try.underlying37
  cases a with
  | none =>
    have e : n = 0 := by
      rcases hx with h | ⟨_, _, e, _⟩
      · exact h
      · cases e
    subst e
    go_enter Try.func48, Try.ntmps48
    go_wp2_with fail
    go_ret
    exact ⟨_, rfl, OwnI.nil _ _ _, Below.refl _ _⟩
  | some ad =>
    have B0 := Lib.hid ((Below.refl w.heap.size w).alloc (Nat.le_refl _) (.cells #[] 3))
    have hx' := Lib.hid (hx.on B0.out rfl)
    have O0 := Lib.hid (show OwnI (w.alloc (.cells #[] 3)) w.heap.size (.slice (some ⟨w.heap.size, 0, none⟩) 0 0) 0 D from own_none w w.heap.size 3 1)
    clear hx
    go_enter Try.func48, Try.ntmps48
    go_wp2_with (at_builtin; refine wpList_append_ints rfl (.tmp 5) (.tmp 6) rfl w.heap.size 0 _ D rfl O0.out (some ad) n cap D rfl hx'.out (fun h => by cases h) (by omega) B0.out.size ?_; intro v2 w2 ho2 hg2 hb2; have B2 := Lib.hid (B0.out.trans hb2); clear hb2 hg2)
    go_ret
    refine ⟨_, rfl, ?_, B2.out⟩
    have := ho2.out
    rw [Nat.zero_add] at this
    exact this.congr fun p _ => by simp [joinI]
end Go.Proofs.Ytnfaeejeipbciaa
end
