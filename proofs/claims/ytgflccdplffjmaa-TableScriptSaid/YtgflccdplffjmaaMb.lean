/-
  A table in memory: as cells; what turns but it.
-/
import Derived.Test.YtgflccdplffjmaaMa
import Derived.Test.YtgflccdplffjmaaAw
import Derived.Test.YtgflccdplffjmaaTe
import Derived.Deep.WholeRow
namespace Go.Proofs.Ytgflccdplffjmaa
open Go.RowKit BigFrame

/-- from w to w' nothing has turned but block a, and new ones -/
structure Turn (a : Nat) (w w' : World) : Prop where
  os : w'.os = w.os
  tape : w'.tape = w.tape
  output : w'.output = w.output
  size : w.heap.size ≤ w'.heap.size
  block : ∀ k, k < w.heap.size → k ≠ a → w'.heap[k]? = w.heap[k]?
theorem Turn.refl (a : Nat) (w : World) : Turn a w w := ⟨rfl, rfl, rfl, Nat.le_refl _, fun _ _ _ => rfl⟩
theorem Turn.trans {a : Nat} {u v w : World} (h : Turn a u v) (k : Turn a v w) : Turn a u w :=
  ⟨k.os.trans h.os, k.tape.trans h.tape, k.output.trans h.output, Nat.le_trans h.size k.size, fun i hi hn => (k.block i (Nat.lt_of_lt_of_le hi h.size) hn).trans (h.block i hi hn)⟩
theorem Turn.of_below {w w' : World} (a : Nat) (h : Below w.heap.size w w') : Turn a w w' := ⟨h.os, h.tape, h.output, h.size, fun k hk _ => h.block k hk⟩
theorem Turn.of_oth {a : Nat} {w w' : World} (h : Oth a w w') : Turn a w w' := ⟨h.os, h.tape, h.output, by rw [h.size]; exact Nat.le_refl _, fun k _ hn => h.block k hn⟩
theorem Turn.below {a B : Nat} {w w' : World} (h : Turn a w w') (hB : B ≤ w.heap.size) (ha : B ≤ a) : Below B w w' :=
  ⟨h.os, h.tape, h.output, h.size, fun k hk => h.block k (by omega) (by omega)⟩
theorem Vw.turn {a g : Nat} {w w' : World} {t : TypeId} {l : List Value} (h : Vw w t g l) (hT : Turn a w w') (hn : g ≠ a) : Vw w' t g l := by
  unfold Vw; rw [hT.block g h.lt hn]; exact h

/-- a place as cells: as the program has it, as the document has it -/
def pc (s : Plc) : List Value := [.bool s.on, .int .i64 s.nd, .int .i64 s.off, .int .i64 s.fl]
def qc (s : Plc) : List Value := [.int .i64 s.nd, .int .i64 s.off, .int .i64 s.fl, .bool s.on]
/-- a file as cells, as a value -/
def gc (s : Plc) : List Value := [.int .i64 s.nd, .int .i64 s.off, .int .i64 s.fl]
def gv (s : Plc) : Value := .agg (gc s).toArray
def pv (s : Plc) : Value := .agg (pc s).toArray
/-- places as cells -/
def tc : List Plc → List Value
  | [] => []
  | s :: r => .bool s.on :: .int .i64 s.nd :: .int .i64 s.off :: .int .i64 s.fl :: tc r
def uc : List Plc → List Value
  | [] => []
  | s :: r => .int .i64 s.nd :: .int .i64 s.off :: .int .i64 s.fl :: .bool s.on :: uc r
theorem tc_length : ∀ L : List Plc, (tc L).length = 4 * L.length
  | [] => rfl
  | _ :: r => by simp only [tc, List.length_cons, tc_length r]; omega
theorem uc_length : ∀ L : List Plc, (uc L).length = 4 * L.length
  | [] => rfl
  | _ :: r => by simp only [uc, List.length_cons, uc_length r]; omega
theorem tc_at : ∀ {L : List Plc} {k : Nat}, k < L.length → ((tc L).drop (k * 4)).take 4 = pc (pl L k)
  | [], _, h => by simp at h
  | s :: r, 0, _ => rfl
  | s :: r, k + 1, h => by
    rw [pl_cons_succ, ← tc_at (L := r) (k := k) (by simpa using h), show (k + 1) * 4 = k * 4 + 1 + 1 + 1 + 1 by omega]
    simp only [tc, List.drop_succ_cons]
theorem uc_at : ∀ {L : List Plc} {k : Nat}, k < L.length → ((uc L).drop (k * 4)).take 4 = qc (pl L k)
  | [], _, h => by simp at h
  | s :: r, 0, _ => rfl
  | s :: r, k + 1, h => by
    rw [pl_cons_succ, ← uc_at (L := r) (k := k) (by simpa using h), show (k + 1) * 4 = k * 4 + 1 + 1 + 1 + 1 by omega]
    simp only [uc, List.drop_succ_cons]
theorem drop_take_get {l : List Value} {o n j : Nat} {m : List Value} (h : (l.drop o).take n = m) (hj : j < n) : l[o + j]? = m[j]? := by
  subst h
  rw [List.getElem?_take, if_pos hj, List.getElem?_drop]
theorem tc_get {L : List Plc} {k j : Nat} (h : k < L.length) (hj : j < 4) : (tc L)[k * 4 + j]? = (pc (pl L k))[j]? := drop_take_get (tc_at h) hj
theorem uc_get {L : List Plc} {k j : Nat} (h : k < L.length) (hj : j < 4) : (uc L)[k * 4 + j]? = (qc (pl L k))[j]? := drop_take_get (uc_at h) hj
theorem tc_put : ∀ {L : List Plc} {k : Nat} (s : Plc), k < L.length → splice (tc L) (k * 4) (pc s) = tc (L.set k s)
  | [], _, _, h => by simp at h
  | s :: r, 0, _, _ => rfl
  | s :: r, k + 1, t, h => by
    have ih := tc_put (L := r) (k := k) t (by simpa using h)
    show _ = .bool s.on :: .int .i64 s.nd :: .int .i64 s.off :: .int .i64 s.fl :: tc (r.set k t)
    rw [← ih, show (k + 1) * 4 = k * 4 + 1 + 1 + 1 + 1 by omega]
    unfold splice
    simp only [tc, List.take_succ_cons, List.cons_append]
    rw [show k * 4 + 1 + 1 + 1 + 1 + (pc t).length = k * 4 + (pc t).length + 1 + 1 + 1 + 1 by omega]
    simp only [List.drop_succ_cons]
theorem uc_put : ∀ {L : List Plc} {k : Nat} (s : Plc), k < L.length → splice (uc L) (k * 4) (qc s) = uc (L.set k s)
  | [], _, _, h => by simp at h
  | s :: r, 0, _, _ => rfl
  | s :: r, k + 1, t, h => by
    have ih := uc_put (L := r) (k := k) t (by simpa using h)
    show _ = .int .i64 s.nd :: .int .i64 s.off :: .int .i64 s.fl :: .bool s.on :: uc (r.set k t)
    rw [← ih, show (k + 1) * 4 = k * 4 + 1 + 1 + 1 + 1 by omega]
    unfold splice
    simp only [uc, List.take_succ_cons, List.cons_append]
    rw [show k * 4 + 1 + 1 + 1 + 1 + (qc t).length = k * 4 + (qc t).length + 1 + 1 + 1 + 1 by omega]
    simp only [List.drop_succ_cons]
/-- one moved -/
def Plc.to (s : Plc) (x : Int) : Plc := { s with off := x }
theorem tc_move : ∀ {L : List Plc} {k : Nat} (x : Int), k < L.length → (tc L).set (k * 4 + 2) (.int .i64 x) = tc (L.set k ((pl L k).to x))
  | [], _, _, h => by simp at h
  | s :: r, 0, _, _ => rfl
  | s :: r, k + 1, x, h => by
    have ih := tc_move (L := r) (k := k) x (by simpa using h)
    show _ = .bool s.on :: .int .i64 s.nd :: .int .i64 s.off :: .int .i64 s.fl :: tc (r.set k ((pl (s :: r) (k + 1)).to x))
    rw [pl_cons_succ, ← ih, show (k + 1) * 4 + 2 = k * 4 + 2 + 1 + 1 + 1 + 1 by omega]
    rfl
theorem uc_move : ∀ {L : List Plc} {k : Nat} (x : Int), k < L.length → (uc L).set (k * 4 + 1) (.int .i64 x) = uc (L.set k ((pl L k).to x))
  | [], _, _, h => by simp at h
  | s :: r, 0, _, _ => rfl
  | s :: r, k + 1, x, h => by
    have ih := uc_move (L := r) (k := k) x (by simpa using h)
    show _ = .int .i64 s.nd :: .int .i64 s.off :: .int .i64 s.fl :: .bool s.on :: uc (r.set k ((pl (s :: r) (k + 1)).to x))
    rw [pl_cons_succ, ← ih, show (k + 1) * 4 + 1 = k * 4 + 1 + 1 + 1 + 1 + 1 by omega]
    rfl
theorem tc_one : ∀ (L : List Plc), ∀ v ∈ tc L, v.oneCell' = true
  | [], _, h => by simp [tc] at h
  | s :: r, v, h => by
    simp only [tc, List.mem_cons] at h
    rcases h with rfl | rfl | rfl | rfl | h
    · rfl
    · rfl
    · rfl
    · rfl
    · exact tc_one r v h
theorem pc_all (s : Plc) : (pc s).toArray.all (·.oneCell') = true := all_oneCell_toArray (tc_one [s])
theorem tc_all (L : List Plc) : (tc L).toArray.all (·.oneCell') = true := all_oneCell_toArray (tc_one L)
end Go.Proofs.Ytgflccdplffjmaa
