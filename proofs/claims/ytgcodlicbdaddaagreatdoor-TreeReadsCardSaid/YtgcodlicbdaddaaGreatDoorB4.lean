/-
  A call that only reads.
  A call that tells something, and turns nothing that was there.
  A table in memory: as cells; what turns but it.
  find: the place of a descriptor that is open.
  New, Close, Move, Get.
  Open.
-/
import Derived.Test.YtgcodlicbdaddaaGreatDoorB1
import Derived.Test.YtgcodlicbdaddaaGreatDoorB3
import Derived.Deep.WholeRow
import Derived.Deep.LoopGhost

section
set_option linter.unusedVariables false
set_option linter.unusedSimpArgs false
namespace Go.Proofs.YtgcodlicbdaddaaGreatDoor
open Go.RowKit BigFrame

def Told (v : Value) (w : World) (e : Ending) (w' : World) : Prop := e = .returned v ∧ ∃ m, w' = w.drewN m

theorem quiet_told {P : Program} {f : FuncId} {args : Array Value} {w : World} {n : Nat} {v : Value} (h : Calls P f args (w.drewN n) fun e w' => e = .returned v ∧ w.drewN n = w') :
    Calls P f args (w.drewN n) fun e w'' => e = .returned v ∧ ∃ m, w'' = w.drewN m := h.mono fun _ _ ⟨he, hw⟩ => ⟨he, n, hw.symm⟩

theorem below_drewN (w : World) (m : Nat) : Below w.heap.size w (w.drewN m) := ⟨rfl, rfl, rfl, Nat.le_refl _, fun _ _ => rfl⟩
theorem Told.below {v : Value} {w w' : World} {e : Ending} (h : Told v w e w') : e = .returned v ∧ Below w.heap.size w w' := by
  obtain ⟨he, m, rfl⟩ := h
  exact ⟨he, below_drewN w m⟩
end Go.Proofs.YtgcodlicbdaddaaGreatDoor
end

section
set_option linter.unusedVariables false
set_option linter.unusedSimpArgs false
namespace Go.Proofs.YtgcodlicbdaddaaGreatDoor
open Go.RowKit BigFrame

/-- a call that tells v, and turns nothing that was there -/
def Tells (v : Value) (w : World) (e : Ending) (w' : World) : Prop := e = .returned v ∧ Below w.heap.size w w'
theorem below_box {w w' : World} {o : Obj} (hb : Below (w.alloc o).heap.size (w.alloc o) w') : Below w.heap.size w w' :=
  ((Below.refl w.heap.size w).alloc (Nat.le_refl _) o).trans (hb.mono (((Below.refl w.heap.size w).alloc (Nat.le_refl _) o).size))
theorem below_two {w w1 w2 : World} (h : Below w.heap.size w w1) (h2 : Below w1.heap.size w1 w2) : Below w.heap.size w w2 := h.trans (h2.mono h.size)
theorem wrap_in {n : Int} (h : -9223372036854775808 ≤ n ∧ n ≤ 9223372036854775807) : IntKind.i64.wrap n = n := by rw [IntKind.wrap_i64]; omega
theorem ret_bl {a b : Bool} (h : a = b) : Ending.returned (.bool a) = .returned (.bool b) := by rw [h]
end Go.Proofs.YtgcodlicbdaddaaGreatDoor
end

section
set_option linter.unusedVariables false
set_option linter.unusedSimpArgs false
namespace Go.Proofs.YtgcodlicbdaddaaGreatDoor
open Go.RowKit BigFrame

/-- from w to w' nothing has turned but block a, and new ones -/
structure Turn (a : Nat) (w w' : World) : Prop where
  os : w'.os = w.os
  tape : w'.tape = w.tape
  output : w'.output = w.output
  size : w.heap.size ≤ w'.heap.size
  block : ∀ k, k < w.heap.size → k ≠ a → w'.heap[k]? = w.heap[k]?
theorem Turn.refl (a : Nat) (w : World) : Turn a w w := ⟨rfl, rfl, rfl, Nat.le_refl _, fun _ _ _ => rfl⟩
theorem Turn.trans {a : Nat} {u v w : World} (h : Turn a u v) (k : Turn a v w) : Turn a u w :=
  ⟨k.os.trans h.os, k.tape.trans h.tape, k.output.trans h.output, Nat.le_trans h.size k.size, fun i hi hn => (k.block i (Nat.lt_of_lt_of_le hi h.size) hn).trans (h.block i hi hn)⟩
theorem Turn.of_below {w w' : World} (a : Nat) (h : Below w.heap.size w w') : Turn a w w' := ⟨h.os, h.tape, h.output, h.size, fun k hk _ => h.block k hk⟩
theorem Turn.of_oth {a : Nat} {w w' : World} (h : Oth a w w') : Turn a w w' := ⟨h.os, h.tape, h.output, by rw [h.size]; exact Nat.le_refl _, fun k _ hn => h.block k hn⟩
theorem Turn.below {a B : Nat} {w w' : World} (h : Turn a w w') (hB : B ≤ w.heap.size) (ha : B ≤ a) : Below B w w' :=
  ⟨h.os, h.tape, h.output, h.size, fun k hk => h.block k (by omega) (by omega)⟩
theorem Vw.turn {a g : Nat} {w w' : World} {t : TypeId} {l : List Value} (h : Vw w t g l) (hT : Turn a w w') (hn : g ≠ a) : Vw w' t g l := by
  unfold Vw; rw [hT.block g h.lt hn]; exact h

/-- a place as cells: as the program has it, as the document has it -/
def pc (s : Plc) : List Value := [.bool s.on, .int .i64 s.nd, .int .i64 s.off, .int .i64 s.fl]
def qc (s : Plc) : List Value := [.int .i64 s.nd, .int .i64 s.off, .int .i64 s.fl, .bool s.on]
/-- a file as cells, as a value -/
def gc (s : Plc) : List Value := [.int .i64 s.nd, .int .i64 s.off, .int .i64 s.fl]
def gv (s : Plc) : Value := .agg (gc s).toArray
def pv (s : Plc) : Value := .agg (pc s).toArray
/-- places as cells -/
def tc : List Plc → List Value
  | [] => []
  | s :: r => .bool s.on :: .int .i64 s.nd :: .int .i64 s.off :: .int .i64 s.fl :: tc r
def uc : List Plc → List Value
  | [] => []
  | s :: r => .int .i64 s.nd :: .int .i64 s.off :: .int .i64 s.fl :: .bool s.on :: uc r
theorem tc_length : ∀ L : List Plc, (tc L).length = 4 * L.length
  | [] => rfl
  | _ :: r => by simp only [tc, List.length_cons, tc_length r]; omega
theorem uc_length : ∀ L : List Plc, (uc L).length = 4 * L.length
  | [] => rfl
  | _ :: r => by simp only [uc, List.length_cons, uc_length r]; omega
theorem tc_at : ∀ {L : List Plc} {k : Nat}, k < L.length → ((tc L).drop (k * 4)).take 4 = pc (pl L k)
  | [], _, h => by simp at h
  | s :: r, 0, _ => rfl
  | s :: r, k + 1, h => by
    rw [pl_cons_succ, ← tc_at (L := r) (k := k) (by simpa using h), show (k + 1) * 4 = k * 4 + 1 + 1 + 1 + 1 by omega]
    simp only [tc, List.drop_succ_cons]
theorem uc_at : ∀ {L : List Plc} {k : Nat}, k < L.length → ((uc L).drop (k * 4)).take 4 = qc (pl L k)
  | [], _, h => by simp at h
  | s :: r, 0, _ => rfl
  | s :: r, k + 1, h => by
    rw [pl_cons_succ, ← uc_at (L := r) (k := k) (by simpa using h), show (k + 1) * 4 = k * 4 + 1 + 1 + 1 + 1 by omega]
    simp only [uc, List.drop_succ_cons]
theorem drop_take_get {l : List Value} {o n j : Nat} {m : List Value} (h : (l.drop o).take n = m) (hj : j < n) : l[o + j]? = m[j]? := by
  subst h
  rw [List.getElem?_take, if_pos hj, List.getElem?_drop]
theorem tc_get {L : List Plc} {k j : Nat} (h : k < L.length) (hj : j < 4) : (tc L)[k * 4 + j]? = (pc (pl L k))[j]? := drop_take_get (tc_at h) hj
theorem uc_get {L : List Plc} {k j : Nat} (h : k < L.length) (hj : j < 4) : (uc L)[k * 4 + j]? = (qc (pl L k))[j]? := drop_take_get (uc_at h) hj
theorem tc_put : ∀ {L : List Plc} {k : Nat} (s : Plc), k < L.length → splice (tc L) (k * 4) (pc s) = tc (L.set k s)
  | [], _, _, h => by simp at h
  | s :: r, 0, _, _ => rfl
  | s :: r, k + 1, t, h => by
    have ih := tc_put (L := r) (k := k) t (by simpa using h)
    show _ = .bool s.on :: .int .i64 s.nd :: .int .i64 s.off :: .int .i64 s.fl :: tc (r.set k t)
    rw [← ih, show (k + 1) * 4 = k * 4 + 1 + 1 + 1 + 1 by omega]
    unfold splice
    simp only [tc, List.take_succ_cons, List.cons_append]
    rw [show k * 4 + 1 + 1 + 1 + 1 + (pc t).length = k * 4 + (pc t).length + 1 + 1 + 1 + 1 by omega]
    simp only [List.drop_succ_cons]
theorem uc_put : ∀ {L : List Plc} {k : Nat} (s : Plc), k < L.length → splice (uc L) (k * 4) (qc s) = uc (L.set k s)
  | [], _, _, h => by simp at h
  | s :: r, 0, _, _ => rfl
  | s :: r, k + 1, t, h => by
    have ih := uc_put (L := r) (k := k) t (by simpa using h)
    show _ = .int .i64 s.nd :: .int .i64 s.off :: .int .i64 s.fl :: .bool s.on :: uc (r.set k t)
    rw [← ih, show (k + 1) * 4 = k * 4 + 1 + 1 + 1 + 1 by omega]
    unfold splice
    simp only [uc, List.take_succ_cons, List.cons_append]
    rw [show k * 4 + 1 + 1 + 1 + 1 + (qc t).length = k * 4 + (qc t).length + 1 + 1 + 1 + 1 by omega]
    simp only [List.drop_succ_cons]
/-- one moved -/
def Plc.to (s : Plc) (x : Int) : Plc := { s with off := x }
theorem tc_move : ∀ {L : List Plc} {k : Nat} (x : Int), k < L.length → (tc L).set (k * 4 + 2) (.int .i64 x) = tc (L.set k ((pl L k).to x))
  | [], _, _, h => by simp at h
  | s :: r, 0, _, _ => rfl
  | s :: r, k + 1, x, h => by
    have ih := tc_move (L := r) (k := k) x (by simpa using h)
    show _ = .bool s.on :: .int .i64 s.nd :: .int .i64 s.off :: .int .i64 s.fl :: tc (r.set k ((pl (s :: r) (k + 1)).to x))
    rw [pl_cons_succ, ← ih, show (k + 1) * 4 + 2 = k * 4 + 2 + 1 + 1 + 1 + 1 by omega]
    rfl
theorem uc_move : ∀ {L : List Plc} {k : Nat} (x : Int), k < L.length → (uc L).set (k * 4 + 1) (.int .i64 x) = uc (L.set k ((pl L k).to x))
  | [], _, _, h => by simp at h
  | s :: r, 0, _, _ => rfl
  | s :: r, k + 1, x, h => by
    have ih := uc_move (L := r) (k := k) x (by simpa using h)
    show _ = .int .i64 s.nd :: .int .i64 s.off :: .int .i64 s.fl :: .bool s.on :: uc (r.set k ((pl (s :: r) (k + 1)).to x))
    rw [pl_cons_succ, ← ih, show (k + 1) * 4 + 1 = k * 4 + 1 + 1 + 1 + 1 + 1 by omega]
    rfl
theorem tc_one : ∀ (L : List Plc), ∀ v ∈ tc L, v.oneCell' = true
  | [], _, h => by simp [tc] at h
  | s :: r, v, h => by
    simp only [tc, List.mem_cons] at h
    rcases h with rfl | rfl | rfl | rfl | h
    · rfl
    · rfl
    · rfl
    · rfl
    · exact tc_one r v h
theorem pc_all (s : Plc) : (pc s).toArray.all (·.oneCell') = true := all_oneCell_toArray (tc_one [s])
theorem tc_all (L : List Plc) : (tc L).toArray.all (·.oneCell') = true := all_oneCell_toArray (tc_one L)
end Go.Proofs.YtgcodlicbdaddaaGreatDoor
end

section
set_option linter.unusedVariables false
set_option linter.unusedSimpArgs false
namespace Go.Proofs.YtgcodlicbdaddaaGreatDoor
open Go.RowKit BigFrame

/-- the program's table lies in block a: these sixteen places -/
structure TabAt (w : World) (a : Nat) (L : List Plc) : Prop where
  row : Vw w 118 a (tc L)
  len : L.length = 16
/-- the document's -/
structure RefAt (w : World) (a : Nat) (L : List Plc) : Prop where
  row : Vw w 88 a (uc L)
  len : L.length = 16
theorem TabAt.on {w : World} {a : Nat} {L : List Plc} (h : TabAt w a L) {k : Nat} (hk : k < 16) : w.cell? ⟨a, k * 4, none⟩ = some (.bool (pl L k).on) :=
  h.row.cell (k := k * 4) (by have := tc_get (L := L) (k := k) (j := 0) (by rw [h.len]; exact hk) (by omega); rw [Nat.add_zero] at this; rw [this]; rfl)
theorem TabAt.lt {w : World} {a : Nat} {L : List Plc} (h : TabAt w a L) : a < w.heap.size := h.row.lt

theorem find_nil (fd : Int) (w : World) : Calls Tryz.prog 149 #[.pointer none, .int .i64 fd] w fun e w' => e = .returned (.tuple #[.pointer none, .int .i64 1]) ∧ w = w' := by
  go_enter Tryz.func149, Tryz.ntmps149
  go_wp2_with fail
  go_ret2
  exact ⟨rfl, rfl⟩
theorem find_on (a k : Nat) (L : List Plc) (w : World) (h : TabAt w a L) (hk : k < 16) (ho : (pl L k).on = true) :
    Calls Tryz.prog 149 #[.pointer (some ⟨a, 0, none⟩), .int .i64 (k : Int)] w fun e w' => e = .returned (.tuple #[.pointer (some ⟨a, k * 4, none⟩), .int .i64 0]) ∧ w = w' := by
  have c0 := h.on hk
  rw [ho] at c0
  have d0 : decide ((k : Int) < 0) = false := decide_eq_false (by omega)
  have d1 : decide ((16 : Int) ≤ (k : Int)) = false := decide_eq_false (by omega)
  have k0 : (0 : Int) ≤ (k : Int) := by omega
  have k1 : (k : Int) < 16 := by omega
  have h' := Lib.hid h
  clear h ho
  go_enter Tryz.func149, Tryz.ntmps149
  go_wp2_with fail
  go_ret2
  exact ⟨rfl, rfl⟩
theorem find_off (a k : Nat) (L : List Plc) (w : World) (h : TabAt w a L) (hk : k < 16) (ho : (pl L k).on = false) :
    Calls Tryz.prog 149 #[.pointer (some ⟨a, 0, none⟩), .int .i64 (k : Int)] w fun e w' => e = .returned (.tuple #[.pointer none, .int .i64 10]) ∧ w = w' := by
  have c0 := h.on hk
  rw [ho] at c0
  have d0 : decide ((k : Int) < 0) = false := decide_eq_false (by omega)
  have d1 : decide ((16 : Int) ≤ (k : Int)) = false := decide_eq_false (by omega)
  have k0 : (0 : Int) ≤ (k : Int) := by omega
  have k1 : (k : Int) < 16 := by omega
  have h' := Lib.hid h
  clear h ho
  go_enter Tryz.func149, Tryz.ntmps149
  go_wp2_with fail
  go_ret2
  exact ⟨rfl, rfl⟩
theorem find_out (a : Nat) (fd : Int) (w : World) (hf : ¬ (0 ≤ fd ∧ fd < 16)) :
    Calls Tryz.prog 149 #[.pointer (some ⟨a, 0, none⟩), .int .i64 fd] w fun e w' => e = .returned (.tuple #[.pointer none, .int .i64 10]) ∧ w = w' := by
  by_cases h0 : fd < 0
  · have d0 : decide (fd < 0) = true := decide_eq_true h0
    clear hf
    go_enter Tryz.func149, Tryz.ntmps149
    go_wp2_with fail
    go_ret2
    exact ⟨rfl, rfl⟩
  · have d0 : decide (fd < 0) = false := decide_eq_false h0
    have d1 : decide (16 ≤ fd) = true := decide_eq_true (by omega)
    clear hf
    go_enter Tryz.func149, Tryz.ntmps149
    go_wp2_with fail
    go_ret2
    exact ⟨rfl, rfl⟩
/-- whatever is asked for that is not open -/
theorem find_bad (a : Nat) (fd : Int) (L : List Plc) (w : World) (h : TabAt w a L) (hf : thereB L fd = false) :
    Calls Tryz.prog 149 #[.pointer (some ⟨a, 0, none⟩), .int .i64 fd] w fun e w' => e = .returned (.tuple #[.pointer none, .int .i64 10]) ∧ w = w' := by
  by_cases hi : 0 ≤ fd ∧ fd < 16
  · obtain ⟨k, rfl⟩ : ∃ k : Nat, fd = (k : Int) := ⟨fd.toNat, by omega⟩
    rw [there_in (by omega)] at hf
    exact find_off a k L w h (by omega) hf
  · exact find_out a fd w hi
theorem there_k {L : List Plc} {fd : Int} (h : thereB L fd = true) : ∃ k : Nat, fd = (k : Int) ∧ k < 16 ∧ (pl L k).on = true := by
  unfold thereB at h
  rw [Bool.and_eq_true, decide_eq_true_eq] at h
  exact ⟨fd.toNat, by omega, by omega, h.2⟩
end Go.Proofs.YtgcodlicbdaddaaGreatDoor
end

section
set_option linter.unusedVariables false
set_option linter.unusedSimpArgs false
namespace Go.Proofs.YtgcodlicbdaddaaGreatDoor
open Go.RowKit BigFrame

theorem TabAt.cell {w : World} {a : Nat} {L : List Plc} (h : TabAt w a L) {k j : Nat} {v : Value} (hk : k < 16) (hj : j < 4) (hv : (pc (pl L k))[j]? = some v) : w.cell? ⟨a, k * 4 + j, none⟩ = some v :=
  h.row.cell (by rw [tc_get (by rw [h.len]; exact hk) hj, hv])
theorem TabAt.frozen {w : World} {a : Nat} {L : List Plc} (h : TabAt w a L) (p : Nat) : w.frozen? ⟨a, p, none⟩ = false := h.row.frozen p
theorem TabAt.on' {w w' : World} {a : Nat} {L : List Plc} (h : TabAt w a L) (hb : Below w.heap.size w w') : TabAt w' a L := ⟨h.row.on' hb, h.len⟩
theorem TabAt.turn {w w' : World} {a b : Nat} {L : List Plc} (h : TabAt w a L) (hT : Turn b w w') (hn : a ≠ b) : TabAt w' a L := ⟨h.row.turn hT hn, h.len⟩
theorem TabAt.moved {w : World} {a : Nat} {L : List Plc} (h : TabAt w a L) {k : Nat} (hk : k < 16) (x : Int) : TabAt (w.setCell ⟨a, k * 4 + 2, none⟩ (.int .i64 x)) a (L.set k ((pl L k).to x)) :=
  ⟨by rw [← tc_move x (by rw [h.len]; exact hk)]; exact h.row.set _ _, by rw [List.length_set]; exact h.len⟩
theorem TabAt.put {w : World} {a : Nat} {L : List Plc} (h : TabAt w a L) {k : Nat} (hk : k < 16) (s : Plc) : TabAt (w.setCells a (k * 4) (pc s)) a (L.set k s) :=
  ⟨by
    have hp := h.row.put (pc s) (k * 4) (by rw [tc_length, h.len]; show k * 4 + 4 ≤ _; omega)
    rwa [tc_put s (by rw [h.len]; exact hk)] at hp, by rw [List.length_set]; exact h.len⟩
theorem turn_cells (a : Nat) (w : World) (o : Nat) (vs : List Value) : Turn a w (w.setCells a o vs) := by
  have : Oth a w (w.setCells a o vs) := by
    induction vs generalizing o w with
    | nil => exact Oth.refl _ _
    | cons v r ih => exact ((Oth.refl a w).setCell (p := o) v).trans (ih (w.setCell ⟨a, o, none⟩ v) (o + 1))
  exact Turn.of_oth this

/-- a table was given -/
def GivesT (v : Value) (a : Nat) (L : List Plc) (w : World) (e : Ending) (w' : World) : Prop := e = .returned v ∧ TabAt w' a L ∧ Turn a w w'

theorem Tryz.infoPlace : (Tryz.prog.info? 115).map (fun i => (i.zero, i.size)) = some (some (pv p0), 4) := by kernel_rfl
theorem Tryz.sizePlace : (Tryz.prog.info? 115).map (·.size) = some 4 := by kernel_rfl
theorem Tryz.sizePlaces : (Tryz.prog.info? 116).map (·.size) = some 64 := by kernel_rfl
theorem Tryz.sizeFile : (Tryz.prog.info? 113).map (·.size) = some 3 := by kernel_rfl
theorem Tryz.infoFile : (Tryz.prog.info? 113).map (fun i => (i.zero, i.size)) = some (some (gv p0), 3) := by kernel_rfl
theorem ldG_of (v : Value) : Instr.loadAt 113 v = ldA 113 v := rfl
theorem stG_of (p v : Value) : Instr.storeAt 113 p v = stA 113 p v := rfl
theorem ldP_of (v : Value) : Instr.loadAt 115 v = ldA 115 v := rfl
theorem stP_of (p v : Value) : Instr.storeAt 115 p v = stA 115 p v := rfl
theorem bdP_of (ps : Array (Nat × Value)) : Instr.build 115 ps = bdA 115 ps := rfl
theorem bdG_of (ps : Array (Nat × Value)) : Instr.build 113 ps = bdA 113 ps := rfl
theorem run_bd0P (w : World) : (bdA 115 #[]).run Tryz.prog w = .ok (pv p0) w := by
  unfold bdA
  exact run_build w _ _ _ (by kernel_rfl)
theorem run_bd0G (w : World) : (bdA 113 #[]).run Tryz.prog w = .ok (gv p0) w := by
  unfold bdA
  exact run_build w _ _ _ (by kernel_rfl)
theorem run_bdG (w : World) (x y : Int) : (bdA 113 #[(0, .int .i64 x), (2, .int .i64 y)]).run Tryz.prog w = .ok (gv ⟨true, x, 0, y⟩) w := by
  unfold bdA
  exact run_build w _ _ _ (by kernel_rfl)
theorem run_bdG3 (w : World) (x y z : Int) : (bdA 113 #[(0, .int .i64 x), (1, .int .i64 y), (2, .int .i64 z)]).run Tryz.prog w = .ok (gv ⟨true, x, y, z⟩) w := by
  unfold bdA
  exact run_build w _ _ _ (by kernel_rfl)
theorem run_bdP (w : World) (x y : Int) : (bdA 115 #[(0, .bool true), (1, gv ⟨true, x, 0, y⟩)]).run Tryz.prog w = .ok (pv ⟨true, x, 0, y⟩) w := by
  unfold bdA
  exact run_build w _ _ _ (by kernel_rfl)
theorem run_stP {w : World} {g o : Nat} {s : Plc} (ht : w.there g o 4) : (stA 115 (.pointer (some ⟨g, o, none⟩)) (pv s)).run Tryz.prog w = .ok () (w.setCells g o (pc s)) :=
  run_stW 4 rfl (pc_all s) ht Tryz.sizePlace
theorem run_ldG {w : World} {g o : Nat} {s : Plc} (hr : w.rangeAt g o (gc s)) : (ldA 113 (.pointer (some ⟨g, o, none⟩))).run Tryz.prog w = .ok (gv s) w :=
  run_ldW 3 _ hr rfl Tryz.underlying113 rfl Tryz.sizeFile
theorem gc_all (s : Plc) : (gc s).toArray.all (·.oneCell') = true := all_oneCell_toArray (fun v hv => by
  simp only [gc, List.mem_cons, List.mem_nil_iff, or_false] at hv
  rcases hv with rfl | rfl | rfl <;> rfl)
theorem run_stG {w : World} {g o : Nat} {s : Plc} (ht : w.there g o 3) : (stA 113 (.pointer (some ⟨g, o, none⟩)) (gv s)).run Tryz.prog w = .ok () (w.setCells g o (gc s)) :=
  run_stW 3 rfl (gc_all s) ht Tryz.sizeFile

theorem tabAt_new (w : World) : TabAt (w.alloc (.cells (tc z16).toArray 118)) w.heap.size z16 := ⟨Vw.alloc _ _ _, rfl⟩
theorem new_any (w : World) : Calls Tryz.prog 42 #[] w fun e w' => e = .returned (.pointer (some ⟨w.heap.size, 0, none⟩)) ∧ TabAt w' w.heap.size z16 ∧ Below w.heap.size w w' := by
  have hT := Lib.hid (tabAt_new w)
  go_enter Tryz.func42, Tryz.ntmps42
  go_wp2_with fail
  go_ret
  exact ⟨rfl, hT.out, (Below.refl _ _).alloc (Nat.le_refl _) _⟩

theorem move_nil (fd off : Int) (w : World) : Calls Tryz.prog 137 #[.pointer none, .int .i64 fd, .int .i64 off] w fun e w' => e = .returned (.int .i64 1) ∧ w = w' := by
  go_enter Tryz.func137, Tryz.ntmps137
  go_wp2_with (go_at_call 149; refine (find_nil _ _).mono ?_; rintro e w1 ⟨rfl, rfl⟩)
  go_ret
  exact ⟨rfl, rfl⟩
theorem move_bad (a : Nat) (fd off : Int) (L : List Plc) (w : World) (h : TabAt w a L) (hf : thereB L fd = false) :
    Calls Tryz.prog 137 #[.pointer (some ⟨a, 0, none⟩), .int .i64 fd, .int .i64 off] w (GivesT (.int .i64 10) a L w) := by
  have h' := Lib.hid h
  clear h
  go_enter Tryz.func137, Tryz.ntmps137
  go_wp2_with (go_at_call 149; refine (find_bad _ _ L _ h'.out hf).mono ?_; rintro e w1 ⟨rfl, rfl⟩)
  go_ret
  exact ⟨rfl, h'.out, Turn.refl _ _⟩
theorem move_neg (a k : Nat) (off : Int) (L : List Plc) (w : World) (h : TabAt w a L) (hk : k < 16) (ho : (pl L k).on = true) (hoff : off < 0) :
    Calls Tryz.prog 137 #[.pointer (some ⟨a, 0, none⟩), .int .i64 (k : Int), .int .i64 off] w (GivesT (.int .i64 2) a L w) := by
  have h' := Lib.hid h
  clear h
  go_enter Tryz.func137, Tryz.ntmps137
  go_wp2_with (go_at_call 149; refine (find_on _ k L _ h'.out hk ho).mono ?_; rintro e w1 ⟨rfl, rfl⟩)
  go_ret
  exact ⟨rfl, h'.out, Turn.refl _ _⟩
theorem move_to (a k : Nat) (off : Int) (L : List Plc) (w : World) (h : TabAt w a L) (hk : k < 16) (ho : (pl L k).on = true) (hoff : ¬ off < 0) :
    Calls Tryz.prog 137 #[.pointer (some ⟨a, 0, none⟩), .int .i64 (k : Int), .int .i64 off] w (GivesT (.int .i64 0) a (L.set k ((pl L k).to off)) w) := by
  have c2 := h.cell (j := 2) hk (by omega) rfl
  have f2 := h.frozen (k * 4 + 2)
  have h' := Lib.hid h
  clear h
  go_enter Tryz.func137, Tryz.ntmps137
  go_wp2_with (go_at_call 149; refine (find_on _ k L _ h'.out hk ho).mono ?_; rintro e w1 ⟨rfl, rfl⟩)
  go_ret
  exact ⟨rfl, h'.out.moved hk off, Turn.of_oth ((Oth.refl _ _).setCell _)⟩
end Go.Proofs.YtgcodlicbdaddaaGreatDoor
end

section
set_option linter.unusedVariables false
set_option linter.unusedSimpArgs false
namespace Go.Proofs.YtgcodlicbdaddaaGreatDoor
open Go.RowKit BigFrame

/-- places as a value -/
def tv (L : List Plc) : Value := .agg (tc L).toArray
theorem ldT_of (v : Value) : Instr.loadAt 116 v = ldA 116 v := rfl
theorem ixT_of (x i : Value) : Instr.index 116 x i = ixA 116 x i := rfl
theorem run_ldT {w : World} {g o : Nat} {L : List Plc} (hr : w.rangeAt g o (tc L)) (hl : L.length = 16) : (ldA 116 (.pointer (some ⟨g, o, none⟩))).run Tryz.prog w = .ok (tv L) w :=
  run_ldW 64 _ hr (by rw [tc_length, hl]) Tryz.underlying116 rfl Tryz.sizePlaces
theorem run_ixT (w : World) (L : List Plc) (k : Nat) (hk : k < 16) (hl : L.length = 16) : (ixA 116 (tv L) (.int .i64 (k : Int))).run Tryz.prog w = .ok (pv (pl L k)) w := by
  have h := run_ixW_row Tryz.underlying116 Tryz.underlying115 rfl Tryz.sizePlace w (tc L) k hk
  rw [tc_at (by omega)] at h
  exact h
theorem wpList_alloc_place {w : World} {ops : Array Oper} {rest : List Oper} {o : Oper} {a : Act} {Q : Exit → Act → World → Prop} (hgd : o.guard = none) (ho : o.op = .alloc 115)
    (h : ∀ g w1, Hid (Vw w1 115 g (pc p0)) → w.heap.size ≤ g → Below w.heap.size w w1 → wpList Tryz.prog ops Q rest (a.put o.dst (.pointer (some ⟨g, 0, none⟩))) w1) : wpList Tryz.prog ops Q (o :: rest) a w := by
  refine wpList_plain hgd fun K hK => ?_
  have hz := (zero_of_info Tryz.infoPlace).1 w
  unfold Oper.wp
  simp [execOp, ho, Instr.alloc, Sem.run_bind, hz, newVar, Value.cells, pv, Result.andThen]
  exact hK _ _ (h _ _ (heap_alloc_new w _) (Nat.le_refl _) ((Below.refl _ _).alloc (Nat.le_refl _) _))

theorem open_nil (n f : Int) (w : World) : Calls Tryz.prog 132 #[.pointer none, .int .i64 n, .int .i64 f] w fun e w' => e = .returned (.tuple #[.int .i64 0, .int .i64 1]) ∧ w = w' := by
  go_enter Tryz.func132, Tryz.ntmps132
  go_wp2_with fail
  go_ret2
  exact ⟨rfl, rfl⟩

def OpRel (L : List Plc) (w : World) (i : Value) (wr : World) : Prop := ∃ k : Nat, k ≤ 16 ∧ i = .int .i64 k ∧ (∀ j, j < k → (pl L j).on = true) ∧ Below w.heap.size w wr
/-- what Open makes of them -/
def openL (L : List Plc) (k : Nat) (n f : Int) : List Plc := L.set k ⟨true, n, 0, f⟩

attribute [local go_sem ↓] ldT_of ixT_of stP_of bdP_of bdG_of
set_option maxHeartbeats 1000000 in
theorem open_some (a q : Nat) (n f : Int) (L : List Plc) (w : World) (h : TabAt w a L) (hq : LeastP L q) (hq16 : q < 16) :
    Calls Tryz.prog 132 #[.pointer (some ⟨a, 0, none⟩), .int .i64 n, .int .i64 f] w (GivesT (.tuple #[.int .i64 (q : Int), .int .i64 0]) a (openL L q n f) w) := by
  have hld := run_ldT h.row.whole h.len
  have h' := Lib.hid h
  have hq' := Lib.hid hq
  unfold tv at hld
  clear h hq
  go_enter Tryz.func132, Tryz.ntmps132
  go_wp2_with fail
  clear hld
  go_loopw [16] (fun i wr => OpRel L w i wr) (fun i _ => 16 - (intOf i).toNat)
  case atStart => exact ⟨0, by omega, rfl, fun k hk => by omega, Below.refl _ _⟩
  case round =>
    obtain ⟨k, hk, rfl, hon0, hbel⟩ := hrel
    have hon := Lib.hid hon0
    have hB := Lib.hid hbel
    clear hon0 hbel
    have hkq : k ≤ q := by
      refine Nat.le_of_not_lt fun e => ?_
      have h1 := hon.out q e
      rw [hq'.out.free hq16] at h1
      cases h1
    have hlt : k < 16 := by omega
    have k0 : (0 : Int) ≤ (k : Int) := by omega
    have k1 : (k : Int) < 16 := by omega
    have hix := fun w => run_ixT w L k hlt h'.out.len
    obtain ⟨s, hs⟩ : ∃ s, pl L k = s := ⟨_, rfl⟩
    rw [hs] at hix
    have hs' := Lib.hid hs
    clear hs
    unfold tv pv at hix
    by_cases e0 : k = q
    · subst e0
      have ho := hq'.out.free hq16
      rw [hs'.out] at ho
      have hbg := fun w => run_bdG w n f
      have hbp := fun w => run_bdP w n f
      unfold gv at hbg hbp
      unfold pv at hbp
      go_wp2_with (refine wpList_alloc_place rfl rfl ?_; intro g2 w2 hv2 hg2 hb2; have hst := run_stP (s := s) (hv2.out.there (o := 0) (n := 4) (by simp [pc])); have V2 := Lib.hid (hv2.out.over (m := pc s) rfl); have c0 := V2.out.cell (k := 0) rfl; rw [ho] at c0; have B2 := Lib.hid (below_setCells (below_two hB.out hb2) (Nat.le_trans hB.out.size hg2) 0 (pc s)); have T2 := Lib.hid (h'.out.on' B2.out); have hst2 := run_stP (s := ⟨true, n, 0, f⟩) (T2.out.row.there (o := k * 4) (n := 4) (by rw [tc_length, h'.out.len]; omega)); unfold pv at hst hst2; clear hb2)
      go_ret2
      exact ⟨rfl, T2.out.put hlt _, (Turn.of_below a B2.out).trans (turn_cells _ _ _ _)⟩
    · have ho := Lib.hid (hq'.out.on k (by omega))
      rw [hs'.out] at ho
      go_wp2_with (refine wpList_alloc_place rfl rfl ?_; intro g2 w2 hv2 hg2 hb2; have hst := run_stP (s := s) (hv2.out.there (o := 0) (n := 4) (by simp [pc])); have V2 := Lib.hid (hv2.out.over (m := pc s) rfl); have c0 := V2.out.cell (k := 0) rfl; rw [ho.out] at c0; have B2 := Lib.hid (below_setCells (below_two hB.out hb2) (Nat.le_trans hB.out.size hg2) 0 (pc s)); unfold pv at hst; clear hb2)
      exact ⟨⟨k + 1, by omega, by go_num, fun j hj => by
        by_cases e : j = k
        · subst e; rw [hs'.out]; exact ho.out
        · exact hon.out j (by omega), B2.out⟩, by simp [intOf]; omega⟩
set_option maxHeartbeats 1000000 in
theorem open_full (a : Nat) (n f : Int) (L : List Plc) (w : World) (h : TabAt w a L) (hq : LeastP L 16) :
    Calls Tryz.prog 132 #[.pointer (some ⟨a, 0, none⟩), .int .i64 n, .int .i64 f] w (GivesT (.tuple #[.int .i64 0, .int .i64 14]) a L w) := by
  have hld := run_ldT h.row.whole h.len
  have h' := Lib.hid h
  have hq' := Lib.hid hq
  unfold tv at hld
  clear h hq
  go_enter Tryz.func132, Tryz.ntmps132
  go_wp2_with fail
  clear hld
  go_loopw [16] (fun i wr => OpRel L w i wr) (fun i _ => 16 - (intOf i).toNat)
  case atStart => exact ⟨0, by omega, rfl, fun k hk => by omega, Below.refl _ _⟩
  case round =>
    obtain ⟨k, hk, rfl, hon0, hbel⟩ := hrel
    have hon := Lib.hid hon0
    have hB := Lib.hid hbel
    clear hon0 hbel
    by_cases hlt : k < 16
    · have k0 : (0 : Int) ≤ (k : Int) := by omega
      have k1 : (k : Int) < 16 := by omega
      have hix := fun w => run_ixT w L k hlt h'.out.len
      obtain ⟨s, hs⟩ : ∃ s, pl L k = s := ⟨_, rfl⟩
      rw [hs] at hix
      have hs' := Lib.hid hs
      clear hs
      unfold tv pv at hix
      have ho := Lib.hid (hq'.out.on k (by omega))
      rw [hs'.out] at ho
      go_wp2_with (refine wpList_alloc_place rfl rfl ?_; intro g2 w2 hv2 hg2 hb2; have hst := run_stP (s := s) (hv2.out.there (o := 0) (n := 4) (by simp [pc])); have V2 := Lib.hid (hv2.out.over (m := pc s) rfl); have c0 := V2.out.cell (k := 0) rfl; rw [ho.out] at c0; have B2 := Lib.hid (below_setCells (below_two hB.out hb2) (Nat.le_trans hB.out.size hg2) 0 (pc s)); unfold pv at hst; clear hb2)
      exact ⟨⟨k + 1, by omega, by go_num, fun j hj => by
        by_cases e : j = k
        · subst e; rw [hs'.out]; exact ho.out
        · exact hon.out j (by omega), B2.out⟩, by simp [intOf]; omega⟩
    · obtain rfl : k = 16 := by omega
      go_wp2_with fail
      go_ret2
      exact ⟨rfl, h'.out.on' hB.out, Turn.of_below a hB.out⟩
end Go.Proofs.YtgcodlicbdaddaaGreatDoor
end
