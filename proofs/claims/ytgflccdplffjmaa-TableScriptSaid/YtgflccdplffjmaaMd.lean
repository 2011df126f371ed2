/-
  New, Close, Move, Get.
-/
import Derived.Test.YtgflccdplffjmaaMc
namespace Go.Proofs.Ytgflccdplffjmaa
open Go.RowKit BigFrame

theorem TabAt.cell {w : World} {a : Nat} {L : List Plc} (h : TabAt w a L) {k j : Nat} {v : Value} (hk : k < 16) (hj : j < 4) (hv : (pc (pl L k))[j]? = some v) : w.cell? ⟨a, k * 4 + j, none⟩ = some v :=
  h.row.cell (by rw [tc_get (by rw [h.len]; exact hk) hj, hv])
theorem TabAt.frozen {w : World} {a : Nat} {L : List Plc} (h : TabAt w a L) (p : Nat) : w.frozen? ⟨a, p, none⟩ = false := h.row.frozen p
theorem TabAt.on' {w w' : World} {a : Nat} {L : List Plc} (h : TabAt w a L) (hb : Below w.heap.size w w') : TabAt w' a L := ⟨h.row.on' hb, h.len⟩
theorem TabAt.turn {w w' : World} {a b : Nat} {L : List Plc} (h : TabAt w a L) (hT : Turn b w w') (hn : a ≠ b) : TabAt w' a L := ⟨h.row.turn hT hn, h.len⟩
theorem TabAt.moved {w : World} {a : Nat} {L : List Plc} (h : TabAt w a L) {k : Nat} (hk : k < 16) (x : Int) : TabAt (w.setCell ⟨a, k * 4 + 2, none⟩ (.int .i64 x)) a (L.set k ((pl L k).to x)) :=
  ⟨by rw [← tc_move x (by rw [h.len]; exact hk)]; exact h.row.set _ _, by rw [List.length_set]; exact h.len⟩
theorem TabAt.put {w : World} {a : Nat} {L : List Plc} (h : TabAt w a L) {k : Nat} (hk : k < 16) (s : Plc) : TabAt (w.setCells a (k * 4) (pc s)) a (L.set k s) :=
  ⟨by
    have hp := h.row.put (pc s) (k * 4) (by rw [tc_length, h.len]; show k * 4 + 4 ≤ _; omega)
    rwa [tc_put s (by rw [h.len]; exact hk)] at hp, by rw [List.length_set]; exact h.len⟩
theorem turn_cells (a : Nat) (w : World) (o : Nat) (vs : List Value) : Turn a w (w.setCells a o vs) := by
  have : Oth a w (w.setCells a o vs) := by
    induction vs generalizing o w with
    | nil => exact Oth.refl _ _
    | cons v r ih => exact ((Oth.refl a w).setCell (p := o) v).trans (ih (w.setCell ⟨a, o, none⟩ v) (o + 1))
  exact Turn.of_oth this

/-- a table was given -/
def GivesT (v : Value) (a : Nat) (L : List Plc) (w : World) (e : Ending) (w' : World) : Prop := e = .returned v ∧ TabAt w' a L ∧ Turn a w w'

theorem Try.infoPlace : (Try.prog.info? 53).map (fun i => (i.zero, i.size)) = some (some (pv p0), 4) := by kernel_rfl
theorem Try.sizePlace : (Try.prog.info? 53).map (·.size) = some 4 := by kernel_rfl
theorem Try.sizePlaces : (Try.prog.info? 54).map (·.size) = some 64 := by kernel_rfl
theorem Try.sizeFile : (Try.prog.info? 40).map (·.size) = some 3 := by kernel_rfl
theorem Try.infoFile : (Try.prog.info? 40).map (fun i => (i.zero, i.size)) = some (some (gv p0), 3) := by kernel_rfl
theorem ldG_of (v : Value) : Instr.loadAt 40 v = ldA 40 v := rfl
theorem stG_of (p v : Value) : Instr.storeAt 40 p v = stA 40 p v := rfl
theorem ldP_of (v : Value) : Instr.loadAt 53 v = ldA 53 v := rfl
theorem stP_of (p v : Value) : Instr.storeAt 53 p v = stA 53 p v := rfl
theorem bdP_of (ps : Array (Nat × Value)) : Instr.build 53 ps = bdA 53 ps := rfl
theorem bdG_of (ps : Array (Nat × Value)) : Instr.build 40 ps = bdA 40 ps := rfl
theorem run_bd0P (w : World) : (bdA 53 #[]).run Try.prog w = .ok (pv p0) w := by
  unfold bdA
  exact run_build w _ _ _ (by kernel_rfl)
theorem run_bd0G (w : World) : (bdA 40 #[]).run Try.prog w = .ok (gv p0) w := by
  unfold bdA
  exact run_build w _ _ _ (by kernel_rfl)
theorem run_bdG (w : World) (x y : Int) : (bdA 40 #[(0, .int .i64 x), (2, .int .i64 y)]).run Try.prog w = .ok (gv ⟨true, x, 0, y⟩) w := by
  unfold bdA
  exact run_build w _ _ _ (by kernel_rfl)
theorem run_bdG3 (w : World) (x y z : Int) : (bdA 40 #[(0, .int .i64 x), (1, .int .i64 y), (2, .int .i64 z)]).run Try.prog w = .ok (gv ⟨true, x, y, z⟩) w := by
  unfold bdA
  exact run_build w _ _ _ (by kernel_rfl)
theorem run_bdP (w : World) (x y : Int) : (bdA 53 #[(0, .bool true), (1, gv ⟨true, x, 0, y⟩)]).run Try.prog w = .ok (pv ⟨true, x, 0, y⟩) w := by
  unfold bdA
  exact run_build w _ _ _ (by kernel_rfl)
theorem run_stP {w : World} {g o : Nat} {s : Plc} (ht : w.there g o 4) : (stA 53 (.pointer (some ⟨g, o, none⟩)) (pv s)).run Try.prog w = .ok () (w.setCells g o (pc s)) :=
  run_stW 4 rfl (pc_all s) ht Try.sizePlace
theorem run_ldG {w : World} {g o : Nat} {s : Plc} (hr : w.rangeAt g o (gc s)) : (ldA 40 (.pointer (some ⟨g, o, none⟩))).run Try.prog w = .ok (gv s) w :=
  run_ldW 3 _ hr rfl Try.underlying40 rfl Try.sizeFile
theorem gc_all (s : Plc) : (gc s).toArray.all (·.oneCell') = true := all_oneCell_toArray (fun v hv => by
  simp only [gc, List.mem_cons, List.mem_nil_iff, or_false] at hv
  rcases hv with rfl | rfl | rfl <;> rfl)
theorem run_stG {w : World} {g o : Nat} {s : Plc} (ht : w.there g o 3) : (stA 40 (.pointer (some ⟨g, o, none⟩)) (gv s)).run Try.prog w = .ok () (w.setCells g o (gc s)) :=
  run_stW 3 rfl (gc_all s) ht Try.sizeFile

theorem tabAt_new (w : World) : TabAt (w.alloc (.cells (tc z16).toArray 56)) w.heap.size z16 := ⟨Vw.alloc _ _ _, rfl⟩
theorem new_any (w : World) : Calls Try.prog 7 #[] w fun e w' => e = .returned (.pointer (some ⟨w.heap.size, 0, none⟩)) ∧ TabAt w' w.heap.size z16 ∧ Below w.heap.size w w' := by
  have hT := Lib.hid (tabAt_new w)
  go_enter Try.func7, Try.ntmps7
  go_wp2_with fail
  go_ret
  exact ⟨rfl, hT.out, (Below.refl _ _).alloc (Nat.le_refl _) _⟩

theorem move_nil (fd off : Int) (w : World) : Calls Try.prog 12 #[.pointer none, .int .i64 fd, .int .i64 off] w fun e w' => e = .returned (.int .i64 1) ∧ w = w' := by
  go_enter Try.func12, Try.ntmps12
  go_wp2_with (go_at_call 23; refine (find_nil _ _).mono ?_; rintro e w1 ⟨rfl, rfl⟩)
  go_ret
  exact ⟨rfl, rfl⟩
theorem move_bad (a : Nat) (fd off : Int) (L : List Plc) (w : World) (h : TabAt w a L) (hf : thereB L fd = false) :
    Calls Try.prog 12 #[.pointer (some ⟨a, 0, none⟩), .int .i64 fd, .int .i64 off] w (GivesT (.int .i64 10) a L w) := by
  have h' := Lib.hid h
  clear h
  go_enter Try.func12, Try.ntmps12
  go_wp2_with (go_at_call 23; refine (find_bad _ _ L _ h'.out hf).mono ?_; rintro e w1 ⟨rfl, rfl⟩)
  go_ret
  exact ⟨rfl, h'.out, Turn.refl _ _⟩
theorem move_neg (a k : Nat) (off : Int) (L : List Plc) (w : World) (h : TabAt w a L) (hk : k < 16) (ho : (pl L k).on = true) (hoff : off < 0) :
    Calls Try.prog 12 #[.pointer (some ⟨a, 0, none⟩), .int .i64 (k : Int), .int .i64 off] w (GivesT (.int .i64 2) a L w) := by
  have h' := Lib.hid h
  clear h
  go_enter Try.func12, Try.ntmps12
  go_wp2_with (go_at_call 23; refine (find_on _ k L _ h'.out hk ho).mono ?_; rintro e w1 ⟨rfl, rfl⟩)
  go_ret
  exact ⟨rfl, h'.out, Turn.refl _ _⟩
theorem move_to (a k : Nat) (off : Int) (L : List Plc) (w : World) (h : TabAt w a L) (hk : k < 16) (ho : (pl L k).on = true) (hoff : ¬ off < 0) :
    Calls Try.prog 12 #[.pointer (some ⟨a, 0, none⟩), .int .i64 (k : Int), .int .i64 off] w (GivesT (.int .i64 0) a (L.set k ((pl L k).to off)) w) := by
  have c2 := h.cell (j := 2) hk (by omega) rfl
  have f2 := h.frozen (k * 4 + 2)
  have h' := Lib.hid h
  clear h
  go_enter Try.func12, Try.ntmps12
  go_wp2_with (go_at_call 23; refine (find_on _ k L _ h'.out hk ho).mono ?_; rintro e w1 ⟨rfl, rfl⟩)
  go_ret
  exact ⟨rfl, h'.out.moved hk off, Turn.of_oth ((Oth.refl _ _).setCell _)⟩
end Go.Proofs.Ytgflccdplffjmaa
