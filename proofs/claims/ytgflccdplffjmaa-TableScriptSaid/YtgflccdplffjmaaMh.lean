/-
  The document's own: There, Close, Move.
-/
import Derived.Test.YtgflccdplffjmaaMd
namespace Go.Proofs.Ytgflccdplffjmaa
open Go.RowKit BigFrame

theorem RefAt.cell {w : World} {a : Nat} {L : List Plc} (h : RefAt w a L) {k j : Nat} {v : Value} (hk : k < 16) (hj : j < 4) (hv : (qc (pl L k))[j]? = some v) : w.cell? ⟨a, k * 4 + j, none⟩ = some v :=
  h.row.cell (by rw [uc_get (by rw [h.len]; exact hk) hj, hv])
theorem RefAt.frozen {w : World} {a : Nat} {L : List Plc} (h : RefAt w a L) (p : Nat) : w.frozen? ⟨a, p, none⟩ = false := h.row.frozen p
theorem RefAt.on' {w w' : World} {a : Nat} {L : List Plc} (h : RefAt w a L) (hb : Below w.heap.size w w') : RefAt w' a L := ⟨h.row.on' hb, h.len⟩
theorem RefAt.turn {w w' : World} {a b : Nat} {L : List Plc} (h : RefAt w a L) (hT : Turn b w w') (hn : a ≠ b) : RefAt w' a L := ⟨h.row.turn hT hn, h.len⟩
theorem RefAt.moved {w : World} {a : Nat} {L : List Plc} (h : RefAt w a L) {k : Nat} (hk : k < 16) (x : Int) : RefAt (w.setCell ⟨a, k * 4 + 1, none⟩ (.int .i64 x)) a (L.set k ((pl L k).to x)) :=
  ⟨by rw [← uc_move x (by rw [h.len]; exact hk)]; exact h.row.set _ _, by rw [List.length_set]; exact h.len⟩
theorem RefAt.put {w : World} {a : Nat} {L : List Plc} (h : RefAt w a L) {k : Nat} (hk : k < 16) (s : Plc) : RefAt (w.setCells a (k * 4) (qc s)) a (L.set k s) :=
  ⟨by
    have hp := h.row.put (qc s) (k * 4) (by rw [uc_length, h.len]; show k * 4 + 4 ≤ _; omega)
    rwa [uc_put s (by rw [h.len]; exact hk)] at hp, by rw [List.length_set]; exact h.len⟩
def GivesR (v : Value) (a : Nat) (L : List Plc) (w : World) (e : Ending) (w' : World) : Prop := e = .returned v ∧ RefAt w' a L ∧ Turn a w w'

def qv (s : Plc) : Value := .agg (qc s).toArray
theorem Try.sizeRFile : (Try.prog.info? 28).map (·.size) = some 4 := by kernel_rfl
theorem stQ_of (p v : Value) : Instr.storeAt 28 p v = stA 28 p v := rfl
theorem bdQ_of (ps : Array (Nat × Value)) : Instr.build 28 ps = bdA 28 ps := rfl
theorem run_bd0Q (w : World) : (bdA 28 #[]).run Try.prog w = .ok (qv p0) w := by
  unfold bdA
  exact run_build w _ _ _ (by kernel_rfl)
theorem run_bdQ (w : World) (x y : Int) : (bdA 28 #[(0, .int .i64 x), (2, .int .i64 y), (3, .bool true)]).run Try.prog w = .ok (qv ⟨true, x, 0, y⟩) w := by
  unfold bdA
  exact run_build w _ _ _ (by kernel_rfl)
theorem qc_all (s : Plc) : (qc s).toArray.all (·.oneCell') = true := all_oneCell_toArray (fun v hv => by
  simp only [qc, List.mem_cons, List.mem_nil_iff, or_false] at hv
  rcases hv with rfl | rfl | rfl | rfl <;> rfl)
theorem run_stQ {w : World} {g o : Nat} {s : Plc} (ht : w.there g o 4) : (stA 28 (.pointer (some ⟨g, o, none⟩)) (qv s)).run Try.prog w = .ok () (w.setCells g o (qc s)) :=
  run_stW 4 rfl (qc_all s) ht Try.sizeRFile

theorem rthere_is (a : Nat) (fd : Int) (L : List Plc) (r : Bool) (w : World) (h : RefAt w a L) (hr : thereB L fd = r) :
    Calls Try.prog 15 #[.pointer (some ⟨a, 0, none⟩), .int .i64 fd] w fun e w' => e = .returned (.bool r) ∧ w = w' := by
  by_cases h0 : 0 ≤ fd
  · have d0 : decide (0 ≤ fd) = true := decide_eq_true h0
    by_cases h1 : fd < 16
    · obtain ⟨k, rfl⟩ : ∃ k : Nat, fd = (k : Int) := ⟨fd.toNat, by omega⟩
      have d1 : decide ((k : Int) < 16) = true := decide_eq_true h1
      rw [there_in (by omega)] at hr
      have c3 := h.cell (k := k) (j := 3) (by omega) (by omega) rfl
      rw [hr] at c3
      clear h hr
      go_enter Try.func15, Try.ntmps15
      go_wp2_with fail
      go_ret
      exact ⟨rfl, rfl⟩
    · have d1 : decide (fd < 16) = false := decide_eq_false h1
      rw [there_out (by omega)] at hr
      subst hr
      clear h
      go_enter Try.func15, Try.ntmps15
      go_wp2_with fail
      go_ret
      exact ⟨rfl, rfl⟩
  · have d0 : decide (0 ≤ fd) = false := decide_eq_false h0
    rw [there_out (by omega)] at hr
    subst hr
    clear h
    go_enter Try.func15, Try.ntmps15
    go_wp2_with fail
    go_ret
    exact ⟨rfl, rfl⟩
theorem rmove_bad (a : Nat) (fd off : Int) (L : List Plc) (w : World) (h : RefAt w a L) (hf : thereB L fd = false) :
    Calls Try.prog 13 #[.pointer (some ⟨a, 0, none⟩), .int .i64 fd, .int .i64 off] w (GivesR (.int .i64 10) a L w) := by
  have h' := Lib.hid h
  clear h
  go_enter Try.func13, Try.ntmps13
  go_wp2_with (go_at_call 15; refine (rthere_is _ _ L false _ h'.out hf).mono ?_; rintro e w1 ⟨rfl, rfl⟩)
  go_ret
  exact ⟨rfl, h'.out, Turn.refl _ _⟩
theorem rmove_neg (a k : Nat) (off : Int) (L : List Plc) (w : World) (h : RefAt w a L) (hk : k < 16) (ho : (pl L k).on = true) (hoff : off < 0) :
    Calls Try.prog 13 #[.pointer (some ⟨a, 0, none⟩), .int .i64 (k : Int), .int .i64 off] w (GivesR (.int .i64 2) a L w) := by
  have h' := Lib.hid h
  have hth := Lib.hid (there_in hk ▸ ho : thereB L (k : Int) = true)
  clear h
  go_enter Try.func13, Try.ntmps13
  go_wp2_with (go_at_call 15; refine (rthere_is _ _ L true _ h'.out hth.out).mono ?_; rintro e w1 ⟨rfl, rfl⟩)
  go_ret
  exact ⟨rfl, h'.out, Turn.refl _ _⟩
theorem rmove_to (a k : Nat) (off : Int) (L : List Plc) (w : World) (h : RefAt w a L) (hk : k < 16) (ho : (pl L k).on = true) (hoff : ¬ off < 0) :
    Calls Try.prog 13 #[.pointer (some ⟨a, 0, none⟩), .int .i64 (k : Int), .int .i64 off] w (GivesR (.int .i64 0) a (L.set k ((pl L k).to off)) w) := by
  have c1 := h.cell (j := 1) hk (by omega) rfl
  have f1 := h.frozen (k * 4 + 1)
  have k0 : (0 : Int) ≤ (k : Int) := by omega
  have k1 : (k : Int) < 16 := by omega
  have h' := Lib.hid h
  have hth := Lib.hid (there_in hk ▸ ho : thereB L (k : Int) = true)
  clear h
  go_enter Try.func13, Try.ntmps13
  go_wp2_with (go_at_call 15; refine (rthere_is _ _ L true _ h'.out hth.out).mono ?_; rintro e w1 ⟨rfl, rfl⟩)
  go_ret
  exact ⟨rfl, h'.out.moved hk off, Turn.of_oth ((Oth.refl _ _).setCell _)⟩
attribute [local go_sem ↓] stQ_of bdQ_of
theorem rclose_bad (a : Nat) (fd : Int) (L : List Plc) (w : World) (h : RefAt w a L) (hf : thereB L fd = false) :
    Calls Try.prog 11 #[.pointer (some ⟨a, 0, none⟩), .int .i64 fd] w (GivesR (.tuple #[.int .i64 0, .int .i64 10]) a L w) := by
  have h' := Lib.hid h
  clear h
  go_enter Try.func11, Try.ntmps11
  go_wp2_with (go_at_call 15; refine (rthere_is _ _ L false _ h'.out hf).mono ?_; rintro e w1 ⟨rfl, rfl⟩)
  go_ret2
  exact ⟨rfl, h'.out, Turn.refl _ _⟩
theorem rclose_on (a k : Nat) (L : List Plc) (w : World) (h : RefAt w a L) (hk : k < 16) (ho : (pl L k).on = true) :
    Calls Try.prog 11 #[.pointer (some ⟨a, 0, none⟩), .int .i64 (k : Int)] w (GivesR (.tuple #[.int .i64 (pl L k).nd, .int .i64 0]) a (L.set k p0) w) := by
  have c0 := h.cell (j := 0) hk (by omega) rfl
  rw [Nat.add_zero] at c0
  have hst := run_stQ (s := p0) (h.row.there (o := k * 4) (n := 4) (by rw [uc_length, h.len]; omega))
  have hbd := run_bd0Q
  unfold qv at hst hbd
  have k0 : (0 : Int) ≤ (k : Int) := by omega
  have k1 : (k : Int) < 16 := by omega
  have h' := Lib.hid h
  have hth := Lib.hid (there_in hk ▸ ho : thereB L (k : Int) = true)
  clear h
  go_enter Try.func11, Try.ntmps11
  go_wp2_with (go_at_call 15; refine (rthere_is _ _ L true _ h'.out hth.out).mono ?_; rintro e w1 ⟨rfl, rfl⟩)
  go_ret2
  exact ⟨rfl, h'.out.put hk p0, turn_cells _ _ _ _⟩
end Go.Proofs.Ytgflccdplffjmaa
