/-
  find: the place of a descriptor that is open.
-/
import Derived.Test.YtgflccdplffjmaaMb
namespace Go.Proofs.Ytgflccdplffjmaa
open Go.RowKit BigFrame

/-- the program's table lies in block a: these sixteen places -/
structure TabAt (w : World) (a : Nat) (L : List Plc) : Prop where
  row : Vw w 56 a (tc L)
  len : L.length = 16
/-- the document's -/
structure RefAt (w : World) (a : Nat) (L : List Plc) : Prop where
  row : Vw w 31 a (uc L)
  len : L.length = 16
theorem TabAt.on {w : World} {a : Nat} {L : List Plc} (h : TabAt w a L) {k : Nat} (hk : k < 16) : w.cell? ⟨a, k * 4, none⟩ = some (.bool (pl L k).on) :=
  h.row.cell (k := k * 4) (by have := tc_get (L := L) (k := k) (j := 0) (by rw [h.len]; exact hk) (by omega); rw [Nat.add_zero] at this; rw [this]; rfl)
theorem TabAt.lt {w : World} {a : Nat} {L : List Plc} (h : TabAt w a L) : a < w.heap.size := h.row.lt

theorem find_nil (fd : Int) (w : World) : Calls Try.prog 23 #[.pointer none, .int .i64 fd] w fun e w' => e = .returned (.tuple #[.pointer none, .int .i64 1]) ∧ w = w' := by
  go_enter Try.func23, Try.ntmps23
  go_wp2_with fail
  go_ret2
  exact ⟨rfl, rfl⟩
theorem find_on (a k : Nat) (L : List Plc) (w : World) (h : TabAt w a L) (hk : k < 16) (ho : (pl L k).on = true) :
    Calls Try.prog 23 #[.pointer (some ⟨a, 0, none⟩), .int .i64 (k : Int)] w fun e w' => e = .returned (.tuple #[.pointer (some ⟨a, k * 4, none⟩), .int .i64 0]) ∧ w = w' := by
  have c0 := h.on hk
  rw [ho] at c0
  have d0 : decide ((k : Int) < 0) = false := decide_eq_false (by omega)
  have d1 : decide ((16 : Int) ≤ (k : Int)) = false := decide_eq_false (by omega)
  have k0 : (0 : Int) ≤ (k : Int) := by omega
  have k1 : (k : Int) < 16 := by omega
  have h' := Lib.hid h
  clear h ho
  go_enter Try.func23, Try.ntmps23
  go_wp2_with fail
  go_ret2
  exact ⟨rfl, rfl⟩
theorem find_off (a k : Nat) (L : List Plc) (w : World) (h : TabAt w a L) (hk : k < 16) (ho : (pl L k).on = false) :
    Calls Try.prog 23 #[.pointer (some ⟨a, 0, none⟩), .int .i64 (k : Int)] w fun e w' => e = .returned (.tuple #[.pointer none, .int .i64 10]) ∧ w = w' := by
  have c0 := h.on hk
  rw [ho] at c0
  have d0 : decide ((k : Int) < 0) = false := decide_eq_false (by omega)
  have d1 : decide ((16 : Int) ≤ (k : Int)) = false := decide_eq_false (by omega)
  have k0 : (0 : Int) ≤ (k : Int) := by omega
  have k1 : (k : Int) < 16 := by omega
  have h' := Lib.hid h
  clear h ho
  go_enter Try.func23, Try.ntmps23
  go_wp2_with fail
  go_ret2
  exact ⟨rfl, rfl⟩
theorem find_out (a : Nat) (fd : Int) (w : World) (hf : ¬ (0 ≤ fd ∧ fd < 16)) :
    Calls Try.prog 23 #[.pointer (some ⟨a, 0, none⟩), .int .i64 fd] w fun e w' => e = .returned (.tuple #[.pointer none, .int .i64 10]) ∧ w = w' := by
  by_cases h0 : fd < 0
  · have d0 : decide (fd < 0) = true := decide_eq_true h0
    clear hf
    go_enter Try.func23, Try.ntmps23
    go_wp2_with fail
    go_ret2
    exact ⟨rfl, rfl⟩
  · have d0 : decide (fd < 0) = false := decide_eq_false h0
    have d1 : decide (16 ≤ fd) = true := decide_eq_true (by omega)
    clear hf
    go_enter Try.func23, Try.ntmps23
    go_wp2_with fail
    go_ret2
    exact ⟨rfl, rfl⟩
/-- whatever is asked for that is not open -/
theorem find_bad (a : Nat) (fd : Int) (L : List Plc) (w : World) (h : TabAt w a L) (hf : thereB L fd = false) :
    Calls Try.prog 23 #[.pointer (some ⟨a, 0, none⟩), .int .i64 fd] w fun e w' => e = .returned (.tuple #[.pointer none, .int .i64 10]) ∧ w = w' := by
  by_cases hi : 0 ≤ fd ∧ fd < 16
  · obtain ⟨k, rfl⟩ : ∃ k : Nat, fd = (k : Int) := ⟨fd.toNat, by omega⟩
    rw [there_in (by omega)] at hf
    exact find_off a k L w h (by omega) hf
  · exact find_out a fd w hi
theorem there_k {L : List Plc} {fd : Int} (h : thereB L fd = true) : ∃ k : Nat, fd = (k : Int) ∧ k < 16 ∧ (pl L k).on = true := by
  unfold thereB at h
  rw [Bool.and_eq_true, decide_eq_true_eq] at h
  exact ⟨fd.toNat, by omega, by omega, h.2⟩
end Go.Proofs.Ytgflccdplffjmaa
