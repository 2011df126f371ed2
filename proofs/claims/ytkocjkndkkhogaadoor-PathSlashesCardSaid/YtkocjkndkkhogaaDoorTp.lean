/-
  A string that came in.
-/
import Derived.Test.YtkocjkndkkhogaaDoorLw
namespace Go.Proofs.YtkocjkndkkhogaaDoor
open Go.ChangeShapes Go.WideShapes Go.ChangeAt Go.RowKit

theorem cell_string {W : World} {base : Nat} {t : TypeId} {v : Value} (ht : Tryd.prog.underlying t = some .string) (h : Cell.okWide Tryd.prog W .any base t v) : ∃ s, v = .string s := by
  unfold Cell.okWide Cell.ok at h
  rw [ht] at h
  cases v <;> simp at h
  exact ⟨_, rfl⟩
theorem cell_int {W : World} {base : Nat} {t : TypeId} {v : Value} (ht : Tryd.prog.underlying t = some (.int .i64)) (h : Cell.okWide Tryd.prog W .any base t v) : ∃ z, v = .int .i64 z := by
  unfold Cell.okWide Cell.ok at h
  rw [ht] at h
  cases v <;> simp at h
  obtain ⟨rfl, _⟩ := h
  exact ⟨_, rfl⟩
theorem open_str {W : World} {base : Nat} {t : TypeId} {v : Value} (ht : Tryd.prog.underlying t = some .string) (h : Value.okWide Tryd.prog W .any base t v) : ∃ s, v = .string s := by
  unfold Value.okWide at h
  rw [ht] at h
  exact cell_string ht h
end Go.Proofs.YtkocjkndkkhogaaDoor
