/-
  Where a slice that came in stands: in a block that there is.
-/
import Derived.Test.YtgcodlicbdaddaaGreatDoorLw
set_option linter.unusedVariables false
set_option linter.unusedSimpArgs false
namespace Go.Proofs.YtgcodlicbdaddaaGreatDoor
open Go.ChangeShapes Go.WideShapes Go.ChangeAt Go.RowKit

theorem in_heap {P : Program} {W : World} {t e : TypeId} {base n c : Nat} {a : Option Addr} (ht : P.underlying t = some (.slice e)) (h : Value.okWide P W .any base t (.slice a n c)) : ∀ ad, a = some ad → ad.block < W.heap.size := by
  rintro ad rfl
  simp only [Value.okWide, ht, Cell.okWide, Cell.ok] at h
  obtain ⟨_, _, _, _, row, cells, hs, _⟩ := h
  by_cases hlt : ad.block < W.heap.size
  · exact hlt
  · have hnone : W.heap[ad.block]? = none := Array.getElem?_eq_none (by omega)
    simp [World.shape?, hnone] at hs
end Go.Proofs.YtgcodlicbdaddaaGreatDoor
