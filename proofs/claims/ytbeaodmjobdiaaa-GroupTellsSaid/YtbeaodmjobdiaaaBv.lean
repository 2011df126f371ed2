/-
  Two answers are the same.
-/
import Derived.Test.YtbeaodmjobdiaaaBg
import Derived.Test.YtbeaodmjobdiaaaSb
namespace Go.Proofs.Ytbeaodmjobdiaaa
open Go.RowKit

theorem same_u (v1 v2 : Value) (X : List Nat) (w : World) (hl : X.length ≤ 100000) (h1 : BV w v1 X) (h2 : BV w v2 X) :
    Calls Try.prog 12 #[v1, v2] w fun e w' => e = .returned (.bool true) ∧ Below w.heap.size w w' := by
  obtain ⟨a, n, c1, rfl, hn, hx⟩ := h1
  obtain ⟨b, m, c2, rfl, hm, hy⟩ := h2
  obtain rfl : n = m := by omega
  exact same_same a b c1 c2 n X X w hn rfl (by omega) hx hy
end Go.Proofs.Ytbeaodmjobdiaaa
