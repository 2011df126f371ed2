/-
  Texts of one's own, side by side from call to call.
-/
import Derived.Test.YtkocjkndkkhogaaDoorTa
namespace Go.Proofs.YtkocjkndkkhogaaDoor
open Go.RowKit BigFrame

/-- these are one's own, each for itself; what was there is as it was -/
def Held (w0 w : World) (xs : List (Value × List (List Nat))) : Prop :=
  Below w0.heap.size w0 w ∧ (∀ x ∈ xs, OwnT w w0.heap.size x.1 x.2) ∧ xs.Pairwise (fun x y => ∀ k, x.1.ownBlock = some k → some k ≠ y.1.ownBlock)
theorem Held.start (w : World) : Held w w [] := ⟨Below.refl _ _, fun x hx => absurd hx (by simp), .nil⟩
theorem Held.on {w0 w w' : World} {xs : List (Value × List (List Nat))} (h : Held w0 w xs) (hb : Below w.heap.size w w') : Held w0 w' xs :=
  ⟨h.1.trans (hb.mono h.1.size), fun x hx => (h.2.1 x hx).on hb (Nat.le_refl _), h.2.2⟩
theorem Held.add {w0 w w' : World} {xs : List (Value × List (List Nat))} {v : Value} {L : List (List Nat)} (h : Held w0 w xs) (ho : OwnT w' w.heap.size v L) (hb : Below w.heap.size w w') : Held w0 w' ((v, L) :: xs) := by
  have h2 := h.on hb
  refine ⟨h2.1, fun x hx => ?_, List.pairwise_cons.2 ⟨fun y hy k hk e => ?_, h2.2.2⟩⟩
  · rcases List.mem_cons.1 hx with rfl | hx
    · exact ho.lower h.1.size
    · exact h2.2.1 x hx
  · have h3 := (ho.block k hk).1
    have h4 := ((h.2.1 y hy).block k e.symm).2
    omega
theorem Held.own {w0 w : World} {xs : List (Value × List (List Nat))} (h : Held w0 w xs) {v : Value} {L : List (List Nat)} (hm : (v, L) ∈ xs) : OwnT w w0.heap.size v L := h.2.1 _ hm
theorem Held.texts {w0 w : World} {xs : List (Value × List (List Nat))} (h : Held w0 w xs) {a : Option Addr} {n c : Nat} {L : List (List Nat)} (hm : (.slice a n c, L) ∈ xs) : TAt w a L := (h.own hm).tat.1
theorem Held.drew {w0 w : World} {xs : List (Value × List (List Nat))} {m : Nat} (h : Held w0 w xs) : Held w0 (w.drewN m) xs := ⟨⟨h.1.os, h.1.tape, h.1.output, h.1.size, h.1.block⟩, h.2.1, h.2.2⟩
end Go.Proofs.YtkocjkndkkhogaaDoor
