/-
  A frame: nothing but one block has turned.
-/
import Derived.Test.YtcmomnfefaolaaaRows
import Derived.WalkKit
import Derived.ProofKit
import Derived.Handy
import Derived.Deep.OwnRows
import Derived.OwnWalk
import Derived.Deep.QuietTactic
import Derived.BigQuiet
namespace Go.Proofs.Ytcmomnfefaolaaa
open Go.RowKit

/-- nothing but block g has turned -/
structure Oth (g : Nat) (w w' : World) : Prop where
  os : w'.os = w.os
  tape : w'.tape = w.tape
  output : w'.output = w.output
  size : w'.heap.size = w.heap.size
  block : ∀ k, k ≠ g → w'.heap[k]? = w.heap[k]?

theorem Oth.refl (g : Nat) (w : World) : Oth g w w := ⟨rfl, rfl, rfl, rfl, fun _ _ => rfl⟩
theorem Oth.trans {g : Nat} {a b c : World} (h : Oth g a b) (k : Oth g b c) : Oth g a c :=
  ⟨k.os.trans h.os, k.tape.trans h.tape, k.output.trans h.output, k.size.trans h.size, fun i hi => (k.block i hi).trans (h.block i hi)⟩
theorem Oth.setCell {g p : Nat} {a w : World} (h : Oth g a w) (u : Value) : Oth g a (w.setCell ⟨g, p, none⟩ u) :=
  h.trans ⟨rfl, rfl, rfl, by simp [World.setCell], fun k hk => Below.heap_setCell _ _ _ _ hk⟩
theorem Oth.drewN {g n : Nat} {a w : World} (h : Oth g a w) : Oth g a (w.drewN n) := ⟨h.os, h.tape, h.output, h.size, h.block⟩
theorem Oth.drew {g : Nat} {a w : World} (h : Oth g a w) : Oth g a w.drew := ⟨h.os, h.tape, h.output, h.size, h.block⟩
theorem below_oth {g B : Nat} {w w1 w2 : World} (h : Below B w w1) (ho : Oth g w1 w2) (hg : B ≤ g) : Below B w w2 :=
  h.trans ⟨ho.os, ho.tape, ho.output, by rw [ho.size]; exact Nat.le_refl _, fun k hk => ho.block k (by omega)⟩

theorem Oth.block' {g k : Nat} {w w' : World} (h : Oth g w w') (hk : k ≠ g) : w'.heap[k]? = w.heap[k]? := h.block k hk
theorem Oth.cell {g : Nat} {w w' : World} (h : Oth g w w') {a : Addr} (ha : a.block ≠ g) : w'.cell? a = w.cell? a := World.cell?_of_block (h.block _ ha)
theorem Oth.frozen {g : Nat} {w w' : World} (h : Oth g w w') {a : Addr} (ha : a.block ≠ g) : w'.frozen? a = w.frozen? a := World.frozen?_of_block (h.block _ ha)
theorem Oth.below {g B : Nat} {w w' : World} (h : Oth g w w') (hg : B ≤ g) : Below B w w' := below_oth (Below.refl _ _) h hg
end Go.Proofs.Ytcmomnfefaolaaa
