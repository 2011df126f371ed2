/-
  Steps that reach wider: a row grown beside a disk; a disk beside many blocks that turn.
-/
import Derived.Test.YtmaodnidodoadaaPx
import Derived.Test.YtmaodnidodoadaaWn
namespace Go.Proofs.Ytmaodnidodoadaa
open Go.RowKit BigFrame

theorem step_grown {w w1 w8 : World} {r : Option Nat} {g : Nat} (hb : Below w.heap.size w w1) (hg : w1.grownBy w8 r) (hat : r = some g ∨ w.heap.size ≤ g) (R1 R2 : List Nat) : Step w (R1 ++ (r.toList ++ R2)) w8 (R1 ++ ([g] ++ R2)) :=
  ⟨hg.os.trans hb.os, hg.tape.trans hb.tape, hg.output.trans hb.output, Nat.le_trans hb.size hg.size, fun k hk hf => by
    rw [hg.block k (Nat.lt_of_lt_of_le hk hb.size) (fun e => hf (by simp [← e])), hb.block k hk], fun k hk => by
    simp only [List.mem_append, List.mem_singleton] at hk ⊢
    rcases hk with h | h | h
    · exact .inl (.inl h)
    · subst h
      rcases hat with e | e
      · exact .inl (.inr (.inl (by simp [e])))
      · exact .inr e
    · exact .inl (.inr (.inr h))⟩
/-- blocks beside the disk turn -/
theorem Live.many {w0 w w' : World} {G : Nat} {A : Lies} {d : Dk} {R R' : List Nat} (h : Live w0 w G A d) (hs : Step w R w' R') (hR : ∀ k ∈ R, Off w (A.foot G) k ∧ w0.heap.size ≤ k) : Live w0 w' G A d :=
  ⟨h.below.trans (hs.below h.below.size (fun k hk => (hR k hk).2)), IsDkS.carry h.disk hs.size (fun k hk => hs.block k (h.lt k hk) (fun e => (hR k e).1.1 hk))⟩
end Go.Proofs.Ytmaodnidodoadaa
