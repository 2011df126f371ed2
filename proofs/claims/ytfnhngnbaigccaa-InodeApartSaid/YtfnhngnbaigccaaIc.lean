/-
  The worlds in which two values of integers and two answers of bytes lie where they lay.
-/
import Derived.Test.YtfnhngnbaigccaaAv
import Derived.Test.YtfnhngnbaigccaaTe
import Derived.Test.YtfnhngnbaigccaaBv
import Derived.Test.YtfnhngnbaigccaaQv
namespace Go.Proofs.Ytfnhngnbaigccaa
open Go.RowKit BigFrame

theorem BV.len {w : World} {v : Value} {X : List Nat} (h : BV w v X) : ∃ a cap, v = .slice a X.length cap := by
  obtain ⟨a, n, cap, rfl, rfl, _⟩ := h
  exact ⟨a, cap, rfl⟩
/-- two values, and two answers, lie where they lay, and what was there is as it was -/
structure InC (w : World) (ta tb : TypeId) (a b : List Int) (B1 B2 : Nat) (v1 v2 : Value) (X Y : List Nat) (w' : World) : Prop where
  va : Vi w' ta B1 a
  vb : Vi w' tb B2 b
  x : BV w' v1 X
  y : BV w' v2 Y
  wb : Below w.heap.size w w'
theorem InC.on {w : World} {ta tb : TypeId} {a b : List Int} {B1 B2 : Nat} {v1 v2 : Value} {X Y : List Nat} {w' w'' : World} (h : InC w ta tb a b B1 B2 v1 v2 X Y w') (hb : Below w'.heap.size w' w'') : InC w ta tb a b B1 B2 v1 v2 X Y w'' :=
  ⟨h.va.on' hb, h.vb.on' hb, h.x.on hb, h.y.on hb, below_two h.wb hb⟩
theorem InC.same {w : World} {ta tb : TypeId} {a b : List Int} {B1 B2 : Nat} {v1 v2 : Value} {X Y : List Nat} {w' : World} {r : Bool} (hr : decide (X = Y) = r) (hX : X.length ≤ 100000) (h : InC w ta tb a b B1 B2 v1 v2 X Y w') :
    Calls Try.prog 16 #[v1, v2] w' fun e w'' => e = .returned (.bool r) ∧ InC w ta tb a b B1 B2 v1 v2 X Y w'' := by
  subst hr
  obtain ⟨p, n, c1, rfl, hn, hx⟩ := h.x
  obtain ⟨q, m, c2, rfl, hm, hy⟩ := h.y
  refine (same_any p q c1 c2 n m X Y w' hn hm (by omega) hx hy).mono fun e w'' ht => ?_
  exact ⟨ht.below.1, h.on ht.below.2⟩
theorem InC.told {w : World} {ta tb : TypeId} {a b : List Int} {B1 B2 : Nat} {v1 v2 v : Value} {X Y : List Nat} {w' : World} {f : FuncId} {args : Array Value} (hc : Calls Try.prog f args w' (Tells v w')) (h : InC w ta tb a b B1 B2 v1 v2 X Y w') :
    Calls Try.prog f args w' fun e w'' => e = .returned v ∧ InC w ta tb a b B1 B2 v1 v2 X Y w'' := hc.mono fun _ _ ⟨he, hd⟩ => ⟨he, h.on hd⟩
end Go.Proofs.Ytfnhngnbaigccaa
