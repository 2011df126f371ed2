/-
  What is laid of any four, as one answer; the worlds in which two values and two answers lie where they lay.
-/
import Derived.Test.YtcfkkomeiajmdaaJo
import Derived.Test.YtcfkkomeiajmdaaBv
import Derived.Test.YtcfkkomeiajmdaaQv
namespace Go.Proofs.Ytcfkkomeiajmdaa
open Go.RowKit BigFrame

/-- what is laid of any four, and the code -/
def ly4 (L : List Int) : List Nat := if may4 L = true then sector4 L else []
def lc4 (L : List Int) : Int := if may4 L = true then 0 else 2
theorem ly4_length {L : List Int} (h : L.length = 44) : (ly4 L).length ≤ 100000 := by
  unfold ly4
  split
  · rw [sector4_length h]; omega
  · simp
theorem inoLay_u (L : List Int) (w : World) (hL : L.length = 44) :
    Calls Try.prog 10 #[av L] w fun e w' => ∃ v, e = .returned (.tuple #[v, .int .i64 (lc4 L)]) ∧ Ans w w' v (ly4 L) ∧ Below w.heap.size w w' := by
  unfold ly4 lc4
  cases h : may4 L
  · exact (inoLay_no L w hL h).mono fun e w' ⟨he, hb⟩ => ⟨_, he, .inl ⟨rfl, rfl⟩, hb⟩
  · exact (inoLay_ok L w hL h).mono fun e w' ⟨g1, he, hg, hr, hb⟩ => ⟨_, he, .inr ⟨g1, 128, rfl, sector4_length hL, hg, hr⟩, hb⟩
theorem BV.len {w : World} {v : Value} {X : List Nat} (h : BV w v X) : ∃ a cap, v = .slice a X.length cap := by
  obtain ⟨a, n, cap, rfl, rfl, _⟩ := h
  exact ⟨a, cap, rfl⟩
/-- two values, and two answers, lie where they lay, and what was there is as it was -/
structure InC (w : World) (ta tb : TypeId) (a b : List Int) (B1 B2 : Nat) (v1 v2 : Value) (X Y : List Nat) (w' : World) : Prop where
  va : Vi w' ta B1 a
  vb : Vi w' tb B2 b
  x : BV w' v1 X
  y : BV w' v2 Y
  wb : Below w.heap.size w w'
theorem InC.on {w : World} {ta tb : TypeId} {a b : List Int} {B1 B2 : Nat} {v1 v2 : Value} {X Y : List Nat} {w' w'' : World} (h : InC w ta tb a b B1 B2 v1 v2 X Y w') (hb : Below w'.heap.size w' w'') : InC w ta tb a b B1 B2 v1 v2 X Y w'' :=
  ⟨h.va.on' hb, h.vb.on' hb, h.x.on hb, h.y.on hb, below_two h.wb hb⟩
theorem InC.same {w : World} {ta tb : TypeId} {a b : List Int} {B1 B2 : Nat} {v1 v2 : Value} {X Y : List Nat} {w' : World} {r : Bool} (hr : decide (X = Y) = r) (hX : X.length ≤ 100000) (h : InC w ta tb a b B1 B2 v1 v2 X Y w') :
    Calls Try.prog 16 #[v1, v2] w' fun e w'' => e = .returned (.bool r) ∧ InC w ta tb a b B1 B2 v1 v2 X Y w'' := by
  subst hr
  obtain ⟨p, n, c1, rfl, hn, hx⟩ := h.x
  obtain ⟨q, m, c2, rfl, hm, hy⟩ := h.y
  refine (same_any p q c1 c2 n m X Y w' hn hm (by omega) hx hy).mono fun e w'' ht => ?_
  exact ⟨ht.below.1, h.on ht.below.2⟩
theorem InC.told {w : World} {ta tb : TypeId} {a b : List Int} {B1 B2 : Nat} {v1 v2 v : Value} {X Y : List Nat} {w' : World} {f : FuncId} {args : Array Value} (hc : Calls Try.prog f args w' (Tells v w')) (h : InC w ta tb a b B1 B2 v1 v2 X Y w') :
    Calls Try.prog f args w' fun e w'' => e = .returned v ∧ InC w ta tb a b B1 B2 v1 v2 X Y w'' := hc.mono fun _ _ ⟨he, hd⟩ => ⟨he, h.on hd⟩
theorem sector4_eq {L M : List Int} (hL : L.length = 44) (hM : M.length = 44) (h1 : may4 L = true) (h2 : may4 M = true) : decide (sector4 L = sector4 M) = decide (L = M) := by
  by_cases h : L = M
  · rw [decide_eq_true h, decide_eq_true (by rw [h])]
  · rw [decide_eq_false h, decide_eq_false (fun e => h (sector4_inj hL hM (may4_N h1) (may4_N h2) e))]
end Go.Proofs.Ytcfkkomeiajmdaa
