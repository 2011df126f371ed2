/-
  A region that draws its order, whose callees make memory of their own: walked once, in the order of the text, over the worlds in which a geometry lies where it lay.
-/
import Derived.Test.YtmoclgijjmmdjaaGt
namespace Go.Proofs.Ytmoclgijjmmdjaa
open Go.RowKit BigFrame

/-- worlds in which a geometry lies where it lay, and what was there is as it was -/
def CBox (w : World) (g i b : Int) (w' : World) : Prop := BoxAt w' w.heap.size g i b ∧ Below w.heap.size w w'
/-- a region that draws its order, whose callees keep to a class of worlds -/
theorem wp_region_at {C : World → Prop} {id : Nat} {Q : Exit → Act → World → Prop} {a : Act} {w : World} {l : List Oper} (hm : Try.prog.follows .mixedOrders = true) (hB : Region.lexB .any l.toArray = true) (hC : C w.drew)
    (h : wpQuiet Try.prog l.toArray C (fun a' => ∀ w', C w' → Q .normal a' w') l a) : (Code.region id l.toArray true).wp Try.prog Q a w :=
  wp_region_quiet hm hB hC (by simpa using h)
theorem quiet_geo {C : World → Prop} {o : Oper} {a : Act} {K : Act → Prop} {x : Operand} {A : Nat} {g i b : Int} (ho : o.op = .load 23 x) (hx : a.eval x = .pointer (some ⟨A, 0, none⟩)) (hC : ∀ w, C w → BoxAt w A g i b)
    (hk : K (a.put o.dst (geo g i b))) : o.quiet Try.prog a C K := by
  refine ⟨_, fun w hw => ?_, hk⟩
  obtain ⟨c0, c1, c2, _⟩ := hC w hw
  unfold Oper.quietAt Oper.quietUpon geo
  simp only [execOp, ho, hx]
  simp [go_sem, c0, c1, c2]
theorem quiet_val {C : World → Prop} {o : Oper} {a : Act} {K : Act → Prop} (v : Value) (h : ∀ w, C w → o.quietAt Try.prog a C w v) (hk : K (a.put o.dst v)) : o.quiet Try.prog a C K := ⟨v, h, hk⟩
theorem told_box {f : FuncId} {args : Array Value} {v : Value} {w0 w : World} {g i b : Int} (hc : ∀ w, Calls Try.prog f args w (Tells v w)) (hw : CBox w0 g i b w) :
    Calls Try.prog f args w (fun e w' => e = .returned v ∧ CBox w0 g i b w') := (hc w).mono fun _ _ ⟨he, hd⟩ => ⟨he, box_on hd hw.1, below_two hw.2 hd⟩
end Go.Proofs.Ytmoclgijjmmdjaa
