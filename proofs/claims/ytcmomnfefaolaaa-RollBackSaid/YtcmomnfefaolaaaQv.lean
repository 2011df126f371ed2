/-
  A region that draws its order, whose callees make memory of their own: walked once, in the order of the text, over a class of worlds.
-/
import Derived.Test.YtcmomnfefaolaaaTo
namespace Go.Proofs.Ytcmomnfefaolaaa
open Go.RowKit BigFrame

/-- a region that draws its order, whose callees keep to a class of worlds -/
theorem wp_region_at {C : World → Prop} {id : Nat} {Q : Exit → Act → World → Prop} {a : Act} {w : World} {l : List Oper} (hm : Try.prog.follows .mixedOrders = true) (hB : Region.lexB .any l.toArray = true) (hC : C w.drew)
    (h : wpQuiet Try.prog l.toArray C (fun a' => ∀ w', C w' → Q .normal a' w') l a) : (Code.region id l.toArray true).wp Try.prog Q a w :=
  wp_region_quiet hm hB hC (by simpa using h)
theorem quiet_val {C : World → Prop} {o : Oper} {a : Act} {K : Act → Prop} (v : Value) (h : ∀ w, C w → o.quietAt Try.prog a C w v) (hk : K (a.put o.dst v)) : o.quiet Try.prog a C K := ⟨v, h, hk⟩
end Go.Proofs.Ytcmomnfefaolaaa
