/-
  A geometry that came in.
-/
import Derived.Test.YtmoclgijjmmdjaaGt
import Derived.Test.YtmoclgijjmmdjaaLw
import Derived.Lib.SmallJoins
namespace Go.Proofs.Ytmoclgijjmmdjaa
open Go.ChangeShapes Go.WideShapes Go.ChangeAt Go.RowKit Go.Joins

theorem open_geo {H : Type} {enc : TypeId × Value → H} {W : World} {base : Nat} {v : Value} {d : DataW H} {ps : List MemPlace}
    (hval : Value.okWide Try.prog W .any base 23 v) (h : DataW.Trod enc Try.prog W 0 (fun _ => true) true 23 v d ps) : ∃ g i b : Int, v = geo g i b := by
  obtain ⟨e0, e1, e2, y0, y1, y2, n, rfl, _, _, t0, t1, t2⟩ := open_agg3 Try.underlying23 (by kernel_rfl) (by kernel_rfl) hval h
  obtain ⟨g, h0, _, _⟩ := DataW.trod_int Try.underlying3 t0
  obtain ⟨i, h1, _, _⟩ := DataW.trod_int Try.underlying3 t1
  obtain ⟨b, h2, _, _⟩ := DataW.trod_int Try.underlying3 t2
  obtain rfl : e0 = .int .i64 g := by simpa using h0
  obtain rfl : e1 = .int .i64 i := by simpa using h1
  obtain rfl : e2 = .int .i64 b := by simpa using h2
  exact ⟨g, i, b, rfl⟩
end Go.Proofs.Ytmoclgijjmmdjaa
