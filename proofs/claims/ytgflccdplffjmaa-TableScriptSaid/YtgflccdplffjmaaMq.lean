/-
  Acts that come in.
-/
import Derived.Test.YtgflccdplffjmaaMp
import Derived.Test.YtgflccdplffjmaaLw
import Derived.Deep.Grids
import Derived.Deep.Fields
namespace Go.Proofs.Ytgflccdplffjmaa
open Go.ChangeShapes Go.WideShapes Go.ChangeAt Go.RowKit

theorem four {cs : List Value} (h : cs.length = 4) : ∃ v0 v1 v2 v3, cs = [v0, v1, v2, v3] := by
  match cs, h with
  | [v0, v1, v2, v3], _ => exact ⟨v0, v1, v2, v3, rfl⟩
theorem open_acts {H : Type} {enc : TypeId × Value → H} {W : World} {base : Nat} {v : Value} {d : DataW H} {ps : List MemPlace}
    (hval : Value.okWide Try.prog W .any base 22 v) (h : DataW.Trod enc Try.prog W 0 (fun _ => true) true 22 v d ps) : ∃ a n cap, v = .slice a n cap ∧ ActsAt W a n := by
  obtain ⟨a0, len, cap, rfl⟩ := okWide_slice Try.underlying22 hval
  obtain ⟨fuel, hf⟩ := h
  have hc4 : Try.prog.cellsOf 33 = 4 := by kernel_rfl
  rcases Go.Deep.open_slice Try.underlying22 hf with ⟨hcs, _⟩ | ⟨a, len', cap', m, n, D, Pl, hcs, _, hl, _, hm, _, hel⟩
  · simp [Value.cells] at hcs
    obtain ⟨rfl, rfl, rfl⟩ := hcs
    exact ⟨none, 0, 0, rfl, .inl rfl⟩
  · simp [Value.cells] at hcs
    obtain ⟨rfl, rfl, rfl⟩ := hcs
    simp only [if_true] at hm
    refine ⟨some a, len, cap, rfl, ?_⟩
    by_cases h0 : len = 0
    · exact .inl h0
    · rw [hc4] at hel
      obtain ⟨b, off, spot⟩ := a
      have hspot : spot = none := by
        obtain ⟨cs', hcell, _⟩ := hel 0 (by omega)
        obtain ⟨_, hlen, hat⟩ := World.cells?_some hcell
        obtain ⟨v0, v1, v2, v3, rfl⟩ := four hlen
        have := hat 0 (by omega)
        simpa [Addr.add] using World.cell?_spot this
      subst hspot
      refine .inr ⟨b, off, rfl, fun i hi => ?_⟩
      obtain ⟨cs', hcell, htr⟩ := hel i (by omega)
      obtain ⟨_, hlen, hat⟩ := World.cells?_some hcell
      obtain ⟨v0, v1, v2, v3, rfl⟩ := four hlen
      obtain ⟨xs, n', _, _, _, hxl, hfs⟩ := DataW.trod_struct Try.underlying33 htr
      have hx : xs.length = 4 := hxl
      have g : ∀ j, j < 4 → ∃ y, xs[j]? = some y := fun j hj => ⟨xs[j]'(by omega), List.getElem?_eq_getElem _⟩
      obtain ⟨y0, e0⟩ := g 0 (by omega)
      obtain ⟨y1, e1⟩ := g 1 (by omega)
      obtain ⟨y2, e2⟩ := g 2 (by omega)
      obtain ⟨y3, e3⟩ := g 3 (by omega)
      have t0 : DataW.trod enc Try.prog W 0 (fun _ => true) true n' 3 [v0] = some y0 := (hfs 0 _ rfl).trans e0
      have t1 : DataW.trod enc Try.prog W 0 (fun _ => true) true n' 3 [v1] = some y1 := (hfs 1 _ rfl).trans e1
      have t2 : DataW.trod enc Try.prog W 0 (fun _ => true) true n' 3 [v2] = some y2 := (hfs 2 _ rfl).trans e2
      have t3 : DataW.trod enc Try.prog W 0 (fun _ => true) true n' 3 [v3] = some y3 := (hfs 3 _ rfl).trans e3
      obtain ⟨d, h0, _, _⟩ := DataW.trod_int Try.underlying3 t0
      obtain ⟨fd, h1, _, _⟩ := DataW.trod_int Try.underlying3 t1
      obtain ⟨x, h2, _, _⟩ := DataW.trod_int Try.underlying3 t2
      obtain ⟨f, h3, _, _⟩ := DataW.trod_int Try.underlying3 t3
      obtain rfl : v0 = .int .i64 d := by simpa using h0
      obtain rfl : v1 = .int .i64 fd := by simpa using h1
      obtain rfl : v2 = .int .i64 x := by simpa using h2
      obtain rfl : v3 = .int .i64 f := by simpa using h3
      refine ⟨d, fd, x, f, fun j v hv => ?_⟩
      have hj : j < 4 := (List.getElem?_eq_some_iff.1 hv).1
      have := hat j hj
      rw [addr_add, addr_add] at this
      rw [this]
      exact hv
end Go.Proofs.Ytgflccdplffjmaa
