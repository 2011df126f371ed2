/-
  Acts that come in.
-/
import Derived.Test.YtmaodnidodoadaaLw
import Derived.Test.YtmaodnidodoadaaCl
import Derived.Deep.Grids
import Derived.Deep.Fields
namespace Go.Proofs.Ytmaodnidodoadaa
open Go.ChangeShapes Go.WideShapes Go.ChangeAt Go.RowKit

/-- an act lies there -/
structure ActAt (W : World) (b o : Nat) (k x y : Int) (sh : Bool) (ka : Option Addr) (nk kcap : Nat) (K : List Bool) : Prop where
  c0 : W.cell? ⟨b, o, none⟩ = some (.int .i64 k)
  c1 : W.cell? ⟨b, o + 1, none⟩ = some (.int .i64 x)
  c2 : W.cell? ⟨b, o + 2, none⟩ = some (.int .i64 y)
  c3 : W.cell? ⟨b, o + 3, none⟩ = some (.bool sh)
  c4 : W.cell? ⟨b, o + 4, none⟩ = some (.slice ka nk kcap)
  big : y ≤ 9223372036854775807
  len : K.length = nk
  room : nk ≤ kcap
  keep : KAt W ka K
  nil : ka = none → kcap = 0
/-- so many acts -/
def ActsAt (W : World) (a : Option Addr) (n : Nat) : Prop :=
  n = 0 ∨ ∃ b off, a = some ⟨b, off, none⟩ ∧ ∀ i, i < n → ∃ k x y sh ka nk kcap K, ActAt W b (off + i * 5) k x y sh ka nk kcap K

theorem five {cs : List Value} (h : cs.length = 5) : ∃ v0 v1 v2 v3 v4, cs = [v0, v1, v2, v3, v4] := by
  match cs, h with
  | [v0, v1, v2, v3, v4], _ => exact ⟨v0, v1, v2, v3, v4, rfl⟩
theorem keep_trod {H : Type} {enc : TypeId × Value → H} {W : World} {v : Value} {fuel : Nat} {x : DataW H × List MemPlace} (hf : DataW.trod enc Try.prog W 0 (fun _ => true) true fuel 28 [v] = some x) :
    ∃ ka nk kcap K, v = .slice ka nk kcap ∧ K.length = nk ∧ nk ≤ kcap ∧ KAt W ka K ∧ (ka = none → kcap = 0) := by
  rcases Go.Deep.open_bools Try.underlying28 Try.underlying4 (by kernel_rfl) hf with ⟨hcs, _⟩ | ⟨a, len, cap, B, hcs, _, hl, _, _, hel⟩
  · obtain rfl : v = .slice none 0 0 := by simpa using hcs
    exact ⟨none, 0, 0, [], rfl, rfl, Nat.le_refl _, .inl rfl, fun _ => rfl⟩
  · obtain rfl : v = .slice (some a) len cap := by simpa using hcs
    refine ⟨some a, len, cap, (List.range len).map B, rfl, by simp, hl, ?_, fun h => by cases h⟩
    by_cases h0 : len = 0
    · exact .inl (by simp [h0])
    · obtain ⟨b, off, spot⟩ := a
      have hspot : spot = none := by simpa [Addr.add] using World.cell?_spot (hel 0 (by omega))
      subst hspot
      refine .inr ⟨b, off, rfl, fun k hk => ?_⟩
      have hk2 : k < len := by simpa using hk
      have e1 : ((List.range len).map B).getD k false = B k := by simp [List.getD, hk2]
      rw [e1, ← addr_add]
      exact hel k (by omega)
theorem open_acts {H : Type} {enc : TypeId × Value → H} {W : World} {base : Nat} {v : Value} {d : DataW H} {ps : List MemPlace}
    (hval : Value.okWide Try.prog W .any base 22 v) (h : DataW.Trod enc Try.prog W 0 (fun _ => true) true 22 v d ps) : ∃ a n cap, v = .slice a n cap ∧ ActsAt W a n := by
  obtain ⟨a0, len, cap, rfl⟩ := okWide_slice Try.underlying22 hval
  obtain ⟨fuel, hf⟩ := h
  have hc5 : Try.prog.cellsOf 30 = 5 := by kernel_rfl
  rcases Go.Deep.open_slice Try.underlying22 hf with ⟨hcs, _⟩ | ⟨a, len', cap', m, n, D, Pl, hcs, _, hl, _, hm, _, hel⟩
  · simp [Value.cells] at hcs
    obtain ⟨rfl, rfl, rfl⟩ := hcs
    exact ⟨none, 0, 0, rfl, .inl rfl⟩
  · simp [Value.cells] at hcs
    obtain ⟨rfl, rfl, rfl⟩ := hcs
    simp only [if_true] at hm
    refine ⟨some a, len, cap, rfl, ?_⟩
    by_cases h0 : len = 0
    · exact .inl h0
    · rw [hc5] at hel
      obtain ⟨b, off, spot⟩ := a
      have hspot : spot = none := by
        obtain ⟨cs', hcell, _⟩ := hel 0 (by omega)
        obtain ⟨_, hlen, hat⟩ := World.cells?_some hcell
        obtain ⟨v0, v1, v2, v3, v4, rfl⟩ := five hlen
        have := hat 0 (by omega)
        simpa [Addr.add] using World.cell?_spot this
      subst hspot
      refine .inr ⟨b, off, rfl, fun i hi => ?_⟩
      obtain ⟨cs', hcell, htr⟩ := hel i (by omega)
      obtain ⟨_, hlen, hat⟩ := World.cells?_some hcell
      obtain ⟨v0, v1, v2, v3, v4, rfl⟩ := five hlen
      obtain ⟨xs, n', _, _, _, hxl, hfs⟩ := DataW.trod_struct Try.underlying30 htr
      have hx : xs.length = 5 := hxl
      have g : ∀ j, j < 5 → ∃ y, xs[j]? = some y := fun j hj => ⟨xs[j]'(by omega), List.getElem?_eq_getElem _⟩
      obtain ⟨y0, e0⟩ := g 0 (by omega)
      obtain ⟨y1, e1⟩ := g 1 (by omega)
      obtain ⟨y2, e2⟩ := g 2 (by omega)
      obtain ⟨y3, e3⟩ := g 3 (by omega)
      obtain ⟨y4, e4⟩ := g 4 (by omega)
      have t0 : DataW.trod enc Try.prog W 0 (fun _ => true) true n' 3 [v0] = some y0 := (hfs 0 _ rfl).trans e0
      have t1 : DataW.trod enc Try.prog W 0 (fun _ => true) true n' 3 [v1] = some y1 := (hfs 1 _ rfl).trans e1
      have t2 : DataW.trod enc Try.prog W 0 (fun _ => true) true n' 3 [v2] = some y2 := (hfs 2 _ rfl).trans e2
      have t3 : DataW.trod enc Try.prog W 0 (fun _ => true) true n' 4 [v3] = some y3 := (hfs 3 _ rfl).trans e3
      have t4 : DataW.trod enc Try.prog W 0 (fun _ => true) true n' 28 [v4] = some y4 := (hfs 4 _ rfl).trans e4
      obtain ⟨k, h0, _, _⟩ := DataW.trod_int Try.underlying3 t0
      obtain ⟨x, h1, _, _⟩ := DataW.trod_int Try.underlying3 t1
      obtain ⟨y, h2, _, hy⟩ := DataW.trod_int Try.underlying3 t2
      obtain ⟨sh, h3, _⟩ := DataW.trod_bool Try.underlying4 t3
      obtain ⟨ka, nk, kcap, K, rfl, hK, hroom, hka, hnil⟩ := keep_trod t4
      obtain rfl : v0 = .int .i64 k := by simpa using h0
      obtain rfl : v1 = .int .i64 x := by simpa using h1
      obtain rfl : v2 = .int .i64 y := by simpa using h2
      obtain rfl : v3 = .bool sh := by simpa using h3
      have hat' : ∀ j, j < 5 → W.cell? ⟨b, off + i * 5 + j, none⟩ = [Value.int .i64 k, .int .i64 x, .int .i64 y, .bool sh, .slice ka nk kcap][j]? := fun j hj => by
        rw [← hat j hj, addr_add, addr_add]
      refine ⟨k, x, y, sh, ka, nk, kcap, K, hat' 0 (by omega), hat' 1 (by omega), hat' 2 (by omega), hat' 3 (by omega), hat' 4 (by omega), ?_, hK, hroom, hka, hnil⟩
      simp only [Lit.wf, Bool.and_eq_true, decide_eq_true_eq] at hy
      exact hy.2
end Go.Proofs.Ytmaodnidodoadaa
