/-
  Four slots that came in.
-/
import Derived.Test.YtpogaognobgfhaaEc
import Derived.Test.YtpogaognobgfhaaTp
namespace Go.Proofs.Ytpogaognobgfhaa
open Go.ChangeShapes Go.WideShapes Go.ChangeAt Go.RowKit

theorem open_slots {W : World} {base : Nat} {v : Value} (hval : Value.okWide Try.prog W .any base 24 v) : ∃ L : List Slt, L.length = 4 ∧ v = fv L := by
  have hc : Try.prog.cellTypes Try.prog.depth 24 = some [3, 3, 9, 3, 3, 9, 3, 3, 9, 3, 3, 9] := by kernel_rfl
  have hs : Try.prog.cellsOf 24 = 12 := by kernel_rfl
  have h : ∃ cs, v = .agg cs ∧ cs.size = Try.prog.cellsOf 24 ∧ Row.okWide Try.prog W .any base 24 cs := by
    unfold Value.okWide at hval
    simpa [Try.underlying24] using hval
  obtain ⟨cs, rfl, hsz, ts, hts, _, hcell⟩ := h
  rw [hc] at hts
  obtain rfl := Option.some.inj hts
  rw [hs] at hsz
  have hI : ∀ i, i < 12 → [3, 3, 9, 3, 3, 9, 3, 3, 9, 3, 3, 9][i % 12]? = some 3 → ∃ z, cs[i]? = some (.int .i64 z) := fun i hi ht => by
    have h1 : cs[i]? = some (cs[i]'(by omega)) := Array.getElem?_eq_getElem (by omega)
    obtain ⟨u, hu, hok⟩ := hcell i _ h1
    obtain rfl : 3 = u := Option.some.inj (ht.symm.trans hu)
    obtain ⟨z, hz⟩ := cell_int Try.underlying3 hok
    exact ⟨z, by rw [h1, hz]⟩
  have hS : ∀ i, i < 12 → [3, 3, 9, 3, 3, 9, 3, 3, 9, 3, 3, 9][i % 12]? = some 9 → ∃ z, cs[i]? = some (.string z) := fun i hi ht => by
    have h1 : cs[i]? = some (cs[i]'(by omega)) := Array.getElem?_eq_getElem (by omega)
    obtain ⟨u, hu, hok⟩ := hcell i _ h1
    obtain rfl : 9 = u := Option.some.inj (ht.symm.trans hu)
    obtain ⟨z, hz⟩ := cell_string Try.underlying9 hok
    exact ⟨z, by rw [h1, hz]⟩
  obtain ⟨a0, h0⟩ := hI 0 (by omega) rfl
  obtain ⟨a1, h1⟩ := hI 1 (by omega) rfl
  obtain ⟨a2, h2⟩ := hS 2 (by omega) rfl
  obtain ⟨a3, h3⟩ := hI 3 (by omega) rfl
  obtain ⟨a4, h4⟩ := hI 4 (by omega) rfl
  obtain ⟨a5, h5⟩ := hS 5 (by omega) rfl
  obtain ⟨a6, h6⟩ := hI 6 (by omega) rfl
  obtain ⟨a7, h7⟩ := hI 7 (by omega) rfl
  obtain ⟨a8, h8⟩ := hS 8 (by omega) rfl
  obtain ⟨a9, h9⟩ := hI 9 (by omega) rfl
  obtain ⟨a10, h10⟩ := hI 10 (by omega) rfl
  obtain ⟨a11, h11⟩ := hS 11 (by omega) rfl
  refine ⟨[⟨a0, a1, a2⟩, ⟨a3, a4, a5⟩, ⟨a6, a7, a8⟩, ⟨a9, a10, a11⟩], rfl, ?_⟩
  unfold fv
  congr 1
  apply Array.ext_getElem?
  intro i
  match i with
  | 0 => rw [h0]; rfl
  | 1 => rw [h1]; rfl
  | 2 => rw [h2]; rfl
  | 3 => rw [h3]; rfl
  | 4 => rw [h4]; rfl
  | 5 => rw [h5]; rfl
  | 6 => rw [h6]; rfl
  | 7 => rw [h7]; rfl
  | 8 => rw [h8]; rfl
  | 9 => rw [h9]; rfl
  | 10 => rw [h10]; rfl
  | 11 => rw [h11]; rfl
  | n + 12 => rw [Array.getElem?_eq_none (by omega), Array.getElem?_eq_none (by simp [fc])]
end Go.Proofs.Ytpogaognobgfhaa
