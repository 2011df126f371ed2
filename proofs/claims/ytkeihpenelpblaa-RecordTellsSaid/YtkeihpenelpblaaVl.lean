/-
  A record that came in.
-/
import Derived.Test.YtkeihpenelpblaaVb
import Derived.Test.YtkeihpenelpblaaTp
namespace Go.Proofs.Ytkeihpenelpblaa
open Go.ChangeShapes Go.WideShapes Go.ChangeAt Go.RowKit

theorem cell_bool {W : World} {base : Nat} {t : TypeId} {v : Value} (ht : Try.prog.underlying t = some .bool) (h : Cell.okWide Try.prog W .any base t v) : ∃ b, v = .bool b := by
  unfold Cell.okWide Cell.ok at h
  rw [ht] at h
  cases v <;> simp at h
  exact ⟨_, rfl⟩
theorem open_rec {W : World} {base : Nat} {v : Value} (hval : Value.okWide Try.prog W .any base 23 v) : ∃ r : Rcd, v = rv r := by
  have hc : Try.prog.cellTypes Try.prog.depth 23 = some [4, 3, 3, 3, 3, 9, 9] := by kernel_rfl
  have hs : Try.prog.cellsOf 23 = 7 := by kernel_rfl
  have h : ∃ cs, v = .agg cs ∧ cs.size = Try.prog.cellsOf 23 ∧ Row.okWide Try.prog W .any base 23 cs := by
    unfold Value.okWide at hval
    simpa [Try.underlying23] using hval
  obtain ⟨cs, rfl, hsz, ts, hts, _, hcell⟩ := h
  rw [hc] at hts
  obtain rfl := Option.some.inj hts
  rw [hs] at hsz
  have hB : ∀ i, i < 7 → [4, 3, 3, 3, 3, 9, 9][i % 7]? = some 4 → ∃ z, cs[i]? = some (.bool z) := fun i hi ht => by
    have h1 : cs[i]? = some (cs[i]'(by omega)) := Array.getElem?_eq_getElem (by omega)
    obtain ⟨u, hu, hok⟩ := hcell i _ h1
    obtain rfl : 4 = u := Option.some.inj (ht.symm.trans hu)
    obtain ⟨z, hz⟩ := cell_bool Try.underlying4 hok
    exact ⟨z, by rw [h1, hz]⟩
  have hI : ∀ i, i < 7 → [4, 3, 3, 3, 3, 9, 9][i % 7]? = some 3 → ∃ z, cs[i]? = some (.int .i64 z) := fun i hi ht => by
    have h1 : cs[i]? = some (cs[i]'(by omega)) := Array.getElem?_eq_getElem (by omega)
    obtain ⟨u, hu, hok⟩ := hcell i _ h1
    obtain rfl : 3 = u := Option.some.inj (ht.symm.trans hu)
    obtain ⟨z, hz⟩ := cell_int Try.underlying3 hok
    exact ⟨z, by rw [h1, hz]⟩
  have hS : ∀ i, i < 7 → [4, 3, 3, 3, 3, 9, 9][i % 7]? = some 9 → ∃ z, cs[i]? = some (.string z) := fun i hi ht => by
    have h1 : cs[i]? = some (cs[i]'(by omega)) := Array.getElem?_eq_getElem (by omega)
    obtain ⟨u, hu, hok⟩ := hcell i _ h1
    obtain rfl : 9 = u := Option.some.inj (ht.symm.trans hu)
    obtain ⟨z, hz⟩ := cell_string Try.underlying9 hok
    exact ⟨z, by rw [h1, hz]⟩
  obtain ⟨a0, h0⟩ := hB 0 (by omega) rfl
  obtain ⟨a1, h1⟩ := hI 1 (by omega) rfl
  obtain ⟨a2, h2⟩ := hI 2 (by omega) rfl
  obtain ⟨a3, h3⟩ := hI 3 (by omega) rfl
  obtain ⟨a4, h4⟩ := hI 4 (by omega) rfl
  obtain ⟨a5, h5⟩ := hS 5 (by omega) rfl
  obtain ⟨a6, h6⟩ := hS 6 (by omega) rfl
  refine ⟨⟨a0, a1, a2, a3, a4, a5, a6⟩, ?_⟩
  unfold rv
  congr 1
  apply Array.ext_getElem?
  intro i
  match i with
  | 0 => rw [h0]; rfl
  | 1 => rw [h1]; rfl
  | 2 => rw [h2]; rfl
  | 3 => rw [h3]; rfl
  | 4 => rw [h4]; rfl
  | 5 => rw [h5]; rfl
  | 6 => rw [h6]; rfl
  | n + 7 => rw [Array.getElem?_eq_none (by omega), Array.getElem?_eq_none (by simp [rc])]
end Go.Proofs.Ytkeihpenelpblaa
