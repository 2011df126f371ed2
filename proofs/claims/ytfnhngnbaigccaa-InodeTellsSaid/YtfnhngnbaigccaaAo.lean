/-
  A value of integers alone (arrays, structs, in one another) that came in.
-/
import Derived.Test.YtfnhngnbaigccaaAi
import Derived.Test.YtfnhngnbaigccaaLw
namespace Go.Proofs.Ytfnhngnbaigccaa
open Go.ChangeShapes Go.WideShapes Go.ChangeAt Go.RowKit

theorem open_av {W : World} {base : Nat} {t e : TypeId} {td : TypeDesc} {v : Value} {n : Nat} (ht : Try.prog.underlying t = some td) (hd : td.isRow = true) (he : Try.prog.underlying e = some (.int .i64)) (hc : Try.prog.cellTypes Try.prog.depth t = some (List.replicate n e)) (hs : Try.prog.cellsOf t = n)
    (hval : Value.okWide Try.prog W .any base t v) : ∃ l : List Int, l.length = n ∧ v = av l := by
  have h : ∃ cs, v = .agg cs ∧ cs.size = Try.prog.cellsOf t ∧ Row.okWide Try.prog W .any base t cs := by
    unfold Value.okWide at hval
    cases td with
    | struct fs => simpa [ht] using hval
    | array k e2 => simpa [ht] using hval
    | _ => cases hd
  obtain ⟨cs, rfl, hsz, ts, hts, _, hcell⟩ := h
  rw [hc] at hts
  obtain rfl := Option.some.inj hts
  rw [hs] at hsz
  have hint : ∀ i, i < n → ∃ z, cs[i]? = some (.int .i64 z) := fun i hi => by
    have h1 : cs[i]? = some (cs[i]'(by omega)) := Array.getElem?_eq_getElem (by omega)
    obtain ⟨u, hu, hok⟩ := hcell i _ h1
    have hu2 : u = e := by
      have h2 := List.mem_of_getElem? hu
      exact List.eq_of_mem_replicate h2
    subst hu2
    revert hok h1
    generalize cs[i]'(by omega) = v
    intro h1 hok
    unfold Cell.okWide Cell.ok at hok
    rw [he] at hok
    cases v <;> simp at hok
    obtain ⟨rfl, _⟩ := hok
    exact ⟨_, h1⟩
  refine ⟨(List.range n).map fun i => intOf (cs.getD i undef), by simp, ?_⟩
  unfold av
  congr 1
  apply Array.ext_getElem?
  intro i
  by_cases hi : i < n
  · obtain ⟨z, hz⟩ := hint i hi
    rw [hz]
    simp [iv, hi, hz, intOf]
  · rw [Array.getElem?_eq_none (by omega), Array.getElem?_eq_none (by simp [iv]; omega)]
end Go.Proofs.Ytfnhngnbaigccaa
