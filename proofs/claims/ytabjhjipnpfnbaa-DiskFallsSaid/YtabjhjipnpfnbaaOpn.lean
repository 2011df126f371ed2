/-
  Lists of bytes' lists that come in.
-/
import Derived.Test.YtabjhjipnpfnbaaLw
import Derived.Test.YtabjhjipnpfnbaaLd
import Derived.Deep.Slices
namespace Go.Proofs.Ytabjhjipnpfnbaa
open Go.ChangeShapes Go.WideShapes Go.ChangeAt Go.RowKit

theorem bytes_trod {H : Type} {enc : TypeId × Value → H} {P : Program} {W : World} {t e : TypeId} {fuel : Nat} {v : Value} {x : DataW H × List MemPlace} (ht : P.underlying t = some (.slice e)) (he : P.underlying e = some (.int .u8)) (hc : P.cellsOf e = 1)
    (hf : DataW.trod enc P W 0 (fun _ => true) true fuel t [v] = some x) : ∃ l, BV W v l := by
  obtain ⟨x1, x2⟩ := x
  rcases open_ints ht he hc hf with ⟨hcs, _⟩ | ⟨a, len, cap, zs, hcs, _, hl, hm, hz, hx, hcell, hwz⟩
  · simp only [List.cons.injEq, and_true] at hcs
    exact ⟨[], none, 0, 0, hcs, rfl, .inl rfl⟩
  · simp only [List.cons.injEq, and_true] at hcs
    subst hcs
    simp only [if_true] at hz
    have hlen : ((zs.take len).map Int.toNat).length = len := by rw [List.length_map, List.length_take]; omega
    have hok : ∀ n ∈ zs.take len, 0 ≤ n ∧ n < 256 := by
      intro n hn
      have h1 := hwz n (List.mem_of_mem_take hn)
      simp only [Lit.wf, Bool.and_eq_true, decide_eq_true_eq] at h1
      have h2 : (0 : Int) ≤ n := h1.1
      have h3 : n ≤ 255 := h1.2
      omega
    refine ⟨(zs.take len).map Int.toNat, some a, len, cap, rfl, hlen, ?_⟩
    by_cases h0 : len = 0
    · exact .inl (by rw [hlen, h0])
    · obtain ⟨b, off, rfl, hat⟩ := ints_at hcell (by omega)
      refine .inr ⟨b, off, rfl, fun k hk => ?_⟩
      rw [hlen] at hk
      rw [hat k (by omega)]
      have hk2 : k < (zs.take len).length := by rw [List.length_take]; omega
      have e1 : bz ((zs.take len).map Int.toNat) k = ((zs.take len)[k]).toNat := by
        rw [bz_get (by rw [hlen]; exact hk), List.getElem_map]
      have e2 : zs.getD k 0 = (zs.take len)[k] := by
        rw [List.getElem_take]
        simp [List.getD, List.getElem?_eq_getElem (show k < zs.length by omega)]
      rw [e1, e2]
      have := hok _ (List.getElem_mem hk2)
      congr 2
      omega
theorem open_pieces {H : Type} {enc : TypeId × Value → H} {P : Program} {W : World} {t u e : TypeId} {base : Nat} {v : Value} {d : DataW H} {ps : List MemPlace} (ht : P.underlying t = some (.slice u)) (hcu : P.cellsOf u = 1) (hu : P.underlying u = some (.slice e)) (he : P.underlying e = some (.int .u8)) (hc : P.cellsOf e = 1)
    (hval : Value.okWide P W .any base t v) (h : DataW.Trod enc P W 0 (fun _ => true) true t v d ps) : ∃ a n cap X, v = .slice a n cap ∧ Pieces W a n X := by
  obtain ⟨a0, len, cap, rfl⟩ := okWide_slice ht hval
  obtain ⟨fuel, hf⟩ := h
  rcases Go.Deep.open_slice1 ht hcu hf with ⟨hcs, _⟩ | ⟨a, len', cap', m, n, V, D, Pl, hcs, _, hl, hm, hz, hx, hel⟩
  · simp [Value.cells] at hcs
    obtain ⟨rfl, rfl, rfl⟩ := hcs
    exact ⟨none, 0, 0, fun _ => [], rfl, .inl rfl⟩
  · simp [Value.cells] at hcs
    obtain ⟨rfl, rfl, rfl⟩ := hcs
    simp only [if_true] at hz
    by_cases h0 : len = 0
    · exact ⟨some a, len, cap, fun _ => [], rfl, .inl h0⟩
    · obtain ⟨X, hX⟩ := Go.Deep.choose_lt (n := len) (p := fun i l => BV W (V i) l) (fun i hi => bytes_trod hu he hc (hel i (by omega)).2)
      refine ⟨some a, len, cap, X, rfl, .inr ?_⟩
      obtain ⟨b, off, spot⟩ := a
      have hspot : spot = none := by simpa [Addr.add] using World.cell?_spot (hel 0 (by omega)).1
      subst hspot
      exact ⟨b, off, rfl, fun i hi => ⟨V i, by rw [← addr_add]; exact (hel i (by omega)).1, hX i hi⟩⟩
end Go.Proofs.Ytabjhjipnpfnbaa
