/-
  Objects that come in.
-/
import Derived.Test.YtcmomnfefaolaaaRla
import Derived.Test.YtcmomnfefaolaaaLw
import Derived.Deep.Grids
import Derived.Deep.Fields
namespace Go.Proofs.Ytcmomnfefaolaaa
open Go.ChangeShapes Go.WideShapes Go.ChangeAt Go.RowKit

theorem three {cs : List Value} (h : cs.length = 3) : ∃ v0 v1 v2, cs = [v0, v1, v2] := by
  match cs, h with
  | [v0, v1, v2], _ => exact ⟨v0, v1, v2, rfl⟩
theorem bytes_trod {H : Type} {enc : TypeId × Value → H} {W : World} {v : Value} {fuel : Nat} {x : DataW H × List MemPlace} (hf : DataW.trod enc Try.prog W 0 (fun _ => true) true fuel 22 [v] = some x) : ∃ l, SlB W v l := by
  rcases open_ints Try.underlying22 Try.underlying5 (by kernel_rfl) hf with ⟨hcs, _⟩ | ⟨a, len, cap, zs, hcs, _, hl, hm, hz, hx, hcell, hwz⟩
  · obtain rfl : v = .slice none 0 0 := by simpa using hcs
    exact ⟨[], SlB.nil W⟩
  · obtain rfl : v = .slice (some a) len cap := by simpa using hcs
    simp only [if_true] at hz
    have hlen : ((zs.take len).map Int.toNat).length = len := by rw [List.length_map, List.length_take]; omega
    have hok : ∀ n ∈ zs.take len, 0 ≤ n ∧ n < 256 := by
      intro n hn
      have h1 := hwz n (List.mem_of_mem_take hn)
      simp only [Lit.wf, Bool.and_eq_true, decide_eq_true_eq] at h1
      have h2 : (0 : Int) ≤ n := h1.1
      have h3 : n ≤ 255 := h1.2
      omega
    refine ⟨(zs.take len).map Int.toNat, some a, cap, by rw [hlen], by rw [hlen]; omega, ?_, fun h => by cases h⟩
    by_cases h0 : len = 0
    · exact .inl (by rw [hlen, h0])
    · obtain ⟨b, off, rfl, hat⟩ := ints_at hcell (by omega)
      refine .inr ⟨b, off, rfl, fun k hk => ?_⟩
      rw [hlen] at hk
      rw [hat k (by omega)]
      have hk2 : k < (zs.take len).length := by rw [List.length_take]; omega
      have e1 : bz ((zs.take len).map Int.toNat) k = ((zs.take len)[k]).toNat := by
        rw [bz_get (by rw [hlen]; exact hk), List.getElem_map]
      have e2 : zs.getD k 0 = (zs.take len)[k] := by
        rw [List.getElem_take]
        simp [List.getD, List.getElem?_eq_getElem (show k < zs.length by omega)]
      rw [e1, e2]
      have := hok _ (List.getElem_mem hk2)
      congr 2
      omega
theorem open_objs {H : Type} {enc : TypeId × Value → H} {W : World} {base : Nat} {v : Value} {d : DataW H} {ps : List MemPlace}
    (hval : Value.okWide Try.prog W .any base 23 v) (h : DataW.Trod enc Try.prog W 0 (fun _ => true) true 23 v d ps) : ∃ xs, SlO W v xs := by
  obtain ⟨a0, len, cap, rfl⟩ := okWide_slice Try.underlying23 hval
  obtain ⟨fuel, hf⟩ := h
  have hc5 : Try.prog.cellsOf 37 = 3 := by kernel_rfl
  rcases Go.Deep.open_slice Try.underlying23 hf with ⟨hcs, _⟩ | ⟨a, len', cap', m, n, D, Pl, hcs, _, hl, _, hm, _, hel⟩
  · simp [Value.cells] at hcs
    obtain ⟨rfl, rfl, rfl⟩ := hcs
    exact ⟨[], none, 0, rfl, Nat.le_refl _, .inl rfl, fun _ => rfl⟩
  · simp [Value.cells] at hcs
    obtain ⟨rfl, rfl, rfl⟩ := hcs
    simp only [if_true] at hm
    by_cases h0 : len = 0
    · exact ⟨[], some a, cap, by rw [h0]; rfl, by simp, .inl rfl, fun h => by cases h⟩
    · rw [hc5] at hel
      obtain ⟨b, off, spot⟩ := a
      have hspot : spot = none := by
        obtain ⟨cs', hcell, _⟩ := hel 0 (by omega)
        obtain ⟨_, hlen, hat⟩ := World.cells?_some hcell
        obtain ⟨v0, v1, v2, rfl⟩ := three hlen
        have := hat 0 (by omega)
        simpa [Addr.add] using World.cell?_spot this
      subst hspot
      have hall : ∀ i, i < len → ∃ x u, ObAt W b (off + i * 3) x u := fun i hi => by
        obtain ⟨cs', hcell, htr⟩ := hel i (by omega)
        obtain ⟨_, hlen, hat⟩ := World.cells?_some hcell
        obtain ⟨v0, v1, v2, rfl⟩ := three hlen
        obtain ⟨xs, n', _, _, _, hxl, hfs⟩ := DataW.trod_struct Try.underlying37 htr
        have hx : xs.length = 3 := hxl
        have g : ∀ j, j < 3 → ∃ y, xs[j]? = some y := fun j hj => ⟨xs[j]'(by omega), List.getElem?_eq_getElem _⟩
        obtain ⟨y0, e0⟩ := g 0 (by omega)
        obtain ⟨y1, e1⟩ := g 1 (by omega)
        obtain ⟨y2, e2⟩ := g 2 (by omega)
        have t0 : DataW.trod enc Try.prog W 0 (fun _ => true) true n' 3 [v0] = some y0 := (hfs 0 _ rfl).trans e0
        have t1 : DataW.trod enc Try.prog W 0 (fun _ => true) true n' 3 [v1] = some y1 := (hfs 1 _ rfl).trans e1
        have t2 : DataW.trod enc Try.prog W 0 (fun _ => true) true n' 22 [v2] = some y2 := (hfs 2 _ rfl).trans e2
        obtain ⟨s, h0, _, _⟩ := DataW.trod_int Try.underlying3 t0
        obtain ⟨p, h1, _, _⟩ := DataW.trod_int Try.underlying3 t1
        obtain ⟨l, hb⟩ := bytes_trod t2
        obtain rfl : v0 = .int .i64 s := by simpa using h0
        obtain rfl : v1 = .int .i64 p := by simpa using h1
        refine ⟨⟨s, p, l⟩, v2, fun j u hj => ?_, hb⟩
        have hl : j < 3 := (List.getElem?_eq_some_iff.1 hj).1
        rw [← addr_add, ← addr_add, hat j hl]
        exact hj
      refine ⟨(List.range len).attach.map fun i => (hall i.1 (List.mem_range.1 i.2)).choose, some ⟨b, off, none⟩, cap, by simp, by simpa using hl, .inr ⟨b, off, rfl, fun k hk => ?_⟩, fun h => by cases h⟩
      have hk2 : k < len := by simpa using hk
      have e : ob ((List.range len).attach.map fun i => (hall i.1 (List.mem_range.1 i.2)).choose) k = (hall k hk2).choose := by
        rw [ob_get (by simpa using hk2)]
        simp
      rw [e]
      exact (hall k hk2).choose_spec
end Go.Proofs.Ytcmomnfefaolaaa
