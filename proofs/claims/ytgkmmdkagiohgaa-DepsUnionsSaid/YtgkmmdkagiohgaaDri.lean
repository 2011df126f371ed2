/-
  All of a graph: the keys of its table, sorted; how many.
-/
import Derived.Test.YtgkmmdkagiohgaaIter
import Derived.Sort.KeysCollected
import Derived.Test.YtgkmmdkagiohgaaDrk
set_option linter.unusedVariables false
set_option linter.unusedSimpArgs false
namespace Go.Proofs.Ytgkmmdkagiohgaa
open Go.RowKit BigFrame Go.Sort Go.Shelf
set_option maxRecDepth 100000

section
variable {w : World} {B a M : Nat} {G : Gr}
theorem keysI_c (mb : Option Nat) (W : World) : Calls Try.prog 27 #[.map mb] W fun e w' => e = .returned (.func (.func 37) #[] #[.pointer (some ⟨W.heap.size, 0, none⟩)]) ∧ w' = W.alloc (.cells #[.map mb] 44) :=
  (callsIn_wide (n := 5)).1 (AnyZI.keys_in Try.keysOf Fence.wide 5 trivial rfl mb W)
theorem sortsI_in (m : Nat) : AnyZI.SortsIn Try.prog Try.sortedOf_ren Fence.wide m :=
  ⟨fun blk off cap ss W hH hblk hsz => callsIn_wide.2 (AnyM.slices_Sort_int Try.sortOf blk off cap ss W hH hblk hsz),
   fun p cap W => callsIn_wide.2 (AnyM.slices_Sort_int_none Try.sortOf p cap W)⟩
set_option maxHeartbeats 1000000 in
theorem sortedI_c (eb : Nat) (l : List (Lit × Value)) (w : World) (hm : MapAt 3 w eb l) (hn : l.length ≤ 1000000) :
    Calls Try.prog 26 #[.func (.func 37) #[] #[.pointer (some ⟨w.heap.size, 0, none⟩)]] (w.alloc (.cells #[.map (some eb)] 44)) fun e w' => ∃ ad cap, e = .returned (.slice ad l.length cap) ∧ Below w.heap.size w w' := by
  have hown : w.ownsMap Try.prog 3 tokE eb l.length (.map (l.map entW)) := hm
  have hbl := hown.lt
  have hsz : Maps.size (DataW.map (l.map entW) : DataW Value) = l.length := by rw [Maps.size_eq, List.length_map]
  have hseq : SeqGives Fence.wide 2 Try.prog 37 #[.pointer (some ⟨w.heap.size, 0, none⟩)] encZ (fun ss => ss.Perm (intKeys (DataW.map (l.map entW) : DataW Value))) (Maps.size (DataW.map (l.map entW) : DataW Value)) (w.alloc (.cells #[.map (some eb)] 44)) :=
    AnyZI.keys_gives (ρ := Try.keysOf_ren) { Try.keysOf with } Fence.wide _ trivial rfl (by omega) w.heap.size eb l.length _ _ (by simp) (by simp) (by
      obtain ⟨es, clock, hb, Ft, hs, hD⟩ := hown
      exact ⟨es, clock, (Below.heap_alloc _ _ eb hbl).trans hb, Ft, hs, hD⟩)
  have h := AnyZI.sorted_in Try.sortedOf Fence.wide 5 trivial trivial trivial trivial rfl (by omega) (sortsI_in _) (enters_of Try.func23 (by kernel_rfl) rfl) 37 #[.pointer (some ⟨w.heap.size, 0, none⟩)] trivial (enters_of Try.func37 (by kernel_rfl) rfl) _ _ (by rw [hsz]; unfold maxLen; omega) (by rw [hsz]; omega) _ hseq
  refine ((callsIn_wide (n := 5)).1 h).mono ?_
  rintro e w' ⟨v, ss, rfl, hp, hr, _, hb⟩
  have hl : ss.length = l.length := by
    rw [hp.length_eq]
    show ((l.map entW).map _).length = _
    simp
  rw [hl] at hr
  obtain ⟨ad, cap, hv, _⟩ := len_sl hr
  exact ⟨ad, cap, by rw [hv], ((Below.refl w.heap.size w).alloc (Nat.le_refl _) _).trans (hb.mono (by simp))⟩
set_option maxHeartbeats 1000000 in
theorem all_c (a M : Nat) : AllC a M := by
  intro w B G h
  have c0 := h.box.cell (k := 0) rfl
  obtain ⟨l, hl0, hl1, _⟩ := h.tab
  have hs := Lib.hid (sortedI_c M l w hl0 (by have := h.few; omega))
  rw [hl1] at hs
  clear h hl0 hl1
  go_enter Try.func17, Try.ntmps17
  go_wp2_with fail
  refine (keysI_c _ _).mono ?_
  rintro e w1 ⟨rfl, rfl⟩
  go_wp2_with fail
  refine hs.out.mono ?_
  rintro e w2 ⟨ad, cap, rfl, hb⟩
  have hb' := Lib.hid hb
  clear hb
  go_wp2_with fail
  go_ret
  exact ⟨ad, cap, rfl, hb'.out⟩
end
end Go.Proofs.Ytgkmmdkagiohgaa
