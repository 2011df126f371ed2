/-
  The document's own disk: New.
-/
import Derived.Test.YtmaodnidodoadaaRx
import Derived.Test.YtmaodnidodoadaaWi
namespace Go.Proofs.Ytmaodnidodoadaa
open Go.RowKit BigFrame

theorem one_slice' {a : Option Addr} {n c : Nat} : ∀ u ∈ [Value.slice a n c], u.oneCell' = true := by
  intro u hu
  rw [List.mem_singleton] at hu
  subst hu; rfl
def ncells (v : Value) : Array Value := #[v, .slice none 0 0, .bool false, .int .i64 (-1), .int .i64 0, .slice none 0 0, .slice none 0 0]
def RnRel (w : World) (R : List Nat) (n : Nat) (g : Nat) (i : Value) (wr : World) : Prop :=
  ∃ (k : Nat) (vF : Value) (V : Nat → Value), k + g = n ∧ i = .int .i64 k ∧ wr.heap[w.heap.size]? = some (.cells (ncells vF) 39 (0, 0)) ∧ wr.ownsRow w.heap.size 43 1 vF k ((List.range k).map V) ∧ vF.ownBlock ≠ some w.heap.size ∧
    (∀ j, j < k → Kept wr ([w.heap.size] ++ (vF.ownBlock.toList ++ R)) w.heap.size (V j) (zs 128)) ∧ Below w.heap.size w wr
theorem rn_push {wr w1 w8 : World} {B G k g cap : Nat} {R : List Nat} {vF x : Value} {V : Nat → Value} (hG : wr.heap[G]? = some (.cells (ncells vF) 39 (0, 0))) (hGl : G < wr.heap.size) (hne : vF.ownBlock ≠ some G) (hk : ∀ j, j < k → Kept wr ([G] ++ (vF.ownBlock.toList ++ R)) G (V j) (zs 128))
    (hx : Kept wr ([G] ++ (vF.ownBlock.toList ++ R)) G x (zs 128)) (hb1 : Below wr.heap.size wr w1) (hg : w1.grownBy w8 vF.ownBlock) (hat : vF.ownBlock = some g ∨ wr.heap.size ≤ g)
    (ho : w8.ownsRow B 43 1 (.slice (some ⟨g, 0, none⟩) (k + 1) cap) (k + 1) ((List.range k).map V ++ [x])) :
    (w8.setCell ⟨G, 0, none⟩ (.slice (some ⟨g, 0, none⟩) (k + 1) cap)).heap[G]? = some (.cells (ncells (.slice (some ⟨g, 0, none⟩) (k + 1) cap)) 39 (0, 0)) ∧
      (w8.setCell ⟨G, 0, none⟩ (.slice (some ⟨g, 0, none⟩) (k + 1) cap)).ownsRow B 43 1 (.slice (some ⟨g, 0, none⟩) (k + 1) cap) (k + 1) ((List.range (k + 1)).map fun j => if j = k then x else V j) ∧ (Value.slice (some ⟨g, 0, none⟩) (k + 1) cap).ownBlock ≠ some G ∧
      ∀ j, j < k + 1 → Kept (w8.setCell ⟨G, 0, none⟩ (.slice (some ⟨g, 0, none⟩) (k + 1) cap)) ([G] ++ ((Value.slice (some ⟨g, 0, none⟩) (k + 1) cap).ownBlock.toList ++ R)) G (if j = k then x else V j) (zs 128) := by
  have hgG : g ≠ G := by
    rcases hat with e | e
    · exact fun e2 => hne (e2 ▸ e)
    · omega
  have h8 : w8.heap[G]? = some (.cells (ncells vF) 39 (0, 0)) := by
    rw [hg.block G (Nat.lt_of_lt_of_le hGl hb1.size) (fun e => hne e.symm), hb1.block G hGl]; exact hG
  have hst : Step wr ([G] ++ (vF.ownBlock.toList ++ R)) (w8.setCell ⟨G, 0, none⟩ (.slice (some ⟨g, 0, none⟩) (k + 1) cap)) ([G] ++ ((Value.slice (some ⟨g, 0, none⟩) (k + 1) cap).ownBlock.toList ++ R)) :=
    (step_grown hb1 hg hat [G] R).setCell _ _ _ (by simp)
  refine ⟨?_, ?_, fun e => hgG (by simpa [Value.ownBlock] using e), fun j hj => ?_⟩
  · rw [heap_setCell_same _ _ _ _ _ _ h8]; simp [ncells]
  · have e : (List.range (k + 1)).map (fun j => if j = k then x else V j) = (List.range k).map V ++ [x] := by
      rw [List.range_succ, List.map_append]
      congr 1
      · exact List.map_congr_left (fun j hj => by rw [if_neg (by have := List.mem_range.1 hj; omega)])
      · simp
    rw [e]
    exact ownsRow_block ho (fun j hj => Below.heap_setCell _ _ _ _ (by
      have : j = g := by simpa [Value.ownBlock, eq_comm] using hj
      rw [this]; exact hgG))
  · by_cases e : j = k
    · rw [if_pos e]; exact hx.step hst
    · rw [if_neg e]; exact (hk j (by omega)).step hst
theorem rnew_none (n : Int) (w : World) (hn : n < 1 ∨ 2048 < n) :
    Calls Try.prog 6 #[.int .i64 n] w fun e w' => e = .returned (.pointer none) ∧ w = w' := by
  by_cases h1 : n < 1
  · go_enter Try.func6, Try.ntmps6
    go_wp2_with fail
    go_ret
    exact ⟨rfl, rfl⟩
  · have h2 : 2048 < n := by omega
    clear hn
    go_enter Try.func6, Try.ntmps6
    go_wp2_with fail
    go_ret
    exact ⟨rfl, rfl⟩

set_option maxRecDepth 100000 in
set_option maxHeartbeats 2000000 in
theorem rnew_some (n : Nat) (R : List Nat) (w : World) (h0 : 0 < n) (hn : n ≤ 2048) (hR : ∀ k ∈ R, k < w.heap.size) :
    Calls Try.prog 6 #[.int .i64 (n : Int)] w fun e w' => ∃ (G : Nat) (A : RLies), e = .returned (.pointer (some ⟨G, 0, none⟩)) ∧ IsRf w' w.heap.size G A R (.fresh n fun _ => zs 128) ∧ Below w.heap.size w w' := by
  have hmk := make_zrow
  have t1 : decide ((n : Int) < 1) = false := decide_eq_false (by omega)
  have t2 : decide (2048 < (n : Int)) = false := decide_eq_false (by omega)
  have hR' := Lib.hid hR
  clear hR
  obtain ⟨ip, hip, hp0, hp1, hp2⟩ := info_parts Try.infoP
  have hip' := Lib.hid hip
  have hp0' := Lib.hid hp0
  have hp1' := Lib.hid hp1
  have hp2' := Lib.hid hp2
  clear hip hp0 hp1 hp2
  go_enter Try.func6, Try.ntmps6
  go_wp2_with fail
  go_loopg [4] n (fun g i wr => RnRel w R n g i wr)
  case atStart =>
    refine ⟨0, .slice none 0 0, fun _ => nilV, by omega, rfl, heap_alloc_new _ _, World.ownsRow_nil _ _ _ _, by simp [Value.ownBlock], fun j hj => by omega, (Below.refl _ _).alloc (Nat.le_refl _) _⟩
  case round =>
    obtain ⟨k, vF, V, hk, rfl, hG, ho, hne, hkp, hb⟩ := hrel
    have hGl : w.heap.size < wr.heap.size := by
      rcases Nat.lt_or_ge w.heap.size wr.heap.size with h | h
      · exact h
      · rw [Array.getElem?_eq_none h] at hG; cases hG
    have c0 := cell_of_row wr w.heap.size 0 _ _ _ hG
    have f0 : wr.frozen? ⟨w.heap.size, 0, none⟩ = false := frozen_of_row _ _ _ _ _ hG
    simp only [ncells, List.getElem?_toArray, List.getElem?_cons_zero] at c0
    obtain ⟨aF, cF, rfl, hcF, _⟩ := own_form ho
    have hG' := Lib.hid hG
    have ho' := Lib.hid ho
    have hne' := Lib.hid hne
    have hkp' := Lib.hid hkp
    have hb' := Lib.hid hb
    have hGl' := Lib.hid hGl
    clear hG ho hne hkp hb
    by_cases hlt : k < n
    · obtain ⟨g, rfl⟩ : ∃ g, gk = g + 1 := ⟨gk - 1, by omega⟩
      have c0a : (wr.alloc (.cells zrow 5)).cell? ⟨w.heap.size, 0, none⟩ = some (.slice aF k cF) := cell_alloc c0 _
      have c0b : ((wr.alloc (.cells zrow 5)).alloc (.cells #[.slice (some ⟨wr.heap.size, 0, none⟩) 128 128] 43)).cell? ⟨w.heap.size, 0, none⟩ = some (.slice aF k cF) := cell_alloc c0a _
      have f0b := Lib.hid (show ((wr.alloc (.cells zrow 5)).alloc (.cells #[.slice (some ⟨wr.heap.size, 0, none⟩) 128 128] 43)).frozen? ⟨w.heap.size, 0, none⟩ = false from (World.frozen?_alloc_past _ _ _ (by show w.heap.size < _; have := hGl'.out; simp; omega)).trans ((World.frozen?_alloc_past _ _ _ hGl'.out).trans f0))
      have b6 := Lib.hid (show Below wr.heap.size wr ((wr.alloc (.cells zrow 5)).alloc (.cells #[.slice (some ⟨wr.heap.size, 0, none⟩) 128 128] 43)).drew from (((Below.refl wr.heap.size wr).alloc (Nat.le_refl _) _).alloc (by simp) _).drew)
      have O6 := Lib.hid (show ((wr.alloc (.cells zrow 5)).alloc (.cells #[.slice (some ⟨wr.heap.size, 0, none⟩) 128 128] 43)).drew.ownsRow w.heap.size 43 1 (.slice aF k cF) k ((List.range k).map V) from World.ownsRow.alloc (World.ownsRow.alloc ho'.out _) _)
      have N6 := Lib.hid (show ∀ j u, [Value.slice (some ⟨wr.heap.size, 0, none⟩) 128 128][j]? = some u → ((wr.alloc (.cells zrow 5)).alloc (.cells #[.slice (some ⟨wr.heap.size, 0, none⟩) 128 128] 43)).drew.cell? ((⟨wr.heap.size + 1, 0, none⟩ : Addr).add j) = some u from fun j u hu => (by
        have := World.news_of_block (cs := #[Value.slice (some ⟨wr.heap.size, 0, none⟩) 128 128]) (heap_alloc_new (wr.alloc (.cells zrow 5)) (.cells #[.slice (some ⟨wr.heap.size, 0, none⟩) 128 128] 43)) j u (by simpa using hu)
        rw [show (wr.alloc (.cells zrow 5)).heap.size = wr.heap.size + 1 by simp] at this
        exact this))
      have s6 := Lib.hid (show ((wr.alloc (.cells zrow 5)).alloc (.cells #[.slice (some ⟨wr.heap.size, 0, none⟩) 128 128] 43)).drew.heap.size = wr.heap.size + 2 by simp)
      have B6 := Lib.hid (show w.heap.size ≤ ((wr.alloc (.cells zrow 5)).alloc (.cells #[.slice (some ⟨wr.heap.size, 0, none⟩) 128 128] 43)).drew.heap.size by have := hGl'.out; have := s6.out; omega)
      go_wp2_with fail
      go_region_law (refine step_append_lies _ (by rfl) (.tmp 22) (.tmp 24) 32 (by rfl) w.heap.size 43 ip _ 1 24 Try.underlying32 hip'.out hp0'.out hp1'.out hp2'.out (by rfl) (by decide) (.slice aF k cF) k ((List.range k).map V) (by simp [Act.eval]) O6.out ⟨wr.heap.size + 1, 0, none⟩ 1 1 [.slice (some ⟨wr.heap.size, 0, none⟩) 128 128] (by simp [Act.eval]) (by rfl) N6.out one_slice' (by decide) (by unfold maxLen; omega) (by omega) B6.out (wr.heap.size + 2) s6.out ?_; intro g7 cap7 w7 hown7 hgrow7 hat7 hlt7; have q3 : w7.cell? ⟨w.heap.size, 0, none⟩ = some (.slice aF k cF) := cell_grown (w := ((wr.alloc (.cells zrow 5)).alloc (.cells #[.slice (some ⟨wr.heap.size, 0, none⟩) 128 128] 43)).drew) c0b hgrow7 (fun e => hne'.out e.symm); have q5 : w7.frozen? ⟨w.heap.size, 0, none⟩ = false := frozen_grown (w := ((wr.alloc (.cells zrow 5)).alloc (.cells #[.slice (some ⟨wr.heap.size, 0, none⟩) 128 128] 43)).drew) f0b.out (by show w.heap.size < _; have := hGl'.out; have := s6.out; omega) hgrow7 (fun e => hne'.out e.symm); have W7 := Lib.hid hown7; have R7 := Lib.hid hgrow7; have A7 := Lib.hid hat7; have L7 := Lib.hid hlt7; clear hown7 hgrow7 hat7 hlt7)
      all_goals go_wp2_with fail
      all_goals (
        have hMl : ∀ j ∈ ([w.heap.size] ++ ((Value.slice aF k cF).ownBlock.toList ++ R)), j < wr.heap.size := fun j hj => by
          rcases List.mem_append.1 hj with hj | hj
          · have := hGl'.out; simp at hj; omega
          · rcases List.mem_append.1 hj with hj | hj
            · exact (World.ownsRow.lt ho'.out j (by simpa using hj)).2
            · have := hR'.out j hj; have := hGl'.out; omega
        have hab := (Below.refl wr.heap.size wr).alloc (Nat.le_refl _) (.cells zrow 5)
        obtain ⟨p1, p2, p3, p4⟩ := rn_push (w1 := ((wr.alloc (.cells zrow 5)).alloc (.cells #[.slice (some ⟨wr.heap.size, 0, none⟩) 128 128] 43)).drew) ((hab.block _ hGl'.out).trans hG'.out) (by have := hGl'.out; simp; omega) hne'.out (fun j hj => (hkp'.out j hj).step (.of_below hab _)) (row_kept hMl hGl'.out) ((Below.refl _ _).alloc (Nat.le_refl _) _).drew R7.out (A7.out.imp id (fun h => by simp; omega)) W7.out
        have hbb := (hb'.out.trans ((b6.out.mono hb'.out.size).trans ((Below.refl _ _).grown R7.out B6.out (fun j hj => (World.ownsRow.lt O6.out j hj).1)))).setCell (p := ⟨w.heap.size, 0, none⟩) (Nat.le_refl _) (.slice (some ⟨g7, 0, none⟩) (k + 1) cap7)
        go_roundg g
        case measure => omega
        case rel => exact ⟨k + 1, _, _, by omega, by go_num, p1, p2, p3, p4, hbb⟩)
    · obtain rfl : k = n := by omega
      go_wp2_with fail
      go_ret
      rcases ho'.out.2 with ⟨_, e⟩ | ⟨gF, cap, cur, e, hgF, hh, hnc, _⟩
      · omega
      · cases e
        have hgG : gF ≠ w.heap.size := fun e => hne'.out (by rw [← e]; rfl)
        have hgl := (World.ownsRow.lt ho'.out gF rfl).2
        refine ⟨w.heap.size, ⟨gF, cF, .slice none 0 0, .slice none 0 0, .slice none 0 0, V, fun _ => nilV⟩, rfl, ⟨.fresh hn (fun i _ => zs_length 128), hG'.out, fun i hi => ⟨?_, frozen_of_row _ _ _ _ _ hh⟩, hnc, fun i hi => hkp'.out i hi, .nil _ _ _ _, (fun e => by cases e), World.ownsRow_nil _ _ _ _, ?_, fun j hj => ?_, fun j hj => Nat.lt_of_lt_of_le (hR'.out j hj) hb'.out.size⟩, hb'.out⟩
        · have := World.ownsRow.cells ho'.out (g := gF) rfl i (V i) (by
            have : i < k := hi
            simp [this])
          rwa [addr_add, Nat.zero_add] at this
        · simp [RLies.foot, Value.ownBlock]; omega
        · simp only [RLies.foot, Value.ownBlock, Option.toList, List.mem_cons, List.not_mem_nil, or_false] at hj
          rcases hj with e | e
          · subst e; exact ⟨Nat.le_refl _, fun e => by have := hR'.out _ e; omega, hGl'.out⟩
          · subst e; exact ⟨hgF, fun e => by have := hR'.out _ e; omega, hgl⟩
end Go.Proofs.Ytmaodnidodoadaa
