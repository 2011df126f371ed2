/-
  What is written over an answer, and beyond it.
-/
import Derived.Test.YtcmomnfefaolaaaLr
import Derived.Test.YtcmomnfefaolaaaGr
namespace Go.Proofs.Ytcmomnfefaolaaa
open Go.RowKit BigFrame

theorem Row.grown {w w' : World} {r : Option Nat} {g : Nat} {l : List Nat} (h : Row w g l) (hg : w.grownBy w' r) (hr : some g ≠ r) : Row w' g l := by
  unfold Row; rw [hg.block g h.lt hr]; exact h

def OverRel (g n : Nat) (w : World) (i : Value) (wr : World) : Prop :=
  ∃ (k : Nat) (L : List Nat), k ≤ n ∧ i = .int .i64 k ∧ Row wr g L ∧ L.length = n ∧ w.grownBy wr (some g)

set_option maxHeartbeats 400000 in
theorem over_row (g n : Nat) (L : List Nat) (w : World) (hn : L.length = n) (hl : n ≤ 100000) (hr : Row w g L) :
    Calls Try.prog 23 #[.slice (some ⟨g, 0, none⟩) n n] w (OverPost (some g) w) := by
  have hn' := Lib.hid hn
  have hr' := Lib.hid hr
  clear hn hr
  go_enter Try.func23, Try.ntmps23
  go_wp2_with fail
  go_loopw [2] (fun i wr => OverRel g n w i wr) (fun i _ => n - (intOf i).toNat)
  case atStart => exact ⟨0, L, by omega, rfl, hr'.out, hn'.out, World.grownBy.refl _ _⟩
  case round =>
    obtain ⟨k, M, hk, rfl, hR, hM, hB⟩ := hrel
    by_cases hlt : k < n
    · have c1 := hR.cell (k := k) (by omega)
      have c2 := hR.frozen k
      have hend := Lib.hid (show OverRel g n w (.int .i64 ((k : Int) + 1)) (wr.setCell ⟨g, k, none⟩ (.int .u8 238)) from ⟨k + 1, M.set k 238, by omega, by go_num, hR.set k 238, by rw [List.length_set, hM], grownBy_trans hB (grownBy_setCell _ _ _ _)⟩)
      clear hR hB hM
      go_wp2_with fail
      exact ⟨hend.out, by simp [intOf]; omega⟩
    · have e1 : (bv [238]).toArray = #[Value.int .u8 238] := rfl
      have hb1 := (Below.refl wr.heap.size wr).alloc (Nat.le_refl _) (.cells (bv [238]).toArray 5)
      have hO := (hR.on hb1 hR.lt).own (base := g) (k := n) hM (by omega) (Nat.le_refl _) (Nat.le_refl _)
      have hN := (row_alloc wr [238]).bat
      have hlen : (M.take n).length = n := by rw [List.length_take, hM, Nat.min_self]
      have hz : g ≤ (wr.alloc (.cells (bv [238]).toArray 5)).heap.size := by have := hR.lt; simp; omega
      have hBB : w.grownBy (wr.alloc (.cells (bv [238]).toArray 5)) (some g) := grownBy_trans hB (World.grownBy_alloc _ _ _)
      rw [e1] at hO hN hz hBB
      have hO' := Lib.hid hO
      have hN' := Lib.hid hN
      have hz' := Lib.hid hz
      have hB' := Lib.hid hBB
      have hlen' := Lib.hid hlen
      clear hR hB hO hN hb1 e1 hBB hM hlen hz
      go_wp2_with (at_builtin; refine wpList_append_bytes rfl (.tmp 12) (.tmp 13) rfl g (.slice (some ⟨g, 0, none⟩) n n) (M.take n) rfl hO'.out _ 1 1 [238] rfl rfl hN'.out (by simp) (by rw [hlen'.out]; omega) hz'.out ?_)
      intro v' w' _ hg2 _
      have hend := Lib.hid (grownBy_trans hB'.out hg2)
      clear hg2
      go_wp2_with fail
      go_end0
      exact ⟨rfl, hend.out⟩
theorem over_nil (w : World) : Calls Try.prog 23 #[.slice none 0 0] w (OverPost none w) := by
  have e1 : (bv [238]).toArray = #[Value.int .u8 238] := rfl
  have hN := (row_alloc w [238]).bat
  have hB := World.grownBy_alloc w (.cells (bv [238]).toArray 5) none
  rw [e1] at hN hB
  have hN' := Lib.hid hN
  have hB' := Lib.hid hB
  clear e1 hN hB
  go_enter Try.func23, Try.ntmps23
  go_wp2_with fail
  refine wp_loop_rounds 1 ?_
  rw [rounds_succ]
  go_wp2_with (at_builtin; refine wpList_append_bytes rfl (.tmp 12) (.tmp 13) rfl w.heap.size (.slice none 0 0) [] rfl (OwnB.nil _ _) _ 1 1 [238] rfl rfl hN'.out (by simp) (by simp) (by simp) ?_)
  intro v' w' _ hg2 _
  have hend := Lib.hid (grownBy_trans hB'.out hg2)
  clear hg2
  go_wp2_with fail
  go_end0
  exact ⟨rfl, hend.out⟩

end Go.Proofs.Ytcmomnfefaolaaa
