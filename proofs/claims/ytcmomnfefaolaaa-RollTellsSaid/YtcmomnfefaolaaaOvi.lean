/-
  What is written over integers that have room behind them, and beyond.
-/
import Derived.Test.YtcmomnfefaolaaaGr
import Derived.Test.YtcmomnfefaolaaaOi
namespace Go.Proofs.Ytcmomnfefaolaaa
open Go.RowKit BigFrame

theorem rl_set (D : Nat → Int) (n k : Nat) (x : Int) : (rl D n).set k (.int .i64 x) = rl (upd D k x) n := by
  apply List.ext_getElem?
  intro p
  by_cases hp : p < n
  · rw [rl_get hp, List.getElem?_set]
    by_cases e : k = p
    · subst e; rw [if_pos rfl, if_pos (by rw [rl_length]; exact hp)]; simp [upd]
    · rw [if_neg e, rl_get hp]; simp [upd, Ne.symm e]
  · rw [List.getElem?_eq_none (by rw [List.length_set, rl_length]; omega), List.getElem?_eq_none (by rw [rl_length]; omega)]
theorem OwnI.set {w : World} {base g n cap : Nat} {D : Nat → Int} (h : OwnI w base (.slice (some ⟨g, 0, none⟩) n cap) n D) (k : Nat) (x : Int) : OwnI (w.setCell ⟨g, k, none⟩ (.int .i64 x)) base (.slice (some ⟨g, 0, none⟩) n cap) n (upd D k x) := by
  rcases h.2 with ⟨e, _⟩ | ⟨g', cap', cur, e, hb, hg, hnc, hcm, hcs, ht⟩
  · cases e
  · simp only [Value.slice.injEq, Option.some.injEq, Addr.mk.injEq, and_true] at e
    obtain ⟨rfl, _, rfl⟩ := e
    have e := setCell_eq_setRow w g k _ _ _ (.int .i64 x) hg
    refine ⟨by rw [rl_length, Nat.mul_one], .inr ⟨g, cap, cur.setIfInBounds k (.int .i64 x), rfl, hb, ?_, hnc, hcm, by simpa using hcs, ?_⟩⟩
    · rw [e]
      exact setRow_heap w g _ _ _ _ hg
    · rw [← rl_set, ← ht]
      simp [List.take_set]
theorem OwnI.cellAt {w : World} {base g n cap k : Nat} {D : Nat → Int} (h : OwnI w base (.slice (some ⟨g, 0, none⟩) n cap) n D) (hk : k < n) : w.cell? ⟨g, k, none⟩ = some (.int .i64 (D k)) ∧ w.frozen? ⟨g, k, none⟩ = false := by
  refine ⟨World.ownsRow.cells h (g := g) rfl k _ (rl_get hk) |> fun h => by rwa [addr_add, Nat.zero_add] at h, ?_⟩
  rcases h.2 with ⟨e, _⟩ | ⟨g', cap', cur, e, _, hg, _⟩
  · cases e
  · cases e
    simp [World.frozen?, hg]
def OvIRelO (base g n cap : Nat) (w : World) (i : Value) (wr : World) : Prop :=
  ∃ (k : Nat) (D : Nat → Int), k ≤ n ∧ i = .int .i64 k ∧ OwnI wr base (.slice (some ⟨g, 0, none⟩) n cap) n D ∧ w.grownBy wr (some g)
set_option maxHeartbeats 400000 in
theorem overI_some (base g n cap : Nat) (D : Nat → Int) (w : World) (hl : n ≤ 100000) (hr : OwnI w base (.slice (some ⟨g, 0, none⟩) n cap) n D) (hb : base ≤ w.heap.size) :
    Calls Try.prog 24 #[.slice (some ⟨g, 0, none⟩) n cap] w (OverPost (some g) w) := by
  have hr' := Lib.hid hr
  clear hr
  go_enter Try.func24, Try.ntmps24
  go_wp2_with fail
  go_loopw [2] (fun i wr => OvIRelO base g n cap w i wr) (fun i _ => n - (intOf i).toNat)
  case atStart => exact ⟨0, D, by omega, rfl, hr'.out, World.grownBy.refl _ _⟩
  case round =>
    obtain ⟨k, E, hk, rfl, hR, hB⟩ := hrel
    by_cases hlt : k < n
    · obtain ⟨c1, c2⟩ := hR.cellAt hlt
      have hend := Lib.hid (show OvIRelO base g n cap w (.int .i64 ((k : Int) + 1)) (wr.setCell ⟨g, k, none⟩ (.int .i64 (-999))) from ⟨k + 1, _, by omega, by go_num, hR.set k (-999), grownBy_trans hB (grownBy_setCell _ _ _ _)⟩)
      clear hR hB
      go_wp2_with fail
      exact ⟨hend.out, by simp [intOf]; omega⟩
    · have hO' := Lib.hid (hR.alloc (.cells #[.int .i64 (-999)] 3))
      have hN' := Lib.hid (show IntsAt (wr.alloc (.cells #[.int .i64 (-999)] 3)) (some ⟨wr.heap.size, 0, none⟩) 1 (fun _ => -999) from .inr ⟨_, 0, rfl, fun j hj => by
        obtain rfl : j = 0 := by omega
        exact one_newI wr _ _ 0 _ rfl⟩)
      have hB' := Lib.hid (grownBy_trans hB (World.grownBy_alloc wr (.cells #[.int .i64 (-999)] 3) (some g)))
      have hz' := Lib.hid (Nat.le_trans hb hB'.out.size)
      clear hR hB
      go_wp2_with (at_builtin; refine wpList_append_ints rfl (.tmp 12) (.tmp 13) rfl base n _ E rfl hO'.out (some ⟨wr.heap.size, 0, none⟩) 1 1 (fun _ => -999) rfl hN'.out (by intro h; cases h) (by omega) hz'.out ?_)
      intro v' w' _ hg2 _
      have hend := Lib.hid (grownBy_trans hB'.out hg2)
      clear hg2
      go_wp2_with fail
      go_end0
      exact ⟨rfl, hend.out⟩
theorem overI_nil (w : World) : Calls Try.prog 24 #[.slice none 0 0] w (OverPost none w) := by
  have hN' := Lib.hid (show IntsAt (w.alloc (.cells #[.int .i64 (-999)] 3)) (some ⟨w.heap.size, 0, none⟩) 1 (fun _ => -999) from .inr ⟨_, 0, rfl, fun j hj => by
    obtain rfl : j = 0 := by omega
    exact one_newI w _ _ 0 _ rfl⟩)
  have hB' := Lib.hid (World.grownBy_alloc w (.cells #[.int .i64 (-999)] 3) none)
  have hz' := Lib.hid hB'.out.size
  go_enter Try.func24, Try.ntmps24
  go_wp2_with fail
  go_loopw [2] (fun i wr => i = .int .i64 0 ∧ wr = w) (fun _ _ => 0)
  case atStart => exact ⟨rfl, rfl⟩
  case round =>
    obtain ⟨rfl, rfl⟩ := hrel
    go_wp2_with (at_builtin; refine wpList_append_ints rfl (.tmp 12) (.tmp 13) rfl wr.heap.size 0 _ (fun _ => 0) rfl (OwnI.nil _ _ _) (some ⟨wr.heap.size, 0, none⟩) 1 1 (fun _ => -999) rfl hN'.out (by intro h; cases h) (by omega) hz'.out ?_)
    intro v' w' _ hg2 _
    have hend := Lib.hid (grownBy_trans hB'.out hg2)
    clear hg2
    go_wp2_with fail
    go_end0
    exact ⟨rfl, hend.out⟩
/-- any integers of one's own -/
theorem overI_own (base n : Nat) (v : Value) (D : Nat → Int) (w : World) (hl : n ≤ 100000) (hr : OwnI w base v n D) (hb : base ≤ w.heap.size) :
    Calls Try.prog 24 #[v] w (OverPost v.ownBlock w) := by
  rcases hr.2 with ⟨rfl, _⟩ | ⟨g, cap, cur, rfl, _⟩
  · exact overI_nil w
  · exact overI_some base g n cap D w hl hr hb
end Go.Proofs.Ytcmomnfefaolaaa
