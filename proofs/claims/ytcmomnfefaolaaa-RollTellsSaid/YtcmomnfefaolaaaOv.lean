/-
  What is written over an answer that has room behind it, and beyond it.
-/
import Derived.Test.YtcmomnfefaolaaaOb
import Derived.Test.YtcmomnfefaolaaaOx
namespace Go.Proofs.Ytcmomnfefaolaaa
open Go.RowKit BigFrame

def OverRelO (base g n cap : Nat) (w : World) (i : Value) (wr : World) : Prop :=
  ∃ (k : Nat) (L : List Nat), k ≤ n ∧ i = .int .i64 k ∧ OwnB wr base (.slice (some ⟨g, 0, none⟩) n cap) L ∧ L.length = n ∧ w.grownBy wr (some g)
set_option maxHeartbeats 400000 in
theorem over_some (base g n cap : Nat) (L : List Nat) (w : World) (hn : L.length = n) (hl : n ≤ 100000) (hr : OwnB w base (.slice (some ⟨g, 0, none⟩) n cap) L) :
    Calls Try.prog 23 #[.slice (some ⟨g, 0, none⟩) n cap] w (OverPost (some g) w) := by
  have hn' := Lib.hid hn
  have hr' := Lib.hid hr
  have hcap : n ≤ cap := by
    rcases hr.2 with ⟨e, _⟩ | ⟨_, _, _, e, _, _, h, _⟩
    · cases e
    · cases e; omega
  clear hn hr
  go_enter Try.func23, Try.ntmps23
  go_wp2_with fail
  go_loopw [2] (fun i wr => OverRelO base g n cap w i wr) (fun i _ => n - (intOf i).toNat)
  case atStart => exact ⟨0, L, by omega, rfl, hr'.out, hn'.out, World.grownBy.refl _ _⟩
  case round =>
    obtain ⟨k, M, hk, rfl, hR, hM, hB⟩ := hrel
    by_cases hlt : k < n
    · have c1 := hR.cell (k := k) (by omega)
      have c2 := hR.frozen k
      have hend := Lib.hid (show OverRelO base g n cap w (.int .i64 ((k : Int) + 1)) (wr.setCell ⟨g, k, none⟩ (.int .u8 238)) from ⟨k + 1, M.set k 238, by omega, by go_num, hR.set k 238, by rw [List.length_set, hM], grownBy_trans hB (grownBy_setCell _ _ _ _)⟩)
      clear hR hB hM
      go_wp2_with fail
      exact ⟨hend.out, by simp [intOf]; omega⟩
    · have e1 : (bv [238]).toArray = #[Value.int .u8 238] := rfl
      have hO : OwnB (wr.alloc (.cells (bv [238]).toArray 5)) base (.slice (some ⟨g, 0, none⟩) n cap) M := World.ownsRow.alloc hR _
      have hN := (row_alloc wr [238]).bat
      have hz : base ≤ (wr.alloc (.cells (bv [238]).toArray 5)).heap.size := by have := hR.base; simp; omega
      have hBB : w.grownBy (wr.alloc (.cells (bv [238]).toArray 5)) (some g) := grownBy_trans hB (World.grownBy_alloc _ _ _)
      rw [e1] at hO hN hz hBB
      have hO' := Lib.hid hO
      have hN' := Lib.hid hN
      have hz' := Lib.hid hz
      have hB' := Lib.hid hBB
      have hM' := Lib.hid hM
      clear hR hB hO hN e1 hBB hM hz
      go_wp2_with (at_builtin; refine wpList_append_bytes rfl (.tmp 12) (.tmp 13) rfl base (.slice (some ⟨g, 0, none⟩) n cap) M rfl hO'.out _ 1 1 [238] rfl rfl hN'.out (by simp) (by rw [hM'.out]; omega) hz'.out ?_)
      intro v' w' _ hg2 _
      have hend := Lib.hid (grownBy_trans hB'.out hg2)
      clear hg2
      go_wp2_with fail
      go_end0
      exact ⟨rfl, hend.out⟩
/-- any slice of one's own -/
theorem over_own (base : Nat) (v : Value) (L : List Nat) (w : World) (hl : L.length ≤ 100000) (hr : OwnB w base v L) :
    Calls Try.prog 23 #[v] w (OverPost v.ownBlock w) := by
  rcases hr.2 with ⟨rfl, _⟩ | ⟨g, cap, cur, rfl, _⟩
  · exact over_nil w
  · exact over_some base g L.length cap L w rfl hl hr
end Go.Proofs.Ytcmomnfefaolaaa
