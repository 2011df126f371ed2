/-
  What is written over texts that were answered, and beyond.
-/
import Derived.Test.YtkocjkndkkhogaaDoorTa
namespace Go.Proofs.YtkocjkndkkhogaaDoor
open Go.RowKit BigFrame

def overS : List Nat := [111, 118, 101, 114]
theorem tl_set (L : List (List Nat)) (k : Nat) (p : List Nat) : (tl L).set k (.string (strOf p)) = tl (L.set k p) := by simp [tl, List.map_set]
theorem OwnT.set {w : World} {base g n cap : Nat} {L : List (List Nat)} (h : OwnT w base (.slice (some ⟨g, 0, none⟩) n cap) L) (k : Nat) (p : List Nat) : OwnT (w.setCell ⟨g, k, none⟩ (.string (strOf p))) base (.slice (some ⟨g, 0, none⟩) n cap) (L.set k p) := by
  rcases h.2 with ⟨e, _⟩ | ⟨g', cap', cur, e, hb, hg, hnc, hcm, hcs, ht⟩
  · cases e
  · simp only [Value.slice.injEq, Option.some.injEq, Addr.mk.injEq, and_true] at e
    obtain ⟨rfl, rfl, rfl⟩ := e
    have e := setCell_eq_setRow w g k _ _ _ (.string (strOf p)) hg
    refine ⟨by rw [tl_length, Nat.mul_one], .inr ⟨g, cap, cur.setIfInBounds k (.string (strOf p)), by rw [List.length_set], hb, ?_, by rw [List.length_set]; exact hnc, hcm, by simpa using hcs, ?_⟩⟩
    · rw [e]
      exact setRow_heap w g _ _ _ _ hg
    · rw [← tl_set, ← ht, List.length_set]
      simp [List.take_set]
theorem OwnT.cellAt {w : World} {base g n cap k : Nat} {L : List (List Nat)} (h : OwnT w base (.slice (some ⟨g, 0, none⟩) n cap) L) (hk : k < L.length) : w.cell? ⟨g, k, none⟩ = some (.string (strOf (tz L k))) ∧ w.frozen? ⟨g, k, none⟩ = false := by
  refine ⟨by have := h.tat.1.cell hk; rwa [Nat.zero_add] at this, ?_⟩
  rcases h.2 with ⟨e, _⟩ | ⟨g', cap', cur, e, _, hg, _⟩
  · cases e
  · cases e
    simp [World.frozen?, hg]
theorem grownT_trans {a b c : World} {r : Option Nat} (h1 : a.grownBy b r) (h2 : b.grownBy c r) : a.grownBy c r :=
  ⟨h2.os.trans h1.os, h2.tape.trans h1.tape, h2.output.trans h1.output, Nat.le_trans h1.size h2.size, fun k hk hne => (h2.block k (Nat.lt_of_lt_of_le hk h1.size) hne).trans (h1.block k hk hne)⟩
theorem grownT_setCell (w : World) (g k : Nat) (v : Value) : w.grownBy (w.setCell ⟨g, k, none⟩ v) (some g) :=
  ⟨rfl, rfl, rfl, by simp [World.setCell], fun j _ hne => Below.heap_setCell _ _ _ _ (fun e => hne (by rw [e]))⟩
/-- behind it: nothing but that block has turned -/
def OverT (r : Option Nat) (w : World) (e : Ending) (w' : World) : Prop := e = .returned (.tuple #[]) ∧ w.grownBy w' r
def OvTRel (base g n cap : Nat) (w : World) (i : Value) (wr : World) : Prop :=
  ∃ (k : Nat) (L : List (List Nat)), k ≤ n ∧ i = .int .i64 k ∧ OwnT wr base (.slice (some ⟨g, 0, none⟩) n cap) L ∧ L.length = n ∧ w.grownBy wr (some g)
set_option maxHeartbeats 400000 in
theorem overT_some (base g n cap : Nat) (L : List (List Nat)) (w : World) (hn : L.length = n) (hl : n ≤ 100000) (hr : OwnT w base (.slice (some ⟨g, 0, none⟩) n cap) L) (hb : base ≤ w.heap.size) :
    Calls Tryd.prog 18 #[.slice (some ⟨g, 0, none⟩) n cap] w (OverT (some g) w) := by
  have hn' := Lib.hid hn
  have hr' := Lib.hid hr
  clear hn hr
  have hs : ({ data := #[111, 118, 101, 114] } : ByteArray) = strOf overS := rfl
  obtain ⟨so, hso⟩ : ∃ so : ByteArray, so = { data := #[111, 118, 101, 114] } := ⟨_, rfl⟩
  go_enter Tryd.func18, Tryd.ntmps18
  go_wp2_with fail
  go_loopw [2] (fun i wr => OvTRel base g n cap w i wr) (fun i _ => n - (intOf i).toNat)
  case atStart => exact ⟨0, L, by omega, rfl, hr'.out, hn'.out, World.grownBy.refl _ _⟩
  case round =>
    obtain ⟨k, M, hk, rfl, hR, hM, hB⟩ := hrel
    by_cases hlt : k < n
    · obtain ⟨c1, c2⟩ := hR.cellAt (k := k) (by omega)
      have hend := Lib.hid (show OvTRel base g n cap w (.int .i64 ((k : Int) + 1)) (wr.setCell ⟨g, k, none⟩ (.string { data := #[111, 118, 101, 114] })) from ⟨k + 1, M.set k overS, by omega, by go_num, hR.set k overS, by rw [List.length_set, hM], grownT_trans hB (grownT_setCell _ _ _ _)⟩)
      obtain ⟨x, hx⟩ : ∃ x, strOf (tz M k) = x := ⟨_, rfl⟩
      rw [hx] at c1
      clear hR hB hM hx
      go_wp2_with fail
      exact ⟨hend.out, by simp [intOf]; omega⟩
    · have hO' := Lib.hid (hR.alloc (.cells #[.string { data := #[111, 118, 101, 114] }] 9))
      have hN' := Lib.hid (show TAt (wr.alloc (.cells #[.string { data := #[111, 118, 101, 114] }] 9)) (some ⟨wr.heap.size, 0, none⟩) [overS] from text_new wr overS)
      have hB' := Lib.hid (grownT_trans hB (World.grownBy_alloc wr (.cells #[.string { data := #[111, 118, 101, 114] }] 9) (some g)))
      have hz' := Lib.hid (Nat.le_trans hb hB'.out.size)
      have hM' := Lib.hid hM
      clear hR hB hM
      go_wp2_with (at_builtin; refine wpList_append_texts rfl (.tmp 12) (.tmp 13) rfl base _ M rfl hO'.out ⟨wr.heap.size, 0, none⟩ 1 1 [overS] rfl rfl hN'.out (by rw [hM'.out]; omega) hz'.out ?_)
      intro v' w' _ hg2 _
      have hend := Lib.hid (grownT_trans hB'.out hg2)
      clear hg2
      go_wp2_with fail
      go_end0
      exact ⟨rfl, hend.out⟩
theorem overT_nil (w : World) : Calls Tryd.prog 18 #[.slice none 0 0] w (OverT none w) := by
  have hN' := Lib.hid (show TAt (w.alloc (.cells #[.string { data := #[111, 118, 101, 114] }] 9)) (some ⟨w.heap.size, 0, none⟩) [overS] from text_new w overS)
  have hB' := Lib.hid (World.grownBy_alloc w (.cells #[.string { data := #[111, 118, 101, 114] }] 9) none)
  have hz' := Lib.hid hB'.out.size
  go_enter Tryd.func18, Tryd.ntmps18
  go_wp2_with fail
  go_loopw [2] (fun i wr => i = .int .i64 0 ∧ wr = w) (fun _ _ => 0)
  case atStart => exact ⟨rfl, rfl⟩
  case round =>
    obtain ⟨rfl, rfl⟩ := hrel
    go_wp2_with (at_builtin; refine wpList_append_texts rfl (.tmp 12) (.tmp 13) rfl wr.heap.size _ [] rfl (OwnT.nil _ _) ⟨wr.heap.size, 0, none⟩ 1 1 [overS] rfl rfl hN'.out (by decide) hz'.out ?_)
    intro v' w' _ hg2 _
    have hend := Lib.hid (grownT_trans hB'.out hg2)
    clear hg2
    go_wp2_with fail
    go_end0
    exact ⟨rfl, hend.out⟩
/-- any texts of one's own -/
theorem overT_own (base : Nat) (v : Value) (L : List (List Nat)) (w : World) (hl : L.length ≤ 100000) (hr : OwnT w base v L) (hb : base ≤ w.heap.size) :
    Calls Tryd.prog 18 #[v] w (OverT v.ownBlock w) := by
  rcases hr.2 with ⟨rfl, _⟩ | ⟨g, cap, cur, rfl, _⟩
  · exact overT_nil w
  · exact overT_some base g L.length cap L w rfl hl hr hb
end Go.Proofs.YtkocjkndkkhogaaDoor
