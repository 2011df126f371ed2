/-
  Are two lists of texts the same (where they are)?
-/
import Derived.Test.YtkocjkndkkhogaaDoorTa
namespace Go.Proofs.YtkocjkndkkhogaaDoor
open Go.RowKit BigFrame

def SameTRel (a b : Option Addr) (L : List (List Nat)) (w : World) (i : Value) (wr : World) : Prop :=
  ∃ k : Nat, k ≤ L.length ∧ i = .int .i64 k ∧ TAt wr a L ∧ TAt wr b L ∧ Below w.heap.size w wr
theorem blT_drew {B m : Nat} {a w : World} (h : Below B a w) : Below B a (w.drewN m) := ⟨h.os, h.tape, h.output, h.size, h.block⟩
theorem sameT_any (a b : Option Addr) (c1 c2 n : Nat) (L : List (List Nat)) (w : World) (hn : n = L.length) (hl : n ≤ 1000) (ha : TAt w a L) (hb : TAt w b L) :
    Calls Tryd.prog 17 #[.slice a n c1, .slice b n c2] w fun e w' => e = .returned (.bool true) ∧ Below w.heap.size w w' := by
  have ha' := Lib.hid ha
  have hb' := Lib.hid hb
  have hn' := Lib.hid hn
  clear ha hb hn
  go_enter Tryd.func17, Tryd.ntmps17
  go_wp2_with fail
  go_loopw [5] (fun i wr => SameTRel a b L w i wr) (fun i _ => n - (intOf i).toNat)
  case atStart => exact ⟨0, by omega, rfl, ha'.out, hb'.out, Below.refl _ _⟩
  case round =>
    obtain ⟨k, hk, rfl, hA, hB, hbel⟩ := hrel
    rw [← hn'.out] at hk
    by_cases hlt : k < n
    · have hA' := hA
      have hB' := hB
      rcases hA' with h | ⟨b1, o1, rfl, h1⟩
      · rw [← hn'.out] at h; omega
      · rcases hB' with h | ⟨b2, o2, rfl, h2⟩
        · rw [← hn'.out] at h; omega
        · have q1 := h1 k (by rw [← hn'.out]; exact hlt)
          have q2 := h2 k (by rw [← hn'.out]; exact hlt)
          have hend := Lib.hid (fun m => show SameTRel (some ⟨b1, o1, none⟩) (some ⟨b2, o2, none⟩) L w (.int .i64 ((k : Int) + 1)) (World.drewN _ m) from ⟨k + 1, by rw [← hn'.out]; omega, by go_num, hA.drew, hB.drew, blT_drew hbel⟩)
          obtain ⟨x, hx⟩ : ∃ x, strOf (tz L k) = x := ⟨_, rfl⟩
          rw [hx] at q1 q2
          clear h1 h2 hA hB hbel hx
          go_wp2_with fail
          go_big_quiet (fail)
          go_wp2_with fail
          exact ⟨hend.out _, by simp [intOf]; omega⟩
    · have hbel' := Lib.hid hbel
      clear hA hB hbel
      go_wp2_with fail
      go_ret
      exact ⟨rfl, hbel'.out⟩
/-- two of one's own -/
theorem sameT_own (v u : Value) (B1 B2 : Nat) (L : List (List Nat)) (w : World) (hl : L.length ≤ 1000) (h1 : OwnT w B1 v L) (h2 : OwnT w B2 u L) :
    Calls Tryd.prog 17 #[v, u] w fun e w' => e = .returned (.bool true) ∧ Below w.heap.size w w' := by
  obtain ⟨a, c1, rfl, ha, _⟩ := h1.slice
  obtain ⟨b, c2, rfl, hb, _⟩ := h2.slice
  exact sameT_any a b c1 c2 L.length L w rfl hl ha hb
end Go.Proofs.YtkocjkndkkhogaaDoor
