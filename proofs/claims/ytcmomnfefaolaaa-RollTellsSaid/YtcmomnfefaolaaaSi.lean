/-
  Are two lists of integers the same (where they are)?
-/
import Derived.Test.YtcmomnfefaolaaaIt
namespace Go.Proofs.Ytcmomnfefaolaaa
open Go.RowKit BigFrame

theorem blI_drew {B m : Nat} {a w : World} (h : Below B a w) : Below B a (w.drewN m) := ⟨h.os, h.tape, h.output, h.size, h.block⟩
def SameIRel (a b : Option Addr) (n : Nat) (R C : Nat → Int) (w : World) (i : Value) (wr : World) : Prop :=
  ∃ k : Nat, k ≤ n ∧ i = .int .i64 k ∧ IntsAt wr a n R ∧ IntsAt wr b n C ∧ Below w.heap.size w wr
theorem sameI_any (a b : Option Addr) (c1 c2 n : Nat) (R C : Nat → Int) (w : World) (hn : n ≤ 1000) (ha : IntsAt w a n R) (hb : IntsAt w b n C) (he : ∀ k, k < n → R k = C k) :
    Calls Try.prog 14 #[.slice a n c1, .slice b n c2] w fun e w' => e = .returned (.bool true) ∧ Below w.heap.size w w' := by
  have ha' := Lib.hid ha
  have hb' := Lib.hid hb
  have he' := Lib.hid he
  clear ha hb he
  go_enter Try.func14, Try.ntmps14
  go_wp2_with fail
  go_loopw [5] (fun i wr => SameIRel a b n R C w i wr) (fun i _ => n - (intOf i).toNat)
  case atStart => exact ⟨0, by omega, rfl, ha'.out, hb'.out, Below.refl _ _⟩
  case round =>
    obtain ⟨k, hk, rfl, hA, hB, hbel⟩ := hrel
    by_cases hlt : k < n
    · have hA' := hA
      have hB' := hB
      rcases hA' with h | ⟨b1, o1, rfl, h1⟩
      · omega
      · rcases hB' with h | ⟨b2, o2, rfl, h2⟩
        · omega
        · have q1 := h1 k hlt
          have q2 := h2 k hlt
          rw [he'.out k hlt] at q1
          have hend := Lib.hid (fun m => show SameIRel (some ⟨b1, o1, none⟩) (some ⟨b2, o2, none⟩) n R C w (.int .i64 ((k : Int) + 1)) (World.drewN _ m) from ⟨k + 1, by omega, by go_num, hA.drew, hB.drew, blI_drew hbel⟩)
          clear h1 h2 hA hB hbel
          go_wp2_with fail
          go_big_quiet (fail)
          go_wp2_with fail
          exact ⟨hend.out _, by simp [intOf]; omega⟩
    · have hbel' := Lib.hid hbel
      clear hA hB hbel
      go_wp2_with fail
      go_ret
      exact ⟨rfl, hbel'.out⟩

end Go.Proofs.Ytcmomnfefaolaaa
