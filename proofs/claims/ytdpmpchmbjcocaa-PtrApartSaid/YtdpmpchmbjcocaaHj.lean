/-
  What is laid of any twelve, as one answer.
-/
import Derived.Test.YtdpmpchmbjcocaaHi
import Derived.Test.YtdpmpchmbjcocaaBv
import Derived.Test.YtdpmpchmbjcocaaIc
namespace Go.Proofs.Ytdpmpchmbjcocaa
open Go.RowKit BigFrame

/-- what is laid of any twelve, and the code -/
def ly12 (L : List Int) : List Nat := if may12 L = true then sec12 L else []
def lc12 (L : List Int) : Int := if may12 L = true then 0 else 2
theorem ly12_length {L : List Int} : (ly12 L).length ≤ 100000 := by
  unfold ly12
  split
  · rw [sec12_length]; omega
  · simp
theorem ly12_octs (L : List Int) : Octs (ly12 L) := by
  unfold ly12
  split
  · exact sec12_octs L
  · exact .nil
theorem ptrLay_u (L : List Int) (w : World) (hL : L.length = 12) :
    Calls Try.prog 7 #[av L] w fun e w' => ∃ v, e = .returned (.tuple #[v, .int .i64 (lc12 L)]) ∧ Ans w w' v (ly12 L) ∧ Below w.heap.size w w' := by
  unfold ly12 lc12
  cases h : may12 L
  · exact (ptrLay_no L w hL h).mono fun e w' ⟨he, hb⟩ => ⟨_, he, .inl ⟨rfl, rfl⟩, hb⟩
  · exact (ptrLay_ok L w hL h).mono fun e w' ⟨g1, he, hg, hr, hb⟩ => ⟨_, he, .inr ⟨g1, 128, rfl, sec12_length L, hg, hr⟩, hb⟩
theorem sec12_eq {L M : List Int} (hL : L.length = 12) (hM : M.length = 12) (h1 : may12 L = true) (h2 : may12 M = true) : decide (sec12 L = sec12 M) = decide (L = M) := by
  by_cases h : L = M
  · rw [decide_eq_true h, decide_eq_true (by rw [h])]
  · rw [decide_eq_false h, decide_eq_false (fun e => h (sec12_inj hL hM (may12_iff.1 h1) (may12_iff.1 h2) e))]
end Go.Proofs.Ytdpmpchmbjcocaa
