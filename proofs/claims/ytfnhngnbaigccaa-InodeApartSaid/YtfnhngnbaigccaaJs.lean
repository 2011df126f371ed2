/-
  What is laid of any four, as one answer; the worlds in which two values and two answers lie where they lay.
-/
import Derived.Test.YtfnhngnbaigccaaJo
import Derived.Test.YtfnhngnbaigccaaBv
import Derived.Test.YtfnhngnbaigccaaIc
namespace Go.Proofs.Ytfnhngnbaigccaa
open Go.RowKit BigFrame

/-- what is laid of any four, and the code -/
def ly4 (L : List Int) : List Nat := if may4 L = true then sector4 L else []
def lc4 (L : List Int) : Int := if may4 L = true then 0 else 2
theorem ly4_length {L : List Int} (h : L.length = 44) : (ly4 L).length ≤ 100000 := by
  unfold ly4
  split
  · rw [sector4_length h]; omega
  · simp
theorem inoLay_u (L : List Int) (w : World) (hL : L.length = 44) :
    Calls Try.prog 10 #[av L] w fun e w' => ∃ v, e = .returned (.tuple #[v, .int .i64 (lc4 L)]) ∧ Ans w w' v (ly4 L) ∧ Below w.heap.size w w' := by
  unfold ly4 lc4
  cases h : may4 L
  · exact (inoLay_no L w hL h).mono fun e w' ⟨he, hb⟩ => ⟨_, he, .inl ⟨rfl, rfl⟩, hb⟩
  · exact (inoLay_ok L w hL h).mono fun e w' ⟨g1, he, hg, hr, hb⟩ => ⟨_, he, .inr ⟨g1, 128, rfl, sector4_length hL, hg, hr⟩, hb⟩
theorem sector4_eq {L M : List Int} (hL : L.length = 44) (hM : M.length = 44) (h1 : may4 L = true) (h2 : may4 M = true) : decide (sector4 L = sector4 M) = decide (L = M) := by
  by_cases h : L = M
  · rw [decide_eq_true h, decide_eq_true (by rw [h])]
  · rw [decide_eq_false h, decide_eq_false (fun e => h (sector4_inj hL hM (may4_N h1) (may4_N h2) e))]
end Go.Proofs.Ytfnhngnbaigccaa
