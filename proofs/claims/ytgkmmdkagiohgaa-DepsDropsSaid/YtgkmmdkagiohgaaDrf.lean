/-
  Nothing is asked of none: its closures, its levels.
-/
import Derived.Test.YtgkmmdkagiohgaaDre
set_option linter.unusedVariables false
set_option linter.unusedSimpArgs false
namespace Go.Proofs.Ytgkmmdkagiohgaa
open Go.RowKit BigFrame
set_option maxRecDepth 100000
variable {w w' wr : World}

set_option maxHeartbeats 1000000 in
theorem closure_nil (v : Value) (w : World) : Calls Try.prog 13 #[.pointer none, v] w fun e w' => e = .returned (.slice none 0 0) ∧ w = w' := by
  have hs := Lib.hid (Try.slices_Sort_int_none none 0 w)
  go_enter Try.func13, Try.ntmps13
  go_wp2_with (go_at_call 22; refine (ordered_nil v _).mono ?_; rintro e w1 ⟨rfl, rfl⟩)
  go_loopg [5, 7, 12] 0 (fun g v5 v7 v12 wr => v5 = .slice none 0 0 ∧ v12 = .int .i64 0 ∧ wr = w)
  case atStart => exact ⟨rfl, rfl, rfl⟩
  case round =>
    obtain ⟨rfl, rfl, hw⟩ := hrel
    subst hw
    go_wp2_with (go_at_call 23; refine hs.out.mono ?_; rintro e w5 ⟨rfl, rfl⟩)
    go_ret
    exact ⟨rfl, rfl⟩
set_option maxHeartbeats 1000000 in
theorem levels_nil (v : Value) (w : World) : Calls Try.prog 12 #[.pointer none, v] w fun e w' => e = .returned (.slice none 0 0) ∧ Below w.heap.size w w' := by
  have hmm := @run_makeMap Try.prog
  have hb0 := Lib.hid ((Below.refl w.heap.size w).alloc (Nat.le_refl _) (.map #[] 0))
  go_enter Try.func12, Try.ntmps12
  go_wp2_with (go_at_call 22; refine (ordered_nil v _).mono ?_; rintro e w1 ⟨rfl, rfl⟩)
  go_loopg [5, 8, 9, 11, 19] 0 (fun g v5 v8 v9 v11 v19 wr => v5 = .slice none 0 0 ∧ v19 = .int .i64 0 ∧ Below w.heap.size w wr)
  case atStart => exact ⟨rfl, rfl, hb0.out⟩
  case round =>
    obtain ⟨rfl, rfl, hb⟩ := hrel
    have hb' := Lib.hid hb
    clear hb
    go_wp2_with fail
    go_loopg [13, 73] 0 (fun g v13 v73 wr => v73 = .int .i64 0 ∧ Below w.heap.size w wr)
    case atStart => exact ⟨rfl, hb'.out⟩
    case round =>
      obtain ⟨rfl, hb⟩ := hrel
      have hb' := Lib.hid hb
      clear hb
      go_wp2_with fail
      go_ret
      exact ⟨rfl, hb'.out⟩
end Go.Proofs.Ytgkmmdkagiohgaa
