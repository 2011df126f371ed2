/-
  The document's own answers over a slice of floats: the best.
-/
import Derived.Test.YtdnemlanahlnpaaDoorPig
import Derived.Deep.QuietTactic
import Derived.BigQuiet
namespace Go.Proofs.YtdnemlanahlnpaaDoor
open Go.RowKit Fl BigFrame

def RbRel (a : Option Addr) (xs : List Nat) (w : World) (b i : Value) (wr : World) : Prop :=
  ∃ k : Nat, k ≤ xs.length ∧ i = .int .i64 k ∧ b = .int .i64 (bestOf xs k) ∧ FAt wr a xs ∧ Below w.heap.size w wr

set_option maxHeartbeats 1000000 in
theorem refBest_any (a : Option Addr) (cap : Nat) (xs : List Nat) (w : World) (hx : FAt w a xs) (hl : xs.length ≤ 1000) :
    Calls Tryd.prog 11 #[.slice a xs.length cap] w fun e w' => e = .returned (.int .i64 (bestOf xs xs.length)) ∧ Below w.heap.size w w' := by
  have hx' := Lib.hid hx
  clear hx
  go_enter Tryd.func11, Tryd.ntmps11
  go_wp2_with fail
  go_loopw [3, 4] (fun b i wr => RbRel a xs w b i wr) (fun _ i _ => xs.length - (intOf i).toNat)
  case atStart => exact ⟨0, by omega, rfl, rfl, hx'.out, Below.refl _ _⟩
  case round =>
    clear hx'
    obtain ⟨k, hk, rfl, rfl, hF, hb⟩ := hrel
    by_cases hlt : k < xs.length
    · obtain ⟨b1, o1, rfl, hx⟩ := hF.at hlt
      have q0 := hx.cell k hlt
      have f0 := hx.fits k hlt
      have hend := Lib.hid (fun (v : Int) (m : Nat) (hv : v = bestOf xs (k + 1)) => show RbRel (some ⟨b1, o1, none⟩) xs w (.int .i64 v) (.int .i64 ((k : Int) + 1)) (World.drewN _ m) from ⟨k + 1, by omega, by go_num, by rw [hv], hF.drew', bl_drew' hb⟩)
      cases hn : nanB (fl xs k) with
      | true =>
        have hs := Lib.hid (bestOf_nan xs k hn).symm
        clear hF hb hx
        go_wp2_with fail
        go_big_quiet ((go_at_call 27; refine Calls.quiet_of_same ((isNaN_any _ _).mono fun _ _ h => ⟨by rw [h.1, hn], h.2.symm⟩)))
        go_wp2_with fail
        exact ⟨hend.out _ _ hs.out, by simp [intOf]; omega⟩
      | false =>
        rcases best_spec xs k with ⟨h1, _⟩ | ⟨j, h1, hj, hnj, _, _⟩
        · have hs := Lib.hid (bestOf_first xs k hn (by omega)).symm
          rw [h1]
          clear hF hb hx h1
          go_wp2_with fail
          go_big_quiet ((go_at_call 27; refine Calls.quiet_of_same ((isNaN_any _ _).mono fun _ _ h => ⟨by rw [h.1, hn], h.2.symm⟩)))
          go_wp2_with fail
          exact ⟨hend.out _ _ hs.out, by simp [intOf]; omega⟩
        · have hs := bestOf_next xs k j hn h1
          have q1 := hx.cell j (by omega)
          have f1 := hx.fits j (by omega)
          have g1 : decide ((j : Int) < 0) = false := by simp
          rw [h1]
          clear hF hb hx h1
          by_cases hkk : key (fl xs j) < key (fl xs k)
          · have g2 : decide (key (fl xs j) < key (fl xs k)) = true := by simpa using hkk
            rw [if_pos hkk] at hs
            have hs' := Lib.hid hs.symm
            clear hs hkk
            go_wp2_with fail
            go_big_quiet (first
              | (go_at_call 27; refine Calls.quiet_of_same ((isNaN_any _ _).mono fun _ _ h => ⟨by rw [h.1, hn], h.2.symm⟩))
              | (go_at_call 18; refine Calls.quiet_of_same ((refLess_any _ _ _).mono fun _ _ h => ⟨by rw [h.1, g2], h.2.symm⟩)))
            go_wp2_with fail
            exact ⟨hend.out _ _ hs'.out, by simp [intOf]; omega⟩
          · have g2 : decide (key (fl xs j) < key (fl xs k)) = false := by simpa using hkk
            rw [if_neg hkk] at hs
            have hs' := Lib.hid hs.symm
            clear hs hkk
            go_wp2_with fail
            go_big_quiet (first
              | (go_at_call 27; refine Calls.quiet_of_same ((isNaN_any _ _).mono fun _ _ h => ⟨by rw [h.1, hn], h.2.symm⟩))
              | (go_at_call 18; refine Calls.quiet_of_same ((refLess_any _ _ _).mono fun _ _ h => ⟨by rw [h.1, g2], h.2.symm⟩)))
            go_wp2_with fail
            exact ⟨hend.out _ _ hs'.out, by simp [intOf]; omega⟩
    · have hkn : k = xs.length := by omega
      subst hkn
      have hb' := Lib.hid hb
      clear hb hF
      go_wp2_with fail
      go_ret
      exact ⟨rfl, hb'.out⟩
end Go.Proofs.YtdnemlanahlnpaaDoor
