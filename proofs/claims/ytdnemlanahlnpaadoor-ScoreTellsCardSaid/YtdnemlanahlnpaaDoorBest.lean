/-
  What Best gives over a slice of floats.
-/
import Derived.Test.YtdnemlanahlnpaaDoorClamp
import Derived.LoopTactic
import Derived.OwnWalk
namespace Go.Proofs.YtdnemlanahlnpaaDoor
open Go.RowKit Fl

def fl (xs : List Nat) (k : Nat) : Nat := xs.getD k 0
/-- the best of the first k: -1, if none of them is a number -/
def bestOf (xs : List Nat) : Nat → Int
  | 0 => -1
  | k + 1 => if nanB (fl xs k) then bestOf xs k else if bestOf xs k < 0 then k else if key (fl xs (bestOf xs k).toNat) < key (fl xs k) then k else bestOf xs k

theorem bestOf_bd (xs : List Nat) (k : Nat) : -1 ≤ bestOf xs k ∧ bestOf xs k < k ∨ k = 0 ∧ bestOf xs k = -1 := by
  induction k with
  | zero => right; exact ⟨rfl, rfl⟩
  | succ k ih =>
    left; unfold bestOf; repeat' split
    all_goals omega

theorem bestOf_nan (xs : List Nat) (k : Nat) (h : nanB (fl xs k) = true) : bestOf xs (k + 1) = bestOf xs k := by
  rw [bestOf, if_pos h]
theorem bestOf_first (xs : List Nat) (k : Nat) (h : nanB (fl xs k) = false) (h0 : bestOf xs k < 0) : bestOf xs (k + 1) = k := by
  rw [bestOf, if_neg (by rw [h]; decide), if_pos h0]
theorem bestOf_next (xs : List Nat) (k j : Nat) (h : nanB (fl xs k) = false) (hj : bestOf xs k = j) : bestOf xs (k + 1) = if key (fl xs j) < key (fl xs k) then (k : Int) else j := by
  rw [bestOf, if_neg (by rw [h]; decide), if_neg (by omega), hj]; rfl

/-- a slice whose cells hold these floats -/
structure FloatsAt (w : World) (b off : Nat) (xs : List Nat) : Prop where
  cell : ∀ k, k < xs.length → w.cell? ⟨b, off + k, none⟩ = some (.float .f64 (fl xs k))
  fits : ∀ k, k < xs.length → Fits (fl xs k)

set_option maxHeartbeats 400000 in
theorem best_any (b off cap : Nat) (xs : List Nat) (w : World) (hx : FloatsAt w b off xs) (hl : xs.length ≤ 1000) :
    Calls Tryd.prog 10 #[.slice (some ⟨b, off, none⟩) xs.length cap] w fun e w' => e = .returned (.int .i64 (bestOf xs xs.length)) ∧ w = w' := by
  go_enter Tryd.func10, Tryd.ntmps10
  go_wp2_with fail
  go_loop [3, 4, 5, 8] (fun bst _ _ i => ∃ k : Nat, k ≤ xs.length ∧ i = .int .i64 k ∧ bst = .int .i64 (bestOf xs k)) (fun _ _ _ i => xs.length - (intOf i).toNat)
  case atStart => exact ⟨0, Nat.zero_le _, rfl, rfl⟩
  case round =>
    obtain ⟨k, hk, rfl, rfl⟩ := hrel
    by_cases hlt : k < xs.length
    · have hc := hx.cell k hlt
      have hf := hx.fits k hlt
      have hb := bestOf_bd xs k
      by_cases hn : nanB (fl xs k) = true
      · have hs := Lib.hid (bestOf_nan xs k hn)
        have hn' := Lib.hid hn
        clear hn hb
        go_wp2_with (go_at_call 27; refine (isNaN_any _ _).mono ?_; rintro e w' ⟨rfl, rfl⟩; rw [hn'.out])
        go_round
        case rel => exact ⟨k + 1, by omega, by go_num, by rw [hs.out]⟩
        case measure => simp [intOf]; omega
      · have hn1 : nanB (fl xs k) = false := by simpa using hn
        have hn' := Lib.hid hn1
        clear hn
        by_cases h0 : bestOf xs k < 0
        · have hs := Lib.hid (bestOf_first xs k hn1 h0)
          have h0' : decide (bestOf xs k < 0) = true := by simpa using h0
          clear hn1
          go_wp2_with (go_at_call 27; refine (isNaN_any _ _).mono ?_; rintro e w' ⟨rfl, rfl⟩; rw [hn'.out])
          go_round
          case rel => exact ⟨k + 1, by omega, by go_num, by rw [hs.out]⟩
          case measure => simp [intOf]; omega
        · obtain ⟨j, hj⟩ := Int.eq_ofNat_of_zero_le (show 0 ≤ bestOf xs k by omega)
          have hs := Lib.hid (bestOf_next xs k j hn1 hj)
          have hjk : j < k := by omega
          have hcj := hx.cell j (by omega)
          have hfj := hx.fits j (by omega)
          rw [hj]
          clear hj h0 hb hn1
          go_wp2_with (first
            | (go_at_call 27; refine (isNaN_any _ _).mono ?_; rintro e w' ⟨rfl, rfl⟩; rw [hn'.out])
            | (go_at_call 17; refine (less_any _ _ _ hfj hf).mono ?_; rintro e w' ⟨rfl, rfl⟩))
          all_goals
            go_round
            case rel => exact ⟨k + 1, by omega, by go_num, by rw [hs.out]; first | rw [if_pos (by omega)] | rw [if_neg (by omega)]⟩
            case measure => simp [intOf]; omega
    · have hk' : k = xs.length := by omega
      subst hk'
      go_wp2_with fail
      go_ret
      exact ⟨rfl, rfl⟩
end Go.Proofs.YtdnemlanahlnpaaDoor
