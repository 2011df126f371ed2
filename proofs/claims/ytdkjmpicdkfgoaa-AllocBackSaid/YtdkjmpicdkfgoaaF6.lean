/-
  What Best gives over a slice of floats.
-/
import Derived.Test.YtdkjmpicdkfgoaaF4
import Derived.Test.YtdkjmpicdkfgoaaF5
import Derived.LoopTactic
import Derived.OwnWalk
namespace Go.Proofs.Ytdkjmpicdkfgoaa
open Go.RowKit Fl

/-- the best of the first k: -1, if none of them is a number -/
def bestOf (xs : List Nat) : Nat → Int
  | 0 => -1
  | k + 1 => if nanB (fl xs k) then bestOf xs k else if bestOf xs k < 0 then k else if key (fl xs (bestOf xs k).toNat) < key (fl xs k) then k else bestOf xs k

theorem bestOf_bd (xs : List Nat) (k : Nat) : -1 ≤ bestOf xs k ∧ bestOf xs k < k ∨ k = 0 ∧ bestOf xs k = -1 := by
  induction k with
  | zero => right; exact ⟨rfl, rfl⟩
  | succ k ih =>
    left; unfold bestOf; repeat' split
    all_goals omega

theorem bestOf_nan (xs : List Nat) (k : Nat) (h : nanB (fl xs k) = true) : bestOf xs (k + 1) = bestOf xs k := by
  rw [bestOf, if_pos h]
theorem bestOf_first (xs : List Nat) (k : Nat) (h : nanB (fl xs k) = false) (h0 : bestOf xs k < 0) : bestOf xs (k + 1) = k := by
  rw [bestOf, if_neg (by rw [h]; decide), if_pos h0]
theorem bestOf_next (xs : List Nat) (k j : Nat) (h : nanB (fl xs k) = false) (hj : bestOf xs k = j) : bestOf xs (k + 1) = if key (fl xs j) < key (fl xs k) then (k : Int) else j := by
  rw [bestOf, if_neg (by rw [h]; decide), if_neg (by omega), hj]; rfl

/-- a slice whose cells hold these floats -/
structure FloatsAt (w : World) (b off : Nat) (xs : List Nat) : Prop where
  cell : ∀ k, k < xs.length → w.cell? ⟨b, off + k, none⟩ = some (.float .f64 (fl xs k))
  fits : ∀ k, k < xs.length → Fits (fl xs k)

set_option maxHeartbeats 400000 in
theorem best_any (b off cap : Nat) (xs : List Nat) (w : World) (hx : FloatsAt w b off xs) (hl : xs.length ≤ 1000) :
    Calls Try.prog 62 #[.slice (some ⟨b, off, none⟩) xs.length cap] w fun e w' => e = .returned (.int .i64 (bestOf xs xs.length)) ∧ w = w' := by
  go_enter Try.func62, Try.ntmps62
  go_wp2_with fail
  go_loop [3, 4, 5, 8] (fun bst _ _ i => ∃ k : Nat, k ≤ xs.length ∧ i = .int .i64 k ∧ bst = .int .i64 (bestOf xs k)) (fun _ _ _ i => xs.length - (intOf i).toNat)
  case atStart => exact ⟨0, Nat.zero_le _, rfl, rfl⟩
  case round =>
    obtain ⟨k, hk, rfl, rfl⟩ := hrel
    by_cases hlt : k < xs.length
    · have hc := hx.cell k hlt
      have hf := hx.fits k hlt
      have hb := bestOf_bd xs k
      by_cases hn : nanB (fl xs k) = true
      · have hs := Lib.hid (bestOf_nan xs k hn)
        have hn' := Lib.hid hn
        clear hn hb
        go_wp2_with (go_at_call 64; refine (isNaN_any _ _).mono ?_; rintro e w' ⟨rfl, rfl⟩; rw [hn'.out])
        go_round
        case rel => exact ⟨k + 1, by omega, by go_num, by rw [hs.out]⟩
        case measure => simp [intOf]; omega
      · have hn1 : nanB (fl xs k) = false := by simpa using hn
        have hn' := Lib.hid hn1
        clear hn
        by_cases h0 : bestOf xs k < 0
        · have hs := Lib.hid (bestOf_first xs k hn1 h0)
          have h0' : decide (bestOf xs k < 0) = true := by simpa using h0
          clear hn1
          go_wp2_with (go_at_call 64; refine (isNaN_any _ _).mono ?_; rintro e w' ⟨rfl, rfl⟩; rw [hn'.out])
          go_round
          case rel => exact ⟨k + 1, by omega, by go_num, by rw [hs.out]⟩
          case measure => simp [intOf]; omega
        · obtain ⟨j, hj⟩ := Int.eq_ofNat_of_zero_le (show 0 ≤ bestOf xs k by omega)
          have hs := Lib.hid (bestOf_next xs k j hn1 hj)
          have hjk : j < k := by omega
          have hcj := hx.cell j (by omega)
          have hfj := hx.fits j (by omega)
          rw [hj]
          clear hj h0 hb hn1
          go_wp2_with (first
            | (go_at_call 64; refine (isNaN_any _ _).mono ?_; rintro e w' ⟨rfl, rfl⟩; rw [hn'.out])
            | (go_at_call 78; refine (less_any _ _ _ hfj hf).mono ?_; rintro e w' ⟨rfl, rfl⟩))
          all_goals
            go_round
            case rel => exact ⟨k + 1, by omega, by go_num, by rw [hs.out]; first | rw [if_pos (by omega)] | rw [if_neg (by omega)]⟩
            case measure => simp [intOf]; omega
    · have hk' : k = xs.length := by omega
      subst hk'
      go_wp2_with fail
      go_ret
      exact ⟨rfl, rfl⟩

/-- the floats that lie there, if any -/
def FAt (w : World) (a : Option Addr) (xs : List Nat) : Prop := xs = [] ∨ ∃ b off, a = some ⟨b, off, none⟩ ∧ FloatsAt w b off xs
theorem FAt.on {w w' : World} {a : Option Addr} {xs : List Nat} {B : Nat} (h : FAt w a xs) (hb : Below B w w') (hB : B = w.heap.size) : FAt w' a xs := by
  rcases h with h | ⟨b, off, rfl, hx⟩
  · exact .inl h
  · by_cases h0 : 0 < xs.length
    · have hlt : b < w.heap.size := World.block_lt_of_cell? w _ (hx.cell 0 h0)
      exact .inr ⟨b, off, rfl, ⟨fun k hk => by rw [hb.cell (p := ⟨b, off + k, none⟩) (by show b < B; omega)]; exact hx.cell k hk, hx.fits⟩⟩
    · exact .inl (List.eq_nil_of_length_eq_zero (by omega))
theorem FAt.at {w : World} {a : Option Addr} {xs : List Nat} {k : Nat} (h : FAt w a xs) (hk : k < xs.length) : ∃ b off, a = some ⟨b, off, none⟩ ∧ FloatsAt w b off xs := by
  rcases h with rfl | h
  · exact absurd hk (by simp)
  · exact h

theorem best_sl (a : Option Addr) (cap : Nat) (xs : List Nat) (w : World) (h : FAt w a xs) (hl : xs.length ≤ 1000) :
    Calls Try.prog 62 #[.slice a xs.length cap] w fun e w' => e = .returned (.int .i64 (bestOf xs xs.length)) ∧ w = w' := by
  rcases h with rfl | ⟨b, off, rfl, hx⟩
  · show Calls Try.prog 62 #[.slice a 0 cap] w fun e w' => e = .returned (.int .i64 (-1)) ∧ w = w'
    go_enter Try.func62, Try.ntmps62
    go_wp2_with fail
    refine wp_loop_rounds 1 ?_
    rw [rounds_succ]
    go_wp2_with fail
    go_ret
    exact ⟨rfl, rfl⟩
  · exact best_any b off cap xs w hx hl

theorem FAt.drew' {ad : Option Addr} {xs : List Nat} {w : World} {m : Nat} (h : FAt w ad xs) : FAt (w.drewN m) ad xs := by
  rcases h with h | ⟨b, off, rfl, hx⟩
  · exact .inl h
  · exact .inr ⟨b, off, rfl, hx.cell, hx.fits⟩
theorem bl_drew' {B m : Nat} {a w : World} (h : Below B a w) : Below B a (w.drewN m) := ⟨h.os, h.tape, h.output, h.size, h.block⟩
/-- the best, by the places in the order -/
theorem bestOf_key (xs : List Nat) : ∀ k, bestOf xs k = bestI (fun i => key (fl xs i)) k
  | 0 => rfl
  | k + 1 => by
    unfold bestOf bestI
    rw [bestOf_key xs k, nan_key]
    simp only [decide_eq_true_eq]
end Go.Proofs.Ytdkjmpicdkfgoaa
