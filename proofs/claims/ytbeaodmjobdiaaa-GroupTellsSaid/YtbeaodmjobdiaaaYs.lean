/-
  The document's own sum of bytes.
-/
import Derived.Test.YtbeaodmjobdiaaaZs
namespace Go.Proofs.Ytbeaodmjobdiaaa
open Go.RowKit

set_option maxHeartbeats 400000 in
theorem refSum_any (a : Option Addr) (cap : Nat) (l : List Nat) (w : World) (ho : Octs l) (hl : l.length ≤ 1000) (hx : BAt w a l) :
    Calls Try.prog 36 #[.slice a l.length cap] w fun e w' => e = .returned (.int .u32 ((sumOf l : Nat) : Int)) ∧ w = w' := by
  have hx' := Lib.hid hx
  have ho' := Lib.hid ho
  clear hx ho
  go_enter Try.func36, Try.ntmps36
  go_wp2_with fail
  go_loop [3, 4] (fun s i => SumRel 2166136261 l s i) (fun _ i => l.length - (intOf i).toNat)
  case atStart => exact ⟨0, by omega, rfl, rfl⟩
  case round =>
    obtain ⟨k, hk, rfl, rfl⟩ := hrel
    by_cases hlt : k < l.length
    · rcases hx'.out with h | ⟨b, off, rfl, h⟩
      · omega
      have q := h k hlt
      clear h
      have hs := Lib.hid (sumFrom_lt 2166136261 (by decide) (l.take k))
      go_wp2_with fail
      exact ⟨⟨k + 1, by omega, by go_num, val_int (by rw [step_int hs.out (ho'.out k hlt), sum_take_succ _ hlt])⟩, by simp [intOf]; omega⟩
    · have hs := Lib.hid (sumFrom_lt 2166136261 (by decide) (l.take k))
      have hk' := Lib.hid (show l.take k = l from List.take_of_length_le (by omega))
      go_wp2_with fail
      go_ret
      exact ⟨ret_int (by rw [mix_int hs.out, hk'.out]; rfl), rfl⟩
theorem refSum_n {n : Nat} (a : Option Addr) (cap : Nat) (l : List Nat) (w : World) (hn : l.length = n) (ho : Octs l) (hl : n ≤ 1000) (hx : BAt w a l) :
    Calls Try.prog 36 #[.slice a n cap] w fun e w' => e = .returned (.int .u32 ((sumOf l : Nat) : Int)) ∧ w = w' := by
  subst hn; exact refSum_any a cap l w ho hl hx
theorem refSum_is {n s : Nat} (a : Option Addr) (cap : Nat) (l : List Nat) (w : World) (hs : s = sumOf l) (hn : l.length = n) (ho : Octs l) (hl : n ≤ 1000) (hx : BAt w a l) :
    Calls Try.prog 36 #[.slice a n cap] w fun e w' => e = .returned (.int .u32 (s : Int)) ∧ w = w' := by
  subst hs; exact refSum_n a cap l w hn ho hl hx
end Go.Proofs.Ytbeaodmjobdiaaa
