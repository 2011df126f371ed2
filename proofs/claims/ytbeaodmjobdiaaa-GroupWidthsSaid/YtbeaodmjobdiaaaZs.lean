/-
  Bytes that lie in memory; the sum of them is the sum as a function on numbers.
-/
import Derived.Test.YtbeaodmjobdiaaaZm
namespace Go.Proofs.Ytbeaodmjobdiaaa
open Go.RowKit

theorem step_int {s x : Nat} (hs : s < 4294967296) (hx : x < 256) : bits .xor .u32 (s : Int) ((x : Int) % 4294967296) * 16777619 % 4294967296 = ((step s x : Nat) : Int) := by
  have e : ((x : Int) % 4294967296) = (x : Int) := by omega
  rw [e, u32_xor_nat s x hs (by omega)]
  unfold step
  generalize s ^^^ x = y
  omega
theorem mixA_int {s : Nat} (hs : s < 4294967296) : bits .xor .u32 (s : Int) ((s : Int) / 32768) * 2246822507 % 4294967296 = ((mixA s : Nat) : Int) := by
  have e : ((s : Int) / 32768) = ((s / 32768 : Nat) : Int) := by omega
  rw [e, u32_xor_nat s _ hs (by omega)]
  unfold mixA
  generalize s ^^^ (s / 32768) = y
  omega
theorem mix_int {s : Nat} (hs : s < 4294967296) : bits .xor .u32 (bits .xor .u32 (s : Int) ((s : Int) / 32768) * 2246822507 % 4294967296) (bits .xor .u32 (s : Int) ((s : Int) / 32768) * 2246822507 % 4294967296 / 8192) = ((mix s : Nat) : Int) := by
  rw [mixA_int hs]
  have h := mixA_lt s
  have e : (((mixA s : Nat) : Int) / 8192) = ((mixA s / 8192 : Nat) : Int) := by omega
  rw [e, u32_xor_nat _ _ h (by omega)]
  rfl
def SumRel (s0 : Nat) (l : List Nat) (s i : Value) : Prop := ∃ k : Nat, k ≤ l.length ∧ i = .int .i64 k ∧ s = .int .u32 ((sumFrom s0 (l.take k) : Nat) : Int)

set_option maxHeartbeats 400000 in
theorem sum_any (a : Option Addr) (cap : Nat) (l : List Nat) (w : World) (ho : Octs l) (hl : l.length ≤ 1000) (hx : BAt w a l) :
    Calls Try.prog 35 #[.slice a l.length cap] w fun e w' => e = .returned (.int .u32 ((sumOf l : Nat) : Int)) ∧ w = w' := by
  have hx' := Lib.hid hx
  have ho' := Lib.hid ho
  clear hx ho
  go_enter Try.func35, Try.ntmps35
  go_wp2_with fail
  go_loop [3, 8] (fun s i => SumRel 2166136261 l s i) (fun _ i => l.length - (intOf i).toNat)
  case atStart => exact ⟨0, by omega, rfl, rfl⟩
  case round =>
    obtain ⟨k, hk, rfl, rfl⟩ := hrel
    by_cases hlt : k < l.length
    · rcases hx'.out with h | ⟨b, off, rfl, h⟩
      · omega
      have q := h k hlt
      clear h
      have hs := Lib.hid (sumFrom_lt 2166136261 (by decide) (l.take k))
      go_wp2_with fail
      exact ⟨⟨k + 1, by omega, by go_num, val_int (by rw [step_int hs.out (ho'.out k hlt), sum_take_succ _ hlt])⟩, by simp [intOf]; omega⟩
    · have hs := Lib.hid (sumFrom_lt 2166136261 (by decide) (l.take k))
      have hk' := Lib.hid (show l.take k = l from List.take_of_length_le (by omega))
      go_wp2_with fail
      go_ret
      exact ⟨ret_int (by rw [mix_int hs.out, hk'.out]; rfl), rfl⟩

theorem sum_n {n : Nat} (a : Option Addr) (cap : Nat) (l : List Nat) (w : World) (hn : l.length = n) (ho : Octs l) (hl : n ≤ 1000) (hx : BAt w a l) :
    Calls Try.prog 35 #[.slice a n cap] w fun e w' => e = .returned (.int .u32 ((sumOf l : Nat) : Int)) ∧ w = w' := by
  subst hn; exact sum_any a cap l w ho hl hx
theorem sum_is {n s : Nat} (a : Option Addr) (cap : Nat) (l : List Nat) (w : World) (hs : s = sumOf l) (hn : l.length = n) (ho : Octs l) (hl : n ≤ 1000) (hx : BAt w a l) :
    Calls Try.prog 35 #[.slice a n cap] w fun e w' => e = .returned (.int .u32 (s : Int)) ∧ w = w' := by
  subst hs; exact sum_n a cap l w hn ho hl hx
end Go.Proofs.Ytbeaodmjobdiaaa
