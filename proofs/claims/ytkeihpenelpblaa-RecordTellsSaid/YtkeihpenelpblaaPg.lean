/-
  The number that bytes spell.
-/
import Derived.Test.YtkeihpenelpblaaPa
import Derived.Test.YtkeihpenelpblaaPi
namespace Go.Proofs.Ytkeihpenelpblaa
open Go.RowKit BigFrame

theorem get_step {s x : Nat} (hs : s < 36028797018963968) (hx : x < 256) : bits .or .i64 ((s : Int) * 256) (x : Int) = ((s * 256 + x : Nat) : Int) := by
  have e : (s : Int) * 256 = ((s * 256 : Nat) : Int) := by omega
  rw [e]
  exact i64_join 8 (s * 256) x (by omega) (by omega) (by omega) (by omega)
def GetRel (l : List Nat) (s i : Value) : Prop := ∃ k : Nat, k ≤ l.length ∧ i = .int .i64 k ∧ s = .int .i64 ((rdN (l.take k) : Nat) : Int)
set_option maxHeartbeats 400000 in
theorem get_any (a : Option Addr) (cap n : Nat) (l : List Nat) (w : World) (hn : l.length = n) (ho : Octs l) (hl : n ≤ 7) (hx : BAt w a l) :
    Calls Try.prog 34 #[.slice a n cap] w fun e w' => e = .returned (.int .i64 ((rdN l : Nat) : Int)) ∧ w = w' := by
  have hx' := Lib.hid hx
  have ho' := Lib.hid ho
  have hn' := Lib.hid hn
  clear hx ho hn
  go_enter Try.func34, Try.ntmps34
  go_wp2_with fail
  go_loop [3, 8] (fun s i => GetRel l s i) (fun _ i => n - (intOf i).toNat)
  case atStart => exact ⟨0, by omega, rfl, rfl⟩
  case round =>
    obtain ⟨k, hk, rfl, rfl⟩ := hrel
    rw [hn'.out] at hk
    by_cases hlt : k < n
    · obtain ⟨b, off, rfl⟩ := hx'.out.addr (by rw [hn'.out]; omega)
      have q1 := hx'.out.cell (k := k) (by rw [hn'.out]; omega)
      have hx8 := ho'.out k (by rw [hn'.out]; omega)
      have hlt2 := rd_lt ho'.out k (by rw [hn'.out]; omega)
      have hst := rd_take (l := l) (k := k) (by rw [hn'.out]; omega)
      have hp : 256 ^ k ≤ 256 ^ 6 := Nat.pow_le_pow_right (by decide) (by omega)
      obtain ⟨s, hs⟩ : ∃ s, rdN (l.take k) = s := ⟨_, rfl⟩
      obtain ⟨x, hxx⟩ : ∃ x, bz l k = x := ⟨_, rfl⟩
      rw [hs] at hlt2 hst ⊢
      rw [hxx] at q1 hx8 hst
      have hs1 : s < 281474976710656 := by simpa using Nat.lt_of_lt_of_le hlt2 hp
      have hst' := Lib.hid hst
      have hgs := Lib.hid (get_step (s := s) (x := x) (by omega) hx8)
      clear hs hxx hlt2 hp hst
      go_wp2_with fail
      refine ⟨⟨k + 1, by rw [hn'.out]; omega, by go_num, val_int ?_⟩, by simp [intOf]; omega⟩
      rw [hst'.out, ← hgs.out]
    · have hk' := Lib.hid (show l.take k = l from List.take_of_length_le (by rw [hn'.out]; omega))
      go_wp2_with fail
      go_ret
      exact ⟨by rw [hk'.out]; rfl, rfl⟩
end Go.Proofs.Ytkeihpenelpblaa
