/-
  The least number that is not there.
-/
import Derived.Test.YtdkjmpicdkfgoaaHas
namespace Go.Proofs.Ytdkjmpicdkfgoaa
open Go.RowKit BigFrame

/-- r is the least of k to below n that is not there, or -1 -/
def IsFirst (l : List Nat) (k n : Nat) (r : Int) : Prop :=
  (∃ j : Nat, r = (j : Int) ∧ k ≤ j ∧ j < n ∧ hasN l j = false ∧ ∀ i, k ≤ i → i < j → hasN l i = true) ∨ (r = -1 ∧ ∀ i, k ≤ i → i < n → hasN l i = true)

def FirstRel (l : List Nat) (k n : Nat) (w : World) (i : Value) (wr : World) : Prop :=
  ∃ j q : Nat, k ≤ j ∧ (j ≤ n ∨ j = k) ∧ i = .int .i64 j ∧ wr = w.drewN q ∧ ∀ i, k ≤ i → i < j → hasN l i = true
def FirstPost (l : List Nat) (k n : Nat) (w : World) (e : Ending) (w' : World) : Prop := ∃ r, IsFirst l k n r ∧ e = .returned (.int .i64 r) ∧ ∃ m, w' = w.drewN m

set_option maxHeartbeats 400000 in
theorem first_any (a : Option Addr) (cap n k m : Nat) (l : List Nat) (w : World) (ho : Octs l) (hl : l.length = n) (hn : n ≤ 1000000) (hx : BAt w a l) (hk : k ≤ 4611686018427387904) (hm : m ≤ 4611686018427387904) :
    Calls Try.prog 68 #[.slice a n cap, .int .i64 (k : Int), .int .i64 (m : Int)] w (FirstPost l k m w) := by
  have ho' := Lib.hid ho
  have hl' := Lib.hid hl
  have hx' := Lib.hid hx
  clear ho hl hx
  go_enter Try.func68, Try.ntmps68
  go_wp2_with fail
  go_loopw [7] (fun i wr => FirstRel l k m w i wr) (fun i _ => m - (intOf i).toNat)
  case atStart => exact ⟨k, 0, by omega, .inr rfl, rfl, rfl, fun i h1 h2 => by omega⟩
  case round =>
    obtain ⟨j, q, hkj, hj, rfl, rfl, hb⟩ := hrel
    have hb' := Lib.hid hb
    clear hb
    by_cases hlt : j < m
    · obtain ⟨r, hr⟩ : ∃ r, hasN l j = r := ⟨_, rfl⟩
      have hr' := Lib.hid hr
      clear hr
      cases r
      · go_wp2_with (go_at_call 70; refine (has_is _ _ _ j l _ _ hr'.out ho'.out hl'.out hn hx'.out.drew).mono ?_; rintro e w1 ⟨rfl, q1, rfl⟩)
        go_ret
        exact ⟨j, .inl ⟨j, rfl, hkj, hlt, hr'.out, hb'.out⟩, rfl, _, rfl⟩
      · go_wp2_with (go_at_call 70; refine (has_is _ _ _ j l _ _ hr'.out ho'.out hl'.out hn hx'.out.drew).mono ?_; rintro e w1 ⟨rfl, q1, rfl⟩)
        exact ⟨⟨j + 1, q + q1, by omega, .inl (by omega), by go_num, rfl, fun i h1 h2 => by
          by_cases e : i = j
          · rw [e]; exact hr'.out
          · exact hb'.out i h1 (by omega)⟩, by simp [intOf]; omega⟩
    · go_wp2_with fail
      go_ret
      exact ⟨-1, .inr ⟨rfl, fun i h1 h2 => hb'.out i h1 (by omega)⟩, rfl, _, rfl⟩
theorem IsFirst.unique {l : List Nat} {k n : Nat} {r s : Int} (h : IsFirst l k n r) (h2 : IsFirst l k n s) : r = s := by
  rcases h with ⟨j, rfl, h1, h2a, h3, h4⟩ | ⟨rfl, h1⟩
  · rcases h2 with ⟨j2, rfl, g1, g2, g3, g4⟩ | ⟨rfl, g1⟩
    · by_cases e : j < j2
      · have := g4 j h1 e; rw [h3] at this; cases this
      · by_cases e2 : j2 < j
        · have := h4 j2 g1 e2; rw [g3] at this; cases this
        · omega
    · have := g1 j h1 h2a; rw [h3] at this; cases this
  · rcases h2 with ⟨j2, rfl, g1, g2, g3, g4⟩ | ⟨rfl, g1⟩
    · have := h1 j2 g1 g2; rw [g3] at this; cases this
    · rfl
theorem first_c (a : Option Addr) (cap n k m : Nat) (K M : Int) (l : List Nat) (w : World) (hK : K = (k : Int)) (hM : M = (m : Int)) (ho : Octs l) (hl : l.length = n) (hn : n ≤ 1000000) (hx : BAt w a l) (hk : k ≤ 4611686018427387904) (hm : m ≤ 4611686018427387904) :
    Calls Try.prog 68 #[.slice a n cap, .int .i64 K, .int .i64 M] w (FirstPost l k m w) := by
  subst hK; subst hM
  exact first_any a cap n k m l w ho hl hn hx hk hm
/-- the least number that is not there, where it is known -/
theorem first_is (a : Option Addr) (cap n k m : Nat) (K M : Int) (r : Int) (l : List Nat) (w : World) (hr : IsFirst l k m r) (hK : K = (k : Int)) (hM : M = (m : Int)) (ho : Octs l) (hl : l.length = n) (hn : n ≤ 1000000) (hx : BAt w a l) (hk : k ≤ 4611686018427387904) (hm : m ≤ 4611686018427387904) :
    Calls Try.prog 68 #[.slice a n cap, .int .i64 K, .int .i64 M] w (Told (.int .i64 r) w) := by
  subst hK; subst hM
  refine (first_any a cap n k m l w ho hl hn hx hk hm).mono fun e w' ⟨r2, h2, he, hw⟩ => ?_
  rw [hr.unique h2]
  exact ⟨he, hw⟩
end Go.Proofs.Ytdkjmpicdkfgoaa
