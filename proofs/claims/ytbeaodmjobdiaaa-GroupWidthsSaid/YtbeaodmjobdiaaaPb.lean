/-
  Are bytes zeros?
-/
import Derived.Test.YtbeaodmjobdiaaaRw
namespace Go.Proofs.Ytbeaodmjobdiaaa
open Go.RowKit BigFrame

def blanked (m : List Nat) : Bool := decide (m = zs m.length)
def BlankRel (l : List Nat) (i : Value) : Prop := ∃ k : Nat, k ≤ l.length ∧ i = .int .i64 k ∧ ∀ j, j < k → bz l j = 0
theorem blanked_yes {l : List Nat} (h : ∀ j, j < l.length → bz l j = 0) : blanked l = true := by
  unfold blanked
  rw [decide_eq_true_eq]
  refine bz_ext (zs_length _).symm fun k hk => ?_
  rw [h k hk]
  exact (bz_rep _ _ _ hk).symm
theorem blanked_no {l : List Nat} {k : Nat} (hk : k < l.length) (h : bz l k ≠ 0) : blanked l = false := by
  unfold blanked
  rw [decide_eq_false_iff_not]
  intro e
  have e2 := congrArg (fun m => bz m k) e
  exact h (e2.trans (bz_rep _ _ _ hk))

set_option maxHeartbeats 400000 in
theorem blank_any (a : Option Addr) (cap n : Nat) (l : List Nat) (w : World) (hn : l.length = n) (hl : n ≤ 100000) (hx : BAt w a l) :
    Calls Try.prog 25 #[.slice a n cap] w fun e w' => e = .returned (.bool (blanked l)) ∧ w = w' := by
  have hx' := Lib.hid hx
  have hn' := Lib.hid hn
  clear hx hn
  go_enter Try.func25, Try.ntmps25
  go_wp2_with fail
  go_loop [7] (fun i => BlankRel l i) (fun i => n - (intOf i).toNat)
  case atStart => exact ⟨0, by omega, rfl, fun j h => by omega⟩
  case round =>
    obtain ⟨k, hk, rfl, heq⟩ := hrel
    rw [hn'.out] at hk
    have heq' := Lib.hid heq
    clear heq
    by_cases hlt : k < n
    · obtain ⟨b, off, rfl⟩ := hx'.out.addr (by rw [hn'.out]; omega)
      have q1 := hx'.out.cell (k := k) (by rw [hn'.out]; omega)
      by_cases he : bz l k = 0
      · have hend := Lib.hid (show BlankRel l (.int .i64 ((k : Int) + 1)) from ⟨k + 1, by rw [hn'.out]; omega, by go_num, fun j hj => by
          by_cases e : j = k
          · subst e; exact he
          · exact heq'.out j (by omega)⟩)
        rw [he] at q1
        clear he
        go_wp2_with fail
        exact ⟨hend.out, by simp [intOf]; omega⟩
      · have hend := Lib.hid (blanked_no (l := l) (by rw [hn'.out]; exact hlt) he)
        have t : (((bz l k : Nat) : Int) != 0) = true := by rw [bne_iff_ne]; omega
        clear he
        go_wp2_with fail
        go_ret
        exact ⟨by rw [hend.out]; rfl, rfl⟩
    · have hend := Lib.hid (blanked_yes (l := l) (fun j hj => heq'.out j (by rw [hn'.out] at hj; omega)))
      go_wp2_with fail
      go_ret
      exact ⟨by rw [hend.out]; rfl, rfl⟩
end Go.Proofs.Ytbeaodmjobdiaaa
