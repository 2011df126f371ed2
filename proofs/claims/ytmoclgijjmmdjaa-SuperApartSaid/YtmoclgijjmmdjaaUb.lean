/-
  Do bytes begin with the letters?
-/
import Derived.Test.YtmoclgijjmmdjaaUa
namespace Go.Proofs.Ytmoclgijjmmdjaa
open Go.RowKit BigFrame

def letter (k : Nat) : Nat := bz [80, 82, 76, 1] k
def HeadRel (l : List Nat) (w : World) (i : Value) (wr : World) : Prop :=
  ∃ k q : Nat, k ≤ 4 ∧ i = .int .i64 k ∧ wr = w.drewN q ∧ ∀ j, j < k → bz l j = letter j
theorem headed_yes {l : List Nat} (hl : 4 ≤ l.length) (h : ∀ j, j < 4 → bz l j = letter j) : headed l = true := by
  unfold headed
  rw [decide_eq_true_eq]
  refine bz_ext (by simp; omega) fun k hk => ?_
  rw [List.length_take] at hk
  rw [bz_take (by omega)]
  exact h k (by omega)
theorem headed_no {l : List Nat} {k : Nat} (hk : k < 4) (h : bz l k ≠ letter k) : headed l = false := by
  unfold headed
  rw [decide_eq_false_iff_not]
  intro e
  have := congrArg (fun m => bz m k) e
  simp only [bz_take hk] at this
  exact h this

set_option maxHeartbeats 400000 in
theorem begins_any (b off cap n : Nat) (l : List Nat) (w : World) (hn : l.length = n) (h4 : 4 ≤ n) (hx : BAt w (some ⟨b, off, none⟩) l) :
    Calls Try.prog 21 #[.slice (some ⟨b, off, none⟩) n cap] w (Told (.bool (headed l)) w) := by
  have hx' := Lib.hid hx
  have hn' := Lib.hid hn
  clear hx hn
  go_enter Try.func21, Try.ntmps21
  go_wp2_with fail
  go_loopw [4] (fun i wr => HeadRel l w i wr) (fun i _ => 4 - (intOf i).toNat)
  case atStart => exact ⟨0, 0, by omega, rfl, rfl, fun j h => by omega⟩
  case round =>
    obtain ⟨k, q, hk, rfl, rfl, heq⟩ := hrel
    have heq' := Lib.hid heq
    clear heq
    by_cases hlt : k < 4
    · have q1 := hx'.out.cell (k := k) (by rw [hn'.out]; omega)
      by_cases he : bz l k = letter k
      · have hend := Lib.hid (fun p => show HeadRel l w (.int .i64 ((k : Int) + 1)) (w.drewN p) from ⟨k + 1, p, by omega, by go_num, rfl, fun j hj => by
          by_cases e : j = k
          · subst e; exact he
          · exact heq'.out j (by omega)⟩)
        rw [he] at q1
        clear he
        have h4k : k = 0 ∨ k = 1 ∨ k = 2 ∨ k = 3 := by omega
        rcases h4k with rfl | rfl | rfl | rfl
        all_goals
          simp [letter, bz] at q1
          go_wp2_with fail
          go_big_quiet (fail)
          go_wp2_with fail
          exact ⟨hend.out _, by simp [intOf]⟩
      · have hend := Lib.hid (headed_no hlt he)
        obtain ⟨x, hxe⟩ : ∃ x, x = bz l k := ⟨_, rfl⟩
        rw [← hxe] at q1 he
        have h4k : k = 0 ∨ k = 1 ∨ k = 2 ∨ k = 3 := by omega
        clear hxe
        rcases h4k with rfl | rfl | rfl | rfl
        all_goals
          first
            | have t : ((x : Int) != 80) = true := by (rw [bne_iff_ne]; intro h; exact he (by show x = 80; omega))
            | have t : ((x : Int) != 82) = true := by (rw [bne_iff_ne]; intro h; exact he (by show x = 82; omega))
            | have t : ((x : Int) != 76) = true := by (rw [bne_iff_ne]; intro h; exact he (by show x = 76; omega))
            | have t : ((x : Int) != 1) = true := by (rw [bne_iff_ne]; intro h; exact he (by show x = 1; omega))
          try simp at q1
          go_wp2_with fail
          go_big_quiet (fail)
          go_wp2_with fail
          all_goals first
            | (rename_i hf; exact absurd (t.symm.trans hf) (by decide))
            | (go_ret; exact ⟨by rw [hend.out]; rfl, _, World.drewN_drewN _ _ _⟩)
    · have hend := Lib.hid (headed_yes (l := l) (by rw [hn'.out]; omega) (fun j hj => heq'.out j (by omega)))
      go_wp2_with fail
      go_ret
      exact ⟨by rw [hend.out]; rfl, _, rfl⟩
end Go.Proofs.Ytmoclgijjmmdjaa
