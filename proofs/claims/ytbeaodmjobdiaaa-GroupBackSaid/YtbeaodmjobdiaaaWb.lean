/-
  Does a number lie within bounds? Is none there from n on? Those below n, in as few bytes as they take.
-/
import Derived.Test.YtbeaodmjobdiaaaWa
import Derived.Test.YtbeaodmjobdiaaaTe
import Derived.Deep.LoopGhost
namespace Go.Proofs.Ytbeaodmjobdiaaa
open Go.RowKit BigFrame

theorem within_any (x lo hi : Int) (r : Bool) (w : World) (hr : decide (lo ≤ x ∧ x ≤ hi) = r) :
    Calls Try.prog 20 #[.int .i64 x, .int .i64 lo, .int .i64 hi] w fun e w' => e = .returned (.bool r) ∧ w = w' := by
  subst hr
  by_cases h1 : lo ≤ x
  · by_cases h2 : x ≤ hi
    · have e : decide (lo ≤ x ∧ x ≤ hi) = true := by rw [decide_eq_true_eq]; exact ⟨h1, h2⟩
      rw [e]
      go_enter Try.func20, Try.ntmps20
      go_wp2_with fail
      go_ret
      exact ⟨rfl, rfl⟩
    · have e : decide (lo ≤ x ∧ x ≤ hi) = false := by rw [decide_eq_false_iff_not]; exact fun h => h2 h.2
      have t2 : decide (x ≤ hi) = false := by rw [decide_eq_false_iff_not]; exact h2
      rw [e]
      go_enter Try.func20, Try.ntmps20
      go_wp2_with fail
      go_ret
      exact ⟨rfl, rfl⟩
  · have e : decide (lo ≤ x ∧ x ≤ hi) = false := by rw [decide_eq_false_iff_not]; exact fun h => h1 h.1
    have t1 : decide (lo ≤ x) = false := by rw [decide_eq_false_iff_not]; exact h1
    rw [e]
    go_enter Try.func20, Try.ntmps20
    go_wp2_with fail
    go_ret
    exact ⟨rfl, rfl⟩

def EndRel (l : List Nat) (n : Nat) (w : World) (i : Value) (wr : World) : Prop :=
  ∃ k q : Nat, n ≤ k ∧ i = .int .i64 k ∧ wr = w.drewN q ∧ ∀ j, n ≤ j → j < k → hasN l j = false

set_option maxHeartbeats 400000 in
theorem endsAt_any (a : Option Addr) (cap c n : Nat) (l : List Nat) (w : World) (ho : Octs l) (hl : l.length = c) (hc : c ≤ 1000) (_hn : n ≤ 1000) (hx : BAt w a l) :
    Calls Try.prog 24 #[.slice a c cap, .int .i64 (n : Int)] w (Told (.bool (endsN l n)) w) := by
  have ho' := Lib.hid ho
  have hl' := Lib.hid hl
  have hx' := Lib.hid hx
  obtain ⟨E, hE⟩ : ∃ E, endsN l n = E := ⟨_, rfl⟩
  rw [hE]
  have hE' := Lib.hid hE
  clear ho hl hx hE
  go_enter Try.func24, Try.ntmps24
  go_wp2_with fail
  go_loopw [5] (fun i wr => EndRel l n w i wr) (fun i _ => 8 * c - (intOf i).toNat)
  case atStart => exact ⟨n, 0, Nat.le_refl _, rfl, rfl, fun j h1 h2 => by omega⟩
  case round =>
    obtain ⟨k, q, hk, rfl, rfl, heq⟩ := hrel
    have hno := Lib.hid heq
    clear heq
    by_cases hlt : k < 8 * c
    · obtain ⟨r, hr⟩ : ∃ r, hasN l k = r := ⟨_, rfl⟩
      have hr' := Lib.hid hr
      cases r
      · have hend := Lib.hid (fun p => show EndRel l n w (.int .i64 ((k : Int) + 1)) (w.drewN p) from ⟨k + 1, p, by omega, by go_num, rfl, fun j h1 h2 => by
          by_cases e : j = k
          · rw [e]; exact hr
          · exact hno.out j h1 (by omega)⟩)
        clear hr
        go_wp2_with (go_at_call 33; refine (has_is _ _ _ k l _ _ hr'.out ho'.out hl'.out (by omega) hx'.out.drew).mono ?_; rintro e w1 ⟨rfl, q1, rfl⟩)
        exact ⟨hend.out _, by simp [intOf]; omega⟩
      · have hend := Lib.hid (show E = false by rw [← hE'.out]; exact endsN_no hk hr)
        clear hr
        go_wp2_with (go_at_call 33; refine (has_is _ _ _ k l _ _ hr'.out ho'.out hl'.out (by omega) hx'.out.drew).mono ?_; rintro e w1 ⟨rfl, q1, rfl⟩)
        go_ret
        exact ⟨by rw [hend.out]; rfl, _, rfl⟩
    · have hend := Lib.hid (show E = true by
        rw [← hE'.out, endsN_iff]
        intro i hi
        by_cases e : i < k
        · exact hno.out i hi e
        · exact hasN_out (by have := hl'.out; omega))
      go_wp2_with fail
      go_ret
      exact ⟨by rw [hend.out]; rfl, _, rfl⟩
theorem endsAt_c (a : Option Addr) (cap c n : Nat) (K : Int) (r : Bool) (l : List Nat) (w : World) (hr : endsN l n = r) (hK : K = (n : Int)) (ho : Octs l) (hl : l.length = c) (hc : c ≤ 1000) (hn : n ≤ 1000) (hx : BAt w a l) :
    Calls Try.prog 24 #[.slice a c cap, .int .i64 K] w (Told (.bool r) w) := by
  subst hK; subst hr; exact endsAt_any a cap c n l w ho hl hc hn hx

set_option maxHeartbeats 400000 in
theorem cut_any (a : Option Addr) (cap c n m : Nat) (K : Int) (l X : List Nat) (w : World) (hX : reN n l n = X) (hK : K = (n : Int)) (hm : m = (n + 7) / 8) (ho : Octs l) (hl : l.length = c) (hc : c ≤ 1000) (hn : n ≤ 1000) (hx : BAt w a l) :
    Calls Try.prog 26 #[.slice a c cap, .int .i64 K] w (OfPost X m w) := by
  have ho' := Lib.hid ho
  have hl' := Lib.hid hl
  have hx' := Lib.hid hx
  have hX' := Lib.hid hX
  have hm' := Lib.hid hm
  subst hK
  have hcn := countN_le l n
  clear ho hl hx hX hm
  go_enter Try.func26, Try.ntmps26
  go_wp2_with (first
    | (go_at_call 18; refine (all_c _ _ c n _ l _ rfl ho'.out hl'.out (by omega) hx'.out (by omega)).mono ?_; rintro e w1 ⟨v1, rfl, ho1, hb1⟩; obtain ⟨a1, c1, rfl, hI1, _, _, _, _⟩ := ho1.slice; have I1 := Lib.hid hI1; have B1 := Lib.hid hb1; clear hI1 ho1 hb1)
    | (go_at_call 16; refine (of_is _ _ n _ m _ _ X _ hX'.out rfl (by omega) hm'.out (by omega) I1.out).mono ?_; rintro e w2 ⟨g2, rfl, hg2, hr2, hb2⟩; have hend := Lib.hid (show OfPost X m w _ w2 from ⟨g2, rfl, Nat.le_trans B1.out.size hg2, hr2, below_two B1.out hb2⟩); clear hr2 hb2))
  go_ret
  exact hend.out
end Go.Proofs.Ytbeaodmjobdiaaa
