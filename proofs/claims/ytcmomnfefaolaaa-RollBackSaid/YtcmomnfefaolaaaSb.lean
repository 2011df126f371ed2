/-
  What the laws share over bytes: are two lists the same?
-/
import Derived.Test.YtcmomnfefaolaaaAp
import Derived.Test.YtcmomnfefaolaaaTo
namespace Go.Proofs.Ytcmomnfefaolaaa
open Go.RowKit BigFrame

theorem same_len (a b : Option Addr) (c1 c2 n m : Nat) (w : World) (h : n ≠ m) :
    Calls Try.prog 12 #[.slice a n c1, .slice b m c2] w fun e w' => e = .returned (.bool false) ∧ w = w' := by
  have t : ((n : Int) != (m : Int)) = true := by rw [bne_iff_ne]; omega
  go_enter Try.func12, Try.ntmps12
  go_wp2_with fail
  go_ret
  exact ⟨rfl, rfl⟩

def SameRel (l m : List Nat) (w : World) (i : Value) (wr : World) : Prop :=
  ∃ k q : Nat, k ≤ l.length ∧ i = .int .i64 k ∧ wr = w.drewN q ∧ ∀ j, j < k → bz l j = bz m j

set_option maxHeartbeats 400000 in
theorem same_eq (a b : Option Addr) (c1 c2 n : Nat) (l m : List Nat) (w : World) (hl : l.length = n) (hm : m.length = n) (hn : n ≤ 100000) (ha : BAt w a l) (hb : BAt w b m) :
    Calls Try.prog 12 #[.slice a n c1, .slice b n c2] w (Told (.bool (decide (l = m))) w) := by
  have ha' := Lib.hid ha
  have hb' := Lib.hid hb
  have hl' := Lib.hid hl
  have hm' := Lib.hid hm
  have hn' := Lib.hid hn
  clear ha hb hl hm
  go_enter Try.func12, Try.ntmps12
  go_wp2_with fail
  go_loopw [5] (fun i wr => SameRel l m w i wr) (fun i _ => n - (intOf i).toNat)
  case atStart => exact ⟨0, 0, by omega, rfl, rfl, fun j h => by omega⟩
  case round =>
    obtain ⟨k, q, hk, rfl, rfl, heq⟩ := hrel
    rw [hl'.out] at hk
    have heq' := Lib.hid heq
    clear heq
    by_cases hlt : k < n
    · obtain ⟨b1, o1, rfl⟩ := ha'.out.addr (by rw [hl'.out]; omega)
      obtain ⟨b2, o2, rfl⟩ := hb'.out.addr (by rw [hm'.out]; omega)
      have q1 := ha'.out.cell (k := k) (by rw [hl'.out]; omega)
      have q2 := hb'.out.cell (k := k) (by rw [hm'.out]; omega)
      by_cases he : bz l k = bz m k
      · have t : (((bz l k : Nat) : Int) != ((bz m k : Nat) : Int)) = false := by rw [bne_eq_false_iff_eq, he]
        have hend := Lib.hid (fun p => show SameRel l m w (.int .i64 ((k : Int) + 1)) (w.drewN p) from ⟨k + 1, p, by rw [hl'.out]; omega, by go_num, rfl, fun j hj => by
          by_cases e : j = k
          · subst e; exact he
          · exact heq'.out j (by omega)⟩)
        clear he
        go_wp2_with fail
        go_big_quiet (fail)
        go_wp2_with fail
        exact ⟨hend.out _, by simp [intOf]; omega⟩
      · have t : (((bz l k : Nat) : Int) != ((bz m k : Nat) : Int)) = true := by rw [bne_iff_ne]; omega
        have hend := Lib.hid (show decide (l = m) = false by rw [decide_eq_false_iff_not]; intro e; exact he (by rw [e]))
        clear he
        go_wp2_with fail
        go_big_quiet (fail)
        go_wp2_with fail
        go_ret
        exact ⟨by rw [hend.out]; rfl, _, World.drewN_drewN _ _ _⟩
    · have hend := Lib.hid (show decide (l = m) = true by
        rw [decide_eq_true_eq]
        exact bz_ext (by rw [hl'.out, hm'.out]) (fun j hj => heq'.out j (by rw [hl'.out] at hj; omega)))
      go_wp2_with fail
      go_ret
      exact ⟨by rw [hend.out]; rfl, _, rfl⟩
/-- are two lists the same? -/
theorem same_any (a b : Option Addr) (c1 c2 n1 n2 : Nat) (l m : List Nat) (w : World) (hl : l.length = n1) (hm : m.length = n2) (hn : n1 ≤ 100000) (ha : BAt w a l) (hb : BAt w b m) :
    Calls Try.prog 12 #[.slice a n1 c1, .slice b n2 c2] w (Told (.bool (decide (l = m))) w) := by
  by_cases h : n1 = n2
  · subst h; exact same_eq a b c1 c2 n1 l m w hl hm hn ha hb
  · have e : decide (l = m) = false := by rw [decide_eq_false_iff_not]; intro e; rw [e] at hl; omega
    rw [e]
    exact (same_len a b c1 c2 n1 n2 w h).mono fun _ _ ⟨he, hw⟩ => ⟨he, 0, hw.symm⟩
theorem same_same (a b : Option Addr) (c1 c2 n : Nat) (l m : List Nat) (w : World) (hl : l.length = n) (hlm : l = m) (hn : n ≤ 100000) (ha : BAt w a l) (hb : BAt w b m) :
    Calls Try.prog 12 #[.slice a n c1, .slice b n c2] w fun e w' => e = .returned (.bool true) ∧ Below w.heap.size w w' := by
  subst hlm
  refine (same_any a b c1 c2 n n l l w hl hl hn ha hb).mono fun e w' h => ?_
  have := h.below
  rwa [show decide (l = l) = true by simp] at this
theorem same_diff (a b : Option Addr) (c1 c2 n : Nat) (l m : List Nat) (w : World) (hl : l.length = n) (hm : m.length = n) (hlm : l ≠ m) (hn : n ≤ 100000) (ha : BAt w a l) (hb : BAt w b m) :
    Calls Try.prog 12 #[.slice a n c1, .slice b n c2] w fun e w' => e = .returned (.bool false) ∧ Below w.heap.size w w' := by
  refine (same_any a b c1 c2 n n l m w hl hm hn ha hb).mono fun e w' h => ?_
  have := h.below
  rwa [show decide (l = m) = false by simpa using hlm] at this
theorem same_r (a b : Option Addr) (c1 c2 n : Nat) (l m : List Nat) (r : Bool) (w : World) (hl : l.length = n) (hm : m.length = n) (hr : decide (l = m) = r) (hn : n ≤ 100000) (ha : BAt w a l) (hb : BAt w b m) :
    Calls Try.prog 12 #[.slice a n c1, .slice b n c2] w fun e w' => e = .returned (.bool r) ∧ Below w.heap.size w w' := by
  subst hr
  exact (same_any a b c1 c2 n n l m w hl hm hn ha hb).mono fun e w' h => h.below
end Go.Proofs.Ytcmomnfefaolaaa
