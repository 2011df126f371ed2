/-
  May a slot be? Does an entry stand in it?
-/
import Derived.Test.YtpogaognobgfhaaEb
import Derived.Test.YtpogaognobgfhaaEc
import Derived.Test.YtpogaognobgfhaaPk
namespace Go.Proofs.Ytpogaognobgfhaa
open Go.RowKit BigFrame

attribute [local go_sem ↓] ldL_of bdL_of eqL_of
theorem taken_is (s : Slt) (r : Bool) (w : World) (hr : decide (s.ino ≠ 0) = r) :
    Calls Try.prog 38 #[sv s] w (Tells (.bool r) w) := by
  have hV := Vw.alloc w (sc s) 23
  have hb := Lib.hid ((Below.refl w.heap.size w).alloc (Nat.le_refl _) (.cells (sc s).toArray 23))
  have c0 := hV.cell (k := 0) rfl
  have t0 : (s.ino != 0) = r := by
    rw [← hr]
    by_cases h : s.ino = 0
    · rw [h]; rfl
    · rw [decide_eq_true h]; exact bne_iff_ne.2 h
  unfold sv
  clear hr hV
  go_enter Try.func38, Try.ntmps38
  go_wp2_with fail
  go_ret
  exact ⟨rfl, hb.out⟩

set_option maxHeartbeats 1000000 in
theorem slotMay_any (s : Slt) (w : World) : Calls Try.prog 17 #[sv s] w (Tells (.bool (mayS s)) w) := by
  have hV := Lib.hid (Vw.alloc w (sc s) 23)
  have hb := Lib.hid ((Below.refl w.heap.size w).alloc (Nat.le_refl _) (.cells (sc s).toArray 23))
  have c0 := hV.out.cell (k := 0) rfl
  have c1 := hV.out.cell (k := 1) rfl
  have c2 := hV.out.cell (k := 2) rfl
  have hld := run_ldL hV.out.whole
  have hbd := run_bd0L
  have heq := fun w => run_eqL s s0 w
  have hgd := Try.eqGuardL
  by_cases h0 : s = s0
  · have hm := Lib.hid (show mayS s = true by unfold mayS; rw [decide_eq_true h0]; rfl)
    rw [decide_eq_true h0] at heq
    unfold sv at hld hbd heq ⊢
    clear h0
    go_enter Try.func17, Try.ntmps17
    go_wp2_with fail
    go_ret
    exact ⟨by rw [hm.out]; rfl, hb.out⟩
  · have hm := Lib.hid (show mayS s = _ by unfold mayS; rw [decide_eq_false h0, Bool.false_or])
    rw [decide_eq_false h0] at heq
    unfold sv at hld hbd heq ⊢
    clear h0
    obtain ⟨i, hi⟩ : ∃ i, s.ino = i := ⟨_, rfl⟩
    obtain ⟨k, hk⟩ : ∃ k, s.kind = k := ⟨_, rfl⟩
    obtain ⟨n, hn⟩ : ∃ n, s.name = n := ⟨_, rfl⟩
    rw [hi, hk, hn] at hm
    rw [hi] at c0
    rw [hk] at c1
    rw [hn] at c2
    clear hi hk hn
    by_cases h1 : 0 < i
    · rw [decide_eq_true h1, Bool.true_and] at hm
      obtain ⟨r2, h2⟩ : ∃ r, fitsN i 2 = r := ⟨_, rfl⟩
      obtain ⟨r3, h3⟩ : ∃ r, decide (1 ≤ k ∧ k ≤ 3) = r := ⟨_, rfl⟩
      obtain ⟨r4, h4⟩ : ∃ r, nameB (nb n) = r := ⟨_, rfl⟩
      rw [h2, h3, h4] at hm
      have k2 := Lib.hid h2
      have k3 := Lib.hid h3
      have k4 := Lib.hid h4
      clear h2 h3 h4
      cases r2
      · go_enter Try.func17, Try.ntmps17
        go_wp2_with (go_at_call 36; refine (fits_is i 2 2 false _ rfl (by omega) k2.out).mono ?_; rintro e w1 ⟨rfl, rfl⟩)
        go_ret
        exact ⟨by rw [hm.out]; rfl, hb.out⟩
      · cases r3
        · go_enter Try.func17, Try.ntmps17
          go_wp2_with (first | (go_at_call 36; refine (fits_is i 2 2 true _ rfl (by omega) k2.out).mono ?_; rintro e w1 ⟨rfl, rfl⟩) | (go_at_call 37; refine (isKind_is k false _ k3.out).mono ?_; rintro e w1 ⟨rfl, rfl⟩))
          go_ret
          exact ⟨by rw [hm.out]; rfl, hb.out⟩
        · go_enter Try.func17, Try.ntmps17
          go_wp2_with (first | (go_at_call 36; refine (fits_is i 2 2 true _ rfl (by omega) k2.out).mono ?_; rintro e w1 ⟨rfl, rfl⟩) | (go_at_call 37; refine (isKind_is k true _ k3.out).mono ?_; rintro e w1 ⟨rfl, rfl⟩) | (go_at_call 15; refine (name_is n r4 _ k4.out).mono ?_; rintro e w1 ⟨rfl, rfl⟩))
          go_ret
          exact ⟨by rw [hm.out]; rfl, hb.out⟩
    · rw [decide_eq_false h1] at hm
      go_enter Try.func17, Try.ntmps17
      go_wp2_with fail
      go_ret
      exact ⟨by rw [hm.out]; rfl, hb.out⟩
theorem slotMay_is (s : Slt) (r : Bool) (w : World) (hr : mayS s = r) : Calls Try.prog 17 #[sv s] w (Tells (.bool r) w) := by
  subst hr; exact slotMay_any s w
end Go.Proofs.Ytpogaognobgfhaa
