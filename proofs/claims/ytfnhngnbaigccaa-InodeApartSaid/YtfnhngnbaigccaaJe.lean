/-
  May it be? The program's May.
-/
import Derived.Test.YtfnhngnbaigccaaJd
import Derived.Test.YtfnhngnbaigccaaTe
namespace Go.Proofs.Ytfnhngnbaigccaa
open Go.RowKit BigFrame

attribute [local go_sem ↓] ldI_of ldS_of ixS_of bdI_of eqI_of
theorem mayI_zero {l : List Int} (h : l = zz 11) : mayI l = true := by unfold mayI; rw [decide_eq_true h]; rfl
theorem mayI_else {l : List Int} (h : l ≠ zz 11) : mayI l = (decide (1 ≤ zi l 0 ∧ zi l 0 ≤ 3) && (fitsN (zi l 1) 2 && (decide (0 ≤ zi l 2 ∧ zi l 2 ≤ 20736) && ptrsI l))) := by unfold mayI; rw [decide_eq_false h]; rfl
set_option maxHeartbeats 1000000 in
theorem inoMay_any (l : List Int) (w : World) (hl : l.length = 11) :
    Calls Try.prog 19 #[av l] w (Tells (.bool (mayI l)) w) := by
  have hV := Lib.hid (Vi.alloc w l 24)
  have hb := Lib.hid ((Below.refl w.heap.size w).alloc (Nat.le_refl _) (.cells (iv l).toArray 24))
  have c0 := hV.out.cell (k := 0) (by omega)
  have c1 := hV.out.cell (k := 1) (by omega)
  have c2 := hV.out.cell (k := 2) (by omega)
  have hld := run_ldI hV.out.whole hl
  have hbd := run_bd0I
  have heq := fun w => run_eqI l (zz 11) w hl (zz_length 11)
  have hgd := Try.eqGuardI
  have hP := Lib.hid (fun w => pointers_any l w hl)
  unfold av at hld hbd heq hP ⊢
  have hl' := Lib.hid hl
  clear hl
  by_cases h0 : l = zz 11
  · have hm := Lib.hid (mayI_zero h0)
    have hd : decide (l = zz 11) = true := decide_eq_true h0
    rw [hd] at heq
    clear hd h0
    go_enter Try.func19, Try.ntmps19
    go_wp2_with fail
    go_ret
    exact ⟨by rw [hm.out]; rfl, hb.out⟩
  · have hm := Lib.hid (mayI_else h0)
    have hd : decide (l = zz 11) = false := decide_eq_false h0
    rw [hd] at heq
    clear hd h0
    obtain ⟨k, hk⟩ : ∃ k, zi l 0 = k := ⟨_, rfl⟩
    obtain ⟨n, hn⟩ : ∃ n, zi l 1 = n := ⟨_, rfl⟩
    obtain ⟨s, hs⟩ : ∃ s, zi l 2 = s := ⟨_, rfl⟩
    rw [hk, hn, hs] at hm
    rw [hk] at c0
    rw [hn] at c1
    rw [hs] at c2
    clear hk hn hs
    obtain ⟨r1, h1⟩ : ∃ r, decide (1 ≤ k ∧ k ≤ 3) = r := ⟨_, rfl⟩
    obtain ⟨r2, h2⟩ : ∃ r, fitsN n 2 = r := ⟨_, rfl⟩
    obtain ⟨r3, h3⟩ : ∃ r, decide (0 ≤ s ∧ s ≤ 20736) = r := ⟨_, rfl⟩
    obtain ⟨r4, h4⟩ : ∃ r, ptrsI l = r := ⟨_, rfl⟩
    rw [h1, h2, h3, h4] at hm
    rw [h4] at hP
    have k1 := Lib.hid h1
    have k2 := Lib.hid h2
    have k3 := Lib.hid h3
    clear h1 h2 h3 h4
    cases r1
    · go_enter Try.func19, Try.ntmps19
      go_wp2_with (go_at_call 33; refine (isKind_is k false _ k1.out).mono ?_; rintro e w1 ⟨rfl, rfl⟩)
      go_ret
      exact ⟨by rw [hm.out]; rfl, hb.out⟩
    · cases r2
      · go_enter Try.func19, Try.ntmps19
        go_wp2_with (first | (go_at_call 33; refine (isKind_is k true _ k1.out).mono ?_; rintro e w1 ⟨rfl, rfl⟩) | (go_at_call 34; refine (fits_is n 2 2 false _ rfl (by omega) k2.out).mono ?_; rintro e w1 ⟨rfl, rfl⟩))
        go_ret
        exact ⟨by rw [hm.out]; rfl, hb.out⟩
      · cases r3
        · go_enter Try.func19, Try.ntmps19
          go_wp2_with (first | (go_at_call 33; refine (isKind_is k true _ k1.out).mono ?_; rintro e w1 ⟨rfl, rfl⟩) | (go_at_call 34; refine (fits_is n 2 2 true _ rfl (by omega) k2.out).mono ?_; rintro e w1 ⟨rfl, rfl⟩) | (go_at_call 35; refine (isSize_is s false _ k3.out).mono ?_; rintro e w1 ⟨rfl, rfl⟩))
          go_ret
          exact ⟨by rw [hm.out]; rfl, hb.out⟩
        · go_enter Try.func19, Try.ntmps19
          go_wp2_with (first | (go_at_call 33; refine (isKind_is k true _ k1.out).mono ?_; rintro e w1 ⟨rfl, rfl⟩) | (go_at_call 34; refine (fits_is n 2 2 true _ rfl (by omega) k2.out).mono ?_; rintro e w1 ⟨rfl, rfl⟩) | (go_at_call 35; refine (isSize_is s true _ k3.out).mono ?_; rintro e w1 ⟨rfl, rfl⟩) | (go_at_call 36; refine (hP.out _).mono ?_; rintro e w1 ⟨rfl, hb1⟩; have hB := Lib.hid (below_two hb.out hb1); clear hb1))
          go_ret
          exact ⟨by rw [hm.out]; rfl, hB.out⟩
theorem inoMay_is (l : List Int) (r : Bool) (w : World) (hl : l.length = 11) (hr : mayI l = r) :
    Calls Try.prog 19 #[av l] w (Tells (.bool r) w) := by
  subst hr; exact inoMay_any l w hl
end Go.Proofs.Ytfnhngnbaigccaa
