/-
  May it be? The document's own answer.
-/
import Derived.Test.YtfnhngnbaigccaaJe
namespace Go.Proofs.Ytfnhngnbaigccaa
open Go.RowKit BigFrame

theorem word_is (n : Int) (r : Bool) (w : World) (hr : fitsN n 2 = r) :
    Calls Try.prog 37 #[.int .i64 n] w fun e w' => e = .returned (.bool r) ∧ w = w' := by
  have e2 : ((256 ^ 2 : Nat) : Int) = 65536 := rfl
  unfold fitsN at hr
  rw [e2] at hr
  by_cases h1 : 0 ≤ n
  · by_cases h2 : n ≤ 65535
    · obtain rfl : r = true := by rw [← hr]; exact decide_eq_true ⟨h1, by omega⟩
      clear hr
      go_enter Try.func37, Try.ntmps37
      go_wp2_with fail
      go_ret
      exact ⟨rfl, rfl⟩
    · obtain rfl : r = false := by rw [← hr]; exact decide_eq_false (by omega)
      clear hr
      go_enter Try.func37, Try.ntmps37
      go_wp2_with fail
      go_ret
      exact ⟨rfl, rfl⟩
  · obtain rfl : r = false := by rw [← hr]; exact decide_eq_false (by omega)
    clear hr
    go_enter Try.func37, Try.ntmps37
    go_wp2_with fail
    go_ret
    exact ⟨rfl, rfl⟩

theorem may_ptrs_no {l : List Int} (h0 : l ≠ zz 11) (h : ptrsI l = false) : mayI l = false := by rw [mayI_else h0, h]; simp
attribute [local go_sem ↓] ldI_of bdI_of eqI_of
set_option maxHeartbeats 1000000 in
theorem refInoMay_any (l : List Int) (w : World) (hl : l.length = 11) :
    Calls Try.prog 20 #[av l] w (Tells (.bool (mayI l)) w) := by
  have hV := Lib.hid (Vi.alloc w l 24)
  have hb := Lib.hid ((Below.refl w.heap.size w).alloc (Nat.le_refl _) (.cells (iv l).toArray 24))
  have hld := run_ldI hV.out.whole hl
  have hbd := run_bd0I
  have heq := fun w => run_eqI l (zz 11) w hl (zz_length 11)
  have hgd := Try.eqGuardI
  unfold av at hld hbd heq ⊢
  have hl' := Lib.hid hl
  clear hl
  obtain ⟨R, hR⟩ : ∃ R, mayI l = R := ⟨_, rfl⟩
  rw [hR]
  by_cases h0 : l = zz 11
  · obtain rfl : R = true := by rw [← hR]; exact mayI_zero h0
    have hd : decide (l = zz 11) = true := decide_eq_true h0
    rw [hd] at heq
    clear hd h0 hR
    go_enter Try.func20, Try.ntmps20
    go_wp2_with fail
    go_ret
    exact ⟨rfl, hb.out⟩
  · have hm := Lib.hid (mayI_else h0)
    have hpn := Lib.hid (may_ptrs_no h0)
    have hd : decide (l = zz 11) = false := decide_eq_false h0
    rw [hd] at heq
    rw [hR] at hm hpn
    clear hd h0 hR
    go_enter Try.func20, Try.ntmps20
    go_wp2_with fail
    go_loop [3] (fun i => PtrRel l i) (fun i => 6 - (intOf i).toNat)
    case atStart => exact ⟨0, by omega, rfl, fun j hj => by omega⟩
    case round =>
      obtain ⟨k, hk, rfl, hp⟩ := hrel
      have hp' := Lib.hid hp
      clear hp
      by_cases hlt : k < 6
      · have c1 := hV.out.cell (k := 3 + k) (by rw [hl'.out]; omega)
        obtain ⟨p, hpe⟩ : ∃ p, zi l (3 + k) = p := ⟨_, rfl⟩
        rw [hpe] at c1
        have hpe' := Lib.hid hpe
        clear hpe
        cases hf0 : fitsN p 2
        · have hf := Lib.hid hf0
          obtain rfl : R = false := hpn.out (ptrs_no hlt (by rw [hpe'.out]; exact hf0))
          clear hf0
          go_wp2_with (go_at_call 37; refine (word_is p false _ hf.out).mono ?_; rintro e w1 ⟨rfl, rfl⟩)
          go_ret
          exact ⟨rfl, hb.out⟩
        · have hf := Lib.hid hf0
          have hend := Lib.hid (show PtrRel l (.int .i64 ((k : Int) + 1)) from ⟨k + 1, by omega, by go_num, fun j hj => by
            by_cases e : j = k
            · subst e; rw [hpe'.out]; exact hf0
            · exact hp'.out j (by omega)⟩)
          clear hf0
          go_wp2_with (go_at_call 37; refine (word_is p true _ hf.out).mono ?_; rintro e w1 ⟨rfl, rfl⟩)
          exact ⟨hend.out, by simp [intOf]; omega⟩
      · obtain rfl : k = 6 := by omega
        have hpy := Lib.hid (ptrs_yes hp'.out)
        have c0 := hV.out.cell (k := 0) (by rw [hl'.out]; omega)
        have c1 := hV.out.cell (k := 1) (by rw [hl'.out]; omega)
        have c2 := hV.out.cell (k := 2) (by rw [hl'.out]; omega)
        have c9 := hV.out.cell (k := 9) (by rw [hl'.out]; omega)
        have c10 := hV.out.cell (k := 10) (by rw [hl'.out]; omega)
        rw [hpy.out] at hm
        obtain ⟨a, ha⟩ : ∃ a, zi l 0 = a := ⟨_, rfl⟩
        obtain ⟨n, hn⟩ : ∃ n, zi l 1 = n := ⟨_, rfl⟩
        obtain ⟨s, hs⟩ : ∃ s, zi l 2 = s := ⟨_, rfl⟩
        obtain ⟨x, hx⟩ : ∃ x, zi l 9 = x := ⟨_, rfl⟩
        obtain ⟨y, hy⟩ : ∃ y, zi l 10 = y := ⟨_, rfl⟩
        rw [ha, hn, hs, hx, hy] at hm
        rw [ha] at c0
        rw [hn] at c1
        rw [hs] at c2
        rw [hx] at c9
        rw [hy] at c10
        clear ha hn hs hx hy
        by_cases t1 : 1 ≤ a
        · by_cases t2 : a ≤ 3
          · have hk := decide_eq_true (show 1 ≤ a ∧ a ≤ 3 from ⟨t1, t2⟩)
            rw [hk, Bool.true_and] at hm
            clear hk
            cases f1 : fitsN n 2
            · obtain rfl : R = false := by rw [hm.out, f1]; rfl
              have g1 := Lib.hid f1
              clear f1
              go_wp2_with (go_at_call_of 37 n; refine (word_is n false _ g1.out).mono ?_; rintro e w1 ⟨rfl, rfl⟩)
              go_ret
              exact ⟨rfl, hb.out⟩
            · have g1 := Lib.hid f1
              rw [f1, Bool.true_and] at hm
              clear f1
              by_cases t3 : 0 ≤ s
              · by_cases t4 : s ≤ 20736
                · have hk := decide_eq_true (show 0 ≤ s ∧ s ≤ 20736 from ⟨t3, t4⟩)
                  rw [hk, Bool.true_and] at hm
                  clear hk
                  cases f2 : fitsN x 2
                  · obtain rfl : R = false := by rw [hm.out, f2]; rfl
                    have g2 := Lib.hid f2
                    clear f2
                    go_wp2_with (first
                      | (go_at_call_of 37 n; refine (word_is n true _ g1.out).mono ?_; rintro e w1 ⟨rfl, rfl⟩)
                      | (go_at_call_of 37 x; refine (word_is x false _ g2.out).mono ?_; rintro e w1 ⟨rfl, rfl⟩))
                    go_ret
                    exact ⟨rfl, hb.out⟩
                  · have g2 := Lib.hid f2
                    obtain ⟨r, hr⟩ : ∃ r, fitsN y 2 = r := ⟨_, rfl⟩
                    have g3 := Lib.hid hr
                    obtain rfl : R = r := by rw [hm.out, f2, hr]; rfl
                    clear f2 hr
                    go_wp2_with (first
                      | (go_at_call_of 37 n; refine (word_is n true _ g1.out).mono ?_; rintro e w1 ⟨rfl, rfl⟩)
                      | (go_at_call_of 37 x; refine (word_is x true _ g2.out).mono ?_; rintro e w1 ⟨rfl, rfl⟩)
                      | (go_at_call_of 37 y; refine (word_is y R _ g3.out).mono ?_; rintro e w1 ⟨rfl, rfl⟩))
                    go_ret
                    exact ⟨rfl, hb.out⟩
                · obtain rfl : R = false := by rw [hm.out, decide_eq_false (show ¬ (0 ≤ s ∧ s ≤ 20736) by omega)]; rfl
                  go_wp2_with (go_at_call_of 37 n; refine (word_is n true _ g1.out).mono ?_; rintro e w1 ⟨rfl, rfl⟩)
                  go_ret
                  exact ⟨rfl, hb.out⟩
              · obtain rfl : R = false := by rw [hm.out, decide_eq_false (show ¬ (0 ≤ s ∧ s ≤ 20736) by omega)]; rfl
                go_wp2_with (go_at_call_of 37 n; refine (word_is n true _ g1.out).mono ?_; rintro e w1 ⟨rfl, rfl⟩)
                go_ret
                exact ⟨rfl, hb.out⟩
          · obtain rfl : R = false := by rw [hm.out, decide_eq_false (show ¬ (1 ≤ a ∧ a ≤ 3) by omega)]; rfl
            go_wp2_with fail
            go_ret
            exact ⟨rfl, hb.out⟩
        · obtain rfl : R = false := by rw [hm.out, decide_eq_false (show ¬ (1 ≤ a ∧ a ≤ 3) by omega)]; rfl
          go_wp2_with fail
          go_ret
          exact ⟨rfl, hb.out⟩
theorem refInoMay_is (l : List Int) (r : Bool) (w : World) (hl : l.length = 11) (hr : mayI l = r) :
    Calls Try.prog 20 #[av l] w (Tells (.bool r) w) := by
  subst hr; exact refInoMay_any l w hl
end Go.Proofs.Ytfnhngnbaigccaa
