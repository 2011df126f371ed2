/-
  The document's own: may a slot be?
-/
import Derived.Test.YtpogaognobgfhaaEl
import Derived.Test.YtpogaognobgfhaaEc
namespace Go.Proofs.Ytpogaognobgfhaa
open Go.RowKit BigFrame

attribute [local go_sem ↓] ldL_of bdL_of eqL_of
set_option maxHeartbeats 1000000 in
theorem refMay_any (s : Slt) (w : World) : Calls Try.prog 18 #[sv s] w (Tells (.bool (mayS s)) w) := by
  have hV := Lib.hid (Vw.alloc w (sc s) 23)
  have hb := Lib.hid ((Below.refl w.heap.size w).alloc (Nat.le_refl _) (.cells (sc s).toArray 23))
  have c0 := hV.out.cell (k := 0) rfl
  have c1 := hV.out.cell (k := 1) rfl
  have c2 := hV.out.cell (k := 2) rfl
  have hld := run_ldL hV.out.whole
  have hbd := run_bd0L
  have heq := fun w => run_eqL s s0 w
  have hgd := Try.eqGuardL
  by_cases h0 : s = s0
  · have hm := Lib.hid (show mayS s = true by unfold mayS; rw [decide_eq_true h0]; rfl)
    rw [decide_eq_true h0] at heq
    unfold sv at hld hbd heq ⊢
    clear h0
    go_enter Try.func18, Try.ntmps18
    go_wp2_with fail
    go_ret
    exact ⟨by rw [hm.out]; rfl, hb.out⟩
  · have hm := Lib.hid (show mayS s = (decide (0 < s.ino) && (fitsN s.ino 2 && (decide (1 ≤ s.kind ∧ s.kind ≤ 3) && nameB (nb s.name)))) by unfold mayS; rw [decide_eq_false h0, Bool.false_or])
    rw [decide_eq_false h0] at heq
    unfold sv at hld hbd heq ⊢
    clear h0
    obtain ⟨i, hi⟩ : ∃ i, s.ino = i := ⟨_, rfl⟩
    obtain ⟨k, hk⟩ : ∃ k, s.kind = k := ⟨_, rfl⟩
    obtain ⟨n, hn⟩ : ∃ n, s.name = n := ⟨_, rfl⟩
    rw [hi, hk, hn] at hm
    rw [hi] at c0
    rw [hk] at c1
    rw [hn] at c2
    clear hi hk hn
    by_cases h1 : 1 ≤ i
    · by_cases h2 : i ≤ 65535
      · have hf : fitsN i 2 = true := by unfold fitsN; exact decide_eq_true ⟨by omega, by show i < 65536; omega⟩
        rw [decide_eq_true (show 0 < i by omega), hf, Bool.true_and, Bool.true_and] at hm
        clear hf
        by_cases h3 : 1 ≤ k
        · by_cases h4 : k ≤ 3
          · rw [decide_eq_true (And.intro h3 h4), Bool.true_and] at hm
            go_enter Try.func18, Try.ntmps18
            go_wp2_with (go_at_call 16; refine (refName_is n _ _ rfl).mono ?_; rw [← hm.out]; rintro e w1 ⟨rfl, rfl⟩)
            go_ret
            exact ⟨rfl, hb.out⟩
          · rw [decide_eq_false (fun h => h4 h.2)] at hm
            go_enter Try.func18, Try.ntmps18
            go_wp2_with fail
            go_ret
            exact ⟨by rw [hm.out]; rfl, hb.out⟩
        · rw [decide_eq_false (fun h => h3 h.1)] at hm
          go_enter Try.func18, Try.ntmps18
          go_wp2_with fail
          go_ret
          exact ⟨by rw [hm.out]; rfl, hb.out⟩
      · have hf : fitsN i 2 = false := by unfold fitsN; exact decide_eq_false (fun h => by have := h.2; have e : (256 ^ 2 : Nat) = 65536 := rfl; omega)
        rw [hf] at hm
        have hv := Lib.hid (hm.out.trans (by simp : _ = false))
        clear hf
        go_enter Try.func18, Try.ntmps18
        go_wp2_with fail
        go_ret
        exact ⟨by rw [hv.out]; rfl, hb.out⟩
    · rw [decide_eq_false (show ¬ 0 < i by omega)] at hm
      go_enter Try.func18, Try.ntmps18
      go_wp2_with fail
      go_ret
      exact ⟨by rw [hm.out]; rfl, hb.out⟩
theorem refMay_is (s : Slt) (r : Bool) (w : World) (hr : mayS s = r) : Calls Try.prog 18 #[sv s] w (Tells (.bool r) w) := by
  subst hr; exact refMay_any s w
end Go.Proofs.Ytpogaognobgfhaa
