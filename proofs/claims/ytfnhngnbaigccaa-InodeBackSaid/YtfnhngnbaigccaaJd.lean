/-
  May it be? The program's answer.
-/
import Derived.Test.YtfnhngnbaigccaaJb
import Derived.Test.YtfnhngnbaigccaaPk
import Derived.Deep.LoopGhost
namespace Go.Proofs.Ytfnhngnbaigccaa
open Go.RowKit BigFrame

theorem isSize_is (n : Int) (r : Bool) (w : World) (hr : decide (0 ≤ n ∧ n ≤ 20736) = r) :
    Calls Try.prog 35 #[.int .i64 n] w fun e w' => e = .returned (.bool r) ∧ w = w' := by
  by_cases h1 : 0 ≤ n
  · by_cases h2 : n ≤ 20736
    · obtain rfl : r = true := by rw [← hr]; exact decide_eq_true ⟨h1, h2⟩
      clear hr
      go_enter Try.func35, Try.ntmps35
      go_wp2_with fail
      go_ret
      exact ⟨rfl, rfl⟩
    · obtain rfl : r = false := by rw [← hr]; exact decide_eq_false (by omega)
      clear hr
      go_enter Try.func35, Try.ntmps35
      go_wp2_with fail
      go_ret
      exact ⟨rfl, rfl⟩
  · obtain rfl : r = false := by rw [← hr]; exact decide_eq_false (by omega)
    clear hr
    go_enter Try.func35, Try.ntmps35
    go_wp2_with fail
    go_ret
    exact ⟨rfl, rfl⟩
attribute [local go_sem ↓] ldI_of ldS_of ixS_of bdI_of eqI_of
def PtrRel (l : List Int) (i : Value) : Prop := ∃ k : Nat, k ≤ 6 ∧ i = .int .i64 k ∧ ∀ j, j < k → fitsN (zi l (3 + j)) 2 = true
theorem ptrs_yes {l : List Int} (h : ∀ j, j < 6 → fitsN (zi l (3 + j)) 2 = true) : ptrsI l = (fitsN (zi l 9) 2 && fitsN (zi l 10) 2) := by
  have : (List.range 6).all (fun j => fitsN (zi l (3 + j)) 2) = true := by rw [List.all_eq_true]; simpa using h
  unfold ptrsI; rw [this]; rfl
theorem ptrs_no {l : List Int} {j : Nat} (hj : j < 6) (h : fitsN (zi l (3 + j)) 2 = false) : ptrsI l = false := by
  have : (List.range 6).all (fun j => fitsN (zi l (3 + j)) 2) = false := by rw [List.all_eq_false]; exact ⟨j, by simpa using hj, by simp [h]⟩
  unfold ptrsI; rw [this]; rfl
set_option maxHeartbeats 1000000 in
theorem pointers_any (l : List Int) (w : World) (hl : l.length = 11) :
    Calls Try.prog 36 #[av l] w (fun e w' => e = .returned (.bool (ptrsI l)) ∧ Below w.heap.size w w') := by
  have hV := Vi.alloc w l 24
  have hb := Lib.hid ((Below.refl w.heap.size w).alloc (Nat.le_refl _) (.cells (iv l).toArray 24))
  have c9 := hV.cell (k := 9) (by omega)
  have c10 := hV.cell (k := 10) (by omega)
  have hld := run_ldS (hV.range 3 6) (by rw [List.length_take, List.length_drop]; omega)
  obtain ⟨D, hD⟩ : ∃ D, (l.drop 3).take 6 = D := ⟨_, rfl⟩
  rw [hD] at hld
  have hDl := Lib.hid (show D.length = 6 by rw [← hD, List.length_take, List.length_drop]; omega)
  have hDz := Lib.hid (show ∀ k, k < 6 → zi D k = zi l (3 + k) from fun k hk => by rw [← hD, zi_take hk, zi_drop])
  clear hD hV
  unfold av at hld ⊢
  go_enter Try.func36, Try.ntmps36
  go_wp2_with fail
  go_loop [7] (fun i => PtrRel l i) (fun i => 6 - (intOf i).toNat)
  case atStart => exact ⟨0, by omega, rfl, fun j hj => by omega⟩
  case round =>
    obtain ⟨k, hk, rfl, hp⟩ := hrel
    have hp' := Lib.hid hp
    clear hp
    by_cases hlt : k < 6
    · have hix := fun w => run_ixS w D k hlt hDl.out
      rw [hDz.out k hlt] at hix
      unfold av at hix
      obtain ⟨p, hpe⟩ : ∃ p, zi l (3 + k) = p := ⟨_, rfl⟩
      rw [hpe] at hix
      have hpe' := Lib.hid hpe
      clear hpe
      cases hf0 : fitsN p 2
      · have hf := Lib.hid hf0
        have hend := Lib.hid (ptrs_no hlt (by rw [hpe'.out]; exact hf0))
        clear hf0
        go_wp2_with (go_at_call 34; refine (fits_is p 2 2 false _ rfl (by omega) hf.out).mono ?_; rintro e w1 ⟨rfl, rfl⟩)
        go_ret
        exact ⟨by rw [hend.out]; rfl, hb.out⟩
      · have hf := Lib.hid hf0
        have hend := Lib.hid (show PtrRel l (.int .i64 ((k : Int) + 1)) from ⟨k + 1, by omega, by go_num, fun j hj => by
          by_cases e : j = k
          · subst e; rw [hpe'.out]; exact hf0
          · exact hp'.out j (by omega)⟩)
        clear hf0
        go_wp2_with (go_at_call 34; refine (fits_is p 2 2 true _ rfl (by omega) hf.out).mono ?_; rintro e w1 ⟨rfl, rfl⟩)
        exact ⟨hend.out, by simp [intOf]; omega⟩
    · obtain rfl : k = 6 := by omega
      have hpy := Lib.hid (ptrs_yes hp'.out)
      obtain ⟨s, hs⟩ : ∃ s, zi l 9 = s := ⟨_, rfl⟩
      obtain ⟨d, hd⟩ : ∃ d, zi l 10 = d := ⟨_, rfl⟩
      rw [hs, hd] at hpy
      rw [hs] at c9
      rw [hd] at c10
      clear hs hd
      cases hf0 : fitsN s 2
      · have hf := Lib.hid hf0
        have hend := Lib.hid (show ptrsI l = false by rw [hpy.out, hf0]; rfl)
        clear hf0
        go_wp2_with (go_at_call_of 34 s; refine (fits_is s 2 2 false _ rfl (by omega) hf.out).mono ?_; rintro e w1 ⟨rfl, rfl⟩)
        go_ret
        exact ⟨by rw [hend.out]; rfl, hb.out⟩
      · have hf := Lib.hid hf0
        cases hg0 : fitsN d 2
        all_goals
          have hg := Lib.hid hg0
          have hend := Lib.hid (show ptrsI l = _ by rw [hpy.out, hf0, hg0])
          clear hf0 hg0
          go_wp2_with (first | (go_at_call_of 34 s; refine (fits_is s 2 2 true _ rfl (by omega) hf.out).mono ?_; rintro e w1 ⟨rfl, rfl⟩) | (go_at_call_of 34 d; refine (fits_is d 2 2 _ _ rfl (by omega) hg.out).mono ?_; rintro e w1 ⟨rfl, rfl⟩))
          go_ret
          exact ⟨by rw [hend.out]; rfl, hb.out⟩
end Go.Proofs.Ytfnhngnbaigccaa
