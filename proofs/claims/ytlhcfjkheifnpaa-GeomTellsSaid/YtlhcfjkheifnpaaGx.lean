/-
  Where things stand, by the document's own answer: whether a geometry may be, how many there are, the sector of a group's bits, its first block.
-/
import Derived.Test.YtlhcfjkheifnpaaGf
namespace Go.Proofs.Ytlhcfjkheifnpaa
open Go.RowKit BigFrame

set_option maxHeartbeats 1000000 in
theorem refMay_is (g i b : Int) (r : Bool) (w : World) (hr : mayZ g i b = r) :
    Calls Try.prog 13 #[geo g i b] w (Tells (.bool r) w) := by
  have hr' := Lib.hid hr
  clear hr
  unfold geo
  by_cases h0 : (1 ≤ g)
  · have d0 : decide (1 ≤ g) = true := decide_eq_true h0
    by_cases h1 : (g ≤ 8)
    · have d1 : decide (g ≤ 8) = true := decide_eq_true h1
      by_cases h2 : (4 ≤ i)
      · have d2 : decide (4 ≤ i) = true := decide_eq_true h2
        by_cases h3 : (i ≤ 32)
        · have d3 : decide (i ≤ 32) = true := decide_eq_true h3
          obtain ⟨n, rfl⟩ : ∃ n : Nat, i = (n : Int) := ⟨i.toNat, by omega⟩
          by_cases h4 : ((n : Int) % 4 = 0)
          · have d4 : decide ((n : Int) % 4 = 0) = true := decide_eq_true h4
            by_cases h5 : (16 ≤ b)
            · have d5 : decide (16 ≤ b) = true := decide_eq_true h5
              by_cases h6 : (b ≤ 96)
              · have d6 : decide (b ≤ 96) = true := decide_eq_true h6
                go_enter Try.func13, Try.ntmps13
                go_wp2_with fail
                go_ret
                exact ⟨ret_bl ((decide_eq_true (by omega)).symm.trans hr'.out), (Below.refl _ _).alloc (Nat.le_refl _) _⟩
              · have d6 : decide (b ≤ 96) = false := decide_eq_false h6
                go_enter Try.func13, Try.ntmps13
                go_wp2_with fail
                go_ret
                exact ⟨ret_bl ((decide_eq_false (by omega)).symm.trans hr'.out), (Below.refl _ _).alloc (Nat.le_refl _) _⟩
            · have d5 : decide (16 ≤ b) = false := decide_eq_false h5
              go_enter Try.func13, Try.ntmps13
              go_wp2_with fail
              go_ret
              exact ⟨ret_bl ((decide_eq_false (by omega)).symm.trans hr'.out), (Below.refl _ _).alloc (Nat.le_refl _) _⟩
          · have d4 : decide ((n : Int) % 4 = 0) = false := decide_eq_false h4
            go_enter Try.func13, Try.ntmps13
            go_wp2_with fail
            go_ret
            exact ⟨ret_bl ((decide_eq_false (by omega)).symm.trans hr'.out), (Below.refl _ _).alloc (Nat.le_refl _) _⟩
        · have d3 : decide (i ≤ 32) = false := decide_eq_false h3
          go_enter Try.func13, Try.ntmps13
          go_wp2_with fail
          go_ret
          exact ⟨ret_bl ((decide_eq_false (by omega)).symm.trans hr'.out), (Below.refl _ _).alloc (Nat.le_refl _) _⟩
      · have d2 : decide (4 ≤ i) = false := decide_eq_false h2
        go_enter Try.func13, Try.ntmps13
        go_wp2_with fail
        go_ret
        exact ⟨ret_bl ((decide_eq_false (by omega)).symm.trans hr'.out), (Below.refl _ _).alloc (Nat.le_refl _) _⟩
    · have d1 : decide (g ≤ 8) = false := decide_eq_false h1
      go_enter Try.func13, Try.ntmps13
      go_wp2_with fail
      go_ret
      exact ⟨ret_bl ((decide_eq_false (by omega)).symm.trans hr'.out), (Below.refl _ _).alloc (Nat.le_refl _) _⟩
  · have d0 : decide (1 ≤ g) = false := decide_eq_false h0
    go_enter Try.func13, Try.ntmps13
    go_wp2_with fail
    go_ret
    exact ⟨ret_bl ((decide_eq_false (by omega)).symm.trans hr'.out), (Below.refl _ _).alloc (Nat.le_refl _) _⟩

theorem long_any (g : Int) (i b : Nat) (w : World) (hi : i ≤ 1000) (hb : b ≤ 1000) :
    Calls Try.prog 29 #[geo g i b] w (Tells (.int .i64 ((spanN i b : Nat) : Int)) w) := by
  unfold geo spanN
  go_enter Try.func29, Try.ntmps29
  go_wp2_with fail
  go_ret
  exact ⟨ret_int (by omega), (Below.refl _ _).alloc (Nat.le_refl _) _⟩
theorem refSectors_no (G I B : Int) (w : World) (h : mayZ G I B = false) :
    Calls Try.prog 15 #[geo G I B] w (Tells (.int .i64 0) w) := by
  have h' := Lib.hid h
  clear h
  unfold geo
  go_enter Try.func15, Try.ntmps15
  go_wp2_with (go_at_call 13; refine (refMay_is _ _ _ false _ h'.out).mono ?_; rintro e w1 ⟨rfl, hb⟩; have hb' := Lib.hid hb; clear hb)
  go_ret
  exact ⟨rfl, below_box hb'.out⟩
set_option maxHeartbeats 1000000 in
theorem refSectors_ok (g i b : Nat) (w : World) (h : Ok g i b) :
    Calls Try.prog 15 #[geo g i b] w (Tells (.int .i64 ((2 + g * spanN i b : Nat) : Int)) w) := by
  have hi : i ≤ 32 := h.i2
  have hbb : b ≤ 96 := h.b2
  have hg : g ≤ 8 := h.g2
  have hp : ((g : Int) * ((spanN i b : Nat) : Int)) ≤ 840 ∧ 0 ≤ ((g : Int) * ((spanN i b : Nat) : Int)) := mul_bd hg (spanN_le h)
  have h' := Lib.hid h.may
  clear h
  unfold geo
  go_enter Try.func15, Try.ntmps15
  go_wp2_with (go_at_call 13; refine (refMay_is _ _ _ true _ h'.out).mono ?_; rintro e w1 ⟨rfl, hb⟩; obtain ⟨c0, c1, c2, hlt⟩ := box_on hb (boxAt_alloc w g i b 23); have hb' := Lib.hid (below_box hb); clear hb)
  go_region_held3 (fun w' => w'.cell? ⟨w.heap.size, 0, none⟩ = some (.int .i64 (g : Int)) ∧ w'.cell? ⟨w.heap.size, 1, none⟩ = some (.int .i64 (i : Int)) ∧ w'.cell? ⟨w.heap.size, 2, none⟩ = some (.int .i64 (b : Int))) (first | exact ⟨c0, c1, c2⟩ | exact ⟨l0, l1, l2⟩) (first | (go_at_call 29; refine (long_any _ i b _ (by omega) (by omega)).mono ?_; rintro e w2 ⟨rfl, hd⟩; obtain ⟨l0, l1, l2, hlt2⟩ := box_on hd ⟨c0, c1, c2, hlt⟩; have hd' := Lib.hid (below_two hb'.out.drew hd); clear hd))
  go_wp2_with fail
  go_ret
  exact ⟨ret_int (by rw [wrap_in (n := (g : Int) * ((spanN i b : Nat) : Int)) (by omega), wrap_in (by omega)]; simp), hd'.out⟩
theorem refInodes_no (G I B : Int) (w : World) (h : mayZ G I B = false) :
    Calls Try.prog 17 #[geo G I B] w (Tells (.int .i64 0) w) := by
  have h' := Lib.hid h
  clear h
  unfold geo
  go_enter Try.func17, Try.ntmps17
  go_wp2_with (go_at_call 13; refine (refMay_is _ _ _ false _ h'.out).mono ?_; rintro e w1 ⟨rfl, hb⟩; have hb' := Lib.hid hb; clear hb)
  go_ret
  exact ⟨rfl, below_box hb'.out⟩
theorem refInodes_ok (g i b : Nat) (w : World) (h : Ok g i b) :
    Calls Try.prog 17 #[geo g i b] w (Tells (.int .i64 (((g * i : Nat) : Nat) : Int)) w) := by
  have hi : i ≤ 32 := h.i2
  have hbb : b ≤ 96 := h.b2
  have hg : g ≤ 8 := h.g2
  have hp : ((g : Int) * ((spanN i b : Nat) : Int)) ≤ 840 ∧ 0 ≤ ((g : Int) * ((spanN i b : Nat) : Int)) := mul_bd hg (spanN_le h)
  have hq : ((g : Int) * (i : Int)) ≤ 256 ∧ 0 ≤ ((g : Int) * (i : Int)) := mul_bd hg hi
  have hr : ((g : Int) * (b : Int)) ≤ 768 ∧ 0 ≤ ((g : Int) * (b : Int)) := mul_bd hg hbb
  have h' := Lib.hid h.may
  clear h
  unfold geo
  go_enter Try.func17, Try.ntmps17
  go_wp2_with (first
    | (go_at_call 13; refine (refMay_is _ _ _ true _ h'.out).mono ?_; rintro e w1 ⟨rfl, hb⟩; obtain ⟨c0, c1, c2, hlt⟩ := box_on hb (boxAt_alloc w g i b 23); have hb' := Lib.hid (below_box hb); clear hb))
  go_ret
  exact ⟨ret_int (by simp), hb'.out⟩
theorem refBlocks_no (G I B : Int) (w : World) (h : mayZ G I B = false) :
    Calls Try.prog 19 #[geo G I B] w (Tells (.int .i64 0) w) := by
  have h' := Lib.hid h
  clear h
  unfold geo
  go_enter Try.func19, Try.ntmps19
  go_wp2_with (go_at_call 13; refine (refMay_is _ _ _ false _ h'.out).mono ?_; rintro e w1 ⟨rfl, hb⟩; have hb' := Lib.hid hb; clear hb)
  go_ret
  exact ⟨rfl, below_box hb'.out⟩
theorem refBlocks_ok (g i b : Nat) (w : World) (h : Ok g i b) :
    Calls Try.prog 19 #[geo g i b] w (Tells (.int .i64 (((g * b : Nat) : Nat) : Int)) w) := by
  have hi : i ≤ 32 := h.i2
  have hbb : b ≤ 96 := h.b2
  have hg : g ≤ 8 := h.g2
  have hp : ((g : Int) * ((spanN i b : Nat) : Int)) ≤ 840 ∧ 0 ≤ ((g : Int) * ((spanN i b : Nat) : Int)) := mul_bd hg (spanN_le h)
  have hq : ((g : Int) * (i : Int)) ≤ 256 ∧ 0 ≤ ((g : Int) * (i : Int)) := mul_bd hg hi
  have hr : ((g : Int) * (b : Int)) ≤ 768 ∧ 0 ≤ ((g : Int) * (b : Int)) := mul_bd hg hbb
  have h' := Lib.hid h.may
  clear h
  unfold geo
  go_enter Try.func19, Try.ntmps19
  go_wp2_with (first
    | (go_at_call 13; refine (refMay_is _ _ _ true _ h'.out).mono ?_; rintro e w1 ⟨rfl, hb⟩; obtain ⟨c0, c1, c2, hlt⟩ := box_on hb (boxAt_alloc w g i b 23); have hb' := Lib.hid (below_box hb); clear hb))
  go_ret
  exact ⟨ret_int (by simp), hb'.out⟩

theorem refGroup_no (G I B k : Int) (w : World) (h : mayZ G I B = false) :
    Calls Try.prog 21 #[geo G I B, .int .i64 k] w (Tells (.int .i64 (-1)) w) := by
  have h' := Lib.hid h
  clear h
  unfold geo
  go_enter Try.func21, Try.ntmps21
  go_wp2_with (go_at_call 13; refine (refMay_is _ _ _ false _ h'.out).mono ?_; rintro e w1 ⟨rfl, hb⟩; have hb' := Lib.hid hb; clear hb)
  go_ret
  exact ⟨rfl, below_box hb'.out⟩
theorem refGroup_out (g i b : Nat) (k : Int) (w : World) (h : Ok g i b) (hk : k < 0 ∨ (g : Int) ≤ k) :
    Calls Try.prog 21 #[geo g i b, .int .i64 k] w (Tells (.int .i64 (-1)) w) := by
  have h' := Lib.hid h.may
  clear h
  unfold geo
  by_cases hk0 : k < 0
  · have d0 : decide (k < 0) = true := decide_eq_true hk0
    go_enter Try.func21, Try.ntmps21
    go_wp2_with (go_at_call 13; refine (refMay_is _ _ _ true _ h'.out).mono ?_; rintro e w1 ⟨rfl, hb⟩; obtain ⟨c0, c1, c2, hlt⟩ := box_on hb (boxAt_alloc w g i b 23); have hb' := Lib.hid (below_box hb); clear hb)
    go_ret
    exact ⟨rfl, hb'.out⟩
  · have d0 : decide (k < 0) = false := decide_eq_false hk0
    have d1 : decide ((g : Int) ≤ k) = true := decide_eq_true (by omega)
    go_enter Try.func21, Try.ntmps21
    go_wp2_with (go_at_call 13; refine (refMay_is _ _ _ true _ h'.out).mono ?_; rintro e w1 ⟨rfl, hb⟩; obtain ⟨c0, c1, c2, hlt⟩ := box_on hb (boxAt_alloc w g i b 23); have hb' := Lib.hid (below_box hb); clear hb)
    go_ret
    exact ⟨rfl, hb'.out⟩
set_option maxHeartbeats 1000000 in
theorem refGroup_in (g i b k : Nat) (w : World) (h : Ok g i b) (hk : k < g) :
    Calls Try.prog 21 #[geo g i b, .int .i64 k] w (Tells (.int .i64 ((2 + k * spanN i b : Nat) : Int)) w) := by
  have hi : i ≤ 32 := h.i2
  have hbb : b ≤ 96 := h.b2
  have hg : g ≤ 8 := h.g2
  have hp : ((k : Int) * ((spanN i b : Nat) : Int)) ≤ 840 ∧ 0 ≤ ((k : Int) * ((spanN i b : Nat) : Int)) := mul_bd (show k ≤ 8 by omega) (spanN_le h)
  have d0 : decide ((k : Int) < 0) = false := decide_eq_false (by omega)
  have d1 : decide ((g : Int) ≤ k) = false := decide_eq_false (by omega)
  have h' := Lib.hid h.may
  clear h
  unfold geo
  go_enter Try.func21, Try.ntmps21
  go_wp2_with (first
    | (go_at_call 13; refine (refMay_is _ _ _ true _ h'.out).mono ?_; rintro e w1 ⟨rfl, hb⟩; obtain ⟨c0, c1, c2, hlt⟩ := box_on hb (boxAt_alloc w g i b 23); have hb' := Lib.hid (below_box hb); clear hb)
    | (go_at_call 29; refine (long_any _ i b _ (by omega) (by omega)).mono ?_; rintro e w2 ⟨rfl, hd⟩; have hd' := Lib.hid (below_two hb'.out hd); clear hd))
  go_ret
  exact ⟨ret_int (by simp), hd'.out⟩


theorem refFirst_no (G I B k : Int) (w : World) (h : mayZ G I B = false) :
    Calls Try.prog 23 #[geo G I B, .int .i64 k] w (Tells (.int .i64 (-1)) w) := by
  have h' := Lib.hid h
  clear h
  unfold geo
  go_enter Try.func23, Try.ntmps23
  go_wp2_with (go_at_call 21; refine (refGroup_no _ _ _ _ _ h'.out).mono ?_; rintro e w1 ⟨rfl, hb⟩; have hb' := Lib.hid hb; clear hb)
  go_ret
  exact ⟨rfl, below_box hb'.out⟩
theorem refFirst_out (g i b : Nat) (k : Int) (w : World) (h : Ok g i b) (hk : k < 0 ∨ (g : Int) ≤ k) :
    Calls Try.prog 23 #[geo g i b, .int .i64 k] w (Tells (.int .i64 (-1)) w) := by
  have h' := Lib.hid h
  clear h
  unfold geo
  go_enter Try.func23, Try.ntmps23
  go_wp2_with (go_at_call 21; refine (refGroup_out _ _ _ _ _ h'.out hk).mono ?_; rintro e w1 ⟨rfl, hb⟩; have hb' := Lib.hid hb; clear hb)
  go_ret
  exact ⟨rfl, below_box hb'.out⟩
set_option maxHeartbeats 1000000 in
theorem refFirst_in (g i b k : Nat) (w : World) (h : Ok g i b) (hk : k < g) :
    Calls Try.prog 23 #[geo g i b, .int .i64 k] w (Tells (.int .i64 ((firstN i b k : Nat) : Int)) w) := by
  have hi : i ≤ 32 := h.i2
  have hbb : b ≤ 96 := h.b2
  have hg : g ≤ 8 := h.g2
  obtain ⟨P, hP⟩ : ∃ P, P = 2 + k * spanN i b := ⟨_, rfl⟩
  have hq : P ≤ 1000 := by have := Nat.mul_le_mul (show k ≤ 8 by omega) (spanN_le h); omega
  have h' := Lib.hid h
  have hP' := Lib.hid hP
  clear h hP
  unfold geo
  go_enter Try.func23, Try.ntmps23
  go_wp2_with (first
    | (go_at_call 21; refine (refGroup_in _ i b k _ h'.out hk).mono ?_; rw [← hP'.out]; rintro e w1 ⟨rfl, hb⟩; obtain ⟨c0, c1, c2, hlt⟩ := box_on hb (boxAt_alloc w g i b 23); have hb' := Lib.hid (below_box hb); clear hb))
  go_region_held3 (fun w' => w'.cell? ⟨w.heap.size, 0, none⟩ = some (.int .i64 (g : Int)) ∧ w'.cell? ⟨w.heap.size, 1, none⟩ = some (.int .i64 (i : Int)) ∧ w'.cell? ⟨w.heap.size, 2, none⟩ = some (.int .i64 (b : Int))) (first | exact ⟨c0, c1, c2⟩ | exact ⟨l0, l1, l2⟩) (first | (go_at_call 21; refine (refGroup_in _ i b k _ h'.out hk).mono ?_; rw [← hP'.out]; rintro e w2 ⟨rfl, hd⟩; obtain ⟨l0, l1, l2, hlt2⟩ := box_on hd ⟨c0, c1, c2, hlt⟩; have hd' := Lib.hid (below_two hb'.out.drew hd); clear hd))
  go_wp2_with fail
  go_ret
  have e1 := wrap_in (n := (i : Int) / 4) (by omega)
  have e2 := wrap_in (n := (P : Int) + 1) (by omega)
  have e3 := wrap_in (n := (P : Int) + 1 + (i : Int) / 4) (by omega)
  exact ⟨ret_int (by rw [e2, e1, e3]; have := hP'.out; unfold firstN at *; omega), hd'.out⟩
end Go.Proofs.Ytlhcfjkheifnpaa
