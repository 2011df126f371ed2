/-
  Where things stand: how many there are in all; the sector of a group's bits, its first block.
-/
import Derived.Test.YtdkjmpicdkfgoaaGz
import Derived.Deep.RegionHeld3
import Derived.Deep.RegionWith
import Derived.Deep.DrawnRows
namespace Go.Proofs.Ytdkjmpicdkfgoaa
open Go.RowKit BigFrame

theorem spanN_le {g i b : Nat} (h : Ok g i b) : spanN i b ≤ 105 := by
  have h1 := h.i2
  have h2 := h.b2
  unfold spanN; omega
theorem mul_bd {g x G X : Nat} (hg : g ≤ G) (hx : x ≤ X) : ((g : Int) * (x : Int)) ≤ ((G * X : Nat) : Int) ∧ 0 ≤ ((g : Int) * (x : Int)) := by
  have h := Nat.mul_le_mul hg hx
  have e : ((g : Int) * (x : Int)) = ((g * x : Nat) : Int) := by simp
  omega

theorem sectors_no (G I B : Int) (w : World) (h : mayZ G I B = false) :
    Calls Try.prog 21 #[geo G I B] w (Tells (.int .i64 0) w) := by
  have h' := Lib.hid h
  clear h
  unfold geo
  go_enter Try.func21, Try.ntmps21
  go_wp2_with (go_at_call 30; refine (may_is _ _ _ false _ h'.out).mono ?_; rintro e w1 ⟨rfl, hb⟩; have hb' := Lib.hid hb; clear hb)
  go_ret
  exact ⟨rfl, below_box hb'.out⟩
set_option maxHeartbeats 1000000 in
theorem sectors_ok (g i b : Nat) (w : World) (h : Ok g i b) :
    Calls Try.prog 21 #[geo g i b] w (Tells (.int .i64 ((2 + g * spanN i b : Nat) : Int)) w) := by
  have hi : i ≤ 32 := h.i2
  have hbb : b ≤ 96 := h.b2
  have hg : g ≤ 8 := h.g2
  have hp : ((g : Int) * ((spanN i b : Nat) : Int)) ≤ 840 ∧ 0 ≤ ((g : Int) * ((spanN i b : Nat) : Int)) := mul_bd hg (spanN_le h)
  have h' := Lib.hid h.may
  clear h
  unfold geo
  go_enter Try.func21, Try.ntmps21
  go_wp2_with (go_at_call 30; refine (may_is _ _ _ true _ h'.out).mono ?_; rintro e w1 ⟨rfl, hb⟩; obtain ⟨c0, c1, c2, hlt⟩ := box_on hb (boxAt_alloc w g i b 23); have hb' := Lib.hid (below_box hb); clear hb)
  go_region_held3 (fun w' => w'.cell? ⟨w.heap.size, 0, none⟩ = some (.int .i64 (g : Int)) ∧ w'.cell? ⟨w.heap.size, 1, none⟩ = some (.int .i64 (i : Int)) ∧ w'.cell? ⟨w.heap.size, 2, none⟩ = some (.int .i64 (b : Int))) (first | exact ⟨c0, c1, c2⟩ | exact ⟨l0, l1, l2⟩) (first | (go_at_call 48; refine (span_any _ i b _ (by omega) (by omega)).mono ?_; rintro e w2 ⟨rfl, hd⟩; obtain ⟨l0, l1, l2, hlt2⟩ := box_on hd ⟨c0, c1, c2, hlt⟩; have hd' := Lib.hid (below_two hb'.out.drew hd); clear hd))
  go_wp2_with fail
  go_ret
  exact ⟨ret_int (by rw [wrap_in (n := (g : Int) * ((spanN i b : Nat) : Int)) (by omega), wrap_in (by omega)]; simp), hd'.out⟩
theorem inodes_no (G I B : Int) (w : World) (h : mayZ G I B = false) :
    Calls Try.prog 20 #[geo G I B] w (Tells (.int .i64 0) w) := by
  have h' := Lib.hid h
  clear h
  unfold geo
  go_enter Try.func20, Try.ntmps20
  go_wp2_with (go_at_call 30; refine (may_is _ _ _ false _ h'.out).mono ?_; rintro e w1 ⟨rfl, hb⟩; have hb' := Lib.hid hb; clear hb)
  go_ret
  exact ⟨rfl, below_box hb'.out⟩
theorem inodes_ok (g i b : Nat) (w : World) (h : Ok g i b) :
    Calls Try.prog 20 #[geo g i b] w (Tells (.int .i64 (((g * i : Nat) : Nat) : Int)) w) := by
  have hi : i ≤ 32 := h.i2
  have hbb : b ≤ 96 := h.b2
  have hg : g ≤ 8 := h.g2
  have hp : ((g : Int) * ((spanN i b : Nat) : Int)) ≤ 840 ∧ 0 ≤ ((g : Int) * ((spanN i b : Nat) : Int)) := mul_bd hg (spanN_le h)
  have hq : ((g : Int) * (i : Int)) ≤ 256 ∧ 0 ≤ ((g : Int) * (i : Int)) := mul_bd hg hi
  have hr : ((g : Int) * (b : Int)) ≤ 768 ∧ 0 ≤ ((g : Int) * (b : Int)) := mul_bd hg hbb
  have h' := Lib.hid h.may
  clear h
  unfold geo
  go_enter Try.func20, Try.ntmps20
  go_wp2_with (first
    | (go_at_call 30; refine (may_is _ _ _ true _ h'.out).mono ?_; rintro e w1 ⟨rfl, hb⟩; obtain ⟨c0, c1, c2, hlt⟩ := box_on hb (boxAt_alloc w g i b 23); have hb' := Lib.hid (below_box hb); clear hb))
  go_ret
  exact ⟨ret_int (by simp), hb'.out⟩
theorem blocks_no (G I B : Int) (w : World) (h : mayZ G I B = false) :
    Calls Try.prog 22 #[geo G I B] w (Tells (.int .i64 0) w) := by
  have h' := Lib.hid h
  clear h
  unfold geo
  go_enter Try.func22, Try.ntmps22
  go_wp2_with (go_at_call 30; refine (may_is _ _ _ false _ h'.out).mono ?_; rintro e w1 ⟨rfl, hb⟩; have hb' := Lib.hid hb; clear hb)
  go_ret
  exact ⟨rfl, below_box hb'.out⟩
theorem blocks_ok (g i b : Nat) (w : World) (h : Ok g i b) :
    Calls Try.prog 22 #[geo g i b] w (Tells (.int .i64 (((g * b : Nat) : Nat) : Int)) w) := by
  have hi : i ≤ 32 := h.i2
  have hbb : b ≤ 96 := h.b2
  have hg : g ≤ 8 := h.g2
  have hp : ((g : Int) * ((spanN i b : Nat) : Int)) ≤ 840 ∧ 0 ≤ ((g : Int) * ((spanN i b : Nat) : Int)) := mul_bd hg (spanN_le h)
  have hq : ((g : Int) * (i : Int)) ≤ 256 ∧ 0 ≤ ((g : Int) * (i : Int)) := mul_bd hg hi
  have hr : ((g : Int) * (b : Int)) ≤ 768 ∧ 0 ≤ ((g : Int) * (b : Int)) := mul_bd hg hbb
  have h' := Lib.hid h.may
  clear h
  unfold geo
  go_enter Try.func22, Try.ntmps22
  go_wp2_with (first
    | (go_at_call 30; refine (may_is _ _ _ true _ h'.out).mono ?_; rintro e w1 ⟨rfl, hb⟩; obtain ⟨c0, c1, c2, hlt⟩ := box_on hb (boxAt_alloc w g i b 23); have hb' := Lib.hid (below_box hb); clear hb))
  go_ret
  exact ⟨ret_int (by simp), hb'.out⟩

theorem group_no (G I B k : Int) (w : World) (h : mayZ G I B = false) :
    Calls Try.prog 55 #[geo G I B, .int .i64 k] w (Tells (.int .i64 (-1)) w) := by
  have h' := Lib.hid h
  clear h
  unfold geo
  go_enter Try.func55, Try.ntmps55
  go_wp2_with (go_at_call 30; refine (may_is _ _ _ false _ h'.out).mono ?_; rintro e w1 ⟨rfl, hb⟩; have hb' := Lib.hid hb; clear hb)
  go_ret
  exact ⟨rfl, below_box hb'.out⟩
theorem group_out (g i b : Nat) (k : Int) (w : World) (h : Ok g i b) (hk : k < 0 ∨ (g : Int) ≤ k) :
    Calls Try.prog 55 #[geo g i b, .int .i64 k] w (Tells (.int .i64 (-1)) w) := by
  have h' := Lib.hid h.may
  clear h
  unfold geo
  by_cases hk0 : k < 0
  · have d0 : decide (k < 0) = true := decide_eq_true hk0
    go_enter Try.func55, Try.ntmps55
    go_wp2_with (go_at_call 30; refine (may_is _ _ _ true _ h'.out).mono ?_; rintro e w1 ⟨rfl, hb⟩; obtain ⟨c0, c1, c2, hlt⟩ := box_on hb (boxAt_alloc w g i b 23); have hb' := Lib.hid (below_box hb); clear hb)
    go_ret
    exact ⟨rfl, hb'.out⟩
  · have d0 : decide (k < 0) = false := decide_eq_false hk0
    have d1 : decide ((g : Int) ≤ k) = true := decide_eq_true (by omega)
    go_enter Try.func55, Try.ntmps55
    go_wp2_with (go_at_call 30; refine (may_is _ _ _ true _ h'.out).mono ?_; rintro e w1 ⟨rfl, hb⟩; obtain ⟨c0, c1, c2, hlt⟩ := box_on hb (boxAt_alloc w g i b 23); have hb' := Lib.hid (below_box hb); clear hb)
    go_ret
    exact ⟨rfl, hb'.out⟩
set_option maxHeartbeats 1000000 in
theorem group_in (g i b k : Nat) (w : World) (h : Ok g i b) (hk : k < g) :
    Calls Try.prog 55 #[geo g i b, .int .i64 k] w (Tells (.int .i64 ((2 + k * spanN i b : Nat) : Int)) w) := by
  have hi : i ≤ 32 := h.i2
  have hbb : b ≤ 96 := h.b2
  have hg : g ≤ 8 := h.g2
  have hp : ((k : Int) * ((spanN i b : Nat) : Int)) ≤ 840 ∧ 0 ≤ ((k : Int) * ((spanN i b : Nat) : Int)) := mul_bd (show k ≤ 8 by omega) (spanN_le h)
  have d0 : decide ((k : Int) < 0) = false := decide_eq_false (by omega)
  have d1 : decide ((g : Int) ≤ k) = false := decide_eq_false (by omega)
  have h' := Lib.hid h.may
  clear h
  unfold geo
  go_enter Try.func55, Try.ntmps55
  go_wp2_with (first
    | (go_at_call 30; refine (may_is _ _ _ true _ h'.out).mono ?_; rintro e w1 ⟨rfl, hb⟩; obtain ⟨c0, c1, c2, hlt⟩ := box_on hb (boxAt_alloc w g i b 23); have hb' := Lib.hid (below_box hb); clear hb)
    | (go_at_call 48; refine (span_any _ i b _ (by omega) (by omega)).mono ?_; rintro e w2 ⟨rfl, hd⟩; have hd' := Lib.hid (below_two hb'.out hd); clear hd))
  go_ret
  exact ⟨ret_int (by simp), hd'.out⟩

theorem first_no (G I B k : Int) (w : World) (h : mayZ G I B = false) :
    Calls Try.prog 29 #[geo G I B, .int .i64 k] w (Tells (.int .i64 (-1)) w) := by
  have h' := Lib.hid h
  clear h
  unfold geo
  go_enter Try.func29, Try.ntmps29
  go_wp2_with (go_at_call 55; refine (group_no _ _ _ _ _ h'.out).mono ?_; rintro e w1 ⟨rfl, hb⟩; have hb' := Lib.hid hb; clear hb)
  go_ret
  exact ⟨rfl, below_box hb'.out⟩
theorem first_out (g i b : Nat) (k : Int) (w : World) (h : Ok g i b) (hk : k < 0 ∨ (g : Int) ≤ k) :
    Calls Try.prog 29 #[geo g i b, .int .i64 k] w (Tells (.int .i64 (-1)) w) := by
  have h' := Lib.hid h
  clear h
  unfold geo
  go_enter Try.func29, Try.ntmps29
  go_wp2_with (go_at_call 55; refine (group_out _ _ _ _ _ h'.out hk).mono ?_; rintro e w1 ⟨rfl, hb⟩; have hb' := Lib.hid hb; clear hb)
  go_ret
  exact ⟨rfl, below_box hb'.out⟩
/-- the first block of group k -/
def firstN (i b k : Nat) : Nat := 3 + i / 4 + k * spanN i b
set_option maxHeartbeats 1000000 in
theorem first_in (g i b k : Nat) (w : World) (h : Ok g i b) (hk : k < g) :
    Calls Try.prog 29 #[geo g i b, .int .i64 k] w (Tells (.int .i64 ((firstN i b k : Nat) : Int)) w) := by
  have hi : i ≤ 32 := h.i2
  have hbb : b ≤ 96 := h.b2
  have hg : g ≤ 8 := h.g2
  obtain ⟨P, hP⟩ : ∃ P, P = 2 + k * spanN i b := ⟨_, rfl⟩
  have hq : P ≤ 1000 := by have := Nat.mul_le_mul (show k ≤ 8 by omega) (spanN_le h); omega
  have hs := spanN_le h
  have h' := Lib.hid h
  have hP' := Lib.hid hP
  clear h hP
  unfold geo
  go_enter Try.func29, Try.ntmps29
  go_wp2_with (first
    | (go_at_call 55; refine (group_in _ i b k _ h'.out hk).mono ?_; rw [← hP'.out]; rintro e w1 ⟨rfl, hb⟩; obtain ⟨c0, c1, c2, hlt⟩ := box_on hb (boxAt_alloc w g i b 23); have hb' := Lib.hid (below_box hb); clear hb)
    | (go_at_call 48; refine (span_any _ i b _ (by omega) (by omega)).mono ?_; rintro e w2 ⟨rfl, hd⟩; obtain ⟨l0, l1, l2, hlt2⟩ := box_on hd ⟨c0, c1, c2, hlt⟩; have hd' := Lib.hid (below_two hb'.out hd); clear hd))
  go_region_held3 (fun w' => w'.cell? ⟨w.heap.size, 0, none⟩ = some (.int .i64 (g : Int)) ∧ w'.cell? ⟨w.heap.size, 1, none⟩ = some (.int .i64 (i : Int)) ∧ w'.cell? ⟨w.heap.size, 2, none⟩ = some (.int .i64 (b : Int))) (first | exact ⟨c0, c1, c2⟩ | exact ⟨l0, l1, l2⟩) (first | (go_at_call 48; refine (span_any _ i b _ (by omega) (by omega)).mono ?_; rintro e w2 ⟨rfl, hd⟩; obtain ⟨l0, l1, l2, hlt2⟩ := box_on hd ⟨c0, c1, c2, hlt⟩; have hd' := Lib.hid (below_two hb'.out.drew hd); clear hd))
  go_wp2_with fail
  go_ret
  exact ⟨ret_int (by rw [wrap_in (n := (P : Int) + ((spanN i b : Nat) : Int)) (by omega), wrap_in (by omega)]; have := hP'.out; unfold firstN spanN at *; omega), hd'.out⟩
end Go.Proofs.Ytdkjmpicdkfgoaa
