/-
  Where anything stands in any geometry is the document's: the walk.
-/
import Derived.Test.YtlhcfjkheifnpaaGy
import Derived.Test.YtlhcfjkheifnpaaGw
namespace Go.Proofs.Ytlhcfjkheifnpaa
open Go.RowKit BigFrame

theorem sectors_same (G I B : Int) : ∃ r, (∀ w, Calls Try.prog 14 #[geo G I B] w (Tells (.int .i64 r) w)) ∧ ∀ w, Calls Try.prog 15 #[geo G I B] w (Tells (.int .i64 r) w) := by
  cases h : mayZ G I B
  · exact ⟨0, fun w => sectors_no G I B w h, fun w => refSectors_no G I B w h⟩
  · obtain ⟨g, i, b, rfl, rfl, rfl, hk⟩ := may_ok h
    exact ⟨((2 + g * spanN i b : Nat) : Int), fun w => sectors_ok g i b w hk, fun w => refSectors_ok g i b w hk⟩
theorem inodes_same (G I B : Int) : ∃ r, (∀ w, Calls Try.prog 16 #[geo G I B] w (Tells (.int .i64 r) w)) ∧ ∀ w, Calls Try.prog 17 #[geo G I B] w (Tells (.int .i64 r) w) := by
  cases h : mayZ G I B
  · exact ⟨0, fun w => inodes_no G I B w h, fun w => refInodes_no G I B w h⟩
  · obtain ⟨g, i, b, rfl, rfl, rfl, hk⟩ := may_ok h
    exact ⟨((g * i : Nat) : Int), fun w => inodes_ok g i b w hk, fun w => refInodes_ok g i b w hk⟩
theorem blocks_same (G I B : Int) : ∃ r, (∀ w, Calls Try.prog 18 #[geo G I B] w (Tells (.int .i64 r) w)) ∧ ∀ w, Calls Try.prog 19 #[geo G I B] w (Tells (.int .i64 r) w) := by
  cases h : mayZ G I B
  · exact ⟨0, fun w => blocks_no G I B w h, fun w => refBlocks_no G I B w h⟩
  · obtain ⟨g, i, b, rfl, rfl, rfl, hk⟩ := may_ok h
    exact ⟨((g * b : Nat) : Int), fun w => blocks_ok g i b w hk, fun w => refBlocks_ok g i b w hk⟩
theorem group_same (G I B k : Int) : ∃ r, (∀ w, Calls Try.prog 20 #[geo G I B, .int .i64 k] w (Tells (.int .i64 r) w)) ∧ ∀ w, Calls Try.prog 21 #[geo G I B, .int .i64 k] w (Tells (.int .i64 r) w) := by
  cases h : mayZ G I B
  · exact ⟨-1, fun w => group_no G I B k w h, fun w => refGroup_no G I B k w h⟩
  · obtain ⟨g, i, b, rfl, rfl, rfl, ho⟩ := may_ok h
    by_cases hk : k < 0 ∨ (g : Int) ≤ k
    · exact ⟨-1, fun w => group_out g i b k w ho hk, fun w => refGroup_out g i b k w ho hk⟩
    · obtain ⟨j, rfl⟩ : ∃ j : Nat, k = (j : Int) := ⟨k.toNat, by omega⟩
      exact ⟨_, fun w => group_in g i b j w ho (by omega), fun w => refGroup_in g i b j w ho (by omega)⟩
theorem first_same (G I B k : Int) : ∃ r, (∀ w, Calls Try.prog 22 #[geo G I B, .int .i64 k] w (Tells (.int .i64 r) w)) ∧ ∀ w, Calls Try.prog 23 #[geo G I B, .int .i64 k] w (Tells (.int .i64 r) w) := by
  cases h : mayZ G I B
  · exact ⟨-1, fun w => first_no G I B k w h, fun w => refFirst_no G I B k w h⟩
  · obtain ⟨g, i, b, rfl, rfl, rfl, ho⟩ := may_ok h
    by_cases hk : k < 0 ∨ (g : Int) ≤ k
    · exact ⟨-1, fun w => first_out g i b k w ho hk, fun w => refFirst_out g i b k w ho hk⟩
    · obtain ⟨j, rfl⟩ : ∃ j : Nat, k = (j : Int) := ⟨k.toNat, by omega⟩
      exact ⟨_, fun w => first_in g i b j w ho (by omega), fun w => refFirst_in g i b j w ho (by omega)⟩
theorem ofInode_same (G I B n : Int) : ∃ a c, (∀ w, Calls Try.prog 8 #[geo G I B, .int .i64 n] w (Tells (two a c) w)) ∧ ∀ w, Calls Try.prog 9 #[geo G I B, .int .i64 n] w (Tells (two a c) w) := by
  cases h : mayZ G I B
  · exact ⟨-1, -1, fun w => ofInode_no G I B n w h, fun w => refOfInode_no G I B n w h⟩
  · obtain ⟨g, i, b, rfl, rfl, rfl, ho⟩ := may_ok h
    rcases in_or_not g 1 i i n with ⟨k, j, hk, hj, hn⟩ | hn
    · exact ⟨_, _, fun w => ofInode_in g i b k j n w ho hk hj hn, fun w => refOfInode_in g i b k j n w ho hk hj hn⟩
    · exact ⟨-1, -1, fun w => ofInode_out g i b n w ho hn, fun w => refOfInode_out g i b n w ho hn⟩
theorem inode_same (G I B n : Int) : ∃ a c, (∀ w, Calls Try.prog 6 #[geo G I B, .int .i64 n] w (Tells (two a c) w)) ∧ ∀ w, Calls Try.prog 7 #[geo G I B, .int .i64 n] w (Tells (two a c) w) := by
  cases h : mayZ G I B
  · exact ⟨-1, -1, fun w => inode_no G I B n w h, fun w => refInode_no G I B n w h⟩
  · obtain ⟨g, i, b, rfl, rfl, rfl, ho⟩ := may_ok h
    rcases in_or_not g 1 i i n with ⟨k, j, hk, hj, hn⟩ | hn
    · exact ⟨_, _, fun w => inode_in g i b k j n w ho hk hj hn, fun w => refInode_in g i b k j n w ho hk hj hn⟩
    · exact ⟨-1, -1, fun w => inode_out g i b n w ho hn, fun w => refInode_out g i b n w ho hn⟩
theorem ofBlock_same (G I B n : Int) : ∃ a c, (∀ w, Calls Try.prog 10 #[geo G I B, .int .i64 n] w (Tells (two a c) w)) ∧ ∀ w, Calls Try.prog 11 #[geo G I B, .int .i64 n] w (Tells (two a c) w) := by
  cases h : mayZ G I B
  · exact ⟨-1, -1, fun w => ofBlock_no G I B n w h, fun w => refOfBlock_no G I B n w h⟩
  · obtain ⟨g, i, b, rfl, rfl, rfl, ho⟩ := may_ok h
    rcases in_or_not g (3 + i / 4) (spanN i b) b n with ⟨k, j, hk, hj, hn⟩ | hn
    · exact ⟨_, _, fun w => ofBlock_in g i b k j n w ho hk hj hn, fun w => refOfBlock_in g i b k j n w ho hk hj hn⟩
    · exact ⟨-1, -1, fun w => ofBlock_out g i b n w ho hn, fun w => refOfBlock_out g i b n w ho hn⟩
set_option maxRecDepth 100000 in
set_option maxHeartbeats 4000000 in
theorem tells_any (G I B k n s : Int) (w : World) : Calls Try.prog 3 #[geo G I B, .int .i64 k, .int .i64 n, .int .i64 s] w (Tells (.bool true) w) := by
  obtain ⟨a0, e0, p0, q0⟩ := inode_same G I B n
  have p0 := Lib.hid p0
  have q0 := Lib.hid q0
  obtain ⟨a1, e1, p1, q1⟩ := ofInode_same G I B n
  have p1 := Lib.hid p1
  have q1 := Lib.hid q1
  obtain ⟨a2, e2, p2, q2⟩ := ofBlock_same G I B s
  have p2 := Lib.hid p2
  have q2 := Lib.hid q2
  obtain ⟨a3, p3, q3⟩ := sectors_same G I B
  have p3 := Lib.hid p3
  have q3 := Lib.hid q3
  obtain ⟨a4, p4, q4⟩ := inodes_same G I B
  have p4 := Lib.hid p4
  have q4 := Lib.hid q4
  obtain ⟨a5, p5, q5⟩ := blocks_same G I B
  have p5 := Lib.hid p5
  have q5 := Lib.hid q5
  obtain ⟨a6, p6, q6⟩ := group_same G I B k
  have p6 := Lib.hid p6
  have q6 := Lib.hid q6
  obtain ⟨a7, p7, q7⟩ := first_same G I B k
  have p7 := Lib.hid p7
  have q7 := Lib.hid q7
  obtain ⟨r, hr⟩ : ∃ r, mayZ G I B = r := ⟨_, rfl⟩
  have hr := Lib.hid hr
  have hb' : Hid (Below w.heap.size w (w.alloc (.cells #[.int .i64 G, .int .i64 I, .int .i64 B] 23))) := Lib.hid ((Below.refl _ _).alloc (Nat.le_refl _) _)
  obtain ⟨c0, c1, c2, hlt⟩ := boxAt_alloc w G I B 23
  unfold geo
  go_enter Try.func3, Try.ntmps3
  go_wp2_with (first
    | (go_at_call 6; refine (p0.out _).mono ?_; rintro e w1 ⟨rfl, hd⟩; unfold two; have hx := box_on hd ⟨c0, c1, c2, hlt⟩; clear c0 c1 c2 hlt; obtain ⟨c0, c1, c2, hlt⟩ := hx; have hb' := Lib.hid (below_two hb'.out hd); clear hd)
    | (go_at_call 7; refine (q0.out _).mono ?_; rintro e w1 ⟨rfl, hd⟩; unfold two; have hx := box_on hd ⟨c0, c1, c2, hlt⟩; clear c0 c1 c2 hlt; obtain ⟨c0, c1, c2, hlt⟩ := hx; have hb' := Lib.hid (below_two hb'.out hd); clear hd)
    | (go_at_call 8; refine (p1.out _).mono ?_; rintro e w1 ⟨rfl, hd⟩; unfold two; have hx := box_on hd ⟨c0, c1, c2, hlt⟩; clear c0 c1 c2 hlt; obtain ⟨c0, c1, c2, hlt⟩ := hx; have hb' := Lib.hid (below_two hb'.out hd); clear hd)
    | (go_at_call 9; refine (q1.out _).mono ?_; rintro e w1 ⟨rfl, hd⟩; unfold two; have hx := box_on hd ⟨c0, c1, c2, hlt⟩; clear c0 c1 c2 hlt; obtain ⟨c0, c1, c2, hlt⟩ := hx; have hb' := Lib.hid (below_two hb'.out hd); clear hd)
    | (go_at_call 10; refine (p2.out _).mono ?_; rintro e w1 ⟨rfl, hd⟩; unfold two; have hx := box_on hd ⟨c0, c1, c2, hlt⟩; clear c0 c1 c2 hlt; obtain ⟨c0, c1, c2, hlt⟩ := hx; have hb' := Lib.hid (below_two hb'.out hd); clear hd)
    | (go_at_call 11; refine (q2.out _).mono ?_; rintro e w1 ⟨rfl, hd⟩; unfold two; have hx := box_on hd ⟨c0, c1, c2, hlt⟩; clear c0 c1 c2 hlt; obtain ⟨c0, c1, c2, hlt⟩ := hx; have hb' := Lib.hid (below_two hb'.out hd); clear hd)
    | (go_at_call 14; refine (p3.out _).mono ?_; rintro e w1 ⟨rfl, hd⟩; have hx := box_on hd ⟨c0, c1, c2, hlt⟩; clear c0 c1 c2 hlt; obtain ⟨c0, c1, c2, hlt⟩ := hx; have hb' := Lib.hid (below_two hb'.out hd); clear hd)
    | (go_at_call 15; refine (q3.out _).mono ?_; rintro e w1 ⟨rfl, hd⟩; have hx := box_on hd ⟨c0, c1, c2, hlt⟩; clear c0 c1 c2 hlt; obtain ⟨c0, c1, c2, hlt⟩ := hx; have hb' := Lib.hid (below_two hb'.out hd); clear hd)
    | (go_at_call 16; refine (p4.out _).mono ?_; rintro e w1 ⟨rfl, hd⟩; have hx := box_on hd ⟨c0, c1, c2, hlt⟩; clear c0 c1 c2 hlt; obtain ⟨c0, c1, c2, hlt⟩ := hx; have hb' := Lib.hid (below_two hb'.out hd); clear hd)
    | (go_at_call 17; refine (q4.out _).mono ?_; rintro e w1 ⟨rfl, hd⟩; have hx := box_on hd ⟨c0, c1, c2, hlt⟩; clear c0 c1 c2 hlt; obtain ⟨c0, c1, c2, hlt⟩ := hx; have hb' := Lib.hid (below_two hb'.out hd); clear hd)
    | (go_at_call 18; refine (p5.out _).mono ?_; rintro e w1 ⟨rfl, hd⟩; have hx := box_on hd ⟨c0, c1, c2, hlt⟩; clear c0 c1 c2 hlt; obtain ⟨c0, c1, c2, hlt⟩ := hx; have hb' := Lib.hid (below_two hb'.out hd); clear hd)
    | (go_at_call 19; refine (q5.out _).mono ?_; rintro e w1 ⟨rfl, hd⟩; have hx := box_on hd ⟨c0, c1, c2, hlt⟩; clear c0 c1 c2 hlt; obtain ⟨c0, c1, c2, hlt⟩ := hx; have hb' := Lib.hid (below_two hb'.out hd); clear hd)
    | (go_at_call 20; refine (p6.out _).mono ?_; rintro e w1 ⟨rfl, hd⟩; have hx := box_on hd ⟨c0, c1, c2, hlt⟩; clear c0 c1 c2 hlt; obtain ⟨c0, c1, c2, hlt⟩ := hx; have hb' := Lib.hid (below_two hb'.out hd); clear hd)
    | (go_at_call 21; refine (q6.out _).mono ?_; rintro e w1 ⟨rfl, hd⟩; have hx := box_on hd ⟨c0, c1, c2, hlt⟩; clear c0 c1 c2 hlt; obtain ⟨c0, c1, c2, hlt⟩ := hx; have hb' := Lib.hid (below_two hb'.out hd); clear hd)
    | (go_at_call 22; refine (p7.out _).mono ?_; rintro e w1 ⟨rfl, hd⟩; have hx := box_on hd ⟨c0, c1, c2, hlt⟩; clear c0 c1 c2 hlt; obtain ⟨c0, c1, c2, hlt⟩ := hx; have hb' := Lib.hid (below_two hb'.out hd); clear hd)
    | (go_at_call 23; refine (q7.out _).mono ?_; rintro e w1 ⟨rfl, hd⟩; have hx := box_on hd ⟨c0, c1, c2, hlt⟩; clear c0 c1 c2 hlt; obtain ⟨c0, c1, c2, hlt⟩ := hx; have hb' := Lib.hid (below_two hb'.out hd); clear hd)
    | (go_at_call 12; refine (may_is G I B r _ hr.out).mono ?_; rintro e w1 ⟨rfl, hd⟩; have hx := box_on hd ⟨c0, c1, c2, hlt⟩; clear c0 c1 c2 hlt; obtain ⟨c0, c1, c2, hlt⟩ := hx; have hb' := Lib.hid (below_two hb'.out hd); clear hd)
    | (go_at_call 13; refine (refMay_is G I B r _ hr.out).mono ?_; rintro e w1 ⟨rfl, hd⟩; have hx := box_on hd ⟨c0, c1, c2, hlt⟩; clear c0 c1 c2 hlt; obtain ⟨c0, c1, c2, hlt⟩ := hx; have hb' := Lib.hid (below_two hb'.out hd); clear hd)
    | (go_at_call 24; refine (awake_any _).mono ?_; rintro e w1 ⟨rfl, hd⟩; have hb' := Lib.hid (below_two hb'.out hd); clear hd))
  simp only [List.append]
  refine wp_region_at (C := CBox w G I B) (by kernel_rfl) (by kernel_rfl) ⟨⟨c0, c1, c2, hlt⟩, hb'.out.drew⟩ ?_
  go_big_quiet_want; refine quiet_geo (A := w.heap.size) rfl rfl (fun _ h => h.1) ?_; go_simp; try go_big_quiet_on
  go_big_quiet_want; refine quiet_val (.bool r) (fun _ hC => by unfold Oper.quietAt Oper.quietUpon; go_simp; exact told_box (fun w => may_is G I B r w hr.out) hC) ?_; go_simp; try go_big_quiet_on
  go_big_quiet_want; refine quiet_geo (A := w.heap.size) rfl rfl (fun _ h => h.1) ?_; go_simp; try go_big_quiet_on
  go_big_quiet_want; refine quiet_val (.bool r) (fun _ hC => by unfold Oper.quietAt Oper.quietUpon; go_simp; exact told_box (fun w => refMay_is G I B r w hr.out) hC) ?_; go_simp; try go_big_quiet_on
  go_big_quiet_want; refine quiet_val (.bool true) (fun _ _ => by unfold Oper.quietAt Oper.quietUpon; go_simp) ?_; go_simp; try go_big_quiet_on
  go_big_quiet_want; go_big_quiet_op; go_big_quiet_on
  go_big_quiet_want; refine quiet_geo (A := w.heap.size) rfl rfl (fun _ h => h.1) ?_; go_simp; try go_big_quiet_on
  go_big_quiet_want; refine quiet_val (.int .i64 a3) (fun _ hC => by unfold Oper.quietAt Oper.quietUpon; go_simp; exact told_box p3.out hC) ?_; go_simp; try go_big_quiet_on
  go_big_quiet_want; refine quiet_geo (A := w.heap.size) rfl rfl (fun _ h => h.1) ?_; go_simp; try go_big_quiet_on
  go_big_quiet_want; refine quiet_val (.int .i64 a3) (fun _ hC => by unfold Oper.quietAt Oper.quietUpon; go_simp; exact told_box q3.out hC) ?_; go_simp; try go_big_quiet_on
  go_big_quiet_want; refine quiet_val (.bool true) (fun _ _ => by unfold Oper.quietAt Oper.quietUpon; go_simp) ?_; go_simp; try go_big_quiet_on
  go_big_quiet_want; refine quiet_val (.bool true) (fun _ _ => by unfold Oper.quietAt Oper.quietUpon; go_simp) ?_; go_simp; try go_big_quiet_on
  go_big_quiet_want; go_big_quiet_op; go_big_quiet_on
  go_big_quiet_want; refine quiet_geo (A := w.heap.size) rfl rfl (fun _ h => h.1) ?_; go_simp; try go_big_quiet_on
  go_big_quiet_want; refine quiet_val (.int .i64 a4) (fun _ hC => by unfold Oper.quietAt Oper.quietUpon; go_simp; exact told_box p4.out hC) ?_; go_simp; try go_big_quiet_on
  go_big_quiet_want; refine quiet_geo (A := w.heap.size) rfl rfl (fun _ h => h.1) ?_; go_simp; try go_big_quiet_on
  go_big_quiet_want; refine quiet_val (.int .i64 a4) (fun _ hC => by unfold Oper.quietAt Oper.quietUpon; go_simp; exact told_box q4.out hC) ?_; go_simp; try go_big_quiet_on
  go_big_quiet_want; refine quiet_val (.bool true) (fun _ _ => by unfold Oper.quietAt Oper.quietUpon; go_simp) ?_; go_simp; try go_big_quiet_on
  go_big_quiet_want; refine quiet_val (.bool true) (fun _ _ => by unfold Oper.quietAt Oper.quietUpon; go_simp) ?_; go_simp; try go_big_quiet_on
  go_big_quiet_want; go_big_quiet_op; go_big_quiet_on
  go_big_quiet_want; refine quiet_geo (A := w.heap.size) rfl rfl (fun _ h => h.1) ?_; go_simp; try go_big_quiet_on
  go_big_quiet_want; refine quiet_val (.int .i64 a5) (fun _ hC => by unfold Oper.quietAt Oper.quietUpon; go_simp; exact told_box p5.out hC) ?_; go_simp; try go_big_quiet_on
  go_big_quiet_want; refine quiet_geo (A := w.heap.size) rfl rfl (fun _ h => h.1) ?_; go_simp; try go_big_quiet_on
  go_big_quiet_want; refine quiet_val (.int .i64 a5) (fun _ hC => by unfold Oper.quietAt Oper.quietUpon; go_simp; exact told_box q5.out hC) ?_; go_simp; try go_big_quiet_on
  go_big_quiet_want; refine quiet_val (.bool true) (fun _ _ => by unfold Oper.quietAt Oper.quietUpon; go_simp) ?_; go_simp; try go_big_quiet_on
  go_big_quiet_want; refine quiet_val (.bool true) (fun _ _ => by unfold Oper.quietAt Oper.quietUpon; go_simp) ?_; go_simp; try go_big_quiet_on
  go_big_quiet_want; go_big_quiet_op; go_big_quiet_on
  go_big_quiet_want; refine quiet_geo (A := w.heap.size) rfl rfl (fun _ h => h.1) ?_; go_simp; try go_big_quiet_on
  go_big_quiet_want; go_big_quiet_op; go_big_quiet_on
  go_big_quiet_want; refine quiet_val (.int .i64 a6) (fun _ hC => by unfold Oper.quietAt Oper.quietUpon; go_simp; exact told_box p6.out hC) ?_; go_simp; try go_big_quiet_on
  go_big_quiet_want; refine quiet_geo (A := w.heap.size) rfl rfl (fun _ h => h.1) ?_; go_simp; try go_big_quiet_on
  go_big_quiet_want; go_big_quiet_op; go_big_quiet_on
  go_big_quiet_want; refine quiet_val (.int .i64 a6) (fun _ hC => by unfold Oper.quietAt Oper.quietUpon; go_simp; exact told_box q6.out hC) ?_; go_simp; try go_big_quiet_on
  go_big_quiet_want; refine quiet_val (.bool true) (fun _ _ => by unfold Oper.quietAt Oper.quietUpon; go_simp) ?_; go_simp; try go_big_quiet_on
  go_big_quiet_want; refine quiet_val (.bool true) (fun _ _ => by unfold Oper.quietAt Oper.quietUpon; go_simp) ?_; go_simp; try go_big_quiet_on
  go_big_quiet_want; go_big_quiet_op; go_big_quiet_on
  go_big_quiet_want; refine quiet_geo (A := w.heap.size) rfl rfl (fun _ h => h.1) ?_; go_simp; try go_big_quiet_on
  go_big_quiet_want; go_big_quiet_op; go_big_quiet_on
  go_big_quiet_want; refine quiet_val (.int .i64 a7) (fun _ hC => by unfold Oper.quietAt Oper.quietUpon; go_simp; exact told_box p7.out hC) ?_; go_simp; try go_big_quiet_on
  go_big_quiet_want; refine quiet_geo (A := w.heap.size) rfl rfl (fun _ h => h.1) ?_; go_simp; try go_big_quiet_on
  go_big_quiet_want; go_big_quiet_op; go_big_quiet_on
  go_big_quiet_want; refine quiet_val (.int .i64 a7) (fun _ hC => by unfold Oper.quietAt Oper.quietUpon; go_simp; exact told_box q7.out hC) ?_; go_simp; try go_big_quiet_on
  go_big_quiet_want; refine quiet_val (.bool true) (fun _ _ => by unfold Oper.quietAt Oper.quietUpon; go_simp) ?_; go_simp; try go_big_quiet_on
  go_big_quiet_want; refine quiet_val (.bool true) (fun _ _ => by unfold Oper.quietAt Oper.quietUpon; go_simp) ?_; go_simp; try go_big_quiet_on
  go_big_quiet_want; go_big_quiet_op; go_big_quiet_on
  go_big_quiet_want; go_big_quiet_op; go_big_quiet_on
  go_big_quiet_want; go_big_quiet_op; go_big_quiet_on
  go_big_quiet_want; refine quiet_val (.bool true) (fun _ _ => by unfold Oper.quietAt Oper.quietUpon; go_simp) ?_; go_simp; try go_big_quiet_on
  go_big_quiet_want; refine quiet_val (.bool true) (fun _ _ => by unfold Oper.quietAt Oper.quietUpon; go_simp) ?_; go_simp; try go_big_quiet_on
  go_big_quiet_want; go_big_quiet_op; go_big_quiet_on
  go_big_quiet_want; go_big_quiet_op; go_big_quiet_on
  go_big_quiet_want; go_big_quiet_op; go_big_quiet_on
  go_big_quiet_want; refine quiet_val (.bool true) (fun _ _ => by unfold Oper.quietAt Oper.quietUpon; go_simp) ?_; go_simp; try go_big_quiet_on
  go_big_quiet_want; refine quiet_val (.bool true) (fun _ _ => by unfold Oper.quietAt Oper.quietUpon; go_simp) ?_; go_simp; try go_big_quiet_on
  go_big_quiet_want; go_big_quiet_op; go_big_quiet_on
  go_big_quiet_want; go_big_quiet_op; go_big_quiet_on
  go_big_quiet_want; go_big_quiet_op; go_big_quiet_on
  go_big_quiet_want; refine quiet_val (.bool true) (fun _ _ => by unfold Oper.quietAt Oper.quietUpon; go_simp) ?_; go_simp; try go_big_quiet_on
  go_big_quiet_want; refine quiet_val (.bool true) (fun _ _ => by unfold Oper.quietAt Oper.quietUpon; go_simp) ?_; go_simp; try go_big_quiet_on
  go_big_quiet_want; go_big_quiet_op; go_big_quiet_on
  go_big_quiet_want; go_big_quiet_op; go_big_quiet_on
  go_big_quiet_want; go_big_quiet_op; go_big_quiet_on
  go_big_quiet_want; refine quiet_val (.bool true) (fun _ _ => by unfold Oper.quietAt Oper.quietUpon; go_simp) ?_; go_simp; try go_big_quiet_on
  go_big_quiet_want; refine quiet_val (.bool true) (fun _ _ => by unfold Oper.quietAt Oper.quietUpon; go_simp) ?_; go_simp; try go_big_quiet_on
  go_big_quiet_want; go_big_quiet_op; go_big_quiet_on
  go_big_quiet_want; go_big_quiet_op; go_big_quiet_on
  go_big_quiet_want; go_big_quiet_op; go_big_quiet_on
  go_big_quiet_want; refine quiet_val (.bool true) (fun _ _ => by unfold Oper.quietAt Oper.quietUpon; go_simp) ?_; go_simp; try go_big_quiet_on
  go_big_quiet_want; refine quiet_val (.bool true) (fun _ _ => by unfold Oper.quietAt Oper.quietUpon; go_simp) ?_; go_simp; try go_big_quiet_on
  go_big_quiet_want; go_big_quiet_op; go_big_quiet_on
  go_big_quiet_want; go_big_quiet_op; go_big_quiet_on
  go_big_quiet_want; go_big_quiet_op; go_big_quiet_on
  go_big_quiet_want; refine quiet_val (.bool true) (fun _ _ => by unfold Oper.quietAt Oper.quietUpon; go_simp) ?_; go_simp; try go_big_quiet_on
  go_big_quiet_want; refine quiet_val (.bool true) (fun _ _ => by unfold Oper.quietAt Oper.quietUpon; go_simp) ?_; go_simp; try go_big_quiet_on
  go_big_quiet_want; go_big_quiet_op; go_big_quiet_on
  go_big_quiet_want; refine quiet_val (.bool true) (fun _ hC => by unfold Oper.quietAt Oper.quietUpon; go_simp; exact told_box awake_any hC) ?_; go_simp; try go_big_quiet_on
  go_big_quiet_want; refine quiet_val (.bool true) (fun _ _ => by unfold Oper.quietAt Oper.quietUpon; go_simp) ?_; go_simp; try go_big_quiet_on
  go_big_quiet_want; go_big_quiet_op; go_big_quiet_on
  refine wpQuiet_nil ?_
  intro w3 hC
  obtain ⟨_, hd⟩ := hC
  go_wp2_with fail
  go_ret
  exact ⟨rfl, hd⟩
end Go.Proofs.Ytlhcfjkheifnpaa
