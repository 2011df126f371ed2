/-
  Where things stand, by the document's own answer: the group of an inode, its sector; the group of a block.
-/
import Derived.Test.YtlhcfjkheifnpaaGx
import Derived.Test.YtlhcfjkheifnpaaGq
import Derived.BigRegion
namespace Go.Proofs.Ytlhcfjkheifnpaa
open Go.RowKit BigFrame

theorem refOfInode_far (G I B n T : Int) (w : World) (hc : ∀ w, Calls Try.prog 17 #[geo G I B] w (Tells (.int .i64 T) w)) (hn : n < 1 ∨ T < n) :
    Calls Try.prog 9 #[geo G I B, .int .i64 n] w (Tells (two (-1) (-1)) w) := by
  have hc' := Lib.hid hc
  clear hc
  unfold geo two
  by_cases h1 : n < 1
  · have d1 : decide (n < 1) = true := decide_eq_true h1
    go_enter Try.func9, Try.ntmps9
    go_wp2_with fail
    go_ret2
    exact ⟨rfl, (Below.refl _ _).alloc (Nat.le_refl _) _⟩
  · have d1 : decide (n < 1) = false := decide_eq_false h1
    have d2 : decide (T < n) = true := decide_eq_true (by omega)
    go_enter Try.func9, Try.ntmps9
    go_wp2_with (go_at_call 17; refine (hc'.out _).mono ?_; rintro e w1 ⟨rfl, hb⟩; have hb' := Lib.hid hb; clear hb)
    go_ret2
    exact ⟨rfl, below_box hb'.out⟩
theorem refOfInode_no (G I B n : Int) (w : World) (h : mayZ G I B = false) :
    Calls Try.prog 9 #[geo G I B, .int .i64 n] w (Tells (two (-1) (-1)) w) :=
  refOfInode_far G I B n 0 w (fun w => refInodes_no G I B w h) (by omega)
theorem notIn_out {g i : Nat} {n : Int} (h : NotIn g 1 i i n) : n < 1 ∨ ((g * i : Nat) : Int) < n := by
  by_cases h1 : n < 1
  · exact .inl h1
  · refine .inr ?_
    have hall : ∀ k : Nat, k ≤ g → ((k * i : Nat) : Int) < n := by
      intro k
      induction k with
      | zero => intro _; rw [Nat.zero_mul]; omega
      | succ k ih =>
        intro hk
        have a := ih (by omega)
        have c := h k (by omega)
        rw [Nat.add_mul]
        omega
    exact hall g (Nat.le_refl g)
theorem refOfInode_out (g i b : Nat) (n : Int) (w : World) (h : Ok g i b) (hn : NotIn g 1 i i n) :
    Calls Try.prog 9 #[geo g i b, .int .i64 n] w (Tells (two (-1) (-1)) w) :=
  refOfInode_far g i b n _ w (fun w => refInodes_ok g i b w h) (notIn_out hn)
set_option maxHeartbeats 1000000 in
theorem refOfInode_in (g i b k j : Nat) (n : Int) (w : World) (h : Ok g i b) (hk : k < g) (hj : j < i) (hn : n = ((1 + k * i + j : Nat) : Int)) :
    Calls Try.prog 9 #[geo g i b, .int .i64 n] w (Tells (two k j) w) := by
  have hi : i ≤ 32 := h.i2
  have hg : g ≤ 8 := h.g2
  have hki : (k + 1) * i ≤ g * i := Nat.mul_le_mul_right i hk
  rw [Nat.add_mul] at hki
  have hgi : g * i ≤ 256 := Nat.mul_le_mul hg hi
  obtain ⟨T, hT⟩ : ∃ T, T = g * i := ⟨_, rfl⟩
  obtain ⟨m, hm⟩ : ∃ m, m = k * i + j := ⟨_, rfl⟩
  obtain rfl : n = 1 + (m : Int) := by omega
  have hq : m / i = k := by rw [hm, Nat.mul_comm, Nat.mul_add_div (by omega), Nat.div_eq_of_lt hj]; rfl
  have hr : m % i = j := by rw [hm, Nat.mul_comm, Nat.mul_add_mod, Nat.mod_eq_of_lt hj]
  have hmT : m < T := by omega
  have hT3 : T ≤ 256 := by omega
  have d1 : decide (1 + (m : Int) < 1) = false := decide_eq_false (by omega)
  have d2 : decide ((T : Int) < 1 + (m : Int)) = false := decide_eq_false (by omega)
  have hc : ∀ w, Calls Try.prog 17 #[geo g i b] w (Tells (.int .i64 (T : Int)) w) := by intro w; rw [hT]; exact refInodes_ok g i b w h
  have hi0 : ¬ (i : Int) = 0 := by have := h.i1; omega
  have hc' := Lib.hid hc
  have hT' := Lib.hid hT
  have hq' := Lib.hid hq
  have hr' := Lib.hid hr
  clear h hn hc hm hT hki hgi hq hr
  unfold geo
  go_enter Try.func9, Try.ntmps9
  go_wp2_with (go_at_call 17; refine (hc'.out _).mono ?_; rintro e w1 ⟨rfl, hb⟩; obtain ⟨c0, c1, c2, hlt⟩ := box_on hb (boxAt_alloc w g i b 23); have hb' := Lib.hid (below_box hb); clear hb)
  go_region
  go_wp2_with fail
  go_ret2
  have e : 1 + (m : Int) - 1 = (m : Int) := by omega
  exact ⟨ret_two (by rw [e, ← Int.natCast_ediv, hq'.out]) (by rw [e, ← Int.natCast_emod, hr'.out]), hb'.out.drew⟩
theorem refInode_no (G I B n : Int) (w : World) (h : mayZ G I B = false) :
    Calls Try.prog 7 #[geo G I B, .int .i64 n] w (Tells (two (-1) (-1)) w) := by
  have h' := Lib.hid h
  clear h
  unfold geo
  go_enter Try.func7, Try.ntmps7
  go_wp2_with (go_at_call 9; refine (refOfInode_no _ _ _ _ _ h'.out).mono ?_; rintro e w1 ⟨rfl, hb⟩; unfold two; have hb' := Lib.hid hb; clear hb)
  go_ret2
  exact ⟨rfl, below_box hb'.out⟩
theorem refInode_out (g i b : Nat) (n : Int) (w : World) (h : Ok g i b) (hn : NotIn g 1 i i n) :
    Calls Try.prog 7 #[geo g i b, .int .i64 n] w (Tells (two (-1) (-1)) w) := by
  have h' := Lib.hid h
  have hn' := Lib.hid hn
  clear h hn
  unfold geo
  go_enter Try.func7, Try.ntmps7
  go_wp2_with (go_at_call 9; refine (refOfInode_out _ _ _ _ _ h'.out hn'.out).mono ?_; rintro e w1 ⟨rfl, hb⟩; unfold two; have hb' := Lib.hid hb; clear hb)
  go_ret2
  exact ⟨rfl, below_box hb'.out⟩
set_option maxHeartbeats 1000000 in
theorem refInode_in (g i b k j : Nat) (n : Int) (w : World) (h : Ok g i b) (hk : k < g) (hj : j < i) (hn : n = ((1 + k * i + j : Nat) : Int)) :
    Calls Try.prog 7 #[geo g i b, .int .i64 n] w (Tells (two ((nodeN i b k j : Nat) : Int) ((j % 4 : Nat) : Int)) w) := by
  have hi : i ≤ 32 := h.i2
  have hg : g ≤ 8 := h.g2
  obtain ⟨P, hP⟩ : ∃ P, P = 2 + k * spanN i b := ⟨_, rfl⟩
  have hq : P ≤ 1000 := by have := Nat.mul_le_mul (show k ≤ 8 by omega) (spanN_le h); omega
  have h' := Lib.hid h
  have hn' := Lib.hid hn
  have hP' := Lib.hid hP
  have hk0 : decide ((k : Int) < 0) = false := decide_eq_false (by omega)
  clear h hn hP
  unfold geo
  go_enter Try.func7, Try.ntmps7
  go_wp2_with (first
    | (go_at_call 9; refine (refOfInode_in _ _ _ k j _ _ h'.out hk hj hn'.out).mono ?_; rintro e w1 ⟨rfl, hb⟩; unfold two; obtain ⟨c0, c1, c2, hlt⟩ := box_on hb (boxAt_alloc w g i b 23); have hb' := Lib.hid (below_box hb); clear hb)
    | (go_at_call 21; refine (refGroup_in _ i b k _ h'.out hk).mono ?_; rw [← hP'.out]; rintro e w2 ⟨rfl, hd⟩; have hd' := Lib.hid (below_two hb'.out hd); clear hd))
  go_ret2
  exact ⟨ret_two (by have := hP'.out; unfold nodeN; omega) (by omega), hd'.out⟩

def NoRel (w : World) (G I B : Int) (_ : Value) (wr : World) : Prop := BoxAt wr w.heap.size G I B ∧ Below w.heap.size w wr
set_option maxHeartbeats 1000000 in
theorem refOfBlock_no (G I B n : Int) (w : World) (h : mayZ G I B = false) :
    Calls Try.prog 11 #[geo G I B, .int .i64 n] w (Tells (two (-1) (-1)) w) := by
  have h' := Lib.hid h
  clear h
  unfold geo two
  go_enter Try.func11, Try.ntmps11
  go_wp2_with fail
  go_loopw [6] (fun K wr => NoRel w G I B K wr) (fun _ _ => 0)
  case atStart => exact ⟨boxAt_alloc w G I B 23, (Below.refl _ _).alloc (Nat.le_refl _) _⟩
  case round =>
    obtain ⟨hx, hw⟩ := hrel
    obtain ⟨c0, c1, c2, hlt⟩ := hx
    have hw' := Lib.hid hw
    clear hw
    go_wp2_with (go_at_call 13; refine (refMay_is _ _ _ false _ h'.out).mono ?_; rintro e w1 ⟨rfl, hb⟩; have hb' := Lib.hid (below_two hw'.out hb); clear hb)
    go_ret2
    exact ⟨rfl, hb'.out⟩
def BlkRel (w : World) (g i b : Nat) (n : Int) (K : Value) (wr : World) : Prop :=
  ∃ k : Nat, k ≤ g ∧ K = .int .i64 (k : Int) ∧ BoxAt wr w.heap.size g i b ∧ Below w.heap.size w wr ∧ ∀ j : Nat, j < k → n < ((3 + i / 4 + j * spanN i b : Nat) : Int) ∨ ((3 + i / 4 + j * spanN i b + b : Nat) : Int) ≤ n
set_option maxHeartbeats 4000000 in
theorem refOfBlock_ok (g i b : Nat) (n : Int) (w : World) (h : Ok g i b) :
    Calls Try.prog 11 #[geo g i b, .int .i64 n] w (Pairs (IsIn g (3 + i / 4) (spanN i b) b n) w) := by
  have hi : i ≤ 32 := h.i2
  have hbb : b ≤ 96 := h.b2
  have hg : g ≤ 8 := h.g2
  have hs := spanN_le h
  have h' := Lib.hid h
  clear h
  unfold geo
  go_enter Try.func11, Try.ntmps11
  go_wp2_with fail
  go_loopw [6] (fun K wr => BlkRel w g i b n K wr) (fun K _ => g - (intOf K).toNat)
  case atStart => exact ⟨0, by omega, rfl, boxAt_alloc w g i b 23, (Below.refl _ _).alloc (Nat.le_refl _) _, fun j hj => by omega⟩
  case round =>
    obtain ⟨k, hk, rfl, hx, hw, hb⟩ := hrel
    obtain ⟨c0, c1, c2, hlt⟩ := hx
    have hw' := Lib.hid hw
    have hb' := Lib.hid hb
    clear hw hb
    by_cases hkg : k < g
    · have dk : decide ((k : Int) < (g : Int)) = true := decide_eq_true (by omega)
      obtain ⟨P, hP⟩ : ∃ P, P = firstN i b k := ⟨_, rfl⟩
      have hq : P ≤ 2000 := by have := Nat.mul_le_mul (show k ≤ 8 by omega) hs; rw [hP]; unfold firstN; omega
      obtain ⟨Q, hQ, hQ2⟩ : ∃ Q : Nat, IntKind.i64.wrap ((P : Int) + (b : Int)) = (Q : Int) ∧ Q = P + b := ⟨P + b, by rw [wrap_in (by omega)]; omega, rfl⟩
      have hP' := Lib.hid hP
      clear hP
      by_cases h1 : (P : Int) ≤ n
      · have d1 : decide ((P : Int) ≤ n) = true := decide_eq_true h1
        by_cases h2 : n < (Q : Int)
        · have d2 : decide (n < (Q : Int)) = true := decide_eq_true h2
          go_wp2_with (go_at_call 13; refine (refMay_is _ _ _ true _ h'.out.may).mono ?_; rintro e w1 ⟨rfl, hd⟩; obtain ⟨l0, l1, l2, hl⟩ := box_on hd ⟨c0, c1, c2, hlt⟩; have hd' := Lib.hid (below_two hw'.out hd); clear hd)
          go_region_held3 (fun w' => w'.cell? ⟨w.heap.size, 0, none⟩ = some (.int .i64 (g : Int)) ∧ w'.cell? ⟨w.heap.size, 1, none⟩ = some (.int .i64 (i : Int)) ∧ w'.cell? ⟨w.heap.size, 2, none⟩ = some (.int .i64 (b : Int))) (first | exact ⟨l0, l1, l2⟩ | exact ⟨m0, m1, m2⟩ | exact ⟨n0, n1, n2⟩)
            (first
              | (go_at_call 23; refine (refFirst_in g i b k _ h'.out hkg).mono ?_; rw [← hP'.out]; rintro e w2 ⟨rfl, hd⟩; obtain ⟨m0, m1, m2, hm⟩ := box_on hd ⟨l0, l1, l2, hl⟩; have hd2 := Lib.hid (below_two hd'.out.drew hd); clear hd)
              | (go_at_call 23; refine (refFirst_in g i b k _ h'.out hkg).mono ?_; rw [← hP'.out]; rintro e w3 ⟨rfl, hd⟩; obtain ⟨n0, n1, n2, hn⟩ := box_on hd ⟨m0, m1, m2, hm⟩; have hd3 := Lib.hid (below_two hd2.out hd); clear hd))
          go_wp2_with (go_at_call 23; refine (refFirst_in g i b k _ h'.out hkg).mono ?_; rw [← hP'.out]; rintro e w4 ⟨rfl, hd⟩; have hd4 := Lib.hid (below_two hd3.out hd); clear hd)
          go_ret2
          refine ⟨⟨k, n - (P : Int), .inl ⟨k, hkg, ?_, ?_, rfl, ?_⟩, rfl⟩, hd4.out⟩ <;> (have := hP'.out; unfold firstN at this; omega)
        · have d2 : decide (n < (Q : Int)) = false := decide_eq_false h2
          go_wp2_with (go_at_call 13; refine (refMay_is _ _ _ true _ h'.out.may).mono ?_; rintro e w1 ⟨rfl, hd⟩; obtain ⟨l0, l1, l2, hl⟩ := box_on hd ⟨c0, c1, c2, hlt⟩; have hd' := Lib.hid (below_two hw'.out hd); clear hd)
          go_region_held3 (fun w' => w'.cell? ⟨w.heap.size, 0, none⟩ = some (.int .i64 (g : Int)) ∧ w'.cell? ⟨w.heap.size, 1, none⟩ = some (.int .i64 (i : Int)) ∧ w'.cell? ⟨w.heap.size, 2, none⟩ = some (.int .i64 (b : Int))) (first | exact ⟨l0, l1, l2⟩ | exact ⟨m0, m1, m2⟩ | exact ⟨n0, n1, n2⟩)
            (first
              | (go_at_call 23; refine (refFirst_in g i b k _ h'.out hkg).mono ?_; rw [← hP'.out]; rintro e w2 ⟨rfl, hd⟩; obtain ⟨m0, m1, m2, hm⟩ := box_on hd ⟨l0, l1, l2, hl⟩; have hd2 := Lib.hid (below_two hd'.out.drew hd); clear hd)
              | (go_at_call 23; refine (refFirst_in g i b k _ h'.out hkg).mono ?_; rw [← hP'.out]; rintro e w3 ⟨rfl, hd⟩; obtain ⟨n0, n1, n2, hn⟩ := box_on hd ⟨m0, m1, m2, hm⟩; have hd3 := Lib.hid (below_two hd2.out hd); clear hd))
          go_wp2_with fail
          refine ⟨⟨k + 1, by omega, by go_num, ⟨n0, n1, n2, hn⟩, hd3.out, fun j hj => ?_⟩, by simp [intOf]; omega⟩
          by_cases e : j = k
          · subst e
            have := hP'.out
            unfold firstN at this
            omega
          · exact hb'.out j (by omega)
      · have d1 : decide ((P : Int) ≤ n) = false := decide_eq_false h1
        go_wp2_with (go_at_call 13; refine (refMay_is _ _ _ true _ h'.out.may).mono ?_; rintro e w1 ⟨rfl, hd⟩; obtain ⟨l0, l1, l2, hl⟩ := box_on hd ⟨c0, c1, c2, hlt⟩; have hd' := Lib.hid (below_two hw'.out hd); clear hd)
        refine wp_region_at (C := CBox w g i b) (by kernel_rfl) (by kernel_rfl) ⟨⟨l0, l1, l2, hl⟩, hd'.out.drew⟩ ?_
        go_big_quiet_want; go_big_quiet_op; go_big_quiet_on
        go_big_quiet_want; refine quiet_geo (A := w.heap.size) rfl rfl (fun _ h => h.1) ?_; go_simp; try go_big_quiet_on
        go_big_quiet_want; go_big_quiet_op; go_big_quiet_on
        go_big_quiet_want
        refine ⟨.int .i64 (P : Int), fun w' hC => ?_, ?_⟩
        · unfold Oper.quietAt Oper.quietUpon
          go_simp
          refine ((refFirst_in g i b k w' h'.out hkg).mono ?_)
          rw [← hP'.out]
          rintro e w2 ⟨rfl, hd⟩
          exact ⟨rfl, box_on hd hC.1, below_two hC.2 hd⟩
        go_simp
        try go_big_quiet_on
        go_big_quiet_want
        refine ⟨.bool false, fun w' _ => ?_, ?_⟩
        · unfold Oper.quietAt Oper.quietUpon
          go_simp
        go_simp
        try go_big_quiet_on
        go_big_quiet_want; go_big_quiet_op; go_big_quiet_on
        repeat go_big_quiet_skip
        go_big_quiet_want
        refine ⟨.bool false, fun w' _ => ?_, ?_⟩
        · unfold Oper.quietAt Oper.quietUpon
          go_simp
        go_simp
        try go_big_quiet_on
        refine wpQuiet_nil ?_
        intro w3 hC
        obtain ⟨⟨m0, m1, m2, hm⟩, hd2⟩ := hC
        have hd2 := Lib.hid hd2
        go_wp2_with fail
        refine ⟨⟨k + 1, by omega, by go_num, ⟨m0, m1, m2, hm⟩, hd2.out, fun j hj => ?_⟩, by simp [intOf]; omega⟩
        by_cases e : j = k
        · subst e
          have := hP'.out
          unfold firstN at this
          omega
        · exact hb'.out j (by omega)
    · have dk : decide ((k : Int) < (g : Int)) = false := decide_eq_false (by omega)
      go_wp2_with (go_at_call 13; refine (refMay_is _ _ _ true _ h'.out.may).mono ?_; rintro e w1 ⟨rfl, hd⟩; obtain ⟨l0, l1, l2, hl⟩ := box_on hd ⟨c0, c1, c2, hlt⟩; have hd' := Lib.hid (below_two hw'.out hd); clear hd)
      go_ret2
      exact ⟨⟨-1, -1, .inr ⟨fun j hj => hb'.out j (by omega), rfl, rfl⟩, rfl⟩, hd'.out⟩
theorem refOfBlock_in (g i b k j : Nat) (n : Int) (w : World) (h : Ok g i b) (hk : k < g) (hj : j < b) (hn : n = ((3 + i / 4 + k * spanN i b + j : Nat) : Int)) :
    Calls Try.prog 11 #[geo g i b, .int .i64 n] w (Tells (two k j) w) := by
  refine (refOfBlock_ok g i b n w h).mono fun e w' ⟨⟨a, c, hac, he⟩, hb⟩ => ?_
  obtain ⟨rfl, rfl⟩ := hac.row (by unfold spanN; omega) hk hj hn
  exact ⟨he, hb⟩
theorem refOfBlock_out (g i b : Nat) (n : Int) (w : World) (h : Ok g i b) (hn : NotIn g (3 + i / 4) (spanN i b) b n) :
    Calls Try.prog 11 #[geo g i b, .int .i64 n] w (Tells (two (-1) (-1)) w) := by
  refine (refOfBlock_ok g i b n w h).mono fun e w' ⟨⟨a, c, hac, he⟩, hb⟩ => ?_
  obtain ⟨rfl, rfl⟩ := hac.none (by unfold spanN; omega) hn
  exact ⟨he, hb⟩
end Go.Proofs.Ytlhcfjkheifnpaa
