/-
  What Read tells.
-/
import Derived.Test.YtbeaodmjobdiaaaWb
import Derived.Test.YtbeaodmjobdiaaaZo

namespace Go.Proofs.Ytbeaodmjobdiaaa
open Go.RowKit BigFrame

theorem RdPost.nil {w w' : World} {c : Int} (hb : Below w.heap.size w w') : RdPost [] [] c w (.returned (.tuple #[.slice none 0 0, .slice none 0 0, .int .i64 c])) w' :=
  ⟨_, _, rfl, .inl ⟨rfl, rfl⟩, .inl ⟨rfl, rfl⟩, (fun k h => by cases h), hb⟩
theorem RdPost.no {U V : List Nat} {C c : Int} {w w' : World} (h : C = c ∧ U = [] ∧ V = []) (hb : Below w.heap.size w w') : RdPost U V C w (.returned (.tuple #[.slice none 0 0, .slice none 0 0, .int .i64 c])) w' := by
  obtain ⟨rfl, rfl, rfl⟩ := h; exact RdPost.nil hb
theorem code_arg {l : List Nat} {N M : Int} (h : readMay N M = false) : codeG l N M = 2 ∧ inoG l N M = [] ∧ blkG l N M = [] := by
  unfold codeG inoG blkG; simp [h]
theorem code_form {l : List Nat} {N M : Int} (h : readMay N M = true) (hf : fineG l N.toNat M.toNat = false) : codeG l N M = 3 ∧ inoG l N M = [] ∧ blkG l N M = [] := by
  unfold codeG inoG blkG; simp [h, hf]
theorem code_fine {l : List Nat} {N M : Int} (h : readMay N M = true) (hf : fineG l N.toNat M.toNat = true) : codeG l N M = 0 ∧ inoG l N M = (inoOf l).take ((N.toNat + 7) / 8) ∧ blkG l N M = (blkOf l).take ((M.toNat + 7) / 8) := by
  unfold codeG inoG blkG; simp [h, hf]
theorem fine_kind {l : List Nat} {n m : Nat} (h : kindOf l ≠ 71) : fineG l n m = false := by unfold fineG; simp [h]
theorem fine_is {l : List Nat} {n m : Nat} (h : kindOf l = 71) : fineG l n m = (endsN (inoOf l) n && endsN (blkOf l) m && blanked ((bodyOf l).drop 16)) := by unfold fineG; simp [h]

set_option maxHeartbeats 1000000 in
theorem groupRead_arg (a : Option Addr) (cap n : Nat) (N M : Int) (l : List Nat) (w : World) (h : readMay N M = false) :
    Calls Try.prog 10 #[.slice a n cap, .int .i64 N, .int .i64 M] w (RdPost (inoG l N M) (blkG l N M) (codeG l N M) w) := by
  obtain ⟨h1, h2, h3⟩ := code_arg (l := l) h
  rw [h1, h2, h3]
  unfold readMay at h
  rw [decide_eq_false_iff_not] at h
  have hend := Lib.hid (RdPost.nil (c := 2) (Below.refl w.heap.size w))
  clear h1 h2 h3
  by_cases h1 : 4 ≤ N ∧ N ≤ 32
  · have d1 := Lib.hid (show decide (4 ≤ N ∧ N ≤ 32) = true by rw [decide_eq_true_eq]; exact h1)
    have d2 := Lib.hid (show decide (16 ≤ M ∧ M ≤ 96) = false by rw [decide_eq_false_iff_not]; omega)
    clear h h1
    go_enter Try.func10, Try.ntmps10
    go_wp2_with (first
      | (go_at_call_of 20 N; refine (within_any _ 4 32 true _ d1.out).mono ?_; rintro e w1 ⟨rfl, rfl⟩)
      | (go_at_call_of 20 M; refine (within_any _ 16 96 false _ d2.out).mono ?_; rintro e w1 ⟨rfl, rfl⟩))
    go_ret3
    exact hend.out
  · have d1 := Lib.hid (show decide (4 ≤ N ∧ N ≤ 32) = false by rw [decide_eq_false_iff_not]; exact h1)
    clear h h1
    go_enter Try.func10, Try.ntmps10
    go_wp2_with (go_at_call 20; refine (within_any _ 4 32 false _ d1.out).mono ?_; rintro e w1 ⟨rfl, rfl⟩)
    go_ret3
    exact hend.out

set_option maxHeartbeats 1000000 in
theorem groupRead_bad (a : Option Addr) (cap n : Nat) (N M : Int) (l : List Nat) (w : World) (h : readMay N M = true) (hn : l.length = n) (hk : kindOf l ≠ 71) (ho : Octs l) (hc : n ≤ cap) (hx : BAt w a l) :
    Calls Try.prog 10 #[.slice a n cap, .int .i64 N, .int .i64 M] w (RdPost (inoG l N M) (blkG l N M) (codeG l N M) w) := by
  obtain ⟨h1, h2, h3⟩ := code_form (l := l) h (fine_kind hk)
  rw [h1, h2, h3]
  unfold readMay at h
  rw [decide_eq_true_eq] at h
  have d1 := Lib.hid (show decide (4 ≤ N ∧ N ≤ 32) = true by rw [decide_eq_true_eq]; exact h.1)
  have d2 := Lib.hid (show decide (16 ≤ M ∧ M ≤ 96) = true by rw [decide_eq_true_eq]; exact h.2)
  have hx' := Lib.hid hx
  have ho' := Lib.hid ho
  have hn' := Lib.hid hn
  have hk' := Lib.hid hk
  clear h h1 h2 h3 hx ho hn hk
  go_enter Try.func10, Try.ntmps10
  go_wp2_with (first
    | (go_at_call_of 20 N; refine (within_any _ 4 32 true _ d1.out).mono ?_; rintro e w1 ⟨rfl, rfl⟩)
    | (go_at_call_of 20 M; refine (within_any _ 16 96 true _ d2.out).mono ?_; rintro e w1 ⟨rfl, rfl⟩)
    | (go_at_call 23; refine (open_bad 71 (kindOf l) _ _ n l _ hn'.out rfl (.inr hk'.out) ho'.out hc hx'.out).mono ?_; rintro e w2 ⟨rfl, q, rfl⟩))
  go_ret3
  exact RdPost.nil (below_drewN w q)

set_option maxHeartbeats 2000000 in
theorem groupRead_good (a : Option Addr) (cap n nn mm : Nat) (l : List Nat) (w : World) (h : readMay (nn : Int) (mm : Int) = true) (hn : l.length = n) (hk : kindOf l = 71) (ho : Octs l) (hc : n ≤ cap) (hx : BAt w a l) :
    Calls Try.prog 10 #[.slice a n cap, .int .i64 (nn : Int), .int .i64 (mm : Int)] w (RdPost (inoG l nn mm) (blkG l nn mm) (codeG l nn mm) w) := by
  have hf := fine_is (l := l) (n := nn) (m := mm) hk
  obtain ⟨m, hme⟩ : ∃ m, m = bodyOf l := ⟨_, rfl⟩
  obtain ⟨X, hX⟩ : ∃ X, X = inoOf l := ⟨_, rfl⟩
  obtain ⟨Y, hY⟩ : ∃ Y, Y = blkOf l := ⟨_, rfl⟩
  rw [← hX, ← hY, ← hme] at hf
  have hml := Lib.hid (show m.length = 123 by rw [hme]; exact bodyOf_length (kindOf_len (by omega)))
  have hmo := Lib.hid (show Octs m by rw [hme]; exact (ho.drop 1).take 123)
  have hXm := Lib.hid (show X = m.take 4 by rw [hX, hme]; rfl)
  have hYm := Lib.hid (show Y = (m.drop 4).take 12 by rw [hY, hme]; rfl)
  have hXl := Lib.hid (show X.length = 4 by rw [hXm.out, List.length_take, hml.out]; omega)
  have hYl := Lib.hid (show Y.length = 12 by rw [hYm.out, List.length_take, List.length_drop, hml.out]; omega)
  have hXo := Lib.hid (show Octs X by rw [hXm.out]; exact hmo.out.take _)
  have hYo := Lib.hid (show Octs Y by rw [hYm.out]; exact (hmo.out.drop _).take _)
  have hR := Lib.hid (show (m.drop 16).length = 107 by rw [List.length_drop, hml.out])
  have hno := Lib.hid (fun hb => code_form (l := l) h (show fineG l nn mm = false from hb))
  have hyes := Lib.hid (fun hb => code_fine (l := l) h (show fineG l nn mm = true from hb))
  rw [← hX, ← hY] at hyes
  rw [hf] at hno hyes
  unfold readMay at h
  rw [decide_eq_true_eq] at h
  have d1 := Lib.hid (show decide (4 ≤ (nn : Int) ∧ (nn : Int) ≤ 32) = true by rw [decide_eq_true_eq]; exact h.1)
  have d2 := Lib.hid (show decide (16 ≤ (mm : Int) ∧ (mm : Int) ≤ 96) = true by rw [decide_eq_true_eq]; exact h.2)
  have hn32 : nn ≤ 32 := by omega
  have hm96 : mm ≤ 96 := by omega
  have hme' := Lib.hid hme
  have hx' := Lib.hid hx
  have ho' := Lib.hid ho
  have hn' := Lib.hid hn
  have hk' := Lib.hid hk
  obtain ⟨C, hC⟩ : ∃ C, codeG l nn mm = C := ⟨_, rfl⟩
  obtain ⟨U, hU⟩ : ∃ U, inoG l nn mm = U := ⟨_, rfl⟩
  obtain ⟨V, hV⟩ : ∃ V, blkG l nn mm = V := ⟨_, rfl⟩
  rw [hC, hU, hV] at hno hyes ⊢
  obtain ⟨e1, he1⟩ : ∃ e, endsN X nn = e := ⟨_, rfl⟩
  obtain ⟨e2, he2⟩ : ∃ e, endsN Y mm = e := ⟨_, rfl⟩
  obtain ⟨e3, he3⟩ : ∃ e, blanked (m.drop 16) = e := ⟨_, rfl⟩
  rw [he1, he2, he3] at hno hyes
  have E1 := Lib.hid he1
  have E2 := Lib.hid he2
  have E3 := Lib.hid he3
  clear h hx ho hn hk hX hY hme hf hC hU hV he1 he2 he3
  go_enter Try.func10, Try.ntmps10
  go_wp2_with (first
    | (go_at_call_of 20 nn; refine (within_any _ 4 32 true _ d1.out).mono ?_; rintro e w1 ⟨rfl, rfl⟩)
    | (go_at_call_of 20 mm; refine (within_any _ 16 96 true _ d2.out).mono ?_; rintro e w1 ⟨rfl, rfl⟩)
    | (go_at_call 23; refine (open_good 71 _ _ n l _ hn'.out (by decide) hk'.out ho'.out hc hx'.out).mono ?_; rintro e w2 ⟨g1, rfl, hg1, hr1, hb2⟩; rw [← hme'.out] at hr1; have R1 := Lib.hid hr1; have B1 := Lib.hid hb2; clear hr1 hb2))
  go_big_quiet (fail)
  have B2 := Lib.hid (fun p => show Below w.heap.size w (w2.drewN p) from below_two B1.out (below_drewN w2 p))
  have XX := Lib.hid (show BAt w2 (some ⟨g1, 0, none⟩) X by
    have := R1.out.bat.sub 0 4
    rwa [List.drop_zero, ← hXm.out] at this)
  have YY := Lib.hid (show BAt w2 (some ⟨g1, 4, none⟩) Y by
    have := R1.out.bat.sub 4 12
    rwa [Nat.zero_add, ← hYm.out] at this)
  have ZZ := Lib.hid (show BAt w2 (some ⟨g1, 16, none⟩) (m.drop 16) by
    have := R1.out.bat.sub 16 107
    rwa [Nat.zero_add, List.take_of_length_le (by rw [hR.out]; omega)] at this)
  cases e1
  · have hend := Lib.hid (hno.out rfl)
    go_wp2_with (go_at_call_of 24 nn; refine (endsAt_c _ _ 4 nn _ false X _ E1.out rfl hXo.out hXl.out (by omega) (by omega) XX.out.drew).mono ?_; rintro e w3 ⟨rfl, q3, rfl⟩)
    go_ret3
    exact RdPost.no hend.out (B2.out _)
  · cases e2
    · have hend := Lib.hid (hno.out rfl)
      go_wp2_with (first
        | (go_at_call_of 24 nn; refine (endsAt_c _ _ 4 nn _ true X _ E1.out rfl hXo.out hXl.out (by omega) (by omega) XX.out.drew).mono ?_; rintro e w3 ⟨rfl, q3, rfl⟩)
        | (go_at_call_of 24 mm; refine (endsAt_c _ _ 12 mm _ false Y _ E2.out rfl hYo.out hYl.out (by omega) (by omega) YY.out.drew).mono ?_; rintro e w4 ⟨rfl, q4, rfl⟩))
      go_ret3
      exact RdPost.no hend.out (B2.out _)
    · cases e3
      · have hend := Lib.hid (hno.out rfl)
        go_wp2_with (first
          | (go_at_call_of 24 nn; refine (endsAt_c _ _ 4 nn _ true X _ E1.out rfl hXo.out hXl.out (by omega) (by omega) XX.out.drew).mono ?_; rintro e w3 ⟨rfl, q3, rfl⟩)
          | (go_at_call_of 24 mm; refine (endsAt_c _ _ 12 mm _ true Y _ E2.out rfl hYo.out hYl.out (by omega) (by omega) YY.out.drew).mono ?_; rintro e w4 ⟨rfl, q4, rfl⟩)
          | (go_at_call 25; refine (blank_any _ 107 107 (m.drop 16) _ hR.out (by decide) ZZ.out.drew).mono ?_; rw [E3.out]; rintro e w5 ⟨rfl, rfl⟩))
        go_ret3
        exact RdPost.no hend.out (B2.out _)
      · have hy := Lib.hid (hyes.out rfl)
        obtain ⟨x8, hx8⟩ : ∃ x8, x8 = (nn + 7) / 8 := ⟨_, rfl⟩
        obtain ⟨y8, hy8⟩ : ∃ y8, y8 = (mm + 7) / 8 := ⟨_, rfl⟩
        have hx4 : x8 ≤ 4 := by omega
        have hy12 : y8 ≤ 12 := by omega
        have RX := Lib.hid (show reN nn X nn = X.take x8 by rw [hx8]; exact reN_take hXo.out (by rw [hXl.out]; omega) E1.out)
        have RY := Lib.hid (show reN mm Y mm = Y.take y8 by rw [hy8]; exact reN_take hYo.out (by rw [hYl.out]; omega) E2.out)
        have LX := Lib.hid (show (X.take x8).length = x8 by rw [List.length_take, hXl.out]; omega)
        have LY := Lib.hid (show (Y.take y8).length = y8 by rw [List.length_take, hYl.out]; omega)
        have hfin := Lib.hid (show C = 0 ∧ U = X.take x8 ∧ V = Y.take y8 by have := hy.out; rwa [Int.toNat_natCast, Int.toNat_natCast, ← hx8, ← hy8] at this)
        have hx8' := Lib.hid hx8
        have hy8' := Lib.hid hy8
        clear hx8 hy8
        go_wp2_with (first
          | (go_at_call_of 24 nn; refine (endsAt_c _ _ 4 nn _ true X _ E1.out rfl hXo.out hXl.out (by omega) (by omega) XX.out.drew).mono ?_; rintro e w3 ⟨rfl, q3, rfl⟩)
          | (go_at_call_of 24 mm; refine (endsAt_c _ _ 12 mm _ true Y _ E2.out rfl hYo.out hYl.out (by omega) (by omega) YY.out.drew).mono ?_; rintro e w4 ⟨rfl, q4, rfl⟩)
          | (go_at_call 25; refine (blank_any _ 107 107 (m.drop 16) _ hR.out (by decide) ZZ.out.drew).mono ?_; rw [E3.out]; rintro e w5 ⟨rfl, rfl⟩)
          | (go_at_call_of 26 nn; refine (cut_any _ _ 4 nn x8 _ X (X.take x8) _ RX.out rfl hx8'.out hXo.out hXl.out (by omega) (by omega) XX.out.drew).mono ?_; rintro e w6 ⟨g6, rfl, hg6, hr6, hb6⟩; have R6 := Lib.hid hr6; have B6 := Lib.hid (below_two (B2.out _) hb6); have YY6 := Lib.hid (YY.out.drew.on hb6 (Nat.le_refl _)); have G6 := Lib.hid (Nat.le_trans (B2.out 0).size hg6); clear hr6 hb6)
          | (go_at_call_of 26 mm; refine (cut_any _ _ 12 mm y8 _ Y (Y.take y8) _ RY.out rfl hy8'.out hYo.out hYl.out (by omega) (by omega) YY6.out).mono ?_; rintro e w7 ⟨g7, rfl, hg7, hr7, hb7⟩; have hend := Lib.hid (show RdPost (X.take x8) (Y.take y8) 0 w (.returned (.tuple #[.slice (some ⟨g6, 0, none⟩) x8 x8, .slice (some ⟨g7, 0, none⟩) y8 y8, .int .i64 0])) w7 from ⟨_, _, rfl, .inr ⟨g6, x8, rfl, LX.out, G6.out, R6.out.on hb7 R6.out.lt⟩, .inr ⟨g7, y8, rfl, LY.out, Nat.le_trans B6.out.size hg7, hr7⟩, (fun k h e => by
            have h1 : g7 = k := Option.some.inj h
            have h2 : k = g6 := Option.some.inj e
            have := R6.out.lt
            omega), below_two B6.out hb7⟩); clear hr7 hb7))
        go_ret3
        rw [hfin.out.1, hfin.out.2.1, hfin.out.2.2]
        exact hend.out
theorem groupRead_any (a : Option Addr) (cap n : Nat) (N M : Int) (l : List Nat) (w : World) (hn : l.length = n) (ho : Octs l) (hc : n ≤ cap) (hx : BAt w a l) :
    Calls Try.prog 10 #[.slice a n cap, .int .i64 N, .int .i64 M] w (RdPost (inoG l N M) (blkG l N M) (codeG l N M) w) := by
  cases h : readMay N M
  · exact groupRead_arg a cap n N M l w h
  · by_cases hk : kindOf l = 71
    · have h2 := h
      unfold readMay at h2
      rw [decide_eq_true_eq] at h2
      obtain ⟨nn, rfl⟩ : ∃ k : Nat, N = (k : Int) := ⟨N.toNat, by omega⟩
      obtain ⟨mm, rfl⟩ : ∃ k : Nat, M = (k : Int) := ⟨M.toNat, by omega⟩
      exact groupRead_good a cap n nn mm l w h hn hk ho hc hx
    · exact groupRead_bad a cap n N M l w h hn hk ho hc hx
theorem groupRead_r (a : Option Addr) (cap n : Nat) (N M c : Int) (l X Y : List Nat) (w : World) (h : codeG l N M = c ∧ inoG l N M = X ∧ blkG l N M = Y) (hn : l.length = n) (ho : Octs l) (hc : n ≤ cap) (hx : BAt w a l) :
    Calls Try.prog 10 #[.slice a n cap, .int .i64 N, .int .i64 M] w (RdPost X Y c w) := by
  obtain ⟨rfl, rfl, rfl⟩ := h; exact groupRead_any a cap n N M l w hn ho hc hx
end Go.Proofs.Ytbeaodmjobdiaaa
