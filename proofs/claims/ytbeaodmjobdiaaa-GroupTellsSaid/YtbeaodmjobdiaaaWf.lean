/-
  What the document's own Read tells.
-/
import Derived.Test.YtbeaodmjobdiaaaWd
import Derived.Test.YtbeaodmjobdiaaaYa
import Derived.Test.YtbeaodmjobdiaaaYo
import Derived.Test.YtbeaodmjobdiaaaBg
import Derived.Test.YtbeaodmjobdiaaaSe
import Derived.Deep.RegionHeld3
import Derived.Deep.LoopGhost
namespace Go.Proofs.Ytbeaodmjobdiaaa
open Go.RowKit BigFrame

/-- two slices of bytes and a code -/
def RefRdPost (X Y : List Nat) (c : Int) (w : World) (e : Ending) (w' : World) : Prop :=
  ∃ v1 v2, e = .returned (.tuple #[v1, v2, .int .i64 c]) ∧ BV w' v1 X ∧ BV w' v2 Y ∧ Below w.heap.size w w'
theorem bv_nil (w : World) : BV w (.slice none 0 0) [] := ⟨none, 0, 0, rfl, rfl, .inl rfl⟩
theorem RefRdPost.no {U V : List Nat} {C c : Int} {w w' : World} (h : C = c ∧ U = [] ∧ V = []) (hb : Below w.heap.size w w') : RefRdPost U V C w (.returned (.tuple #[.slice none 0 0, .slice none 0 0, .int .i64 c])) w' := by
  obtain ⟨rfl, rfl, rfl⟩ := h; exact ⟨_, _, rfl, bv_nil _, bv_nil _, hb⟩

set_option maxHeartbeats 1000000 in
theorem refGroupRead_arg (a : Option Addr) (cap n : Nat) (N M : Int) (l : List Nat) (w : World) (h : readMay N M = false) :
    Calls Try.prog 11 #[.slice a n cap, .int .i64 N, .int .i64 M] w (RefRdPost (inoG l N M) (blkG l N M) (codeG l N M) w) := by
  have hend := Lib.hid (RefRdPost.no (code_arg (l := l) h) (Below.refl w.heap.size w))
  unfold readMay at h
  rw [decide_eq_false_iff_not] at h
  by_cases h1 : N < 4
  · clear h
    go_enter Try.func11, Try.ntmps11
    go_wp2_with fail
    go_ret3
    exact hend.out
  · by_cases h2 : 32 < N
    · clear h
      go_enter Try.func11, Try.ntmps11
      go_wp2_with fail
      go_ret3
      exact hend.out
    · by_cases h3 : M < 16
      · clear h
        go_enter Try.func11, Try.ntmps11
        go_wp2_with fail
        go_ret3
        exact hend.out
      · have h4 : 96 < M := by omega
        clear h
        go_enter Try.func11, Try.ntmps11
        go_wp2_with fail
        go_ret3
        exact hend.out

set_option maxHeartbeats 1000000 in
theorem refGroupRead_bad (a : Option Addr) (cap n : Nat) (N M : Int) (l : List Nat) (w : World) (h : readMay N M = true) (hn : l.length = n) (hk : kindOf l ≠ 71) (ho : Octs l) (hc : n ≤ cap) (hx : BAt w a l) :
    Calls Try.prog 11 #[.slice a n cap, .int .i64 N, .int .i64 M] w (RefRdPost (inoG l N M) (blkG l N M) (codeG l N M) w) := by
  have hend := Lib.hid (code_form (l := l) h (fine_kind hk))
  unfold readMay at h
  rw [decide_eq_true_eq] at h
  obtain ⟨⟨b1, b2⟩, b3, b4⟩ := h
  have hx' := Lib.hid hx
  have ho' := Lib.hid ho
  have hn' := Lib.hid hn
  have hk' := Lib.hid hk
  clear hx ho hn hk
  go_enter Try.func11, Try.ntmps11
  go_wp2_with (go_at_call 27; refine (refOpen_bad 71 (kindOf l) _ _ n l _ hn'.out rfl (.inr hk'.out) ho'.out hc hx'.out).mono ?_; rintro e w2 ⟨rfl, hb2⟩; have B2 := Lib.hid hb2; clear hb2)
  go_ret3
  exact RefRdPost.no hend.out B2.out

theorem own_bv {w : World} {base : Nat} {v : Value} {l : List Nat} (h : OwnB w base v ([] ++ l)) : BV w v l := by
  obtain ⟨a, cap, rfl, hx, _, _⟩ := h.slice
  exact ⟨a, _, cap, rfl, rfl, hx⟩
def RefBlankRel (m : List Nat) (w2 : World) (i : Value) (wr : World) : Prop := ∃ k p : Nat, k ≤ 123 ∧ i = .int .i64 k ∧ wr = w2.drewN p ∧ ∀ j, 16 ≤ j → j < k → bz m j = 0

set_option maxRecDepth 100000 in
set_option maxHeartbeats 2000000 in
theorem refGroupRead_good (a : Option Addr) (cap n nn mm : Nat) (l : List Nat) (w : World) (h : readMay (nn : Int) (mm : Int) = true) (hn : l.length = n) (hk : kindOf l = 71) (ho : Octs l) (hc : n ≤ cap) (hx : BAt w a l) :
    Calls Try.prog 11 #[.slice a n cap, .int .i64 (nn : Int), .int .i64 (mm : Int)] w (RefRdPost (inoG l nn mm) (blkG l nn mm) (codeG l nn mm) w) := by
  have hf := fine_is (l := l) (n := nn) (m := mm) hk
  obtain ⟨m, hme⟩ : ∃ m, m = bodyOf l := ⟨_, rfl⟩
  obtain ⟨X, hX⟩ : ∃ X, X = inoOf l := ⟨_, rfl⟩
  obtain ⟨Y, hY⟩ : ∃ Y, Y = blkOf l := ⟨_, rfl⟩
  rw [← hX, ← hY, ← hme] at hf
  have hml := Lib.hid (show m.length = 123 by rw [hme]; exact bodyOf_length (kindOf_len (by omega)))
  have hmo := Lib.hid (show Octs m by rw [hme]; exact (ho.drop 1).take 123)
  have hXm := Lib.hid (show X = m.take 4 by rw [hX, hme]; rfl)
  have hYm := Lib.hid (show Y = (m.drop 4).take 12 by rw [hY, hme]; rfl)
  have hXl := Lib.hid (show X.length = 4 by rw [hXm.out, List.length_take, hml.out]; omega)
  have hYl := Lib.hid (show Y.length = 12 by rw [hYm.out, List.length_take, List.length_drop, hml.out]; omega)
  have hXo := Lib.hid (show Octs X by rw [hXm.out]; exact hmo.out.take _)
  have hYo := Lib.hid (show Octs Y by rw [hYm.out]; exact (hmo.out.drop _).take _)
  have hR := Lib.hid (show (m.drop 16).length = 107 by rw [List.length_drop, hml.out])
  have hno := Lib.hid (fun hb => code_form (l := l) h (show fineG l nn mm = false from hb))
  have hyes := Lib.hid (fun hb => code_fine (l := l) h (show fineG l nn mm = true from hb))
  rw [← hX, ← hY] at hyes
  rw [hf] at hno hyes
  unfold readMay at h
  rw [decide_eq_true_eq] at h
  have b1 : 4 ≤ nn := by omega
  have b2 : nn ≤ 32 := by omega
  have b3 : 16 ≤ mm := by omega
  have b4 : mm ≤ 96 := by omega
  have hme' := Lib.hid hme
  have hx' := Lib.hid hx
  have ho' := Lib.hid ho
  have hn' := Lib.hid hn
  have hk' := Lib.hid hk
  obtain ⟨C, hC⟩ : ∃ C, codeG l nn mm = C := ⟨_, rfl⟩
  obtain ⟨U, hU⟩ : ∃ U, inoG l nn mm = U := ⟨_, rfl⟩
  obtain ⟨V, hV⟩ : ∃ V, blkG l nn mm = V := ⟨_, rfl⟩
  rw [hC, hU, hV] at hno hyes ⊢
  obtain ⟨e1, he1⟩ : ∃ e, endsN X nn = e := ⟨_, rfl⟩
  obtain ⟨e2, he2⟩ : ∃ e, endsN Y mm = e := ⟨_, rfl⟩
  obtain ⟨e3, he3⟩ : ∃ e, blanked (m.drop 16) = e := ⟨_, rfl⟩
  rw [he1, he2, he3] at hno hyes
  have E1 := Lib.hid he1
  have E2 := Lib.hid he2
  have E3 := Lib.hid he3
  clear h hx ho hn hk hX hY hme hf hC hU hV he1 he2 he3
  go_enter Try.func11, Try.ntmps11
  go_wp2_with (go_at_call 27; refine (refOpen_room 71 _ _ n l _ hn'.out (by decide) hk'.out ho'.out hc hx'.out).mono ?_; rintro e w2 ⟨g1, cp, rfl, hcp, hg1, hr1, hb2⟩; rw [← hme'.out] at hr1; have R1 := Lib.hid hr1; have B1 := Lib.hid hb2; clear hr1 hb2)
  go_big_quiet (fail)
  have B2 := Lib.hid (fun p => show Below w.heap.size w (w2.drewN p) from below_two B1.out (below_drewN w2 p))
  have XX := Lib.hid (show BAt w2 (some ⟨g1, 0, none⟩) X by
    have := R1.out.sub 0 4
    rwa [List.drop_zero, ← hXm.out] at this)
  have YY := Lib.hid (show BAt w2 (some ⟨g1, 4, none⟩) Y by
    have := R1.out.sub 4 12
    rwa [Nat.zero_add, ← hYm.out] at this)
  go_wp2_with fail
  go_loopw [13] (fun i wr => RefBlankRel m w2 i wr) (fun i _ => 123 - (intOf i).toNat)
  case atStart => exact ⟨0, _, by omega, rfl, rfl, fun j h1 h2 => by omega⟩
  case round =>
    obtain ⟨k, p, hk123, rfl, rfl, heq⟩ := hrel
    have heq' := Lib.hid heq
    clear heq
    by_cases hlt : k < 123
    · by_cases h16 : k < 16
      · have hend := Lib.hid (show RefBlankRel m w2 (.int .i64 ((k : Int) + 1)) (w2.drewN p) from ⟨k + 1, p, by omega, by go_num, rfl, fun j h1 h2 => by omega⟩)
        go_wp2_with fail
        exact ⟨hend.out, by simp [intOf]; omega⟩
      · have c1 : (w2.drewN p).cell? ⟨g1, k, none⟩ = some (.int .u8 ((bz m k : Nat) : Int)) := by
          have := R1.out.cell (k := k) (by rw [hml.out]; omega)
          rwa [Nat.zero_add] at this
        by_cases he : bz m k = 0
        · have hend := Lib.hid (show RefBlankRel m w2 (.int .i64 ((k : Int) + 1)) (w2.drewN p) from ⟨k + 1, p, by omega, by go_num, rfl, fun j h1 h2 => by
            by_cases e : j = k
            · rw [e]; exact he
            · exact heq'.out j h1 (by omega)⟩)
          rw [he] at c1
          clear he
          go_wp2_with fail
          exact ⟨hend.out, by simp [intOf]; omega⟩
        · have t : (((bz m k : Nat) : Int) != 0) = true := by rw [bne_iff_ne]; omega
          have hb : e3 = false := by
            rw [← E3.out]
            refine blanked_no (k := k - 16) (by rw [hR.out]; omega) ?_
            rw [bz_drop, show 16 + (k - 16) = k by omega]; exact he
          have hend := Lib.hid (hno.out (by rw [hb]; simp))
          clear he hb
          go_wp2_with fail
          go_ret3
          exact RefRdPost.no hend.out (B2.out _)
    · have hbl : e3 = true := by
        rw [← E3.out]
        refine blanked_yes fun j hj => ?_
        rw [hR.out] at hj
        rw [bz_drop]; exact heq'.out _ (by omega) (by omega)
      subst hbl
      have tk1 : True := trivial
      have tk2 : True := trivial
      have q1 := endsN_count (l := X) (n := nn) (k := 32) (by rw [hXl.out]; omega) b2
      have q2 := endsN_count (l := Y) (n := mm) (k := 96) (by rw [hYl.out]; omega) b4
      rw [E1.out] at q1
      rw [E2.out] at q2
      obtain ⟨k1, hk1⟩ : ∃ k, countN X 32 = k := ⟨_, rfl⟩
      obtain ⟨k2, hk2⟩ : ∃ k, countN X nn = k := ⟨_, rfl⟩
      obtain ⟨k3, hk3⟩ : ∃ k, countN Y 96 = k := ⟨_, rfl⟩
      obtain ⟨k4, hk4⟩ : ∃ k, countN Y mm = k := ⟨_, rfl⟩
      rw [hk1, hk2] at q1
      rw [hk3, hk4] at q2
      have z1 : k1 ≤ 32 := by rw [← hk1]; exact countN_le _ _
      have z2 : k2 ≤ 32 := by rw [← hk2]; exact Nat.le_trans (countN_le _ _) b2
      have z3 : k3 ≤ 96 := by rw [← hk3]; exact countN_le _ _
      have z4 : k4 ≤ 96 := by rw [← hk4]; exact Nat.le_trans (countN_le _ _) b4
      have K1 := Lib.hid hk1
      have K2 := Lib.hid hk2
      have K3 := Lib.hid hk3
      have K4 := Lib.hid hk4
      clear hk1 hk2 hk3 hk4
      cases e1
      · have hend := Lib.hid (hno.out (by simp))
        have t1 : ((k1 : Int) != (k2 : Int)) = true := by
          have := of_decide_eq_false q1.symm
          rw [bne_iff_ne]; omega
        clear q1 q2
        go_wp2_with (first
          | (go_at_call_of 28 nn; refine (refAll_c _ _ 4 nn _ X _ rfl hXo.out hXl.out (by omega) X3.out (by omega)).mono ?_; rintro e w4 ⟨v4, rfl, ho4, hb4⟩; rw [K2.out] at ho4; obtain ⟨a4, c4, rfl, _, _, _, _, _⟩ := ho4.slice; have B4 := Lib.hid (below_two B3.out hb4); have X4 := Lib.hid (X3.out.on hb4 (Nat.le_refl _)); have Y4 := Lib.hid (Y3.out.on hb4 (Nat.le_refl _)); have M4 := Lib.hid (M3.out.on hb4 (Nat.le_refl _)); clear hb4 ho4)
          | (clear tk1; go_at_call 28; refine (refAll_c _ _ 4 32 _ X _ rfl hXo.out hXl.out (by omega) XX.out.drew (by omega)).mono ?_; rintro e w3 ⟨v3, rfl, ho3, hb3⟩; rw [K1.out] at ho3; obtain ⟨a3, c3, rfl, _, _, _, _, _⟩ := ho3.slice; have B3 := Lib.hid (below_two (B2.out _) hb3); have X3 := Lib.hid (XX.out.drew.on hb3 (Nat.le_refl _)); have Y3 := Lib.hid (YY.out.drew.on hb3 (Nat.le_refl _)); have M3 := Lib.hid (R1.out.drew.on hb3 (Nat.le_refl _)); clear hb3 ho3))
        go_ret3
        exact RefRdPost.no hend.out B4.out
      · obtain rfl : k1 = k2 := of_decide_eq_true q1.symm
        cases e2
        · have hend := Lib.hid (hno.out (by simp))
          have t1 : ((k3 : Int) != (k4 : Int)) = true := by
            have := of_decide_eq_false q2.symm
            rw [bne_iff_ne]; omega
          clear q1 q2
          go_wp2_with (first
            | (go_at_call_of 28 nn; refine (refAll_c _ _ 4 nn _ X _ rfl hXo.out hXl.out (by omega) X3.out (by omega)).mono ?_; rintro e w4 ⟨v4, rfl, ho4, hb4⟩; rw [K2.out] at ho4; obtain ⟨a4, c4, rfl, _, _, _, _, _⟩ := ho4.slice; have B4 := Lib.hid (below_two B3.out hb4); have X4 := Lib.hid (X3.out.on hb4 (Nat.le_refl _)); have Y4 := Lib.hid (Y3.out.on hb4 (Nat.le_refl _)); have M4 := Lib.hid (M3.out.on hb4 (Nat.le_refl _)); clear hb4 ho4)
            | (go_at_call_of 28 mm; refine (refAll_c _ _ 12 mm _ Y _ rfl hYo.out hYl.out (by omega) Y5.out (by omega)).mono ?_; rintro e w6 ⟨v6, rfl, ho6, hb6⟩; rw [K4.out] at ho6; obtain ⟨a6, c6, rfl, _, _, _, _, _⟩ := ho6.slice; have B6 := Lib.hid (below_two B5.out hb6); have X6 := Lib.hid (X5.out.on hb6 (Nat.le_refl _)); have Y6 := Lib.hid (Y5.out.on hb6 (Nat.le_refl _)); have M6 := Lib.hid (M5.out.on hb6 (Nat.le_refl _)); clear hb6 ho6)
            | (clear tk1; go_at_call 28; refine (refAll_c _ _ 4 32 _ X _ rfl hXo.out hXl.out (by omega) XX.out.drew (by omega)).mono ?_; rintro e w3 ⟨v3, rfl, ho3, hb3⟩; rw [K1.out] at ho3; obtain ⟨a3, c3, rfl, _, _, _, _, _⟩ := ho3.slice; have B3 := Lib.hid (below_two (B2.out _) hb3); have X3 := Lib.hid (XX.out.drew.on hb3 (Nat.le_refl _)); have Y3 := Lib.hid (YY.out.drew.on hb3 (Nat.le_refl _)); have M3 := Lib.hid (R1.out.drew.on hb3 (Nat.le_refl _)); clear hb3 ho3)
            | (clear tk2; go_at_call 28; refine (refAll_c _ _ 12 96 _ Y _ rfl hYo.out hYl.out (by omega) Y4.out (by omega)).mono ?_; rintro e w5 ⟨v5, rfl, ho5, hb5⟩; rw [K3.out] at ho5; obtain ⟨a5, c5, rfl, _, _, _, _, _⟩ := ho5.slice; have B5 := Lib.hid (below_two B4.out hb5); have X5 := Lib.hid (X4.out.on hb5 (Nat.le_refl _)); have Y5 := Lib.hid (Y4.out.on hb5 (Nat.le_refl _)); have M5 := Lib.hid (M4.out.on hb5 (Nat.le_refl _)); clear hb5 ho5))
          go_ret3
          exact RefRdPost.no hend.out B6.out
        · obtain rfl : k3 = k4 := of_decide_eq_true q2.symm
          clear q1 q2
          have hy := Lib.hid (hyes.out (by simp))
          go_wp2_with (first
            | (go_at_call_of 28 nn; refine (refAll_c _ _ 4 nn _ X _ rfl hXo.out hXl.out (by omega) X3.out (by omega)).mono ?_; rintro e w4 ⟨v4, rfl, ho4, hb4⟩; rw [K2.out] at ho4; obtain ⟨a4, c4, rfl, _, _, _, _, _⟩ := ho4.slice; have B4 := Lib.hid (below_two B3.out hb4); have X4 := Lib.hid (X3.out.on hb4 (Nat.le_refl _)); have Y4 := Lib.hid (Y3.out.on hb4 (Nat.le_refl _)); have M4 := Lib.hid (M3.out.on hb4 (Nat.le_refl _)); clear hb4 ho4)
            | (go_at_call_of 28 mm; refine (refAll_c _ _ 12 mm _ Y _ rfl hYo.out hYl.out (by omega) Y5.out (by omega)).mono ?_; rintro e w6 ⟨v6, rfl, ho6, hb6⟩; rw [K4.out] at ho6; obtain ⟨a6, c6, rfl, _, _, _, _, _⟩ := ho6.slice; have B6 := Lib.hid (below_two B5.out hb6); have X6 := Lib.hid (X5.out.on hb6 (Nat.le_refl _)); have Y6 := Lib.hid (Y5.out.on hb6 (Nat.le_refl _)); have M6 := Lib.hid (M5.out.on hb6 (Nat.le_refl _)); clear hb6 ho6)
            | (clear tk1; go_at_call 28; refine (refAll_c _ _ 4 32 _ X _ rfl hXo.out hXl.out (by omega) XX.out.drew (by omega)).mono ?_; rintro e w3 ⟨v3, rfl, ho3, hb3⟩; rw [K1.out] at ho3; obtain ⟨a3, c3, rfl, _, _, _, _, _⟩ := ho3.slice; have B3 := Lib.hid (below_two (B2.out _) hb3); have X3 := Lib.hid (XX.out.drew.on hb3 (Nat.le_refl _)); have Y3 := Lib.hid (YY.out.drew.on hb3 (Nat.le_refl _)); have M3 := Lib.hid (R1.out.drew.on hb3 (Nat.le_refl _)); clear hb3 ho3)
            | (clear tk2; go_at_call 28; refine (refAll_c _ _ 12 96 _ Y _ rfl hYo.out hYl.out (by omega) Y4.out (by omega)).mono ?_; rintro e w5 ⟨v5, rfl, ho5, hb5⟩; rw [K3.out] at ho5; obtain ⟨a5, c5, rfl, _, _, _, _, _⟩ := ho5.slice; have B5 := Lib.hid (below_two B4.out hb5); have X5 := Lib.hid (X4.out.on hb5 (Nat.le_refl _)); have Y5 := Lib.hid (Y4.out.on hb5 (Nat.le_refl _)); have M5 := Lib.hid (M4.out.on hb5 (Nat.le_refl _)); clear hb5 ho5))
          obtain ⟨x8, hx8⟩ : ∃ x8, x8 = (nn + 7) / 8 := ⟨_, rfl⟩
          obtain ⟨y8, hy8⟩ : ∃ y8, y8 = (mm + 7) / 8 := ⟨_, rfl⟩
          have hx1 : 1 ≤ x8 := by omega
          have hx4 : x8 ≤ 4 := by omega
          have hy2 : 2 ≤ y8 := by omega
          have hy12 : y8 ≤ 12 := by omega
          obtain ⟨P, hP⟩ : ∃ P, P = nn + 7 := ⟨_, rfl⟩
          obtain ⟨R, hRR⟩ : ∃ R, R = mm + 7 := ⟨_, rfl⟩
          have f1 : (nn : Int) + 7 = (P : Int) := by omega
          have f2 : (mm : Int) + 7 = (R : Int) := by omega
          have f3 : IntKind.i64.wrap (P : Int) = (P : Int) := by rw [IntKind.wrap_i64]; omega
          have f4 : IntKind.i64.wrap (R : Int) = (R : Int) := by rw [IntKind.wrap_i64]; omega
          have f5 : (P : Int) / 8 = (x8 : Int) := by omega
          have f6 : (R : Int) / 8 = (y8 : Int) := by omega
          have f7 : IntKind.i64.wrap (x8 : Int) = (x8 : Int) := by rw [IntKind.wrap_i64]; omega
          have f8 : IntKind.i64.wrap (y8 : Int) = (y8 : Int) := by rw [IntKind.wrap_i64]; omega
          have p1 : (0 : Int) ≤ (x8 : Int) := by omega
          have p2 : (0 : Int) ≤ (y8 : Int) := by omega
          have p3 : (x8 : Int) ≤ (cp : Int) := by omega
          have p4 : y8 ≤ cp - 4 := by omega
          have p5 : (y8 : Int) ≤ ((cp - 4 : Nat) : Int) := by omega
          have p6 : x8 ≤ cp := by omega
          have LX := Lib.hid (show (X.take x8).length = x8 by rw [List.length_take, hXl.out]; omega)
          have LY := Lib.hid (show (Y.take y8).length = y8 by rw [List.length_take, hYl.out]; omega)
          have SX := Lib.hid (show BAt w6 (some ⟨g1, 0, none⟩) (X.take x8) by have := X6.out.sub 0 x8; rwa [List.drop_zero] at this)
          have SY := Lib.hid (show BAt w6 (some ⟨g1, 4, none⟩) (Y.take y8) by have := Y6.out.sub 0 y8; rwa [List.drop_zero] at this)
          have hfin := Lib.hid (show C = 0 ∧ U = X.take x8 ∧ V = Y.take y8 by have := hy.out; rwa [Int.toNat_natCast, Int.toNat_natCast, ← hx8, ← hy8] at this)
          clear hx8 hy8 hy hP hRR
          go_wp2_with fail
          have tkx : True := trivial
          have tky : True := trivial
          go_region_law (first
            | (refine step_append_bytes (by rfl) (.const (.slice none 0 0)) (.tmp 82) (by rfl) w7.heap.size (.slice none 0 0) [] (by simp [Act.eval]) (OwnB.nil _ _) ⟨g1, 4, none⟩ y8 (cp - 4) (Y.take y8) (by simp [Act.eval]) LY.out (by exact SY7.out) (by simp; omega) (Nat.le_refl _) ?_; intro v8 w8 hv8 hg8; have O8 := Lib.hid hv8; have B8 := Lib.hid (show Below w7.heap.size w7 w8 from (Below.refl w7.heap.size w7).grown hg8 (Nat.le_refl _) (fun k hk => by cases hk)); clear hv8 hg8)
            | (clear tkx tky; refine step_append_bytes (by rfl) (.const (.slice none 0 0)) (.tmp 76) (by rfl) w.heap.size (.slice none 0 0) [] (by simp [Act.eval]) (OwnB.nil _ _) ⟨g1, 0, none⟩ x8 cp (X.take x8) (by simp [Act.eval, Act.put]) LX.out (by exact SX.out) (by simp; omega) B6.out.size ?_; intro v7 w7 hv7 hg7; have O7 := Lib.hid hv7; have B7 := Lib.hid (show Below w6.heap.size w6 w7 from ((Below.refl w6.heap.size w6).drew).grown hg7 (Nat.le_refl _) (fun k hk => by cases hk)); have SY7 := Lib.hid (SY.out.on B7.out (Nat.le_refl _)); clear hv7 hg7))
          have hend := Lib.hid (show RefRdPost (X.take x8) (Y.take y8) 0 w (.returned (.tuple #[v7, v8, .int .i64 0])) w8 from ⟨v7, v8, rfl, (own_bv O7.out).on B8.out, own_bv O8.out, below_two (below_two B6.out B7.out) B8.out⟩)
          go_wp2_with fail
          go_ret3
          rw [hfin.out.1, hfin.out.2.1, hfin.out.2.2]
          exact hend.out
theorem refGroupRead_any (a : Option Addr) (cap n : Nat) (N M : Int) (l : List Nat) (w : World) (hn : l.length = n) (ho : Octs l) (hc : n ≤ cap) (hx : BAt w a l) :
    Calls Try.prog 11 #[.slice a n cap, .int .i64 N, .int .i64 M] w (RefRdPost (inoG l N M) (blkG l N M) (codeG l N M) w) := by
  cases h : readMay N M
  · exact refGroupRead_arg a cap n N M l w h
  · by_cases hk : kindOf l = 71
    · have h2 := h
      unfold readMay at h2
      rw [decide_eq_true_eq] at h2
      obtain ⟨nn, rfl⟩ : ∃ k : Nat, N = (k : Int) := ⟨N.toNat, by omega⟩
      obtain ⟨mm, rfl⟩ : ∃ k : Nat, M = (k : Int) := ⟨M.toNat, by omega⟩
      exact refGroupRead_good a cap n nn mm l w h hn hk ho hc hx
    · exact refGroupRead_bad a cap n N M l w h hn hk ho hc hx
theorem refGroupRead_r (a : Option Addr) (cap n : Nat) (N M c : Int) (l X Y : List Nat) (w : World) (h : codeG l N M = c ∧ inoG l N M = X ∧ blkG l N M = Y) (hn : l.length = n) (ho : Octs l) (hc : n ≤ cap) (hx : BAt w a l) :
    Calls Try.prog 11 #[.slice a n cap, .int .i64 N, .int .i64 M] w (RefRdPost X Y c w) := by
  obtain ⟨rfl, rfl, rfl⟩ := h; exact refGroupRead_any a cap n N M l w hn ho hc hx
end Go.Proofs.Ytbeaodmjobdiaaa
