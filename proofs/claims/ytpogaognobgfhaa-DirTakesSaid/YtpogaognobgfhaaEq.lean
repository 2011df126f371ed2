/-
  A name may be by its bytes alone; one that may be is a part of a path, and one that is too long, or has a slash, is not: the walk.
-/
import Derived.Test.YtpogaognobgfhaaEp
import Derived.Deep.DeepCutAuto
namespace Go.Proofs.Ytpogaognobgfhaa
open Go.RowKit BigFrame

def baseP (s : ByteArray) : Prop := 1 ≤ s.size ∧ s.size ≤ 24 ∧ nb s ≠ [46] ∧ nb s ≠ [46, 46]
theorem nameB_iff (s : ByteArray) : nameB (nb s) = true ↔ baseP s ∧ ∀ j, j < s.size → bz (nb s) j ≠ 47 ∧ bz (nb s) j ≠ 0 := by
  have hl := nb_length s
  unfold nameB baseP
  simp only [Bool.and_eq_true, decide_eq_true_eq, hl]
  constructor
  · rintro ⟨h1, h2, h3, h4, h5, h6⟩
    exact ⟨⟨h3, h4, h1, h2⟩, fun j hj => ⟨fun e => h5 (mem_bz (by omega) e), fun e => h6 (mem_bz (by omega) e)⟩⟩
  · rintro ⟨⟨h3, h4, h1, h2⟩, h⟩
    exact ⟨h1, h2, h3, h4, not_mem_bz fun j hj => (h j (by omega)).1, not_mem_bz fun j hj => (h j (by omega)).2⟩
def BoolIs (b : Bool) (P : Prop) : Prop := b = true ↔ P
def NaRel (s : ByteArray) (v i : Value) : Prop := ∃ k : Nat, k ≤ s.size ∧ i = .int .i64 k ∧ ∃ b : Bool, v = .bool b ∧ BoolIs b (baseP s ∧ ∀ j, j < k → bz (nb s) j ≠ 47 ∧ bz (nb s) j ≠ 0)
def fourN (s : ByteArray) : List Slt := [⟨1, 1, s⟩, s0, s0, s0]
theorem run_bdN (s : ByteArray) (w : World) : (bdA 24 #[(0, sv ⟨1, 1, s⟩)]).run Try.prog w = .ok (fv (fourN s)) w := by
  unfold bdA
  exact run_build w _ _ _ (by kernel_rfl)
theorem fourN_may (s : ByteArray) : mayS ⟨1, 1, s⟩ = nameB (nb s) := by
  unfold mayS
  have h : ¬ (⟨1, 1, s⟩ : Slt) = s0 := fun e => absurd (show (1 : Int) = 0 from congrArg Slt.ino e) (by decide)
  rw [decide_eq_false h]
  show (false || (decide ((0 : Int) < 1) && (fitsN 1 2 && (decide ((1 : Int) ≤ 1 ∧ (1 : Int) ≤ 3) && nameB (nb s))))) = _
  rw [show decide ((0 : Int) < 1) = true by decide, show fitsN 1 2 = true by decide, show decide ((1 : Int) ≤ 1 ∧ (1 : Int) ≤ 3) = true by decide]
  simp
theorem fourN_stand (s : ByteArray) : stand4 (fourN s) = nameB (nb s) := by
  cases h : nameB (nb s)
  · exact stand4_no (k := 0) (by omega) (okAt_no (s := ⟨1, 1, s⟩) rfl (by rw [fourN_may, h]))
  · refine stand4_iff.2 fun k hk => ?_
    match k, hk with
    | 0, _ =>
      rw [okAt_taken (s := ⟨1, 1, s⟩) rfl (by rw [fourN_may, h]) (by show decide ((1 : Int) ≠ 0) = true; decide)]
      refine decide_eq_true ?_
      show findS (fourN s) s = ((0 : Nat) : Int)
      refine firstS_at (by show 0 < 4; omega) (fun j hj => by omega) ?_
      show (decide ((1 : Int) ≠ 0) && decide (s = s)) = true
      rw [decide_eq_true (rfl : s = s)]; decide
    | 1, _ => exact okAt_free (s := s0) rfl (by decide) (by decide)
    | 2, _ => exact okAt_free (s := s0) rfl (by decide) (by decide)
    | 3, _ => exact okAt_free (s := s0) rfl (by decide) (by decide)
theorem lcD_if (L : List Slt) : lcD L = if stand4 L = true then 0 else 2 := rfl

attribute [local go_sem ↓] ldL_of ldLs_of stL_of stLs_of bdL_of bdLs_of
set_option maxRecDepth 100000 in
set_option maxHeartbeats 2000000 in
theorem dirNames_any (s : ByteArray) (w : World) : Calls Try.prog 5 #[.string s] w (Tells (.bool true) w) := by
  by_cases h60 : 60 < s.size
  · go_enter Try.func5, Try.ntmps5
    go_wp2_with (go_at_call 8; refine (dirAwake_any _).mono ?_; rintro e w1 ⟨rfl, hb⟩; have hend := Lib.hid hb; clear hb)
    go_ret
    exact ⟨rfl, hend.out⟩
  · have hni := Lib.hid (nameB_iff s)
    have q1 := Lib.hid (dot_is (s := s))
    have q2 := Lib.hid (dots_is (s := s))
    have hst := Lib.hid (lcD_if (fourN s))
    have hmy := Lib.hid (fourN_may s)
    rw [fourN_stand] at hst
    have hb1 := fun w => run_bdL w 1 1 s
    have hb2 := fun w => run_bdN s w
    obtain ⟨u, hu⟩ : ∃ u, (⟨1, 1, s⟩ : Slt) = u := ⟨_, rfl⟩
    obtain ⟨L, hL⟩ : ∃ L, fourN s = L := ⟨_, rfl⟩
    rw [hu] at hb1 hb2 hmy
    rw [hL] at hb2 hst
    have hLl := Lib.hid (show L.length = 4 by rw [← hL]; rfl)
    have hL0 := Lib.hid (show sl L 0 = u by rw [← hL, ← hu]; rfl)
    unfold sv at hb1 hb2
    unfold fv at hb2
    clear hu hL
    go_enter Try.func5, Try.ntmps5
    go_upto_region 3 with fail
    go_cut [3] (fun v wx => (∃ b : Bool, v = .bool b ∧ BoolIs b (baseP s)) ∧ w = wx)
    case first =>
      by_cases a1 : 1 ≤ s.size
      · by_cases a2 : s.size ≤ 24
        · by_cases a3 : nb s = [46]
          · have t1 := q1.out
            rw [decide_eq_true a3] at t1
            have hend := Lib.hid (show BoolIs false (baseP s) from ⟨fun h => absurd h (by decide), fun h => absurd a3 h.2.2.1⟩)
            clear a3
            go_wp2_with fail
            go_meet
            exact ⟨⟨_, rfl, hend.out⟩, rfl⟩
          · have t1 := q1.out
            rw [decide_eq_false a3] at t1
            by_cases a4 : nb s = [46, 46]
            · have t2 := q2.out
              rw [decide_eq_true a4] at t2
              have hend := Lib.hid (show BoolIs false (baseP s) from ⟨fun h => absurd h (by decide), fun h => absurd a4 h.2.2.2⟩)
              clear a3 a4
              go_wp2_with fail
              go_meet
              exact ⟨⟨_, rfl, hend.out⟩, rfl⟩
            · have t2 := q2.out
              rw [decide_eq_false a4] at t2
              have hend := Lib.hid (show BoolIs true (baseP s) from ⟨fun _ => ⟨a1, a2, a3, a4⟩, fun _ => rfl⟩)
              clear a3 a4
              go_wp2_with fail
              go_meet
              exact ⟨⟨_, rfl, hend.out⟩, rfl⟩
        · have hend := Lib.hid (show BoolIs false (baseP s) from ⟨fun h => absurd h (by decide), fun h => absurd h.2.1 a2⟩)
          go_wp2_with fail
          go_meet
          exact ⟨⟨_, rfl, hend.out⟩, rfl⟩
      · have hend := Lib.hid (show BoolIs false (baseP s) from ⟨fun h => absurd h (by decide), fun h => absurd h.1 a1⟩)
        go_wp2_with fail
        go_meet
        exact ⟨⟨_, rfl, hend.out⟩, rfl⟩
    case rest =>
      obtain ⟨⟨b0, rfl, hb0⟩, rfl⟩ := hcut
      have hB0 := Lib.hid hb0
      clear hb0
      go_wp2_with fail
      go_loop [3, 4] (fun v i => NaRel s v i) (fun _ i => s.size - (intOf i).toNat)
      case atStart => exact ⟨0, by omega, rfl, b0, rfl, ⟨fun h => ⟨hB0.out.1 h, fun j hj => by omega⟩, fun h => hB0.out.2 h.1⟩⟩
      case round =>
        obtain ⟨k, hk, rfl, b, rfl, hb⟩ := hrel
        have hB := Lib.hid hb
        clear hb
        by_cases hlt : k < s.size
        · have hat := nb_at hlt
          cases b
          · have hend := Lib.hid (show BoolIs false (baseP s ∧ ∀ j, j < k + 1 → bz (nb s) j ≠ 47 ∧ bz (nb s) j ≠ 0) from ⟨fun h => absurd h (by decide), fun h => hB.out.2 ⟨h.1, fun j hj => h.2 j (by omega)⟩⟩)
            clear hat
            go_wp2_with fail
            exact ⟨⟨k + 1, by omega, by go_num, false, rfl, hend.out⟩, by simp [intOf]; omega⟩
          · by_cases h1 : bz (nb s) k = 47
            · have hend := Lib.hid (show BoolIs false (baseP s ∧ ∀ j, j < k + 1 → bz (nb s) j ≠ 47 ∧ bz (nb s) j ≠ 0) from ⟨fun h => absurd h (by decide), fun h => absurd h1 (h.2 k (by omega)).1⟩)
              rw [h1] at hat
              have t1 : (((s[k]'hlt).toNat : Int) != 47) = false := by rw [hat]; rfl
              clear h1 hat
              go_wp2_with fail
              exact ⟨⟨k + 1, by omega, by go_num, false, rfl, hend.out⟩, by simp [intOf]; omega⟩
            · have t1 : (((s[k]'hlt).toNat : Int) != 47) = true := by rw [bne_iff_ne, hat]; omega
              by_cases h2 : bz (nb s) k = 0
              · have hend := Lib.hid (show BoolIs false (baseP s ∧ ∀ j, j < k + 1 → bz (nb s) j ≠ 47 ∧ bz (nb s) j ≠ 0) from ⟨fun h => absurd h (by decide), fun h => absurd h2 (h.2 k (by omega)).2⟩)
                rw [h2] at hat
                have t2 : (((s[k]'hlt).toNat : Int) != 0) = false := by rw [hat]; rfl
                clear h1 h2 hat
                go_wp2_with fail
                exact ⟨⟨k + 1, by omega, by go_num, false, rfl, hend.out⟩, by simp [intOf]; omega⟩
              · have t2 : (((s[k]'hlt).toNat : Int) != 0) = true := by rw [bne_iff_ne, hat]; omega
                have hend := Lib.hid (show BoolIs true (baseP s ∧ ∀ j, j < k + 1 → bz (nb s) j ≠ 47 ∧ bz (nb s) j ≠ 0) from ⟨fun h => ⟨(hB.out.1 h).1, fun j hj => by
                  by_cases e : j = k
                  · subst e; exact ⟨h1, h2⟩
                  · exact (hB.out.1 h).2 j (by omega)⟩, fun _ => rfl⟩)
                clear h1 h2 hat
                go_wp2_with fail
                exact ⟨⟨k + 1, by omega, by go_num, true, rfl, hend.out⟩, by simp [intOf]; omega⟩
        · obtain rfl : k = s.size := by omega
          have hbr0 : nameB (nb s) = b := Bool.eq_iff_iff.2 (hni.out.trans hB.out.symm)
          have hbr := Lib.hid hbr0
          have hcd := hst.out
          rw [hbr0] at hcd
          have hcd' := Lib.hid hcd
          have hmu := Lib.hid (hmy.out.trans hbr0)
          clear hbr0 hcd
          have tk0 : True := trivial
          cases b
          · have hc := Lib.hid (show lcD L = 2 from hcd'.out)
            go_wp2_with (first
              | (go_at_call 10; refine (dirLay_u L _ hLl.out).mono ?_; rw [hc.out]; rintro e w2 ⟨v2, rfl, hA2, hb2⟩; have V2 := Lib.hid (V1.out.on' hb2); have B2 := Lib.hid (below_two B1.out hb2); have hld2 := run_ldL (w := w2) (g := G) (o := 0) (s := u) (by have := V2.out.range 0 3; rw [← hL0.out, ← fc_at (by rw [hLl.out]; omega)]; exact this); unfold sv at hld2; clear hb2 hA2)
              | (go_at_call 15; refine (name_is s _ _ hbr.out).mono ?_; rintro e w3 ⟨rfl, rfl⟩)
              | (go_at_call 17; refine (slotMay_is u _ _ hmu.out).mono ?_; rintro e w4 ⟨rfl, hb4⟩; have B4 := Lib.hid (below_two B2.out hb4); clear hb4)
              | (go_at_call 8; refine (dirAwake_any _).mono ?_; rintro e w5 ⟨rfl, hb5⟩; have B5 := Lib.hid (below_two B4.out hb5); clear hb5)
              | (clear tk0; refine wpList_alloc_slots rfl rfl ?_; intro G w1 hv1 hG1 hb1; have hst1 := run_stLs (w := w1) hLl.out (hv1.out.there (o := 0) (n := 12) (by rw [fc_z4]; omega)); have V1 := Lib.hid (hv1.out.over (m := fc L) (by rw [fc_length, hLl.out, fc_z4])); have B1 := Lib.hid (below_setCells hb1 hG1 0 (fc L)); have hld1 := run_ldLs V1.out.whole hLl.out; unfold fv at hst1 hld1; clear hb1))
            go_ret
            exact ⟨rfl, B5.out⟩
          · have hc := Lib.hid (show lcD L = 0 from hcd'.out)
            go_wp2_with (first
              | (go_at_call 10; refine (dirLay_u L _ hLl.out).mono ?_; rw [hc.out]; rintro e w2 ⟨v2, rfl, hA2, hb2⟩; have V2 := Lib.hid (V1.out.on' hb2); have B2 := Lib.hid (below_two B1.out hb2); have hld2 := run_ldL (w := w2) (g := G) (o := 0) (s := u) (by have := V2.out.range 0 3; rw [← hL0.out, ← fc_at (by rw [hLl.out]; omega)]; exact this); unfold sv at hld2; clear hb2 hA2)
              | (go_at_call 15; refine (name_is s _ _ hbr.out).mono ?_; rintro e w3 ⟨rfl, rfl⟩)
              | (go_at_call 17; refine (slotMay_is u _ _ hmu.out).mono ?_; rintro e w4 ⟨rfl, hb4⟩; have B4 := Lib.hid (below_two B2.out hb4); clear hb4)
              | (go_at_call 8; refine (dirAwake_any _).mono ?_; rintro e w5 ⟨rfl, hb5⟩; have B5 := Lib.hid (below_two B4.out hb5); clear hb5)
              | (clear tk0; refine wpList_alloc_slots rfl rfl ?_; intro G w1 hv1 hG1 hb1; have hst1 := run_stLs (w := w1) hLl.out (hv1.out.there (o := 0) (n := 12) (by rw [fc_z4]; omega)); have V1 := Lib.hid (hv1.out.over (m := fc L) (by rw [fc_length, hLl.out, fc_z4])); have B1 := Lib.hid (below_setCells hb1 hG1 0 (fc L)); have hld1 := run_ldLs V1.out.whole hLl.out; unfold fv at hst1 hld1; clear hb1))
            go_ret
            exact ⟨rfl, B5.out⟩
end Go.Proofs.Ytpogaognobgfhaa
