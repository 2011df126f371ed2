/-
  A descriptor stands elsewhere.
-/
import Derived.Test.YtgcodlicbdaddaaGreatDoorB26

section
set_option linter.unusedVariables false
set_option linter.unusedSimpArgs false
namespace Go.Proofs.YtgcodlicbdaddaaGreatDoor
open Go.RowKit BigFrame
set_option maxRecDepth 100000

section
variable {w : World} {B b : Nat} {A : Ad} {s : Tr}
theorem tell_number {a : Ans} {n : Int} {w' : World} {s' : Tr} (h : TreeAt w' B A s') (hs : TStep w A w' A) (ha : a = { ans0 with n := n }) :
    TellPost B A s' a w (.returned (.tuple #[ansV 0 n 0 0 (.slice none 0 0) (.slice none 0 0), .int .i64 0])) w' := by
  subst ha
  exact ⟨_, A, rfl, h, hs, fun _ => ⟨_, _, rfl, OwnB.nil _ _, OwnT.nil _ _, (fun g e => by cases e), (fun g e => by cases e)⟩, ⟨_, _, _, _, _, _, _, _, _, _, rfl⟩⟩
set_option maxHeartbeats 2000000 in
theorem seek_any (h : TreeAt w B A s) (ho : Ok b s) (hb : b ≤ 900000) (fd off n : Int) :
    Calls Tryz.prog 85 #[.pointer (some ⟨A.t, 0, none⟩), .int .i64 fd, .int .i64 off, .int .i64 n] w (TellPost B A (s.seek fd off n).2 (s.seek fd off n).1 w) := by
  have h' := Lib.hid h
  have hcl := fun w' (hw' : TreeAt w' B A s) => toRead_any hw' ho hb fd
  unfold HasPost at hcl
  have hul : s.seek fd off n = if s.toRead fd ≠ 0 then (ansC (s.toRead fd), s) else if n < 0 ∨ 2 < n then (ansC 2, s) else
    if off < -(s.base fd n) ∨ 1099511627776 - s.base fd n < off then (ansC 2, s) else ({ ans0 with n := s.base fd n + off }, s.move fd (s.base fd n + off)) := rfl
  have hba : s.base fd n = if n = 0 then 0 else if n = 1 then (s.plc fd).off else ((s.at (s.nof fd)).size : Int) := rfl
  have tk : True := trivial
  have tk2 : True := trivial
  have tk3 : True := trivial
  have tk4 : True := trivial
  have hfil := fun e => ho.toRead_file (fd := fd) e
  obtain ⟨F, hF⟩ : ∃ F, s.plc fd = F := ⟨_, rfl⟩
  obtain ⟨i, hi⟩ : ∃ i, s.nof fd = i := ⟨_, rfl⟩
  rw [hF, hi] at hcl hba
  rw [hi, hF] at hfil
  clear h hF hi
  by_cases hc : s.toRead fd = 0
  · obtain ⟨x, hx, hk, hf1, hf2, hth⟩ := hfil hc
    simp only [if_pos hc] at hcl
    rw [hc] at hcl
    rw [if_neg (fun h => h hc)] at hul
    rw [Tr.at_of hx] at hba
    have hx' := Lib.hid hx
    have hz : x.size ≤ 20736 := by have := (h'.out.node i x hx).dl; unfold Nd.size; rw [if_neg (by omega)]; exact this
    clear hx hfil hk hc
    have hcl := Lib.hid hcl
    by_cases h1 : n < 0 ∨ 2 < n
    · rw [if_pos h1] at hul
      have hul' := Lib.hid hul
      clear hul hba
      have t0 : (n == 0) = false := by rw [beq_eq_false_iff_ne]; omega
      have t1 : (n == 1) = false := by rw [beq_eq_false_iff_ne]; omega
      have t2 : (n == 2) = false := by rw [beq_eq_false_iff_ne]; omega
      go_enter Tryz.func85, Tryz.ntmps85
      go_wp2_with (first
        | (have _t := tk; refine wpList_alloc_ansv rfl rfl ?_; intro g0 w0 V0 hg0 b0; have G0 := Lib.hid hg0; have B0 := Lib.hid b0; have T0 := Lib.hid (h'.out.below b0); clear tk b0 hg0)
        | (go_at_call 135; refine (hcl.out _ T0.out).mono ?_; rintro e w1 ⟨rfl, hb1⟩; have B1 := Lib.hid (B0.out.trans (hb1.mono B0.out.size)); have V1 := Lib.hid (V0.out.on' hb1); clear hb1)
        | (have _t := tk2; refine wpList_alloc_file rfl rfl ?_; intro g2 w2 V2 hg2 b2; have G2 := Lib.hid hg2; have B2 := Lib.hid (B1.out.trans (b2.mono B1.out.size)); have U2 := Lib.hid (V1.out.on' b2); clear tk2 b2 hg2)
        | (have _t := tk3; refine wpList_store_file rfl (.tmp 10) (.tmp 18) rfl V2.out rfl F rfl ?_; intro w3 V3 O3; have B3 := Lib.hid (below_at B2.out O3.out (Nat.le_trans B1.out.size G2.out)); have U3 := Lib.hid (U2.out.oth O3.out (by have := G2.out; have := V1.out.lt; omega)); clear tk3)
        | (go_at_call 79; refine (only_any _ _).mono ?_; rintro e w4 ⟨rfl, hb4⟩; have B4 := Lib.hid (B3.out.trans (hb4.mono B3.out.size)); have U4 := Lib.hid (U3.out.on' hb4); clear hb4)
        | (have _t := tk4; refine wpList_store_ans rfl (.tmp 8) (.tmp 29) rfl U4.out rfl rfl 0 0 0 0 none none 0 0 0 0 rfl ?_; intro w5 V5 O5; have B5 := Lib.hid (below_at B4.out O5.out G0.out); clear tk4))
      refine bodyPost_ret (cell_ret2 rfl rfl V5.out Tryz.underlying38 (by rw [Tryz.sizeA]; rfl)) rfl ?_
      rw [hul'.out]
      exact tell_code h'.out B5.out (by decide) rfl
    · rw [if_neg h1] at hul
      obtain ⟨o, hFo⟩ : ∃ o : Nat, F.off = (o : Int) := ⟨F.off.toNat, by omega⟩
      rw [hFo] at hf2 hba
      have hFo' := Lib.hid hFo
      obtain rfl | rfl | rfl : n = 0 ∨ n = 1 ∨ n = 2 := by omega
      · rw [if_pos rfl] at hba
        rw [hba] at hul
        clear h1 hba hFo hf1 hf2 hz
        by_cases h2 : off < 0
        · rw [if_pos (.inl (by omega))] at hul
          have hul' := Lib.hid hul
          clear hul
          have t1 : decide (off < 0) = true := decide_eq_true h2
          go_enter Tryz.func85, Tryz.ntmps85
          go_wp2_with (first
            | (have _t := tk; refine wpList_alloc_ansv rfl rfl ?_; intro g0 w0 V0 hg0 b0; have G0 := Lib.hid hg0; have B0 := Lib.hid b0; have T0 := Lib.hid (h'.out.below b0); clear tk b0 hg0)
            | (go_at_call 135; refine (hcl.out _ T0.out).mono ?_; rintro e w1 ⟨rfl, hb1⟩; have B1 := Lib.hid (B0.out.trans (hb1.mono B0.out.size)); have V1 := Lib.hid (V0.out.on' hb1); clear hb1)
            | (have _t := tk2; refine wpList_alloc_file rfl rfl ?_; intro g2 w2 V2 hg2 b2; have G2 := Lib.hid hg2; have B2 := Lib.hid (B1.out.trans (b2.mono B1.out.size)); have U2 := Lib.hid (V1.out.on' b2); clear tk2 b2 hg2)
            | (have _t := tk3; refine wpList_store_file rfl (.tmp 10) (.tmp 18) rfl V2.out rfl F rfl ?_; intro w3 V3 O3; have B3 := Lib.hid (below_at B2.out O3.out (Nat.le_trans B1.out.size G2.out)); have U3 := Lib.hid (U2.out.oth O3.out (by have := G2.out; have := V1.out.lt; omega)); clear tk3)
            | (go_at_call 79; refine (only_any _ _).mono ?_; rintro e w4 ⟨rfl, hb4⟩; have B4 := Lib.hid (B3.out.trans (hb4.mono B3.out.size)); have U4 := Lib.hid (U3.out.on' hb4); clear hb4)
            | (have _t := tk4; refine wpList_store_ans rfl (.tmp 8) (.tmp 52) rfl U4.out rfl rfl 0 0 0 0 none none 0 0 0 0 rfl ?_; intro w5 V5 O5; have B5 := Lib.hid (below_at B4.out O5.out G0.out); clear tk4))
          refine bodyPost_ret (cell_ret2 rfl rfl V5.out Tryz.underlying38 (by rw [Tryz.sizeA]; rfl)) rfl ?_
          rw [hul'.out]
          exact tell_code h'.out B5.out (by decide) rfl
        · have t1 : decide (off < 0) = false := decide_eq_false h2
          by_cases h3 : 1099511627776 < off
          · rw [if_pos (.inr (by omega))] at hul
            have hul' := Lib.hid hul
            clear hul
            have t2 : decide (1099511627776 < off) = true := decide_eq_true h3
            go_enter Tryz.func85, Tryz.ntmps85
            go_wp2_with (first
              | (have _t := tk; refine wpList_alloc_ansv rfl rfl ?_; intro g0 w0 V0 hg0 b0; have G0 := Lib.hid hg0; have B0 := Lib.hid b0; have T0 := Lib.hid (h'.out.below b0); clear tk b0 hg0)
              | (go_at_call 135; refine (hcl.out _ T0.out).mono ?_; rintro e w1 ⟨rfl, hb1⟩; have B1 := Lib.hid (B0.out.trans (hb1.mono B0.out.size)); have V1 := Lib.hid (V0.out.on' hb1); clear hb1)
              | (have _t := tk2; refine wpList_alloc_file rfl rfl ?_; intro g2 w2 V2 hg2 b2; have G2 := Lib.hid hg2; have B2 := Lib.hid (B1.out.trans (b2.mono B1.out.size)); have U2 := Lib.hid (V1.out.on' b2); clear tk2 b2 hg2)
              | (have _t := tk3; refine wpList_store_file rfl (.tmp 10) (.tmp 18) rfl V2.out rfl F rfl ?_; intro w3 V3 O3; have B3 := Lib.hid (below_at B2.out O3.out (Nat.le_trans B1.out.size G2.out)); have U3 := Lib.hid (U2.out.oth O3.out (by have := G2.out; have := V1.out.lt; omega)); clear tk3)
              | (go_at_call 79; refine (only_any _ _).mono ?_; rintro e w4 ⟨rfl, hb4⟩; have B4 := Lib.hid (B3.out.trans (hb4.mono B3.out.size)); have U4 := Lib.hid (U3.out.on' hb4); clear hb4)
              | (have _t := tk4; refine wpList_store_ans rfl (.tmp 8) (.tmp 52) rfl U4.out rfl rfl 0 0 0 0 none none 0 0 0 0 rfl ?_; intro w5 V5 O5; have B5 := Lib.hid (below_at B4.out O5.out G0.out); clear tk4))
            refine bodyPost_ret (cell_ret2 rfl rfl V5.out Tryz.underlying38 (by rw [Tryz.sizeA]; rfl)) rfl ?_
            rw [hul'.out]
            exact tell_code h'.out B5.out (by decide) rfl
          · rw [if_neg (by omega)] at hul
            rw [Int.zero_add] at hul
            have hul' := Lib.hid hul
            clear hul
            have t2 : decide (1099511627776 < off) = false := decide_eq_false h3
            have hadd : IntKind.i64.wrap (off) = off := wrap_in (by omega)
            have hmv := Lib.hid (fun w' (hw' : TreeAt w' B A s) => move_tree hw' fd (off) hth (by omega))
            clear h2 h3
            go_enter Tryz.func85, Tryz.ntmps85
            go_wp2_with (first
              | (have _t := tk; refine wpList_alloc_ansv rfl rfl ?_; intro g0 w0 V0 hg0 b0; have G0 := Lib.hid hg0; have B0 := Lib.hid b0; have T0 := Lib.hid (h'.out.below b0); clear tk b0 hg0)
              | (go_at_call 135; refine (hcl.out _ T0.out).mono ?_; rintro e w1 ⟨rfl, hb1⟩; have B1 := Lib.hid (B0.out.trans (hb1.mono B0.out.size)); have V1 := Lib.hid (V0.out.on' hb1); clear hb1)
              | (have _t := tk2; refine wpList_alloc_file rfl rfl ?_; intro g2 w2 V2 hg2 b2; have G2 := Lib.hid hg2; have B2 := Lib.hid (B1.out.trans (b2.mono B1.out.size)); have U2 := Lib.hid (V1.out.on' b2); clear tk2 b2 hg2)
              | (have _t := tk3; refine wpList_store_file rfl (.tmp 10) (.tmp 18) rfl V2.out rfl F rfl ?_; intro w3 V3 O3; have B3 := Lib.hid (below_at B2.out O3.out (Nat.le_trans B1.out.size G2.out)); have U3 := Lib.hid (U2.out.oth O3.out (by have := G2.out; have := V1.out.lt; omega)); have cf := (h'.out.below B3.out).files; clear tk3)
              | (go_at_call 137; refine (hmv.out _ (h'.out.below B3.out)).mono ?_; rintro e w6 ⟨rfl, hT6, hS6, hU6⟩; have T6 := Lib.hid hT6; have S6 := Lib.hid ((TStep.of_below A B3.out).trans hS6); have U6 := Lib.hid (show Vw w6 38 g0 [.int .i64 0, .int .i64 0, .int .i64 0, .int .i64 0, .slice none 0 0, .slice none 0 0] by (have h2 := U3.out; unfold Vw at h2 ⊢; exact (hU6.block g0 (Vw.lt U3.out) (fun e => by (have h3 := (h'.out.hi _ _ h'.out.rf).2; have h4 := G0.out; omega))).trans h2)); clear hT6 hS6 hU6)
              | (have _t := tk4; refine wpList_store_ans rfl (.tmp 8) (.tmp 57) rfl U6.out rfl rfl 0 (off) 0 0 none none 0 0 0 0 rfl ?_; intro w7 V7 O7; clear tk4))
            refine bodyPost_ret (cell_ret2 rfl rfl V7.out Tryz.underlying38 (by rw [Tryz.sizeA]; rfl)) rfl ?_
            rw [hul'.out]
            exact tell_number (T6.out.oth O7.out (h'.out.fresh G0.out)) (S6.out.oth O7.out G0.out) rfl
      · rw [if_neg (by decide), if_pos rfl] at hba
        rw [hba] at hul
        have hneg : IntKind.i64.wrap (-((o : Nat) : Int)) = -((o : Nat) : Int) := wrap_in (by omega)
        have hsub : IntKind.i64.wrap (1099511627776 - ((o : Nat) : Int)) = 1099511627776 - ((o : Nat) : Int) := wrap_in (by omega)
        clear h1 hba hFo hf1 hz
        by_cases h2 : off < -((o : Nat) : Int)
        · rw [if_pos (.inl (by omega))] at hul
          have hul' := Lib.hid hul
          clear hul
          have t1 : decide (off < -((o : Nat) : Int)) = true := decide_eq_true h2
          go_enter Tryz.func85, Tryz.ntmps85
          go_wp2_with (first
            | (have _t := tk; refine wpList_alloc_ansv rfl rfl ?_; intro g0 w0 V0 hg0 b0; have G0 := Lib.hid hg0; have B0 := Lib.hid b0; have T0 := Lib.hid (h'.out.below b0); clear tk b0 hg0)
            | (go_at_call 135; refine (hcl.out _ T0.out).mono ?_; rintro e w1 ⟨rfl, hb1⟩; have B1 := Lib.hid (B0.out.trans (hb1.mono B0.out.size)); have V1 := Lib.hid (V0.out.on' hb1); clear hb1)
            | (have _t := tk2; refine wpList_alloc_file rfl rfl ?_; intro g2 w2 V2 hg2 b2; have G2 := Lib.hid hg2; have B2 := Lib.hid (B1.out.trans (b2.mono B1.out.size)); have U2 := Lib.hid (V1.out.on' b2); clear tk2 b2 hg2)
            | (have _t := tk3; refine wpList_store_file rfl (.tmp 10) (.tmp 18) rfl V2.out rfl F rfl ?_; intro w3 V3 O3; have B3 := Lib.hid (below_at B2.out O3.out (Nat.le_trans B1.out.size G2.out)); have U3 := Lib.hid (U2.out.oth O3.out (by have := G2.out; have := V1.out.lt; omega)); have cn := V3.out.cell (k := 1) rfl; rw [hFo'.out] at cn; clear tk3)
            | (go_at_call 79; refine (only_any _ _).mono ?_; rintro e w4 ⟨rfl, hb4⟩; have B4 := Lib.hid (B3.out.trans (hb4.mono B3.out.size)); have U4 := Lib.hid (U3.out.on' hb4); clear hb4)
            | (have _t := tk4; refine wpList_store_ans rfl (.tmp 8) (.tmp 52) rfl U4.out rfl rfl 0 0 0 0 none none 0 0 0 0 rfl ?_; intro w5 V5 O5; have B5 := Lib.hid (below_at B4.out O5.out G0.out); clear tk4))
          refine bodyPost_ret (cell_ret2 rfl rfl V5.out Tryz.underlying38 (by rw [Tryz.sizeA]; rfl)) rfl ?_
          rw [hul'.out]
          exact tell_code h'.out B5.out (by decide) rfl
        · have t1 : decide (off < -((o : Nat) : Int)) = false := decide_eq_false h2
          by_cases h3 : 1099511627776 - ((o : Nat) : Int) < off
          · rw [if_pos (.inr (by omega))] at hul
            have hul' := Lib.hid hul
            clear hul
            have t2 : decide (1099511627776 - ((o : Nat) : Int) < off) = true := decide_eq_true h3
            go_enter Tryz.func85, Tryz.ntmps85
            go_wp2_with (first
              | (have _t := tk; refine wpList_alloc_ansv rfl rfl ?_; intro g0 w0 V0 hg0 b0; have G0 := Lib.hid hg0; have B0 := Lib.hid b0; have T0 := Lib.hid (h'.out.below b0); clear tk b0 hg0)
              | (go_at_call 135; refine (hcl.out _ T0.out).mono ?_; rintro e w1 ⟨rfl, hb1⟩; have B1 := Lib.hid (B0.out.trans (hb1.mono B0.out.size)); have V1 := Lib.hid (V0.out.on' hb1); clear hb1)
              | (have _t := tk2; refine wpList_alloc_file rfl rfl ?_; intro g2 w2 V2 hg2 b2; have G2 := Lib.hid hg2; have B2 := Lib.hid (B1.out.trans (b2.mono B1.out.size)); have U2 := Lib.hid (V1.out.on' b2); clear tk2 b2 hg2)
              | (have _t := tk3; refine wpList_store_file rfl (.tmp 10) (.tmp 18) rfl V2.out rfl F rfl ?_; intro w3 V3 O3; have B3 := Lib.hid (below_at B2.out O3.out (Nat.le_trans B1.out.size G2.out)); have U3 := Lib.hid (U2.out.oth O3.out (by have := G2.out; have := V1.out.lt; omega)); have cn := V3.out.cell (k := 1) rfl; rw [hFo'.out] at cn; clear tk3)
              | (go_at_call 79; refine (only_any _ _).mono ?_; rintro e w4 ⟨rfl, hb4⟩; have B4 := Lib.hid (B3.out.trans (hb4.mono B3.out.size)); have U4 := Lib.hid (U3.out.on' hb4); clear hb4)
              | (have _t := tk4; refine wpList_store_ans rfl (.tmp 8) (.tmp 52) rfl U4.out rfl rfl 0 0 0 0 none none 0 0 0 0 rfl ?_; intro w5 V5 O5; have B5 := Lib.hid (below_at B4.out O5.out G0.out); clear tk4))
            refine bodyPost_ret (cell_ret2 rfl rfl V5.out Tryz.underlying38 (by rw [Tryz.sizeA]; rfl)) rfl ?_
            rw [hul'.out]
            exact tell_code h'.out B5.out (by decide) rfl
          · rw [if_neg (by omega)] at hul
            have hul' := Lib.hid hul
            clear hul
            have t2 : decide (1099511627776 - ((o : Nat) : Int) < off) = false := decide_eq_false h3
            have hadd : IntKind.i64.wrap (((o : Nat) : Int) + off) = ((o : Nat) : Int) + off := wrap_in (by omega)
            have hmv := Lib.hid (fun w' (hw' : TreeAt w' B A s) => move_tree hw' fd (((o : Nat) : Int) + off) hth (by omega))
            clear h2 h3
            go_enter Tryz.func85, Tryz.ntmps85
            go_wp2_with (first
              | (have _t := tk; refine wpList_alloc_ansv rfl rfl ?_; intro g0 w0 V0 hg0 b0; have G0 := Lib.hid hg0; have B0 := Lib.hid b0; have T0 := Lib.hid (h'.out.below b0); clear tk b0 hg0)
              | (go_at_call 135; refine (hcl.out _ T0.out).mono ?_; rintro e w1 ⟨rfl, hb1⟩; have B1 := Lib.hid (B0.out.trans (hb1.mono B0.out.size)); have V1 := Lib.hid (V0.out.on' hb1); clear hb1)
              | (have _t := tk2; refine wpList_alloc_file rfl rfl ?_; intro g2 w2 V2 hg2 b2; have G2 := Lib.hid hg2; have B2 := Lib.hid (B1.out.trans (b2.mono B1.out.size)); have U2 := Lib.hid (V1.out.on' b2); clear tk2 b2 hg2)
              | (have _t := tk3; refine wpList_store_file rfl (.tmp 10) (.tmp 18) rfl V2.out rfl F rfl ?_; intro w3 V3 O3; have B3 := Lib.hid (below_at B2.out O3.out (Nat.le_trans B1.out.size G2.out)); have U3 := Lib.hid (U2.out.oth O3.out (by have := G2.out; have := V1.out.lt; omega)); have cn := V3.out.cell (k := 1) rfl; rw [hFo'.out] at cn; have cf := (h'.out.below B3.out).files; clear tk3)
              | (go_at_call 137; refine (hmv.out _ (h'.out.below B3.out)).mono ?_; rintro e w6 ⟨rfl, hT6, hS6, hU6⟩; have T6 := Lib.hid hT6; have S6 := Lib.hid ((TStep.of_below A B3.out).trans hS6); have U6 := Lib.hid (show Vw w6 38 g0 [.int .i64 0, .int .i64 0, .int .i64 0, .int .i64 0, .slice none 0 0, .slice none 0 0] by (have h2 := U3.out; unfold Vw at h2 ⊢; exact (hU6.block g0 (Vw.lt U3.out) (fun e => by (have h3 := (h'.out.hi _ _ h'.out.rf).2; have h4 := G0.out; omega))).trans h2)); clear hT6 hS6 hU6)
              | (have _t := tk4; refine wpList_store_ans rfl (.tmp 8) (.tmp 57) rfl U6.out rfl rfl 0 (((o : Nat) : Int) + off) 0 0 none none 0 0 0 0 rfl ?_; intro w7 V7 O7; clear tk4))
            refine bodyPost_ret (cell_ret2 rfl rfl V7.out Tryz.underlying38 (by rw [Tryz.sizeA]; rfl)) rfl ?_
            rw [hul'.out]
            exact tell_number (T6.out.oth O7.out (h'.out.fresh G0.out)) (S6.out.oth O7.out G0.out) rfl
      · rw [if_neg (by decide), if_neg (by decide)] at hba
        rw [hba] at hul
        obtain ⟨z, hzz⟩ : ∃ z, x.size = z := ⟨_, rfl⟩
        have hneg : IntKind.i64.wrap (-((x.size : Nat) : Int)) = -((x.size : Nat) : Int) := wrap_in (by omega)
        have hsub : IntKind.i64.wrap (1099511627776 - ((x.size : Nat) : Int)) = 1099511627776 - ((x.size : Nat) : Int) := wrap_in (by omega)
        clear h1 hba hFo hf1 hf2 hzz
        by_cases h2 : off < -((x.size : Nat) : Int)
        · rw [if_pos (.inl (by omega))] at hul
          have hul' := Lib.hid hul
          clear hul
          have t1 : decide (off < -((x.size : Nat) : Int)) = true := decide_eq_true h2
          go_enter Tryz.func85, Tryz.ntmps85
          go_wp2_with (first
            | (have _t := tk; refine wpList_alloc_ansv rfl rfl ?_; intro g0 w0 V0 hg0 b0; have G0 := Lib.hid hg0; have B0 := Lib.hid b0; have T0 := Lib.hid (h'.out.below b0); clear tk b0 hg0)
            | (go_at_call 135; refine (hcl.out _ T0.out).mono ?_; rintro e w1 ⟨rfl, hb1⟩; have B1 := Lib.hid (B0.out.trans (hb1.mono B0.out.size)); have V1 := Lib.hid (V0.out.on' hb1); clear hb1)
            | (have _t := tk2; refine wpList_alloc_file rfl rfl ?_; intro g2 w2 V2 hg2 b2; have G2 := Lib.hid hg2; have B2 := Lib.hid (B1.out.trans (b2.mono B1.out.size)); have U2 := Lib.hid (V1.out.on' b2); clear tk2 b2 hg2)
            | (have _t := tk3; refine wpList_store_file rfl (.tmp 10) (.tmp 18) rfl V2.out rfl F rfl ?_; intro w3 V3 O3; have B3 := Lib.hid (below_at B2.out O3.out (Nat.le_trans B1.out.size G2.out)); have U3 := Lib.hid (U2.out.oth O3.out (by have := G2.out; have := V1.out.lt; omega)); clear tk3)
            | (go_at_call 139; refine (size_any _ ((h'.out.below B3.out).node i x hx'.out)).mono ?_; rintro e w9 ⟨rfl, rfl⟩)
            | (go_at_call 79; refine (only_any _ _).mono ?_; rintro e w4 ⟨rfl, hb4⟩; have B4 := Lib.hid (B3.out.trans (hb4.mono B3.out.size)); have U4 := Lib.hid (U3.out.on' hb4); clear hb4)
            | (have _t := tk4; refine wpList_store_ans rfl (.tmp 8) (.tmp 52) rfl U4.out rfl rfl 0 0 0 0 none none 0 0 0 0 rfl ?_; intro w5 V5 O5; have B5 := Lib.hid (below_at B4.out O5.out G0.out); clear tk4))
          refine bodyPost_ret (cell_ret2 rfl rfl V5.out Tryz.underlying38 (by rw [Tryz.sizeA]; rfl)) rfl ?_
          rw [hul'.out]
          exact tell_code h'.out B5.out (by decide) rfl
        · have t1 : decide (off < -((x.size : Nat) : Int)) = false := decide_eq_false h2
          by_cases h3 : 1099511627776 - ((x.size : Nat) : Int) < off
          · rw [if_pos (.inr (by omega))] at hul
            have hul' := Lib.hid hul
            clear hul
            have t2 : decide (1099511627776 - ((x.size : Nat) : Int) < off) = true := decide_eq_true h3
            go_enter Tryz.func85, Tryz.ntmps85
            go_wp2_with (first
              | (have _t := tk; refine wpList_alloc_ansv rfl rfl ?_; intro g0 w0 V0 hg0 b0; have G0 := Lib.hid hg0; have B0 := Lib.hid b0; have T0 := Lib.hid (h'.out.below b0); clear tk b0 hg0)
              | (go_at_call 135; refine (hcl.out _ T0.out).mono ?_; rintro e w1 ⟨rfl, hb1⟩; have B1 := Lib.hid (B0.out.trans (hb1.mono B0.out.size)); have V1 := Lib.hid (V0.out.on' hb1); clear hb1)
              | (have _t := tk2; refine wpList_alloc_file rfl rfl ?_; intro g2 w2 V2 hg2 b2; have G2 := Lib.hid hg2; have B2 := Lib.hid (B1.out.trans (b2.mono B1.out.size)); have U2 := Lib.hid (V1.out.on' b2); clear tk2 b2 hg2)
              | (have _t := tk3; refine wpList_store_file rfl (.tmp 10) (.tmp 18) rfl V2.out rfl F rfl ?_; intro w3 V3 O3; have B3 := Lib.hid (below_at B2.out O3.out (Nat.le_trans B1.out.size G2.out)); have U3 := Lib.hid (U2.out.oth O3.out (by have := G2.out; have := V1.out.lt; omega)); clear tk3)
              | (go_at_call 139; refine (size_any _ ((h'.out.below B3.out).node i x hx'.out)).mono ?_; rintro e w9 ⟨rfl, rfl⟩)
              | (go_at_call 79; refine (only_any _ _).mono ?_; rintro e w4 ⟨rfl, hb4⟩; have B4 := Lib.hid (B3.out.trans (hb4.mono B3.out.size)); have U4 := Lib.hid (U3.out.on' hb4); clear hb4)
              | (have _t := tk4; refine wpList_store_ans rfl (.tmp 8) (.tmp 52) rfl U4.out rfl rfl 0 0 0 0 none none 0 0 0 0 rfl ?_; intro w5 V5 O5; have B5 := Lib.hid (below_at B4.out O5.out G0.out); clear tk4))
            refine bodyPost_ret (cell_ret2 rfl rfl V5.out Tryz.underlying38 (by rw [Tryz.sizeA]; rfl)) rfl ?_
            rw [hul'.out]
            exact tell_code h'.out B5.out (by decide) rfl
          · rw [if_neg (by omega)] at hul
            have hul' := Lib.hid hul
            clear hul
            have t2 : decide (1099511627776 - ((x.size : Nat) : Int) < off) = false := decide_eq_false h3
            have hadd : IntKind.i64.wrap (((x.size : Nat) : Int) + off) = ((x.size : Nat) : Int) + off := wrap_in (by omega)
            have hmv := Lib.hid (fun w' (hw' : TreeAt w' B A s) => move_tree hw' fd (((x.size : Nat) : Int) + off) hth (by omega))
            clear h2 h3
            go_enter Tryz.func85, Tryz.ntmps85
            go_wp2_with (first
              | (have _t := tk; refine wpList_alloc_ansv rfl rfl ?_; intro g0 w0 V0 hg0 b0; have G0 := Lib.hid hg0; have B0 := Lib.hid b0; have T0 := Lib.hid (h'.out.below b0); clear tk b0 hg0)
              | (go_at_call 135; refine (hcl.out _ T0.out).mono ?_; rintro e w1 ⟨rfl, hb1⟩; have B1 := Lib.hid (B0.out.trans (hb1.mono B0.out.size)); have V1 := Lib.hid (V0.out.on' hb1); clear hb1)
              | (have _t := tk2; refine wpList_alloc_file rfl rfl ?_; intro g2 w2 V2 hg2 b2; have G2 := Lib.hid hg2; have B2 := Lib.hid (B1.out.trans (b2.mono B1.out.size)); have U2 := Lib.hid (V1.out.on' b2); clear tk2 b2 hg2)
              | (have _t := tk3; refine wpList_store_file rfl (.tmp 10) (.tmp 18) rfl V2.out rfl F rfl ?_; intro w3 V3 O3; have B3 := Lib.hid (below_at B2.out O3.out (Nat.le_trans B1.out.size G2.out)); have U3 := Lib.hid (U2.out.oth O3.out (by have := G2.out; have := V1.out.lt; omega)); have cf := (h'.out.below B3.out).files; clear tk3)
              | (go_at_call 139; refine (size_any _ ((h'.out.below B3.out).node i x hx'.out)).mono ?_; rintro e w9 ⟨rfl, rfl⟩)
              | (go_at_call 137; refine (hmv.out _ (h'.out.below B3.out)).mono ?_; rintro e w6 ⟨rfl, hT6, hS6, hU6⟩; have T6 := Lib.hid hT6; have S6 := Lib.hid ((TStep.of_below A B3.out).trans hS6); have U6 := Lib.hid (show Vw w6 38 g0 [.int .i64 0, .int .i64 0, .int .i64 0, .int .i64 0, .slice none 0 0, .slice none 0 0] by (have h2 := U3.out; unfold Vw at h2 ⊢; exact (hU6.block g0 (Vw.lt U3.out) (fun e => by (have h3 := (h'.out.hi _ _ h'.out.rf).2; have h4 := G0.out; omega))).trans h2)); clear hT6 hS6 hU6)
              | (have _t := tk4; refine wpList_store_ans rfl (.tmp 8) (.tmp 57) rfl U6.out rfl rfl 0 (((x.size : Nat) : Int) + off) 0 0 none none 0 0 0 0 rfl ?_; intro w7 V7 O7; clear tk4))
            refine bodyPost_ret (cell_ret2 rfl rfl V7.out Tryz.underlying38 (by rw [Tryz.sizeA]; rfl)) rfl ?_
            rw [hul'.out]
            exact tell_number (T6.out.oth O7.out (h'.out.fresh G0.out)) (S6.out.oth O7.out G0.out) rfl
  · rw [if_pos hc] at hul
    simp only [if_neg hc] at hcl
    obtain ⟨c, hcc⟩ : ∃ c, s.toRead fd = c := ⟨_, rfl⟩
    rw [hcc] at hul hcl hc
    have hul' := Lib.hid hul
    have hcl := Lib.hid hcl
    have hc' := Lib.hid hc
    have t0 : (c != 0) = true := by rw [bne_iff_ne]; exact hc
    clear hul hfil hc hcc hba
    go_enter Tryz.func85, Tryz.ntmps85
    go_wp2_with (first
      | (have _t := tk; refine wpList_alloc_ansv rfl rfl ?_; intro g0 w0 V0 hg0 b0; have G0 := Lib.hid hg0; have B0 := Lib.hid b0; have T0 := Lib.hid (h'.out.below b0); clear tk b0 hg0)
      | (go_at_call 135; refine (hcl.out _ T0.out).mono ?_; rintro e w1 ⟨rfl, hb1⟩; have B1 := Lib.hid (B0.out.trans (hb1.mono B0.out.size)); have V1 := Lib.hid (V0.out.on' hb1); clear hb1)
      | (have _t := tk2; refine wpList_alloc_file rfl rfl ?_; intro g2 w2 V2 hg2 b2; have G2 := Lib.hid hg2; have B2 := Lib.hid (B1.out.trans (b2.mono B1.out.size)); have U2 := Lib.hid (V1.out.on' b2); clear tk2 b2 hg2)
      | (have _t := tk3; refine wpList_store_file rfl (.tmp 10) (.tmp 18) rfl V2.out rfl p0 rfl ?_; intro w3 V3 O3; have B3 := Lib.hid (below_at B2.out O3.out (Nat.le_trans B1.out.size G2.out)); have U3 := Lib.hid (U2.out.oth O3.out (by have := G2.out; have := V1.out.lt; omega)); clear tk3)
      | (go_at_call 79; refine (only_any _ _).mono ?_; rintro e w4 ⟨rfl, hb4⟩; have B4 := Lib.hid (B3.out.trans (hb4.mono B3.out.size)); have U4 := Lib.hid (U3.out.on' hb4); clear hb4)
      | (have _t := tk4; refine wpList_store_ans rfl (.tmp 8) (.tmp 25) rfl U4.out rfl rfl 0 0 0 0 none none 0 0 0 0 rfl ?_; intro w5 V5 O5; have B5 := Lib.hid (below_at B4.out O5.out G0.out); clear tk4))
    refine bodyPost_ret (cell_ret2 rfl rfl V5.out Tryz.underlying38 (by rw [Tryz.sizeA]; rfl)) rfl ?_
    rw [hul'.out]
    exact tell_code h'.out B5.out hc'.out rfl
end
end Go.Proofs.YtgcodlicbdaddaaGreatDoor
end
