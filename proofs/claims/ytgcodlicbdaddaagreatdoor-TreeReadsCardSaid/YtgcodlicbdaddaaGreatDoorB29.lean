/-
  Bytes laid in a file, by a descriptor, from where it stands on or from the end on.
-/
import Derived.Test.YtgcodlicbdaddaaGreatDoorB28

section
set_option linter.unusedVariables false
set_option linter.unusedSimpArgs false
namespace Go.Proofs.YtgcodlicbdaddaaGreatDoor
open Go.RowKit BigFrame
set_option maxRecDepth 100000

section
variable {w : World} {B b : Nat} {A : Ad} {s : Tr}
theorem lay_code {s s4 : Tr} {i z : Nat} {l : List Nat} {c : Int} (h : s.lay i ((z : Nat) : Int) l = (c, s4)) : (c ≠ 0 → s4 = s) ∧ (l = [] → s4 = s) ∧ (c = 0 → l ≠ [] → z + l.length ≤ 20736 ∧ s4.tb = s.tb) := by
  unfold Tr.lay at h
  split at h
  · obtain ⟨rfl, rfl⟩ := Prod.mk.inj h
    exact ⟨fun _ => rfl, fun _ => rfl, fun e => by cases e⟩
  · split at h
    · obtain ⟨rfl, rfl⟩ := Prod.mk.inj h
      exact ⟨fun _ => rfl, fun _ => rfl, fun _ e => absurd (by assumption) e⟩
    · obtain ⟨rfl, rfl⟩ := Prod.mk.inj h
      exact ⟨fun e => absurd rfl e, fun e => absurd e (by assumption), fun _ _ => ⟨by omega, rfl⟩⟩
theorem Ok.toWrite_plc {b : Nat} {s : Tr} (ho : Ok b s) {fd : Int} (h : s.toWrite fd = 0) : thereB s.tb fd = true ∧ 0 ≤ (s.plc fd).fl ∧ (s.plc fd).fl ≤ 63 ∧ 0 ≤ (s.plc fd).off ∧ (s.plc fd).off ≤ 1099511627776 := by
  unfold Tr.toWrite at h
  by_cases h2 : thereB s.tb fd = true ∧ bitF (s.plc fd).fl 32 = true
  · obtain ⟨i, x, _, _, _, h3, h4, h5, h6, _⟩ := ho.tab h2.1
    exact ⟨h2.1, h3, h4, h5, h6⟩
  · rw [if_neg h2] at h; cases h
set_option maxHeartbeats 4000000 in
theorem write_any (h : TreeAt w B A s) (ho : Ok b s) (hb : b ≤ 900000) (hB : B ≤ w.heap.size) (fd : Int) (sp : Option Addr) (cap : Nat) (l : List Nat) (hl : l.length ≤ 1000000) (hin : InB w A sp l) :
    Calls Tryz.prog 82 #[.pointer (some ⟨A.t, 0, none⟩), .int .i64 fd, .slice sp l.length cap] w (TellPost B A (s.write fd l).2 (s.write fd l).1 w) := by
  have h' := Lib.hid h
  have hcl := fun w' (hw' : TreeAt w' B A s) => toWrite_any hw' ho hb fd
  unfold HasPost at hcl
  have hul : s.write fd l = if s.toWrite fd ≠ 0 then (ansC (s.toWrite fd), s) else
    if (s.lay (s.nof fd) (s.from fd) l).1 ≠ 0 then (ansC (s.lay (s.nof fd) (s.from fd) l).1, s) else
    if l = [] then (ans0, s) else ({ ans0 with n := l.length }, (s.lay (s.nof fd) (s.from fd) l).2.move fd (s.from fd + l.length)) := rfl
  have hfr : s.from fd = if bitF (s.plc fd).fl 8 = true then ((s.at (s.nof fd)).size : Int) else (s.plc fd).off := rfl
  have tk : True := trivial
  have tk2 : True := trivial
  have tk3 : True := trivial
  have tk4 : True := trivial
  have tk5 : True := trivial
  have tk6 : True := trivial
  have hfil := fun e => ho.toWrite_file (fd := fd) e
  have hpl := fun e => ho.toWrite_plc (fd := fd) e
  obtain ⟨F, hF⟩ : ∃ F, s.plc fd = F := ⟨_, rfl⟩
  obtain ⟨i, hi⟩ : ∃ i, s.nof fd = i := ⟨_, rfl⟩
  rw [hF, hi] at hcl hfr
  rw [hi] at hul hfil
  rw [hF] at hpl
  clear h hF hi
  by_cases hc : s.toWrite fd = 0
  · obtain ⟨x, hx, hk⟩ := hfil hc
    obtain ⟨hth, hf1, hf2, ho1, ho2⟩ := hpl hc
    simp only [if_pos hc] at hcl
    rw [hc] at hcl
    rw [if_neg (fun h => h hc)] at hul
    rw [Tr.at_of hx] at hfr
    have hx' := Lib.hid hx
    have hk' := Lib.hid (show x.kind ≠ 3 by omega)
    have hfl : bits .and .i64 F.fl 8 = if bitF F.fl 8 = true then 8 else 0 := flag_is hf1 hf2 3 (by omega)
    clear hx hfil hk hc hpl
    have hcl := Lib.hid hcl
    obtain ⟨o, hFo⟩ : ∃ o : Nat, F.off = (o : Int) := ⟨F.off.toNat, by omega⟩
    have hFo' := Lib.hid hFo
    by_cases hk : bitF F.fl 8 = true
    · rw [if_pos hk] at hfr hfl
      rw [hfr] at hul
      clear hfr hFo ho1 ho2 hf1 hf2 hk
      have hly := fun w' (hw' : TreeAt w' B A s) (hi' : InB w' A sp l) (hB' : B ≤ w'.heap.size) => lay_tree hw' hx'.out hk'.out (x.size) sp cap l hl hi' hB'
      obtain ⟨⟨c, s4⟩, hly2⟩ : ∃ q, s.lay i (((x.size) : Nat) : Int) l = q := ⟨_, rfl⟩
      have hs2 := lay_code hly2
      rw [hly2] at hly hul
      unfold LayPost at hly
      obtain ⟨N, hN⟩ : ∃ N, (if c = 0 then ((l.length : Nat) : Int) else 0) = N := ⟨_, rfl⟩
      simp only [hN] at hly
      have hly' := Lib.hid hly
      have hin' := Lib.hid hin
      have hB' := Lib.hid hB
      by_cases hc0 : c = 0
      · subst hc0
        rw [if_neg (fun h => h rfl)] at hul
        rw [if_pos rfl] at hN
        by_cases hl0 : l = []
        · rw [if_pos hl0] at hul
          have hN0 : N = 0 := by rw [← hN, hl0]; rfl
          subst hN0
          have hs3 := Lib.hid (hs2.2.1 hl0)
          have hul' := Lib.hid hul
          clear hul hly hs2 hin hB hly2 hN hl0
          go_enter Tryz.func82, Tryz.ntmps82
          go_wp2_with (first
            | (have _t := tk; refine wpList_alloc_ansv rfl rfl ?_; intro g0 w0 V0 hg0 b0; have G0 := Lib.hid hg0; have B0 := Lib.hid b0; have T0 := Lib.hid (h'.out.below b0); clear tk b0 hg0)
            | (go_at_call 138; refine (hcl.out _ T0.out).mono ?_; rintro e w1 ⟨rfl, hb1⟩; have B1 := Lib.hid (B0.out.trans (hb1.mono B0.out.size)); have V1 := Lib.hid (V0.out.on' hb1); clear hb1)
            | (have _t := tk2; refine wpList_alloc_file rfl rfl ?_; intro g2 w2 V2 hg2 b2; have G2 := Lib.hid hg2; have B2 := Lib.hid (B1.out.trans (b2.mono B1.out.size)); have U2 := Lib.hid (V1.out.on' b2); clear tk2 b2 hg2)
            | (have _t := tk3; refine wpList_store_file rfl (.tmp 8) (.tmp 17) rfl V2.out rfl F rfl ?_; intro w3 V3 O3; have B3 := Lib.hid (below_at B2.out O3.out (Nat.le_trans B1.out.size G2.out)); have U3 := Lib.hid (U2.out.oth O3.out (by have := G2.out; have := V1.out.lt; omega)); have cn := V3.out.cell (k := 1) rfl; rw [hFo'.out] at cn; have cn2 := V3.out.cell (k := 2) rfl; clear tk3)
            | (go_at_call 139; refine (size_any _ ((h'.out.below B3.out).node i x hx'.out)).mono ?_; rintro e w9 ⟨rfl, rfl⟩)
            | (go_at_call 140; refine (hly'.out _ (h'.out.below B3.out) (hin'.out.below B3.out) (Nat.le_trans hB'.out B3.out.size)).mono ?_; rintro _ w4 ⟨rfl, A4, hT4, hS4⟩; have T4 := Lib.hid hT4; have S4 := Lib.hid ((TStep.of_below A B3.out).trans hS4); have hg0 := h'.out.fresh G0.out; have U4 := Lib.hid (show Vw w4 38 g0 [.int .i64 0, .int .i64 0, .int .i64 0, .int .i64 0, .slice none 0 0, .slice none 0 0] by (have h2 := U3.out; unfold Vw at h2 ⊢; exact (hS4.block g0 (Vw.lt U3.out) hg0).trans h2)); have X4 := Lib.hid (show A4.own g0 = none from (hS4.ext g0 (Vw.lt U3.out)).trans hg0); clear hT4 hS4 hg0)
            | (have _t := tk5; refine wpList_alloc_ansv rfl rfl ?_; intro g5 w5 V5 hg5 b5; have G5 := Lib.hid hg5; have B5 := Lib.hid b5; have T5 := Lib.hid (T4.out.below b5); have U5 := Lib.hid (U4.out.on' b5); have S5 := Lib.hid (S4.out.trans (TStep.of_below A4 b5)); clear tk5 b5 hg5)
            | (have _t := tk6; refine wpList_store_ans rfl (.tmp 12) (.tmp 39) rfl V5.out rfl rfl 0 0 0 0 none none 0 0 0 0 rfl ?_; intro w6 V6 O6; have U6 := Lib.hid (U5.out.oth O6.out (by have := G5.out; have := U4.out.lt; omega)); have T6 := Lib.hid (T5.out.oth O6.out (T4.out.fresh G5.out)); have S6 := Lib.hid (S5.out.oth O6.out (Nat.le_trans S4.out.size G5.out)); have q0 := V6.out.cell (k := 0) rfl; have q1 := V6.out.cell (k := 1) rfl; have q2 := V6.out.cell (k := 2) rfl; have q3 := V6.out.cell (k := 3) rfl; have q4 := V6.out.cell (k := 4) rfl; have q5 := V6.out.cell (k := 5) rfl; clear tk6)
            | (have _t := tk4; refine wpList_store_ans rfl (.tmp 6) (.tmp 54) rfl U6.out rfl rfl 0 0 0 0 none none 0 0 0 0 rfl ?_; intro w7 V7 O7; clear tk4))
          refine bodyPost_ret (cell_ret2 rfl rfl V7.out Tryz.underlying38 (by rw [Tryz.sizeA]; rfl)) rfl ?_
          rw [hul'.out]
          have := hs3.out
          subst this
          exact tell_laid (T6.out.oth O7.out X4.out) (S6.out.oth O7.out G0.out) rfl (fun _ => rfl)
        · rw [if_neg hl0] at hul
          obtain ⟨hz, htb⟩ := hs2.2.2 rfl hl0
          have hlp : 0 < l.length := List.length_pos_iff.2 hl0
          have hth4 : thereB s4.tb fd = true := by rw [htb]; exact hth
          subst hN
          have t8 : decide ((0 : Int) < ((l.length : Nat) : Int)) = true := decide_eq_true (by omega)
          have t9 : decide (0 < l.length) = true := decide_eq_true hlp
          have hsum : IntKind.i64.wrap ((((x.size) : Nat) : Int) + ((l.length : Nat) : Int)) = (((x.size) : Nat) : Int) + ((l.length : Nat) : Int) := wrap_in (by omega)
          have hmv := Lib.hid (fun (A' : Ad) w' (hw' : TreeAt w' B A' s4) => move_tree hw' fd ((((x.size) : Nat) : Int) + ((l.length : Nat) : Int)) hth4 (by omega))
          have hul' := Lib.hid hul
          clear hul hly hs2 hin hB hly2 hl0 hz htb hth4
          go_enter Tryz.func82, Tryz.ntmps82
          go_wp2_with (first
            | (have _t := tk; refine wpList_alloc_ansv rfl rfl ?_; intro g0 w0 V0 hg0 b0; have G0 := Lib.hid hg0; have B0 := Lib.hid b0; have T0 := Lib.hid (h'.out.below b0); clear tk b0 hg0)
            | (go_at_call 138; refine (hcl.out _ T0.out).mono ?_; rintro e w1 ⟨rfl, hb1⟩; have B1 := Lib.hid (B0.out.trans (hb1.mono B0.out.size)); have V1 := Lib.hid (V0.out.on' hb1); clear hb1)
            | (have _t := tk2; refine wpList_alloc_file rfl rfl ?_; intro g2 w2 V2 hg2 b2; have G2 := Lib.hid hg2; have B2 := Lib.hid (B1.out.trans (b2.mono B1.out.size)); have U2 := Lib.hid (V1.out.on' b2); clear tk2 b2 hg2)
            | (have _t := tk3; refine wpList_store_file rfl (.tmp 8) (.tmp 17) rfl V2.out rfl F rfl ?_; intro w3 V3 O3; have B3 := Lib.hid (below_at B2.out O3.out (Nat.le_trans B1.out.size G2.out)); have U3 := Lib.hid (U2.out.oth O3.out (by have := G2.out; have := V1.out.lt; omega)); have cn := V3.out.cell (k := 1) rfl; rw [hFo'.out] at cn; have cn2 := V3.out.cell (k := 2) rfl; clear tk3)
            | (go_at_call 139; refine (size_any _ ((h'.out.below B3.out).node i x hx'.out)).mono ?_; rintro e w9 ⟨rfl, rfl⟩)
            | (go_at_call 140; refine (hly'.out _ (h'.out.below B3.out) (hin'.out.below B3.out) (Nat.le_trans hB'.out B3.out.size)).mono ?_; rintro _ w4 ⟨rfl, A4, hT4, hS4⟩; have T4 := Lib.hid hT4; have S4 := Lib.hid ((TStep.of_below A B3.out).trans hS4); have hg0 := h'.out.fresh G0.out; have U4 := Lib.hid (show Vw w4 38 g0 [.int .i64 0, .int .i64 0, .int .i64 0, .int .i64 0, .slice none 0 0, .slice none 0 0] by (have h2 := U3.out; unfold Vw at h2 ⊢; exact (hS4.block g0 (Vw.lt U3.out) hg0).trans h2)); have X4 := Lib.hid (show A4.own g0 = none from (hS4.ext g0 (Vw.lt U3.out)).trans hg0); clear hT4 hS4 hg0)
            | (have _t := tk5; refine wpList_alloc_ansv rfl rfl ?_; intro g5 w5 V5 hg5 b5; have G5 := Lib.hid hg5; have B5 := Lib.hid b5; have T5 := Lib.hid (T4.out.below b5); have U5 := Lib.hid (U4.out.on' b5); have S5 := Lib.hid (S4.out.trans (TStep.of_below A4 b5)); clear tk5 b5 hg5)
            | (have _t := tk6; refine wpList_store_ans rfl (.tmp 12) (.tmp 39) rfl V5.out rfl rfl 0 ((l.length : Nat) : Int) 0 0 none none 0 0 0 0 rfl ?_; intro w6 V6 O6; have U6 := Lib.hid (U5.out.oth O6.out (by have := G5.out; have := U4.out.lt; omega)); have T6 := Lib.hid (T5.out.oth O6.out (T4.out.fresh G5.out)); have S6 := Lib.hid (S5.out.oth O6.out (Nat.le_trans S4.out.size G5.out)); have q0 := V6.out.cell (k := 0) rfl; have q1 := V6.out.cell (k := 1) rfl; have q2 := V6.out.cell (k := 2) rfl; have q3 := V6.out.cell (k := 3) rfl; have q4 := V6.out.cell (k := 4) rfl; have q5 := V6.out.cell (k := 5) rfl; clear tk6))
          have T7 := Lib.hid T6.out.drew
          have cf := T6.out.files
          rw [S6.out.t] at cf
          have V7 := V6
          go_region_with (go_at_call 137; refine (hmv.out A4 _ T7.out).mono ?_; rintro e w8 ⟨rfl, hT8, hS8, hU8⟩; have T8 := Lib.hid hT8; have S8 := Lib.hid ((S6.out.trans (TStep.of_below A4 (below_dN w6 1))).trans hS8); have V8 := Lib.hid (show Vw w8 38 g5 _ from by (have h2 := V6.out; unfold Vw at h2 ⊢; exact (hU8.block g5 (Vw.lt V6.out) (fun e => by (have h3 := (T4.out.hi _ _ T4.out.rf).2; have h4 := G5.out; omega))).trans h2)); have U8 := Lib.hid (show Vw w8 38 g0 [.int .i64 0, .int .i64 0, .int .i64 0, .int .i64 0, .slice none 0 0, .slice none 0 0] by (have h2 := U6.out; unfold Vw at h2 ⊢; exact (hU8.block g0 (Vw.lt U6.out) (fun e => by (have h3 := X4.out; rw [e, T4.out.rf] at h3; cases h3))).trans h2)); clear hT8 hS8 hU8)
          all_goals (
            clear q0 q1 q2 q3 q4 q5
            have q0 := V8.out.cell (k := 0) rfl
            have q1 := V8.out.cell (k := 1) rfl
            have q2 := V8.out.cell (k := 2) rfl
            have q3 := V8.out.cell (k := 3) rfl
            have q4 := V8.out.cell (k := 4) rfl
            have q5 := V8.out.cell (k := 5) rfl
            go_wp2_with (have _t := tk4; refine wpList_store_ans rfl (.tmp 6) (.tmp 54) rfl U8.out rfl rfl 0 ((l.length : Nat) : Int) 0 0 none none 0 0 0 0 rfl ?_; intro w7 V7 O7; clear tk4)
            refine bodyPost_ret (cell_ret2 rfl rfl V7.out Tryz.underlying38 (by rw [Tryz.sizeA]; rfl)) rfl ?_
            rw [hul'.out]
            exact tell_laid (T8.out.oth O7.out X4.out) (S8.out.oth O7.out G0.out) rfl (fun _ => rfl))
      · rw [if_pos hc0] at hul
        rw [if_neg hc0] at hN
        subst hN
        have hs3 := Lib.hid (hs2.1 hc0)
        have hul' := Lib.hid hul
        have hc' := Lib.hid hc0
        clear hul hly hs2 hin hB hly2 hc0
        go_enter Tryz.func82, Tryz.ntmps82
        go_wp2_with (first
          | (have _t := tk; refine wpList_alloc_ansv rfl rfl ?_; intro g0 w0 V0 hg0 b0; have G0 := Lib.hid hg0; have B0 := Lib.hid b0; have T0 := Lib.hid (h'.out.below b0); clear tk b0 hg0)
          | (go_at_call 138; refine (hcl.out _ T0.out).mono ?_; rintro e w1 ⟨rfl, hb1⟩; have B1 := Lib.hid (B0.out.trans (hb1.mono B0.out.size)); have V1 := Lib.hid (V0.out.on' hb1); clear hb1)
          | (have _t := tk2; refine wpList_alloc_file rfl rfl ?_; intro g2 w2 V2 hg2 b2; have G2 := Lib.hid hg2; have B2 := Lib.hid (B1.out.trans (b2.mono B1.out.size)); have U2 := Lib.hid (V1.out.on' b2); clear tk2 b2 hg2)
          | (have _t := tk3; refine wpList_store_file rfl (.tmp 8) (.tmp 17) rfl V2.out rfl F rfl ?_; intro w3 V3 O3; have B3 := Lib.hid (below_at B2.out O3.out (Nat.le_trans B1.out.size G2.out)); have U3 := Lib.hid (U2.out.oth O3.out (by have := G2.out; have := V1.out.lt; omega)); have cn := V3.out.cell (k := 1) rfl; rw [hFo'.out] at cn; have cn2 := V3.out.cell (k := 2) rfl; clear tk3)
          | (go_at_call 139; refine (size_any _ ((h'.out.below B3.out).node i x hx'.out)).mono ?_; rintro e w9 ⟨rfl, rfl⟩)
          | (go_at_call 140; refine (hly'.out _ (h'.out.below B3.out) (hin'.out.below B3.out) (Nat.le_trans hB'.out B3.out.size)).mono ?_; rintro _ w4 ⟨rfl, A4, hT4, hS4⟩; have T4 := Lib.hid hT4; have S4 := Lib.hid ((TStep.of_below A B3.out).trans hS4); have hg0 := h'.out.fresh G0.out; have U4 := Lib.hid (show Vw w4 38 g0 [.int .i64 0, .int .i64 0, .int .i64 0, .int .i64 0, .slice none 0 0, .slice none 0 0] by (have h2 := U3.out; unfold Vw at h2 ⊢; exact (hS4.block g0 (Vw.lt U3.out) hg0).trans h2)); have X4 := Lib.hid (show A4.own g0 = none from (hS4.ext g0 (Vw.lt U3.out)).trans hg0); clear hT4 hS4 hg0)
          | (have _t := tk5; refine wpList_alloc_ansv rfl rfl ?_; intro g5 w5 V5 hg5 b5; have G5 := Lib.hid hg5; have B5 := Lib.hid b5; have T5 := Lib.hid (T4.out.below b5); have U5 := Lib.hid (U4.out.on' b5); have S5 := Lib.hid (S4.out.trans (TStep.of_below A4 b5)); clear tk5 b5 hg5)
          | (have _t := tk6; refine wpList_store_ans rfl (.tmp 12) (.tmp 39) rfl V5.out rfl rfl 0 0 0 0 none none 0 0 0 0 rfl ?_; intro w6 V6 O6; have U6 := Lib.hid (U5.out.oth O6.out (by have := G5.out; have := U4.out.lt; omega)); have T6 := Lib.hid (T5.out.oth O6.out (T4.out.fresh G5.out)); have S6 := Lib.hid (S5.out.oth O6.out (Nat.le_trans S4.out.size G5.out)); have q0 := V6.out.cell (k := 0) rfl; have q1 := V6.out.cell (k := 1) rfl; have q2 := V6.out.cell (k := 2) rfl; have q3 := V6.out.cell (k := 3) rfl; have q4 := V6.out.cell (k := 4) rfl; have q5 := V6.out.cell (k := 5) rfl; clear tk6)
          | (have _t := tk4; refine wpList_store_ans rfl (.tmp 6) (.tmp 54) rfl U6.out rfl rfl 0 0 0 0 none none 0 0 0 0 rfl ?_; intro w7 V7 O7; clear tk4))
        refine bodyPost_ret (cell_ret2 rfl rfl V7.out Tryz.underlying38 (by rw [Tryz.sizeA]; rfl)) rfl ?_
        rw [hul'.out]
        have := hs3.out
        subst this
        exact tell_laid (T6.out.oth O7.out X4.out) (S6.out.oth O7.out G0.out) rfl (fun e => absurd e hc'.out)
    · rw [if_neg hk] at hfr hfl
      rw [hfr, hFo] at hul
      clear hfr hFo ho1 hf1 hf2 hk
      have hly := fun w' (hw' : TreeAt w' B A s) (hi' : InB w' A sp l) (hB' : B ≤ w'.heap.size) => lay_tree hw' hx'.out hk'.out (o) sp cap l hl hi' hB'
      obtain ⟨⟨c, s4⟩, hly2⟩ : ∃ q, s.lay i (((o) : Nat) : Int) l = q := ⟨_, rfl⟩
      have hs2 := lay_code hly2
      rw [hly2] at hly hul
      unfold LayPost at hly
      obtain ⟨N, hN⟩ : ∃ N, (if c = 0 then ((l.length : Nat) : Int) else 0) = N := ⟨_, rfl⟩
      simp only [hN] at hly
      have hly' := Lib.hid hly
      have hin' := Lib.hid hin
      have hB' := Lib.hid hB
      by_cases hc0 : c = 0
      · subst hc0
        rw [if_neg (fun h => h rfl)] at hul
        rw [if_pos rfl] at hN
        by_cases hl0 : l = []
        · rw [if_pos hl0] at hul
          have hN0 : N = 0 := by rw [← hN, hl0]; rfl
          subst hN0
          have hs3 := Lib.hid (hs2.2.1 hl0)
          have hul' := Lib.hid hul
          clear hul hly hs2 hin hB hly2 hN hl0
          go_enter Tryz.func82, Tryz.ntmps82
          go_wp2_with (first
            | (have _t := tk; refine wpList_alloc_ansv rfl rfl ?_; intro g0 w0 V0 hg0 b0; have G0 := Lib.hid hg0; have B0 := Lib.hid b0; have T0 := Lib.hid (h'.out.below b0); clear tk b0 hg0)
            | (go_at_call 138; refine (hcl.out _ T0.out).mono ?_; rintro e w1 ⟨rfl, hb1⟩; have B1 := Lib.hid (B0.out.trans (hb1.mono B0.out.size)); have V1 := Lib.hid (V0.out.on' hb1); clear hb1)
            | (have _t := tk2; refine wpList_alloc_file rfl rfl ?_; intro g2 w2 V2 hg2 b2; have G2 := Lib.hid hg2; have B2 := Lib.hid (B1.out.trans (b2.mono B1.out.size)); have U2 := Lib.hid (V1.out.on' b2); clear tk2 b2 hg2)
            | (have _t := tk3; refine wpList_store_file rfl (.tmp 8) (.tmp 17) rfl V2.out rfl F rfl ?_; intro w3 V3 O3; have B3 := Lib.hid (below_at B2.out O3.out (Nat.le_trans B1.out.size G2.out)); have U3 := Lib.hid (U2.out.oth O3.out (by have := G2.out; have := V1.out.lt; omega)); have cn := V3.out.cell (k := 1) rfl; rw [hFo'.out] at cn; have cn2 := V3.out.cell (k := 2) rfl; clear tk3)
            | (go_at_call 140; refine (hly'.out _ (h'.out.below B3.out) (hin'.out.below B3.out) (Nat.le_trans hB'.out B3.out.size)).mono ?_; rintro _ w4 ⟨rfl, A4, hT4, hS4⟩; have T4 := Lib.hid hT4; have S4 := Lib.hid ((TStep.of_below A B3.out).trans hS4); have hg0 := h'.out.fresh G0.out; have U4 := Lib.hid (show Vw w4 38 g0 [.int .i64 0, .int .i64 0, .int .i64 0, .int .i64 0, .slice none 0 0, .slice none 0 0] by (have h2 := U3.out; unfold Vw at h2 ⊢; exact (hS4.block g0 (Vw.lt U3.out) hg0).trans h2)); have X4 := Lib.hid (show A4.own g0 = none from (hS4.ext g0 (Vw.lt U3.out)).trans hg0); clear hT4 hS4 hg0)
            | (have _t := tk5; refine wpList_alloc_ansv rfl rfl ?_; intro g5 w5 V5 hg5 b5; have G5 := Lib.hid hg5; have B5 := Lib.hid b5; have T5 := Lib.hid (T4.out.below b5); have U5 := Lib.hid (U4.out.on' b5); have S5 := Lib.hid (S4.out.trans (TStep.of_below A4 b5)); clear tk5 b5 hg5)
            | (have _t := tk6; refine wpList_store_ans rfl (.tmp 12) (.tmp 39) rfl V5.out rfl rfl 0 0 0 0 none none 0 0 0 0 rfl ?_; intro w6 V6 O6; have U6 := Lib.hid (U5.out.oth O6.out (by have := G5.out; have := U4.out.lt; omega)); have T6 := Lib.hid (T5.out.oth O6.out (T4.out.fresh G5.out)); have S6 := Lib.hid (S5.out.oth O6.out (Nat.le_trans S4.out.size G5.out)); have q0 := V6.out.cell (k := 0) rfl; have q1 := V6.out.cell (k := 1) rfl; have q2 := V6.out.cell (k := 2) rfl; have q3 := V6.out.cell (k := 3) rfl; have q4 := V6.out.cell (k := 4) rfl; have q5 := V6.out.cell (k := 5) rfl; clear tk6)
            | (have _t := tk4; refine wpList_store_ans rfl (.tmp 6) (.tmp 54) rfl U6.out rfl rfl 0 0 0 0 none none 0 0 0 0 rfl ?_; intro w7 V7 O7; clear tk4))
          refine bodyPost_ret (cell_ret2 rfl rfl V7.out Tryz.underlying38 (by rw [Tryz.sizeA]; rfl)) rfl ?_
          rw [hul'.out]
          have := hs3.out
          subst this
          exact tell_laid (T6.out.oth O7.out X4.out) (S6.out.oth O7.out G0.out) rfl (fun _ => rfl)
        · rw [if_neg hl0] at hul
          obtain ⟨hz, htb⟩ := hs2.2.2 rfl hl0
          have hlp : 0 < l.length := List.length_pos_iff.2 hl0
          have hth4 : thereB s4.tb fd = true := by rw [htb]; exact hth
          subst hN
          have t8 : decide ((0 : Int) < ((l.length : Nat) : Int)) = true := decide_eq_true (by omega)
          have t9 : decide (0 < l.length) = true := decide_eq_true hlp
          have hsum : IntKind.i64.wrap ((((o) : Nat) : Int) + ((l.length : Nat) : Int)) = (((o) : Nat) : Int) + ((l.length : Nat) : Int) := wrap_in (by omega)
          have hmv := Lib.hid (fun (A' : Ad) w' (hw' : TreeAt w' B A' s4) => move_tree hw' fd ((((o) : Nat) : Int) + ((l.length : Nat) : Int)) hth4 (by omega))
          have hul' := Lib.hid hul
          clear hul hly hs2 hin hB hly2 hl0 hz htb hth4
          go_enter Tryz.func82, Tryz.ntmps82
          go_wp2_with (first
            | (have _t := tk; refine wpList_alloc_ansv rfl rfl ?_; intro g0 w0 V0 hg0 b0; have G0 := Lib.hid hg0; have B0 := Lib.hid b0; have T0 := Lib.hid (h'.out.below b0); clear tk b0 hg0)
            | (go_at_call 138; refine (hcl.out _ T0.out).mono ?_; rintro e w1 ⟨rfl, hb1⟩; have B1 := Lib.hid (B0.out.trans (hb1.mono B0.out.size)); have V1 := Lib.hid (V0.out.on' hb1); clear hb1)
            | (have _t := tk2; refine wpList_alloc_file rfl rfl ?_; intro g2 w2 V2 hg2 b2; have G2 := Lib.hid hg2; have B2 := Lib.hid (B1.out.trans (b2.mono B1.out.size)); have U2 := Lib.hid (V1.out.on' b2); clear tk2 b2 hg2)
            | (have _t := tk3; refine wpList_store_file rfl (.tmp 8) (.tmp 17) rfl V2.out rfl F rfl ?_; intro w3 V3 O3; have B3 := Lib.hid (below_at B2.out O3.out (Nat.le_trans B1.out.size G2.out)); have U3 := Lib.hid (U2.out.oth O3.out (by have := G2.out; have := V1.out.lt; omega)); have cn := V3.out.cell (k := 1) rfl; rw [hFo'.out] at cn; have cn2 := V3.out.cell (k := 2) rfl; clear tk3)
            | (go_at_call 140; refine (hly'.out _ (h'.out.below B3.out) (hin'.out.below B3.out) (Nat.le_trans hB'.out B3.out.size)).mono ?_; rintro _ w4 ⟨rfl, A4, hT4, hS4⟩; have T4 := Lib.hid hT4; have S4 := Lib.hid ((TStep.of_below A B3.out).trans hS4); have hg0 := h'.out.fresh G0.out; have U4 := Lib.hid (show Vw w4 38 g0 [.int .i64 0, .int .i64 0, .int .i64 0, .int .i64 0, .slice none 0 0, .slice none 0 0] by (have h2 := U3.out; unfold Vw at h2 ⊢; exact (hS4.block g0 (Vw.lt U3.out) hg0).trans h2)); have X4 := Lib.hid (show A4.own g0 = none from (hS4.ext g0 (Vw.lt U3.out)).trans hg0); clear hT4 hS4 hg0)
            | (have _t := tk5; refine wpList_alloc_ansv rfl rfl ?_; intro g5 w5 V5 hg5 b5; have G5 := Lib.hid hg5; have B5 := Lib.hid b5; have T5 := Lib.hid (T4.out.below b5); have U5 := Lib.hid (U4.out.on' b5); have S5 := Lib.hid (S4.out.trans (TStep.of_below A4 b5)); clear tk5 b5 hg5)
            | (have _t := tk6; refine wpList_store_ans rfl (.tmp 12) (.tmp 39) rfl V5.out rfl rfl 0 ((l.length : Nat) : Int) 0 0 none none 0 0 0 0 rfl ?_; intro w6 V6 O6; have U6 := Lib.hid (U5.out.oth O6.out (by have := G5.out; have := U4.out.lt; omega)); have T6 := Lib.hid (T5.out.oth O6.out (T4.out.fresh G5.out)); have S6 := Lib.hid (S5.out.oth O6.out (Nat.le_trans S4.out.size G5.out)); have q0 := V6.out.cell (k := 0) rfl; have q1 := V6.out.cell (k := 1) rfl; have q2 := V6.out.cell (k := 2) rfl; have q3 := V6.out.cell (k := 3) rfl; have q4 := V6.out.cell (k := 4) rfl; have q5 := V6.out.cell (k := 5) rfl; clear tk6))
          have T7 := Lib.hid T6.out.drew
          have cf := T6.out.files
          rw [S6.out.t] at cf
          have V7 := V6
          go_region_with (go_at_call 137; refine (hmv.out A4 _ T7.out).mono ?_; rintro e w8 ⟨rfl, hT8, hS8, hU8⟩; have T8 := Lib.hid hT8; have S8 := Lib.hid ((S6.out.trans (TStep.of_below A4 (below_dN w6 1))).trans hS8); have V8 := Lib.hid (show Vw w8 38 g5 _ from by (have h2 := V6.out; unfold Vw at h2 ⊢; exact (hU8.block g5 (Vw.lt V6.out) (fun e => by (have h3 := (T4.out.hi _ _ T4.out.rf).2; have h4 := G5.out; omega))).trans h2)); have U8 := Lib.hid (show Vw w8 38 g0 [.int .i64 0, .int .i64 0, .int .i64 0, .int .i64 0, .slice none 0 0, .slice none 0 0] by (have h2 := U6.out; unfold Vw at h2 ⊢; exact (hU8.block g0 (Vw.lt U6.out) (fun e => by (have h3 := X4.out; rw [e, T4.out.rf] at h3; cases h3))).trans h2)); clear hT8 hS8 hU8)
          all_goals (
            clear q0 q1 q2 q3 q4 q5
            have q0 := V8.out.cell (k := 0) rfl
            have q1 := V8.out.cell (k := 1) rfl
            have q2 := V8.out.cell (k := 2) rfl
            have q3 := V8.out.cell (k := 3) rfl
            have q4 := V8.out.cell (k := 4) rfl
            have q5 := V8.out.cell (k := 5) rfl
            go_wp2_with (have _t := tk4; refine wpList_store_ans rfl (.tmp 6) (.tmp 54) rfl U8.out rfl rfl 0 ((l.length : Nat) : Int) 0 0 none none 0 0 0 0 rfl ?_; intro w7 V7 O7; clear tk4)
            refine bodyPost_ret (cell_ret2 rfl rfl V7.out Tryz.underlying38 (by rw [Tryz.sizeA]; rfl)) rfl ?_
            rw [hul'.out]
            exact tell_laid (T8.out.oth O7.out X4.out) (S8.out.oth O7.out G0.out) rfl (fun _ => rfl))
      · rw [if_pos hc0] at hul
        rw [if_neg hc0] at hN
        subst hN
        have hs3 := Lib.hid (hs2.1 hc0)
        have hul' := Lib.hid hul
        have hc' := Lib.hid hc0
        clear hul hly hs2 hin hB hly2 hc0
        go_enter Tryz.func82, Tryz.ntmps82
        go_wp2_with (first
          | (have _t := tk; refine wpList_alloc_ansv rfl rfl ?_; intro g0 w0 V0 hg0 b0; have G0 := Lib.hid hg0; have B0 := Lib.hid b0; have T0 := Lib.hid (h'.out.below b0); clear tk b0 hg0)
          | (go_at_call 138; refine (hcl.out _ T0.out).mono ?_; rintro e w1 ⟨rfl, hb1⟩; have B1 := Lib.hid (B0.out.trans (hb1.mono B0.out.size)); have V1 := Lib.hid (V0.out.on' hb1); clear hb1)
          | (have _t := tk2; refine wpList_alloc_file rfl rfl ?_; intro g2 w2 V2 hg2 b2; have G2 := Lib.hid hg2; have B2 := Lib.hid (B1.out.trans (b2.mono B1.out.size)); have U2 := Lib.hid (V1.out.on' b2); clear tk2 b2 hg2)
          | (have _t := tk3; refine wpList_store_file rfl (.tmp 8) (.tmp 17) rfl V2.out rfl F rfl ?_; intro w3 V3 O3; have B3 := Lib.hid (below_at B2.out O3.out (Nat.le_trans B1.out.size G2.out)); have U3 := Lib.hid (U2.out.oth O3.out (by have := G2.out; have := V1.out.lt; omega)); have cn := V3.out.cell (k := 1) rfl; rw [hFo'.out] at cn; have cn2 := V3.out.cell (k := 2) rfl; clear tk3)
          | (go_at_call 140; refine (hly'.out _ (h'.out.below B3.out) (hin'.out.below B3.out) (Nat.le_trans hB'.out B3.out.size)).mono ?_; rintro _ w4 ⟨rfl, A4, hT4, hS4⟩; have T4 := Lib.hid hT4; have S4 := Lib.hid ((TStep.of_below A B3.out).trans hS4); have hg0 := h'.out.fresh G0.out; have U4 := Lib.hid (show Vw w4 38 g0 [.int .i64 0, .int .i64 0, .int .i64 0, .int .i64 0, .slice none 0 0, .slice none 0 0] by (have h2 := U3.out; unfold Vw at h2 ⊢; exact (hS4.block g0 (Vw.lt U3.out) hg0).trans h2)); have X4 := Lib.hid (show A4.own g0 = none from (hS4.ext g0 (Vw.lt U3.out)).trans hg0); clear hT4 hS4 hg0)
          | (have _t := tk5; refine wpList_alloc_ansv rfl rfl ?_; intro g5 w5 V5 hg5 b5; have G5 := Lib.hid hg5; have B5 := Lib.hid b5; have T5 := Lib.hid (T4.out.below b5); have U5 := Lib.hid (U4.out.on' b5); have S5 := Lib.hid (S4.out.trans (TStep.of_below A4 b5)); clear tk5 b5 hg5)
          | (have _t := tk6; refine wpList_store_ans rfl (.tmp 12) (.tmp 39) rfl V5.out rfl rfl 0 0 0 0 none none 0 0 0 0 rfl ?_; intro w6 V6 O6; have U6 := Lib.hid (U5.out.oth O6.out (by have := G5.out; have := U4.out.lt; omega)); have T6 := Lib.hid (T5.out.oth O6.out (T4.out.fresh G5.out)); have S6 := Lib.hid (S5.out.oth O6.out (Nat.le_trans S4.out.size G5.out)); have q0 := V6.out.cell (k := 0) rfl; have q1 := V6.out.cell (k := 1) rfl; have q2 := V6.out.cell (k := 2) rfl; have q3 := V6.out.cell (k := 3) rfl; have q4 := V6.out.cell (k := 4) rfl; have q5 := V6.out.cell (k := 5) rfl; clear tk6)
          | (have _t := tk4; refine wpList_store_ans rfl (.tmp 6) (.tmp 54) rfl U6.out rfl rfl 0 0 0 0 none none 0 0 0 0 rfl ?_; intro w7 V7 O7; clear tk4))
        refine bodyPost_ret (cell_ret2 rfl rfl V7.out Tryz.underlying38 (by rw [Tryz.sizeA]; rfl)) rfl ?_
        rw [hul'.out]
        have := hs3.out
        subst this
        exact tell_laid (T6.out.oth O7.out X4.out) (S6.out.oth O7.out G0.out) rfl (fun e => absurd e hc'.out)
  · rw [if_pos hc] at hul
    simp only [if_neg hc] at hcl
    obtain ⟨c, hcc⟩ : ∃ c, s.toWrite fd = c := ⟨_, rfl⟩
    rw [hcc] at hul hcl hc
    have hul' := Lib.hid hul
    have hcl := Lib.hid hcl
    have hc' := Lib.hid hc
    have t0 : (c != 0) = true := by rw [bne_iff_ne]; exact hc
    clear hul hfil hc hcc hin hfr hpl
    go_enter Tryz.func82, Tryz.ntmps82
    go_wp2_with (first
      | (have _t := tk; refine wpList_alloc_ansv rfl rfl ?_; intro g0 w0 V0 hg0 b0; have G0 := Lib.hid hg0; have B0 := Lib.hid b0; have T0 := Lib.hid (h'.out.below b0); clear tk b0 hg0)
      | (go_at_call 138; refine (hcl.out _ T0.out).mono ?_; rintro e w1 ⟨rfl, hb1⟩; have B1 := Lib.hid (B0.out.trans (hb1.mono B0.out.size)); have V1 := Lib.hid (V0.out.on' hb1); clear hb1)
      | (have _t := tk2; refine wpList_alloc_file rfl rfl ?_; intro g2 w2 V2 hg2 b2; have G2 := Lib.hid hg2; have B2 := Lib.hid (B1.out.trans (b2.mono B1.out.size)); have U2 := Lib.hid (V1.out.on' b2); clear tk2 b2 hg2)
      | (have _t := tk3; refine wpList_store_file rfl (.tmp 8) (.tmp 17) rfl V2.out rfl p0 rfl ?_; intro w3 V3 O3; have B3 := Lib.hid (below_at B2.out O3.out (Nat.le_trans B1.out.size G2.out)); have U3 := Lib.hid (U2.out.oth O3.out (by have := G2.out; have := V1.out.lt; omega)); clear tk3)
      | (go_at_call 79; refine (only_any _ _).mono ?_; rintro e w4 ⟨rfl, hb4⟩; have B4 := Lib.hid (B3.out.trans (hb4.mono B3.out.size)); have U4 := Lib.hid (U3.out.on' hb4); clear hb4)
      | (have _t := tk4; refine wpList_store_ans rfl (.tmp 6) (.tmp 24) rfl U4.out rfl rfl 0 0 0 0 none none 0 0 0 0 rfl ?_; intro w5 V5 O5; have B5 := Lib.hid (below_at B4.out O5.out G0.out); clear tk4))
    refine bodyPost_ret (cell_ret2 rfl rfl V5.out Tryz.underlying38 (by rw [Tryz.sizeA]; rfl)) rfl ?_
    rw [hul'.out]
    exact tell_code h'.out B5.out hc'.out rfl
end
end Go.Proofs.YtgcodlicbdaddaaGreatDoor
end
