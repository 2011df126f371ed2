/-
  Bytes laid in a file, by a descriptor.
-/
import Derived.Test.YtgcodlicbdaddaaGreatDoorB25
import Derived.Test.YtgcodlicbdaddaaGreatDoorB27

section
set_option linter.unusedVariables false
set_option linter.unusedSimpArgs false
namespace Go.Proofs.YtgcodlicbdaddaaGreatDoor
open Go.RowKit BigFrame
set_option maxRecDepth 100000

section
variable {w : World} {B b : Nat} {A : Ad} {s : Tr}
theorem tell_laid {a : Ans} {n c : Int} {w' : World} {A' : Ad} {s' : Tr} (h : TreeAt w' B A' s') (hs : TStep w A w' A') (hc : a.code = c) (ha : c = 0 → a = { ans0 with n := n }) :
    TellPost B A s' a w (.returned (.tuple #[ansV 0 n 0 0 (.slice none 0 0) (.slice none 0 0), .int .i64 c])) w' := by
  subst hc
  exact ⟨_, A', rfl, h, hs, fun e => by rw [ha e]; exact ⟨_, _, rfl, OwnB.nil _ _, OwnT.nil _ _, (fun g e => by cases e), (fun g e => by cases e)⟩, ⟨_, _, _, _, _, _, _, _, _, _, rfl⟩⟩
theorem writeAt_any (h : TreeAt w B A s) (ho : Ok b s) (hb : b ≤ 900000) (hB : B ≤ w.heap.size) (fd off : Int) (sp : Option Addr) (cap : Nat) (l : List Nat) (hl : l.length ≤ 1000000) (hin : InB w A sp l) :
    Calls Tryz.prog 84 #[.pointer (some ⟨A.t, 0, none⟩), .int .i64 fd, .int .i64 off, .slice sp l.length cap] w (TellPost B A (s.writeAt fd off l).2 (s.writeAt fd off l).1 w) := by
  have h' := Lib.hid h
  have hcl := fun w' (hw' : TreeAt w' B A s) => toWrite_any hw' ho hb fd
  unfold HasPost at hcl
  have hul : s.writeAt fd off l = if s.toWrite fd ≠ 0 then (ansC (s.toWrite fd), s) else if off < 0 then (ansC 2, s) else
    if (s.lay (s.nof fd) off l).1 ≠ 0 then (ansC (s.lay (s.nof fd) off l).1, s) else ({ ans0 with n := l.length }, (s.lay (s.nof fd) off l).2) := rfl
  have tk : True := trivial
  have tk2 : True := trivial
  have tk3 : True := trivial
  have tk4 : True := trivial
  have hfil := fun e => ho.toWrite_file (fd := fd) e
  obtain ⟨F, hF⟩ : ∃ F, s.plc fd = F := ⟨_, rfl⟩
  obtain ⟨i, hi⟩ : ∃ i, s.nof fd = i := ⟨_, rfl⟩
  rw [hF, hi] at hcl
  rw [hi] at hul hfil
  clear h hF hi
  by_cases hc : s.toWrite fd = 0
  · obtain ⟨x, hx, hk⟩ := hfil hc
    simp only [if_pos hc] at hcl
    rw [hc] at hcl
    rw [if_neg (fun h => h hc)] at hul
    have hx' := Lib.hid hx
    have hk' := Lib.hid (show x.kind ≠ 3 by omega)
    clear hx hfil hk hc
    have hcl := Lib.hid hcl
    by_cases h1 : off < 0
    · rw [if_pos h1] at hul
      have hul' := Lib.hid hul
      clear hul
      have t0 : decide (off < 0) = true := decide_eq_true h1
      go_enter Tryz.func84, Tryz.ntmps84
      go_wp2_with (first
        | (have _t := tk; refine wpList_alloc_ansv rfl rfl ?_; intro g0 w0 V0 hg0 b0; have G0 := Lib.hid hg0; have B0 := Lib.hid b0; have T0 := Lib.hid (h'.out.below b0); clear tk b0 hg0)
        | (go_at_call 138; refine (hcl.out _ T0.out).mono ?_; rintro e w1 ⟨rfl, hb1⟩; have B1 := Lib.hid (B0.out.trans (hb1.mono B0.out.size)); have V1 := Lib.hid (V0.out.on' hb1); clear hb1)
        | (have _t := tk2; refine wpList_alloc_file rfl rfl ?_; intro g2 w2 V2 hg2 b2; have G2 := Lib.hid hg2; have B2 := Lib.hid (B1.out.trans (b2.mono B1.out.size)); have U2 := Lib.hid (V1.out.on' b2); clear tk2 b2 hg2)
        | (have _t := tk3; refine wpList_store_file rfl (.tmp 10) (.tmp 17) rfl V2.out rfl F rfl ?_; intro w3 V3 O3; have B3 := Lib.hid (below_at B2.out O3.out (Nat.le_trans B1.out.size G2.out)); have U3 := Lib.hid (U2.out.oth O3.out (by have := G2.out; have := V1.out.lt; omega)); clear tk3)
        | (go_at_call 79; refine (only_any _ _).mono ?_; rintro e w4 ⟨rfl, hb4⟩; have B4 := Lib.hid (B3.out.trans (hb4.mono B3.out.size)); have U4 := Lib.hid (U3.out.on' hb4); clear hb4)
        | (have _t := tk4; refine wpList_store_ans rfl (.tmp 8) (.tmp 31) rfl U4.out rfl rfl 0 0 0 0 none none 0 0 0 0 rfl ?_; intro w5 V5 O5; have B5 := Lib.hid (below_at B4.out O5.out G0.out); clear tk4))
      refine bodyPost_ret (cell_ret2 rfl rfl V5.out Tryz.underlying38 (by rw [Tryz.sizeA]; rfl)) rfl ?_
      rw [hul'.out]
      exact tell_code h'.out B5.out (by decide) rfl
    · have t0 : decide (off < 0) = false := decide_eq_false h1
      rw [if_neg h1] at hul
      obtain ⟨o, rfl⟩ : ∃ o : Nat, off = (o : Int) := ⟨off.toNat, by omega⟩
      have hly := fun w' (hw' : TreeAt w' B A s) (hi' : InB w' A sp l) (hB' : B ≤ w'.heap.size) => lay_tree hw' hx'.out hk'.out o sp cap l hl hi' hB'
      obtain ⟨⟨c, s'⟩, hly2⟩ : ∃ z, s.lay i ((o : Nat) : Int) l = z := ⟨_, rfl⟩
      have hs2 : c ≠ 0 → s' = s := fun hc => by
        unfold Tr.lay at hly2
        split at hly2
        · exact (congrArg Prod.snd hly2).symm
        · split at hly2
          · exact (congrArg Prod.snd hly2).symm
          · exact absurd (congrArg Prod.fst hly2).symm hc
      rw [hly2] at hly hul
      unfold LayPost at hly
      obtain ⟨N, hN⟩ : ∃ N, (if c = 0 then ((l.length : Nat) : Int) else 0) = N := ⟨_, rfl⟩
      have hN' := Lib.hid hN
      simp only [hN] at hly
      have hly' := Lib.hid hly
      have hul' := Lib.hid hul
      have hs2' := Lib.hid hs2
      have hin' := Lib.hid hin
      have hB' := Lib.hid hB
      clear hul h1 hly hs2 hin hB hly2 hN
      go_enter Tryz.func84, Tryz.ntmps84
      go_wp2_with (first
        | (have _t := tk; refine wpList_alloc_ansv rfl rfl ?_; intro g0 w0 V0 hg0 b0; have G0 := Lib.hid hg0; have B0 := Lib.hid b0; have T0 := Lib.hid (h'.out.below b0); clear tk b0 hg0)
        | (go_at_call 138; refine (hcl.out _ T0.out).mono ?_; rintro e w1 ⟨rfl, hb1⟩; have B1 := Lib.hid (B0.out.trans (hb1.mono B0.out.size)); have V1 := Lib.hid (V0.out.on' hb1); clear hb1)
        | (have _t := tk2; refine wpList_alloc_file rfl rfl ?_; intro g2 w2 V2 hg2 b2; have G2 := Lib.hid hg2; have B2 := Lib.hid (B1.out.trans (b2.mono B1.out.size)); have U2 := Lib.hid (V1.out.on' b2); clear tk2 b2 hg2)
        | (have _t := tk3; refine wpList_store_file rfl (.tmp 10) (.tmp 17) rfl V2.out rfl F rfl ?_; intro w3 V3 O3; have B3 := Lib.hid (below_at B2.out O3.out (Nat.le_trans B1.out.size G2.out)); have U3 := Lib.hid (U2.out.oth O3.out (by have := G2.out; have := V1.out.lt; omega)); clear tk3)
        | (go_at_call 140; refine (hly'.out _ (h'.out.below B3.out) (hin'.out.below B3.out) (Nat.le_trans hB'.out B3.out.size)).mono ?_; rintro _ w4 ⟨rfl, A4, hT4, hS4⟩; have T4 := Lib.hid hT4; have S4 := Lib.hid ((TStep.of_below A B3.out).trans hS4); have hg0 := h'.out.fresh G0.out; have U4 := Lib.hid (show Vw w4 38 g0 [.int .i64 0, .int .i64 0, .int .i64 0, .int .i64 0, .slice none 0 0, .slice none 0 0] by (have h2 := U3.out; unfold Vw at h2 ⊢; exact (hS4.block g0 (Vw.lt U3.out) hg0).trans h2)); have X4 := Lib.hid (show A4.own g0 = none from (hS4.ext g0 (Vw.lt U3.out)).trans hg0); clear hT4 hS4)
        | (have _t := tk4; refine wpList_store_ans rfl (.tmp 8) (.tmp 37) rfl U4.out rfl rfl 0 N 0 0 none none 0 0 0 0 rfl ?_; intro w5 V5 O5; clear tk4))
      refine bodyPost_ret (cell_ret2 rfl rfl V5.out Tryz.underlying38 (by rw [Tryz.sizeA]; rfl)) rfl ?_
      have hT5 := T4.out.oth O5.out X4.out
      have hS5 := S4.out.oth O5.out G0.out
      rw [hul'.out]
      by_cases hc0 : c = 0
      · subst hc0
        rw [if_neg (fun h => h rfl)]
        have hN2 := hN'.out
        rw [if_pos rfl] at hN2
        subst hN2
        exact tell_laid hT5 hS5 rfl (fun _ => rfl)
      · rw [if_pos hc0]
        have := hs2'.out hc0
        subst this
        exact tell_laid hT5 hS5 rfl (fun e => absurd e hc0)
  · rw [if_pos hc] at hul
    simp only [if_neg hc] at hcl
    obtain ⟨c, hcc⟩ : ∃ c, s.toWrite fd = c := ⟨_, rfl⟩
    rw [hcc] at hul hcl hc
    have hul' := Lib.hid hul
    have hcl := Lib.hid hcl
    have hc' := Lib.hid hc
    have t0 : (c != 0) = true := by rw [bne_iff_ne]; exact hc
    clear hul hfil hc hcc hin
    go_enter Tryz.func84, Tryz.ntmps84
    go_wp2_with (first
      | (have _t := tk; refine wpList_alloc_ansv rfl rfl ?_; intro g0 w0 V0 hg0 b0; have G0 := Lib.hid hg0; have B0 := Lib.hid b0; have T0 := Lib.hid (h'.out.below b0); clear tk b0 hg0)
      | (go_at_call 138; refine (hcl.out _ T0.out).mono ?_; rintro e w1 ⟨rfl, hb1⟩; have B1 := Lib.hid (B0.out.trans (hb1.mono B0.out.size)); have V1 := Lib.hid (V0.out.on' hb1); clear hb1)
      | (have _t := tk2; refine wpList_alloc_file rfl rfl ?_; intro g2 w2 V2 hg2 b2; have G2 := Lib.hid hg2; have B2 := Lib.hid (B1.out.trans (b2.mono B1.out.size)); have U2 := Lib.hid (V1.out.on' b2); clear tk2 b2 hg2)
      | (have _t := tk3; refine wpList_store_file rfl (.tmp 10) (.tmp 17) rfl V2.out rfl p0 rfl ?_; intro w3 V3 O3; have B3 := Lib.hid (below_at B2.out O3.out (Nat.le_trans B1.out.size G2.out)); have U3 := Lib.hid (U2.out.oth O3.out (by have := G2.out; have := V1.out.lt; omega)); clear tk3)
      | (go_at_call 79; refine (only_any _ _).mono ?_; rintro e w4 ⟨rfl, hb4⟩; have B4 := Lib.hid (B3.out.trans (hb4.mono B3.out.size)); have U4 := Lib.hid (U3.out.on' hb4); clear hb4)
      | (have _t := tk4; refine wpList_store_ans rfl (.tmp 8) (.tmp 25) rfl U4.out rfl rfl 0 0 0 0 none none 0 0 0 0 rfl ?_; intro w5 V5 O5; have B5 := Lib.hid (below_at B4.out O5.out G0.out); clear tk4))
    refine bodyPost_ret (cell_ret2 rfl rfl V5.out Tryz.underlying38 (by rw [Tryz.sizeA]; rfl)) rfl ?_
    rw [hul'.out]
    exact tell_code h'.out B5.out hc'.out rfl
end
end Go.Proofs.YtgcodlicbdaddaaGreatDoor
end
