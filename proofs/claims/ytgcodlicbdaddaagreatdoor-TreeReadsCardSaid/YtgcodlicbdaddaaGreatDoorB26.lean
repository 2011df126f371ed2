/-
  Bytes of a file told, from where a descriptor stands on.
-/
import Derived.Test.YtgcodlicbdaddaaGreatDoorB24

section
set_option linter.unusedVariables false
set_option linter.unusedSimpArgs false
namespace Go.Proofs.YtgcodlicbdaddaaGreatDoor
open Go.RowKit BigFrame
set_option maxRecDepth 100000

section
variable {w : World} {B b : Nat} {A : Ad} {s : Tr}
theorem TreeAt.oth {w w' : World} {g : Nat} (h : TreeAt w B A s) (ho : Oth g w w') (hg : A.own g = none) : TreeAt w' B A s :=
  h.keep (Nat.le_of_eq ho.size.symm) fun k r hk => ho.block k (fun e => by rw [e, hg] at hk; cases hk)
theorem TStep.oth {w0 w w' : World} {A' : Ad} {g : Nat} (h : TStep w0 A w A') (ho : Oth g w w') (hg : w0.heap.size ≤ g) : TStep w0 A w' A' :=
  ⟨ho.os.trans h.os, ho.tape.trans h.tape, ho.output.trans h.output, by rw [ho.size]; exact h.size, fun k hk hn => (ho.block k (by omega)).trans (h.block k hk hn), h.ext, h.t⟩
theorem TreeAt.fresh {w : World} (h : TreeAt w B A s) {g : Nat} (hg : w.heap.size ≤ g) : A.own g = none := by
  cases h2 : A.own g with
  | none => rfl
  | some r => have := (h.hi g r h2).2; omega
/-- a descriptor is moved -/
theorem move_tree (h : TreeAt w B A s) (fd x : Int) (ht : thereB s.tb fd = true) (hx : 0 ≤ x) :
    Calls Tryz.prog 137 #[.pointer (some ⟨A.f, 0, none⟩), .int .i64 fd, .int .i64 x] w fun e w' => e = .returned (.int .i64 0) ∧ TreeAt w' B A (s.move fd x) ∧ TStep w A w' A ∧ Turn A.f w w' := by
  have hm := move_u A.f fd x s.tb w h.tab
  unfold mC mL at hm
  rw [if_pos ht, if_pos ht, if_neg (by omega), if_neg (by omega)] at hm
  refine hm.mono ?_
  rintro e w' ⟨rfl, hT, hU⟩
  exact ⟨rfl, h.set_tab hU hT, TStep.turn hU (by rw [h.rf]; simp), hU⟩
theorem tell_moved {a : Ans} {l : List Nat} {w1 w' : World} {d : Value} (h0 : TreeAt w B A s) {s' : Tr} (h : TreeAt w' B A s') (hs : TStep w A w' A) (ho : OwnB w1 w.heap.size d l) (hd : ∀ g, d.ownBlock = some g → w'.heap[g]? = w1.heap[g]?) (ha : a = { ans0 with data := l }) :
    TellPost B A s' a w (.returned (.tuple #[ansV 0 0 0 0 d (.slice none 0 0), .int .i64 0])) w' := by
  subst ha
  exact ⟨_, A, rfl, h, hs, fun _ => ⟨_, _, rfl, ho.blk hd, OwnT.nil _ _, fun g e => h0.fresh (ho.hi e).1, (fun g e => by cases e)⟩, FormA.own ho (OwnT.nil w1 w.heap.size)⟩
set_option maxHeartbeats 2000000 in
theorem read_any (h : TreeAt w B A s) (ho : Ok b s) (hb : b ≤ 900000) (fd n : Int) :
    Calls Tryz.prog 81 #[.pointer (some ⟨A.t, 0, none⟩), .int .i64 fd, .int .i64 n] w (TellPost B A (s.read fd n).2 (s.read fd n).1 w) := by
  have h' := Lib.hid h
  have hcl := fun w' (hw' : TreeAt w' B A s) => toRead_any hw' ho hb fd
  unfold HasPost at hcl
  have hul : s.read fd n = if s.toRead fd ≠ 0 then (ansC (s.toRead fd), s) else if n < 0 then (ansC 2, s) else
    ({ ans0 with data := (s.at (s.nof fd)).read (s.plc fd).off.toNat n.toNat }, s.move fd ((s.plc fd).off + (((s.at (s.nof fd)).read (s.plc fd).off.toNat n.toNat).length : Nat))) := rfl
  have tk : True := trivial
  have tk2 : True := trivial
  have tk3 : True := trivial
  have tk4 : True := trivial
  have hfil := fun e => ho.toRead_file (fd := fd) e
  obtain ⟨F, hF⟩ : ∃ F, s.plc fd = F := ⟨_, rfl⟩
  obtain ⟨i, hi⟩ : ∃ i, s.nof fd = i := ⟨_, rfl⟩
  rw [hF, hi] at hcl hul
  rw [hi, hF] at hfil
  clear h hF hi
  by_cases hc : s.toRead fd = 0
  · obtain ⟨x, hx, hk, hf1, hf2, hth⟩ := hfil hc
    simp only [if_pos hc] at hcl
    rw [hc] at hcl
    rw [if_neg (fun h => h hc), Tr.at_of hx] at hul
    have hx' := Lib.hid hx
    clear hx hfil hk hc
    have hcl := Lib.hid hcl
    by_cases h1 : n < 0
    · rw [if_pos h1] at hul
      have hul' := Lib.hid hul
      clear hul
      have t0 : decide (n < 0) = true := decide_eq_true h1
      go_enter Tryz.func81, Tryz.ntmps81
      go_wp2_with (first
        | (have _t := tk; refine wpList_alloc_ansv rfl rfl ?_; intro g0 w0 V0 hg0 b0; have G0 := Lib.hid hg0; have B0 := Lib.hid b0; have T0 := Lib.hid (h'.out.below b0); clear tk b0 hg0)
        | (go_at_call 135; refine (hcl.out _ T0.out).mono ?_; rintro e w1 ⟨rfl, hb1⟩; have B1 := Lib.hid (B0.out.trans (hb1.mono B0.out.size)); have V1 := Lib.hid (V0.out.on' hb1); clear hb1)
        | (have _t := tk2; refine wpList_alloc_file rfl rfl ?_; intro g2 w2 V2 hg2 b2; have G2 := Lib.hid hg2; have B2 := Lib.hid (B1.out.trans (b2.mono B1.out.size)); have U2 := Lib.hid (V1.out.on' b2); clear tk2 b2 hg2)
        | (have _t := tk3; refine wpList_store_file rfl (.tmp 8) (.tmp 16) rfl V2.out rfl F rfl ?_; intro w3 V3 O3; have B3 := Lib.hid (below_at B2.out O3.out (Nat.le_trans B1.out.size G2.out)); have U3 := Lib.hid (U2.out.oth O3.out (by have := G2.out; have := V1.out.lt; omega)); clear tk3)
        | (go_at_call 79; refine (only_any _ _).mono ?_; rintro e w4 ⟨rfl, hb4⟩; have B4 := Lib.hid (B3.out.trans (hb4.mono B3.out.size)); have U4 := Lib.hid (U3.out.on' hb4); clear hb4)
        | (have _t := tk4; refine wpList_store_ans rfl (.tmp 6) (.tmp 30) rfl U4.out rfl rfl 0 0 0 0 none none 0 0 0 0 rfl ?_; intro w5 V5 O5; have B5 := Lib.hid (below_at B4.out O5.out G0.out); clear tk4))
      refine bodyPost_ret (cell_ret2 rfl rfl V5.out Tryz.underlying38 (by rw [Tryz.sizeA]; rfl)) rfl ?_
      rw [hul'.out]
      exact tell_code h'.out B5.out (by decide) rfl
    · have t0 : decide (n < 0) = false := decide_eq_false h1
      rw [if_neg h1] at hul
      obtain ⟨m, rfl⟩ : ∃ m : Nat, n = (m : Int) := ⟨n.toNat, by omega⟩
      obtain ⟨o, hFo⟩ : ∃ o : Nat, F.off = (o : Int) := ⟨F.off.toNat, by omega⟩
      rw [hFo] at hul hf2
      rw [Int.toNat_natCast, Int.toNat_natCast] at hul
      obtain ⟨L, hL⟩ : ∃ L, x.read o m = L := ⟨_, rfl⟩
      have hLl : L.length ≤ 20736 := by rw [← hL]; have := (h'.out.node i x hx'.out).dl; unfold Nd.read; rw [List.length_take, List.length_drop]; omega
      rw [hL] at hul
      have hL' := Lib.hid hL
      have hsum : IntKind.i64.wrap ((o : Int) + (L.length : Int)) = (o : Int) + (L.length : Int) := wrap_in (by omega)
      have hmv := Lib.hid (fun w' (hw' : TreeAt w' B A s) => move_tree hw' fd ((o : Int) + (L.length : Int)) hth (by omega))
      have hul' := Lib.hid hul
      have hFo' := Lib.hid hFo
      clear hul h1 hFo hL hf1 hf2 hLl hth
      go_enter Tryz.func81, Tryz.ntmps81
      go_wp2_with (first
        | (have _t := tk; refine wpList_alloc_ansv rfl rfl ?_; intro g0 w0 V0 hg0 b0; have G0 := Lib.hid hg0; have B0 := Lib.hid b0; have T0 := Lib.hid (h'.out.below b0); clear tk b0 hg0)
        | (go_at_call 135; refine (hcl.out _ T0.out).mono ?_; rintro e w1 ⟨rfl, hb1⟩; have B1 := Lib.hid (B0.out.trans (hb1.mono B0.out.size)); have V1 := Lib.hid (V0.out.on' hb1); clear hb1)
        | (have _t := tk2; refine wpList_alloc_file rfl rfl ?_; intro g2 w2 V2 hg2 b2; have G2 := Lib.hid hg2; have B2 := Lib.hid (B1.out.trans (b2.mono B1.out.size)); have U2 := Lib.hid (V1.out.on' b2); clear tk2 b2 hg2)
        | (have _t := tk3; refine wpList_store_file rfl (.tmp 8) (.tmp 16) rfl V2.out rfl F rfl ?_; intro w3 V3 O3; have B3 := Lib.hid (below_at B2.out O3.out (Nat.le_trans B1.out.size G2.out)); have U3 := Lib.hid (U2.out.oth O3.out (by have := G2.out; have := V1.out.lt; omega)); have cn := V3.out.cell (k := 1) rfl; rw [hFo'.out] at cn; clear tk3)
        | (go_at_call 136; refine (nodeRead_any o m _ ((h'.out.below B3.out).node i x hx'.out)).mono ?_; rintro e w4 ⟨v4, rfl, ho4, hb4⟩; rw [hL'.out] at ho4; obtain ⟨p4, c4, rfl, _⟩ := ho4.slice; have D4 := Lib.hid (ho4.lower B3.out.size); have B4 := Lib.hid (B3.out.trans (hb4.mono B3.out.size)); have U4 := Lib.hid (U3.out.on' hb4); have V4 := Lib.hid (V3.out.on' hb4); have L4 := Lib.hid (fun g (e : (Value.slice p4 L.length c4).ownBlock = some g) => show g ≠ g0 by have h1 := (ho4.hi e).1; have h2 := U3.out.lt; omega); clear hb4 ho4))
      have T4 := Lib.hid (h'.out.below B4.out)
      have cf := T4.out.files
      have cn4 := V4.out.cell (k := 1) rfl
      rw [hFo'.out] at cn4
      clear cn
      have T5 := Lib.hid T4.out.drew
      have cf5 := T5.out.files
      go_region_with (go_at_call 137; refine (hmv.out _ T5.out).mono ?_; rintro e w6 ⟨rfl, hT6, hS6, hU6⟩; have T6 := Lib.hid hT6; have S6 := Lib.hid ((TStep.of_below A B4.out.drew).trans hS6); have U6 := Lib.hid (show Vw w6 38 g0 [.int .i64 0, .int .i64 0, .int .i64 0, .int .i64 0, .slice none 0 0, .slice none 0 0] by (have h2 := U4.out; unfold Vw at h2 ⊢; exact (hU6.block g0 (Vw.lt U4.out) (fun e => by (have h3 := (h'.out.hi _ _ h'.out.rf).2; have h4 := G0.out; omega))).trans h2)); have D6 := Lib.hid (fun g (e : (Value.slice p4 L.length c4).ownBlock = some g) => show w6.heap[g]? = w4.heap[g]? from hU6.block g (D4.out.hi e).2 (fun e2 => by (have h1 := (D4.out.hi e).1; have h3 := (h'.out.hi _ _ h'.out.rf).2; omega))); clear hT6 hS6 hU6; have q0 := U6.out.cell (k := 0) rfl; have q1 := U6.out.cell (k := 1) rfl; have q2 := U6.out.cell (k := 2) rfl; have q3 := U6.out.cell (k := 3) rfl; have q4 := U6.out.cell (k := 4) rfl; have q5 := U6.out.cell (k := 5) rfl; have r0 := U6.out.frozen 0; have r1 := U6.out.frozen 1; have r2 := U6.out.frozen 2; have r3 := U6.out.frozen 3; have r4 := U6.out.frozen 4; have r5 := U6.out.frozen 5; obtain ⟨w7, hw7⟩ : ∃ w7, (((((w6.setCell ⟨g0, 0, none⟩ (.int .i64 0)).setCell ⟨g0, 1, none⟩ (.int .i64 0)).setCell ⟨g0, 2, none⟩ (.int .i64 0)).setCell ⟨g0, 3, none⟩ (.int .i64 0)).setCell ⟨g0, 4, none⟩ (.slice p4 L.length c4)).setCell ⟨g0, 5, none⟩ (.slice none 0 0) = w7 := ⟨_, rfl⟩; have V7 := Lib.hid (show Vw w7 38 g0 [.int .i64 0, .int .i64 0, .int .i64 0, .int .i64 0, .slice p4 L.length c4, .slice none 0 0] by rw [← hw7]; exact (((((U6.out.set 0 _).set 1 _).set 2 _).set 3 _).set 4 _).set 5 _); have O7 := Lib.hid (show Oth g0 w6 w7 by rw [← hw7]; exact ((((((Oth.refl g0 w6).setCell _).setCell _).setCell _).setCell _).setCell _).setCell _))
      all_goals (
        clear q0 q1 q2 q3 q4 q5 r0 r1 r2 r3 r4 r5 hw7
        go_wp2_with fail
        refine bodyPost_ret (cell_ret2 rfl rfl V7.out Tryz.underlying38 (by rw [Tryz.sizeA]; rfl)) rfl ?_
        rw [hul'.out]
        have hg0 := h'.out.fresh G0.out
        exact tell_moved h'.out (T6.out.oth O7.out hg0) (S6.out.oth O7.out G0.out) D4.out (fun g e => (O7.out.block g (L4.out g e)).trans (D6.out g e)) rfl)
  · rw [if_pos hc] at hul
    simp only [if_neg hc] at hcl
    obtain ⟨c, hcc⟩ : ∃ c, s.toRead fd = c := ⟨_, rfl⟩
    rw [hcc] at hul hcl hc
    have hul' := Lib.hid hul
    have hcl := Lib.hid hcl
    have hc' := Lib.hid hc
    have t0 : (c != 0) = true := by rw [bne_iff_ne]; exact hc
    clear hul hfil hc hcc
    go_enter Tryz.func81, Tryz.ntmps81
    go_wp2_with (first
      | (have _t := tk; refine wpList_alloc_ansv rfl rfl ?_; intro g0 w0 V0 hg0 b0; have G0 := Lib.hid hg0; have B0 := Lib.hid b0; have T0 := Lib.hid (h'.out.below b0); clear tk b0 hg0)
      | (go_at_call 135; refine (hcl.out _ T0.out).mono ?_; rintro e w1 ⟨rfl, hb1⟩; have B1 := Lib.hid (B0.out.trans (hb1.mono B0.out.size)); have V1 := Lib.hid (V0.out.on' hb1); clear hb1)
      | (have _t := tk2; refine wpList_alloc_file rfl rfl ?_; intro g2 w2 V2 hg2 b2; have G2 := Lib.hid hg2; have B2 := Lib.hid (B1.out.trans (b2.mono B1.out.size)); have U2 := Lib.hid (V1.out.on' b2); clear tk2 b2 hg2)
      | (have _t := tk3; refine wpList_store_file rfl (.tmp 8) (.tmp 16) rfl V2.out rfl p0 rfl ?_; intro w3 V3 O3; have B3 := Lib.hid (below_at B2.out O3.out (Nat.le_trans B1.out.size G2.out)); have U3 := Lib.hid (U2.out.oth O3.out (by have := G2.out; have := V1.out.lt; omega)); clear tk3)
      | (go_at_call 79; refine (only_any _ _).mono ?_; rintro e w4 ⟨rfl, hb4⟩; have B4 := Lib.hid (B3.out.trans (hb4.mono B3.out.size)); have U4 := Lib.hid (U3.out.on' hb4); clear hb4)
      | (have _t := tk4; refine wpList_store_ans rfl (.tmp 6) (.tmp 24) rfl U4.out rfl rfl 0 0 0 0 none none 0 0 0 0 rfl ?_; intro w5 V5 O5; have B5 := Lib.hid (below_at B4.out O5.out G0.out); clear tk4))
    refine bodyPost_ret (cell_ret2 rfl rfl V5.out Tryz.underlying38 (by rw [Tryz.sizeA]; rfl)) rfl ?_
    rw [hul'.out]
    exact tell_code h'.out B5.out hc'.out rfl
end
end Go.Proofs.YtgcodlicbdaddaaGreatDoor
end
