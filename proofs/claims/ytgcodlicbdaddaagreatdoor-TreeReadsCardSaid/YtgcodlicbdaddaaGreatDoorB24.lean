/-
  A file made so long, by a descriptor.
  A link's target told.
  Bytes of a file told, from a place on.
  Bytes laid in a file: the node alone.
  Bytes laid in a file.
-/
import Derived.Test.YtgcodlicbdaddaaGreatDoorB23
import Derived.Test.YtgcodlicbdaddaaGreatDoorB9
import Derived.Test.YtgcodlicbdaddaaGreatDoorB16

section
set_option linter.unusedVariables false
set_option linter.unusedSimpArgs false
namespace Go.Proofs.YtgcodlicbdaddaaGreatDoor
open Go.RowKit BigFrame
set_option maxRecDepth 100000

section
variable {w : World} {B b : Nat} {A : Ad} {s : Tr}
/-- a descriptor that may be written has a file -/
theorem Ok.toWrite_file {b : Nat} {s : Tr} (ho : Ok b s) {fd : Int} (h : s.toWrite fd = 0) : ∃ x, s.opt (s.nof fd) = some x ∧ x.kind = 1 := by
  unfold Tr.toWrite at h
  by_cases h2 : thereB s.tb fd = true ∧ bitF (s.plc fd).fl 32 = true
  · obtain ⟨i, x, hn, hx, _, _, _, _, _, hk⟩ := ho.tab h2.1
    have hni : s.nof fd = i := by unfold Tr.nof Tr.plc; rw [hn]; rfl
    exact ⟨x, by rw [hni]; exact hx, hk h2.2⟩
  · rw [if_neg h2] at h; cases h
theorem code_none {s' : Tr} {c : Int} {w' : World} (h : TreeAt w B A s) (hb : Below w.heap.size w w') (hs : s' = s) : CodePost B A s' c w (.returned (.int .i64 c)) w' := by
  subst hs
  exact ⟨rfl, A, h.below hb, TStep.of_below A hb⟩
theorem trunc_any (h : TreeAt w B A s) (ho : Ok b s) (hb : b ≤ 900000) (hB : B ≤ w.heap.size) (fd n : Int) :
    Calls Tryz.prog 86 #[.pointer (some ⟨A.t, 0, none⟩), .int .i64 fd, .int .i64 n] w (CodePost B A (s.trunc fd n).2 (s.trunc fd n).1.code w) := by
  have h' := Lib.hid h
  have hcl := toWrite_any h ho hb fd
  unfold HasPost at hcl
  have hul : s.trunc fd n = if s.toWrite fd ≠ 0 then (ansC (s.toWrite fd), s) else if n < 0 then (ansC 2, s) else if 20736 < n then (ansC 15, s) else
    (ans0, s.put (s.nof fd) ((s.at (s.nof fd)).resize n.toNat)) := rfl
  have tk2 : True := trivial
  have tk3 : True := trivial
  have hfil := fun e => ho.toWrite_file (fd := fd) e
  obtain ⟨F, hF⟩ : ∃ F, s.plc fd = F := ⟨_, rfl⟩
  obtain ⟨i, hi⟩ : ∃ i, s.nof fd = i := ⟨_, rfl⟩
  rw [hF, hi] at hcl
  rw [hi] at hul hfil
  clear h hF hi
  by_cases hc : s.toWrite fd = 0
  · obtain ⟨x, hx, hk⟩ := hfil hc
    simp only [if_pos hc] at hcl
    rw [hc] at hcl
    rw [if_neg (fun h => h hc), Tr.at_of hx] at hul
    have hx' := Lib.hid hx
    have hk' := Lib.hid (show x.kind ≠ 3 by omega)
    clear hx hfil hk hc
    by_cases h1 : n < 0
    · rw [if_pos h1] at hul
      have hul' := Lib.hid hul
      have hcl := Lib.hid hcl
      clear hul
      have t0 : decide (n < 0) = true := decide_eq_true h1
      go_enter Tryz.func86, Tryz.ntmps86
      go_wp2_with (first
        | (go_at_call 138; refine hcl.out.mono ?_; rintro e w1 ⟨rfl, hb1⟩; have B1 := Lib.hid hb1; clear hb1)
        | (have _t := tk2; refine wpList_alloc_file rfl rfl ?_; intro g2 w2 V2 hg2 b2; have G2 := Lib.hid hg2; have B2 := Lib.hid (B1.out.trans (b2.mono B1.out.size)); clear tk2 b2 hg2)
        | (have _t := tk3; refine wpList_store_file rfl (.tmp 7) (.tmp 14) rfl V2.out rfl F rfl ?_; intro w3 V3 O3; have B3 := Lib.hid (below_at B2.out O3.out (Nat.le_trans B1.out.size G2.out)); clear tk3))
      go_ret
      rw [hul'.out]
      exact code_none h'.out B3.out rfl
    · rw [if_neg h1] at hul
      have t0 : decide (n < 0) = false := decide_eq_false h1
      by_cases h2 : 20736 < n
      · rw [if_pos h2] at hul
        have hul' := Lib.hid hul
        have hcl := Lib.hid hcl
        clear hul
        have t1 : decide (20736 < n) = true := decide_eq_true h2
        go_enter Tryz.func86, Tryz.ntmps86
        go_wp2_with (first
          | (go_at_call 138; refine hcl.out.mono ?_; rintro e w1 ⟨rfl, hb1⟩; have B1 := Lib.hid hb1; clear hb1)
          | (have _t := tk2; refine wpList_alloc_file rfl rfl ?_; intro g2 w2 V2 hg2 b2; have G2 := Lib.hid hg2; have B2 := Lib.hid (B1.out.trans (b2.mono B1.out.size)); clear tk2 b2 hg2)
          | (have _t := tk3; refine wpList_store_file rfl (.tmp 7) (.tmp 14) rfl V2.out rfl F rfl ?_; intro w3 V3 O3; have B3 := Lib.hid (below_at B2.out O3.out (Nat.le_trans B1.out.size G2.out)); clear tk3))
        go_ret
        rw [hul'.out]
        exact code_none h'.out B3.out rfl
      · rw [if_neg h2] at hul
        obtain ⟨m, rfl⟩ : ∃ m : Nat, n = (m : Int) := ⟨n.toNat, by omega⟩
        rw [Int.toNat_natCast] at hul
        have hul' := Lib.hid hul
        have hcl := Lib.hid hcl
        have hm := Lib.hid (show m ≤ 20736 by omega)
        have hB' := Lib.hid hB
        clear hul
        have t1 : decide (20736 < ((m : Nat) : Int)) = false := decide_eq_false h2
        clear h1 h2 hB
        go_enter Tryz.func86, Tryz.ntmps86
        go_wp2_with (first
          | (go_at_call 138; refine hcl.out.mono ?_; rintro e w1 ⟨rfl, hb1⟩; have B1 := Lib.hid hb1; clear hb1)
          | (have _t := tk2; refine wpList_alloc_file rfl rfl ?_; intro g2 w2 V2 hg2 b2; have G2 := Lib.hid hg2; have B2 := Lib.hid (B1.out.trans (b2.mono B1.out.size)); clear tk2 b2 hg2)
          | (have _t := tk3; refine wpList_store_file rfl (.tmp 7) (.tmp 14) rfl V2.out rfl F rfl ?_; intro w3 V3 O3; have B3 := Lib.hid (below_at B2.out O3.out (Nat.le_trans B1.out.size G2.out)); clear tk3)
          | (go_at_call 131; refine (resize_tree (h'.out.below B3.out) hx'.out hk'.out m hm.out (Nat.le_trans hB'.out B3.out.size)).mono ?_; rintro e w4 ⟨rfl, v4, hT4, hS4⟩; have T4 := Lib.hid hT4; have S4 := Lib.hid ((TStep.of_below A B3.out).trans hS4); clear hT4 hS4))
        go_ret
        rw [hul'.out]
        exact ⟨rfl, _, T4.out, S4.out⟩
  · rw [if_pos hc] at hul
    simp only [if_neg hc] at hcl
    obtain ⟨c, hcc⟩ : ∃ c, s.toWrite fd = c := ⟨_, rfl⟩
    rw [hcc] at hul hcl hc
    have hul' := Lib.hid hul
    have hcl := Lib.hid hcl
    have t0 : (c != 0) = true := by rw [bne_iff_ne]; exact hc
    clear hul hfil hc hcc
    go_enter Tryz.func86, Tryz.ntmps86
    go_wp2_with (first
      | (go_at_call 138; refine hcl.out.mono ?_; rintro e w1 ⟨rfl, hb1⟩; have B1 := Lib.hid hb1; clear hb1)
      | (have _t := tk2; refine wpList_alloc_file rfl rfl ?_; intro g2 w2 V2 hg2 b2; have G2 := Lib.hid hg2; have B2 := Lib.hid (B1.out.trans (b2.mono B1.out.size)); clear tk2 b2 hg2)
      | (have _t := tk3; refine wpList_store_file rfl (.tmp 7) (.tmp 14) rfl V2.out rfl p0 rfl ?_; intro w3 V3 O3; have B3 := Lib.hid (below_at B2.out O3.out (Nat.le_trans B1.out.size G2.out)); clear tk3))
    go_ret
    rw [hul'.out]
    exact code_none h'.out B3.out rfl
end
end Go.Proofs.YtgcodlicbdaddaaGreatDoor
end

section
set_option linter.unusedVariables false
set_option linter.unusedSimpArgs false
namespace Go.Proofs.YtgcodlicbdaddaaGreatDoor
open Go.RowKit BigFrame
set_option maxRecDepth 100000

section
variable {w : World} {B b : Nat} {A : Ad} {s : Tr}
/-- bytes of the call's own are told -/
theorem tell_bytes {a : Ans} {l : List Nat} {w1 w' : World} {d : Value} (h : TreeAt w B A s) (hb : Below w.heap.size w w') (ho : OwnB w1 w.heap.size d l) (hd : ∀ g, d.ownBlock = some g → w'.heap[g]? = w1.heap[g]?) (ha : a = { ans0 with data := l }) :
    TellPost B A s a w (.returned (.tuple #[ansV 0 0 0 0 d (.slice none 0 0), .int .i64 0])) w' := by
  subst ha
  refine ⟨_, A, rfl, h.below hb, TStep.of_below A hb, fun _ => ⟨_, _, rfl, ho.blk hd, OwnT.nil _ _, fun g e => ?_, (fun g e => by cases e)⟩, FormA.own ho (OwnT.nil w1 w.heap.size)⟩
  have h1 := (ho.hi e).1
  cases h2 : A.own g with
  | none => rfl
  | some r => have := (h.hi g r h2).2; omega
theorem readLink_any (h : TreeAt w B A s) (ho : Ok b s) (hb : b ≤ 1000000) (p : ByteArray) :
    Calls Tryz.prog 92 #[.pointer (some ⟨A.t, 0, none⟩), .string p] w (TellPost B A s (s.readLink (nb p)) w) := by
  have h' := Lib.hid h
  have hfi := fun w' (hw' : TreeAt w' B A s) => find_any hw' ho hb p true
  unfold StepPost at hfi
  have hul : s.readLink (nb p) = if (s.find (nb p) true).1 ≠ 0 then ansC (s.find (nb p) true).1 else if (s.at (s.find (nb p) true).2).kind ≠ 3 then ansC 2 else { ans0 with data := (s.at (s.find (nb p) true).2).data } := rfl
  have hal := ho.find_alive (p := nb p) (itself := true)
  obtain ⟨⟨c1, i⟩, hq1⟩ : ∃ z, s.find (nb p) true = z := ⟨_, rfl⟩
  rw [hq1] at hfi hul hal
  have hfi' := Lib.hid hfi
  obtain ⟨w0, hw0⟩ : ∃ w0, w.alloc (.cells #[.int .i64 0, .int .i64 0, .int .i64 0, .int .i64 0, .slice none 0 0, .slice none 0 0] 38) = w0 := ⟨_, rfl⟩
  have hB0 := Lib.hid (show Below w.heap.size w w0 by rw [← hw0]; exact (Below.refl w.heap.size w).alloc (Nat.le_refl _) _)
  have V0 := Lib.hid (show Vw w0 38 w.heap.size [.int .i64 0, .int .i64 0, .int .i64 0, .int .i64 0, .slice none 0 0, .slice none 0 0] by rw [← hw0]; exact Vw.alloc _ _ _)
  have h0 := Lib.hid (h.below hB0.out)
  have tk : True := trivial
  clear h hfi hq1
  by_cases hc1 : c1 = 0
  · subst hc1
    obtain ⟨x, hx⟩ := hal rfl
    rw [if_neg (fun h => h rfl), Tr.at_of hx] at hul
    have hx' := Lib.hid hx
    by_cases hk : x.kind = 3
    · rw [if_neg (by omega)] at hul
      have hul' := Lib.hid hul
      have hN := h0.out.node i x hx
      obtain ⟨pd, cpd, hde, hpd, hnd, _⟩ := hN.data.slice
      have hde' := Lib.hid hde
      have hnd' := Lib.hid hnd
      have hdl := Lib.hid hN.dl
      clear hul hx hal hN hde hpd hnd
      go_enter Tryz.func92, Tryz.ntmps92
      go_wp2_with (first
        | (go_at_call 59; refine (hfi'.out _ h0.out).mono ?_; rintro e w1 ⟨rfl, hb1⟩; have hB1 := Lib.hid (hB0.out.trans (hb1.mono hB0.out.size)); have V1 := Lib.hid (V0.out.on' hb1); have N1 := Lib.hid ((h0.out.below hb1).node i x hx'.out); have ck := N1.out.kind; rw [hk] at ck; have cd := N1.out.dat; rw [hde'.out] at cd; clear hb1)
        | (go_at_call 121; refine (clone_any pd cpd _ x.data _ rfl (by have := hdl.out; omega) (by obtain ⟨p', c', e', hb', _⟩ := N1.out.data.slice; rw [hde'.out] at e'; simp only [Value.slice.injEq] at e'; obtain ⟨rfl, _, rfl⟩ := e'; exact hb') hnd'.out).mono ?_; rintro e w2 ⟨v2, rfl, ho2, hb2⟩; obtain ⟨p2, c2, rfl, _⟩ := ho2.slice; have D2 := Lib.hid (ho2.lower hB1.out.size); have hB2 := Lib.hid (hB1.out.trans (hb2.mono hB1.out.size)); have V2 := Lib.hid (V1.out.on' hb2); have L2 := Lib.hid (fun g (e : (Value.slice p2 x.data.length c2).ownBlock = some g) => show g ≠ w.heap.size by have h1 := (ho2.hi e).1; have h2 := V1.out.lt; omega); clear hb2 ho2)
        | (have _t := tk; refine wpList_store_ans rfl (.tmp 4) (.tmp 35) rfl V2.out rfl rfl 0 0 0 0 p2 none _ c2 0 0 rfl ?_; intro w3 V3 O3; clear tk))
      refine bodyPost_ret (cell_ret2 rfl rfl V3.out Tryz.underlying38 (by rw [Tryz.sizeA]; rfl)) rfl ?_
      exact tell_bytes h'.out (below_at hB2.out O3.out (Nat.le_refl _)) D2.out (fun g e => O3.out.block g (L2.out g e)) hul'.out
    · rw [if_pos hk] at hul
      have hul' := Lib.hid hul
      have t0 : (((x.kind : Nat) : Int) != 3) = true := by rw [bne_iff_ne]; omega
      clear hul hx hal hk
      go_enter Tryz.func92, Tryz.ntmps92
      go_wp2_with (first
        | (go_at_call 59; refine (hfi'.out _ h0.out).mono ?_; rintro e w1 ⟨rfl, hb1⟩; have hB1 := Lib.hid (hB0.out.trans (hb1.mono hB0.out.size)); have V1 := Lib.hid (V0.out.on' hb1); have ck := ((h0.out.below hb1).node i x hx'.out).kind; clear hb1)
        | (go_at_call 79; refine (only_any _ _).mono ?_; rintro e w2 ⟨rfl, hb2⟩; have hB2 := Lib.hid (hB1.out.trans (hb2.mono hB1.out.size)); have V2 := Lib.hid (V1.out.on' hb2); clear hb2)
        | (have _t := tk; refine wpList_store_ans rfl (.tmp 4) (.tmp 28) rfl V2.out rfl rfl 0 0 0 0 none none 0 0 0 0 rfl ?_; intro w3 V3 O3; clear tk))
      refine bodyPost_ret (cell_ret2 rfl rfl V3.out Tryz.underlying38 (by rw [Tryz.sizeA]; rfl)) rfl ?_
      exact tell_code h'.out (below_at hB2.out O3.out (Nat.le_refl _)) (by decide) hul'.out
  · rw [if_pos hc1] at hul
    have hul' := Lib.hid hul
    have hc' := Lib.hid hc1
    have t0 : (c1 != 0) = true := by rw [bne_iff_ne]; exact hc1
    clear hul hal hc1
    go_enter Tryz.func92, Tryz.ntmps92
    go_wp2_with (first
      | (go_at_call 59; refine (hfi'.out _ h0.out).mono ?_; rintro e w1 ⟨rfl, hb1⟩; have hB1 := Lib.hid (hB0.out.trans (hb1.mono hB0.out.size)); have V1 := Lib.hid (V0.out.on' hb1); clear hb1)
      | (go_at_call 79; refine (only_any _ _).mono ?_; rintro e w2 ⟨rfl, hb2⟩; have hB2 := Lib.hid (hB1.out.trans (hb2.mono hB1.out.size)); have V2 := Lib.hid (V1.out.on' hb2); clear hb2)
      | (have _t := tk; refine wpList_store_ans rfl (.tmp 4) (.tmp 19) rfl V2.out rfl rfl 0 0 0 0 none none 0 0 0 0 rfl ?_; intro w3 V3 O3; clear tk))
    refine bodyPost_ret (cell_ret2 rfl rfl V3.out Tryz.underlying38 (by rw [Tryz.sizeA]; rfl)) rfl ?_
    exact tell_code h'.out (below_at hB2.out O3.out (Nat.le_refl _)) hc'.out hul'.out
end
end Go.Proofs.YtgcodlicbdaddaaGreatDoor
end

section
set_option linter.unusedVariables false
set_option linter.unusedSimpArgs false
namespace Go.Proofs.YtgcodlicbdaddaaGreatDoor
open Go.RowKit BigFrame
set_option maxRecDepth 100000

theorem wpList_alloc_ansv {w : World} {ops : Array Oper} {rest : List Oper} {o : Oper} {a : Act} {Q : Exit → Act → World → Prop} (hgd : o.guard = none) (ho : o.op = .alloc 38)
    (h : ∀ g w1, Hid (Vw w1 38 g [.int .i64 0, .int .i64 0, .int .i64 0, .int .i64 0, .slice none 0 0, .slice none 0 0]) → w.heap.size ≤ g → Below w.heap.size w w1 → wpList Tryz.prog ops Q rest (a.put o.dst (.pointer (some ⟨g, 0, none⟩))) w1) : wpList Tryz.prog ops Q (o :: rest) a w := by
  refine wpList_plain hgd fun K hK => ?_
  have hz : (zeroValue 38).run Tryz.prog w = .ok (.agg #[.int .i64 0, .int .i64 0, .int .i64 0, .int .i64 0, .slice none 0 0, .slice none 0 0]) w := by kernel_rfl
  unfold Oper.wp
  simp [execOp, ho, Instr.alloc, Sem.run_bind, hz, newVar, Value.cells, Result.andThen]
  exact hK _ _ (h _ _ (heap_alloc_new w _) (Nat.le_refl _) ((Below.refl _ _).alloc (Nat.le_refl _) _))
section
variable {w : World} {B b : Nat} {A : Ad} {s : Tr}
/-- a descriptor that may be read has a node -/
theorem Ok.toRead_file {b : Nat} {s : Tr} (ho : Ok b s) {fd : Int} (h : s.toRead fd = 0) : ∃ x, s.opt (s.nof fd) = some x ∧ x.kind = 1 ∧ 0 ≤ (s.plc fd).off ∧ (s.plc fd).off ≤ 1099511627776 ∧ thereB s.tb fd = true := by
  unfold Tr.toRead at h
  by_cases h2 : thereB s.tb fd = true
  · rw [if_pos h2] at h
    obtain ⟨i, x, hn, hx, hk3, _, _, h3, h4, _⟩ := ho.tab h2
    have hni : s.nof fd = i := by unfold Tr.nof Tr.plc; rw [hn]; rfl
    rw [hni, Tr.at_of hx] at h
    have hk : x.kind ≠ 2 := fun e => by rw [if_pos e] at h; cases h
    have := (ho.each i x hx).kind
    exact ⟨x, by rw [hni]; exact hx, by omega, h3, h4, h2⟩
  · rw [if_neg h2] at h; cases h
theorem readAt_any (h : TreeAt w B A s) (ho : Ok b s) (hb : b ≤ 900000) (fd off n : Int) :
    Calls Tryz.prog 83 #[.pointer (some ⟨A.t, 0, none⟩), .int .i64 fd, .int .i64 off, .int .i64 n] w (TellPost B A (s.readAt fd off n).2 (s.readAt fd off n).1 w) := by
  have h' := Lib.hid h
  have hcl := fun w' (hw' : TreeAt w' B A s) => toRead_any hw' ho hb fd
  unfold HasPost at hcl
  have hul : s.readAt fd off n = if s.toRead fd ≠ 0 then (ansC (s.toRead fd), s) else if n < 0 ∨ off < 0 then (ansC 2, s) else
    ({ ans0 with data := (s.at (s.nof fd)).read off.toNat n.toNat }, s) := rfl
  have tk : True := trivial
  have tk2 : True := trivial
  have tk3 : True := trivial
  have tk4 : True := trivial
  have hfil := fun e => ho.toRead_file (fd := fd) e
  obtain ⟨F, hF⟩ : ∃ F, s.plc fd = F := ⟨_, rfl⟩
  obtain ⟨i, hi⟩ : ∃ i, s.nof fd = i := ⟨_, rfl⟩
  rw [hF, hi] at hcl
  rw [hi] at hul hfil
  clear h hF hi
  by_cases hc : s.toRead fd = 0
  · obtain ⟨x, hx, hk, _⟩ := hfil hc
    simp only [if_pos hc] at hcl
    rw [hc] at hcl
    rw [if_neg (fun h => h hc), Tr.at_of hx] at hul
    have hx' := Lib.hid hx
    clear hx hfil hk hc
    have hcl := Lib.hid hcl
    by_cases h1 : n < 0
    · rw [if_pos (.inl h1)] at hul
      have hul' := Lib.hid hul
      clear hul
      have t0 : decide (n < 0) = true := decide_eq_true h1
      go_enter Tryz.func83, Tryz.ntmps83
      go_wp2_with (first
        | (have _t := tk; refine wpList_alloc_ansv rfl rfl ?_; intro g0 w0 V0 hg0 b0; have G0 := Lib.hid hg0; have B0 := Lib.hid b0; have T0 := Lib.hid (h'.out.below b0); clear tk b0 hg0)
        | (go_at_call 135; refine (hcl.out _ T0.out).mono ?_; rintro e w1 ⟨rfl, hb1⟩; have B1 := Lib.hid (B0.out.trans (hb1.mono B0.out.size)); have V1 := Lib.hid (V0.out.on' hb1); clear hb1)
        | (have _t := tk2; refine wpList_alloc_file rfl rfl ?_; intro g2 w2 V2 hg2 b2; have G2 := Lib.hid hg2; have B2 := Lib.hid (B1.out.trans (b2.mono B1.out.size)); have U2 := Lib.hid (V1.out.on' b2); clear tk2 b2 hg2)
        | (have _t := tk3; refine wpList_store_file rfl (.tmp 10) (.tmp 17) rfl V2.out rfl F rfl ?_; intro w3 V3 O3; have B3 := Lib.hid (below_at B2.out O3.out (Nat.le_trans B1.out.size G2.out)); have U3 := Lib.hid (U2.out.oth O3.out (by have := G2.out; have := V1.out.lt; omega)); clear tk3)
        | (go_at_call 79; refine (only_any _ _).mono ?_; rintro e w4 ⟨rfl, hb4⟩; have B4 := Lib.hid (B3.out.trans (hb4.mono B3.out.size)); have U4 := Lib.hid (U3.out.on' hb4); clear hb4)
        | (have _t := tk4; refine wpList_store_ans rfl (.tmp 8) (.tmp 35) rfl U4.out rfl rfl 0 0 0 0 none none 0 0 0 0 rfl ?_; intro w5 V5 O5; have B5 := Lib.hid (below_at B4.out O5.out G0.out); clear tk4))
      refine bodyPost_ret (cell_ret2 rfl rfl V5.out Tryz.underlying38 (by rw [Tryz.sizeA]; rfl)) rfl ?_
      rw [hul'.out]
      exact tell_code h'.out B5.out (by decide) rfl
    · have t0 : decide (n < 0) = false := decide_eq_false h1
      by_cases h2 : off < 0
      · rw [if_pos (.inr h2)] at hul
        have hul' := Lib.hid hul
        clear hul
        have t1 : decide (off < 0) = true := decide_eq_true h2
        go_enter Tryz.func83, Tryz.ntmps83
        go_wp2_with (first
          | (have _t := tk; refine wpList_alloc_ansv rfl rfl ?_; intro g0 w0 V0 hg0 b0; have G0 := Lib.hid hg0; have B0 := Lib.hid b0; have T0 := Lib.hid (h'.out.below b0); clear tk b0 hg0)
          | (go_at_call 135; refine (hcl.out _ T0.out).mono ?_; rintro e w1 ⟨rfl, hb1⟩; have B1 := Lib.hid (B0.out.trans (hb1.mono B0.out.size)); have V1 := Lib.hid (V0.out.on' hb1); clear hb1)
          | (have _t := tk2; refine wpList_alloc_file rfl rfl ?_; intro g2 w2 V2 hg2 b2; have G2 := Lib.hid hg2; have B2 := Lib.hid (B1.out.trans (b2.mono B1.out.size)); have U2 := Lib.hid (V1.out.on' b2); clear tk2 b2 hg2)
          | (have _t := tk3; refine wpList_store_file rfl (.tmp 10) (.tmp 17) rfl V2.out rfl F rfl ?_; intro w3 V3 O3; have B3 := Lib.hid (below_at B2.out O3.out (Nat.le_trans B1.out.size G2.out)); have U3 := Lib.hid (U2.out.oth O3.out (by have := G2.out; have := V1.out.lt; omega)); clear tk3)
          | (go_at_call 79; refine (only_any _ _).mono ?_; rintro e w4 ⟨rfl, hb4⟩; have B4 := Lib.hid (B3.out.trans (hb4.mono B3.out.size)); have U4 := Lib.hid (U3.out.on' hb4); clear hb4)
          | (have _t := tk4; refine wpList_store_ans rfl (.tmp 8) (.tmp 35) rfl U4.out rfl rfl 0 0 0 0 none none 0 0 0 0 rfl ?_; intro w5 V5 O5; have B5 := Lib.hid (below_at B4.out O5.out G0.out); clear tk4))
        refine bodyPost_ret (cell_ret2 rfl rfl V5.out Tryz.underlying38 (by rw [Tryz.sizeA]; rfl)) rfl ?_
        rw [hul'.out]
        exact tell_code h'.out B5.out (by decide) rfl
      · rw [if_neg (by omega)] at hul
        obtain ⟨m, rfl⟩ : ∃ m : Nat, n = (m : Int) := ⟨n.toNat, by omega⟩
        obtain ⟨o, rfl⟩ : ∃ o : Nat, off = (o : Int) := ⟨off.toNat, by omega⟩
        rw [Int.toNat_natCast, Int.toNat_natCast] at hul
        have hul' := Lib.hid hul
        clear hul h1 h2
        have t1 : decide (((o : Nat) : Int) < 0) = false := decide_eq_false (by omega)
        go_enter Tryz.func83, Tryz.ntmps83
        go_wp2_with (first
          | (have _t := tk; refine wpList_alloc_ansv rfl rfl ?_; intro g0 w0 V0 hg0 b0; have G0 := Lib.hid hg0; have B0 := Lib.hid b0; have T0 := Lib.hid (h'.out.below b0); clear tk b0 hg0)
          | (go_at_call 135; refine (hcl.out _ T0.out).mono ?_; rintro e w1 ⟨rfl, hb1⟩; have B1 := Lib.hid (B0.out.trans (hb1.mono B0.out.size)); have V1 := Lib.hid (V0.out.on' hb1); clear hb1)
          | (have _t := tk2; refine wpList_alloc_file rfl rfl ?_; intro g2 w2 V2 hg2 b2; have G2 := Lib.hid hg2; have B2 := Lib.hid (B1.out.trans (b2.mono B1.out.size)); have U2 := Lib.hid (V1.out.on' b2); clear tk2 b2 hg2)
          | (have _t := tk3; refine wpList_store_file rfl (.tmp 10) (.tmp 17) rfl V2.out rfl F rfl ?_; intro w3 V3 O3; have B3 := Lib.hid (below_at B2.out O3.out (Nat.le_trans B1.out.size G2.out)); have U3 := Lib.hid (U2.out.oth O3.out (by have := G2.out; have := V1.out.lt; omega)); clear tk3)
          | (go_at_call 136; refine (nodeRead_any o m _ ((h'.out.below B3.out).node i x hx'.out)).mono ?_; rintro e w4 ⟨v4, rfl, ho4, hb4⟩; obtain ⟨p4, c4, rfl, _⟩ := ho4.slice; have D4 := Lib.hid (ho4.lower B3.out.size); have B4 := Lib.hid (B3.out.trans (hb4.mono B3.out.size)); have U4 := Lib.hid (U3.out.on' hb4); have L4 := Lib.hid (fun g (e : (Value.slice p4 (x.read o m).length c4).ownBlock = some g) => show g ≠ g0 by have h1 := (ho4.hi e).1; have h2 := U3.out.lt; omega); clear hb4 ho4)
          | (have _t := tk4; refine wpList_store_ans rfl (.tmp 8) (.tmp 41) rfl U4.out rfl rfl 0 0 0 0 p4 none _ c4 0 0 rfl ?_; intro w5 V5 O5; have B5 := Lib.hid (below_at B4.out O5.out G0.out); clear tk4))
        refine bodyPost_ret (cell_ret2 rfl rfl V5.out Tryz.underlying38 (by rw [Tryz.sizeA]; rfl)) rfl ?_
        rw [hul'.out]
        exact tell_bytes h'.out B5.out D4.out (fun g e => O5.out.block g (L4.out g e)) rfl
  · rw [if_pos hc] at hul
    simp only [if_neg hc] at hcl
    obtain ⟨c, hcc⟩ : ∃ c, s.toRead fd = c := ⟨_, rfl⟩
    rw [hcc] at hul hcl hc
    have hul' := Lib.hid hul
    have hcl := Lib.hid hcl
    have hc' := Lib.hid hc
    have t0 : (c != 0) = true := by rw [bne_iff_ne]; exact hc
    clear hul hfil hc hcc
    go_enter Tryz.func83, Tryz.ntmps83
    go_wp2_with (first
      | (have _t := tk; refine wpList_alloc_ansv rfl rfl ?_; intro g0 w0 V0 hg0 b0; have G0 := Lib.hid hg0; have B0 := Lib.hid b0; have T0 := Lib.hid (h'.out.below b0); clear tk b0 hg0)
      | (go_at_call 135; refine (hcl.out _ T0.out).mono ?_; rintro e w1 ⟨rfl, hb1⟩; have B1 := Lib.hid (B0.out.trans (hb1.mono B0.out.size)); have V1 := Lib.hid (V0.out.on' hb1); clear hb1)
      | (have _t := tk2; refine wpList_alloc_file rfl rfl ?_; intro g2 w2 V2 hg2 b2; have G2 := Lib.hid hg2; have B2 := Lib.hid (B1.out.trans (b2.mono B1.out.size)); have U2 := Lib.hid (V1.out.on' b2); clear tk2 b2 hg2)
      | (have _t := tk3; refine wpList_store_file rfl (.tmp 10) (.tmp 17) rfl V2.out rfl p0 rfl ?_; intro w3 V3 O3; have B3 := Lib.hid (below_at B2.out O3.out (Nat.le_trans B1.out.size G2.out)); have U3 := Lib.hid (U2.out.oth O3.out (by have := G2.out; have := V1.out.lt; omega)); clear tk3)
      | (go_at_call 79; refine (only_any _ _).mono ?_; rintro e w4 ⟨rfl, hb4⟩; have B4 := Lib.hid (B3.out.trans (hb4.mono B3.out.size)); have U4 := Lib.hid (U3.out.on' hb4); clear hb4)
      | (have _t := tk4; refine wpList_store_ans rfl (.tmp 8) (.tmp 25) rfl U4.out rfl rfl 0 0 0 0 none none 0 0 0 0 rfl ?_; intro w5 V5 O5; have B5 := Lib.hid (below_at B4.out O5.out G0.out); clear tk4))
    refine bodyPost_ret (cell_ret2 rfl rfl V5.out Tryz.underlying38 (by rw [Tryz.sizeA]; rfl)) rfl ?_
    rw [hul'.out]
    exact tell_code h'.out B5.out hc'.out rfl
end
end Go.Proofs.YtgcodlicbdaddaaGreatDoor
end

section
set_option linter.unusedVariables false
set_option linter.unusedSimpArgs false
namespace Go.Proofs.YtgcodlicbdaddaaGreatDoor
open Go.RowKit BigFrame
set_option maxRecDepth 100000

section
variable {B a i : Nat} {x : Nd} {v en : Value}
theorem NStep.oth {w w1 w2 : World} {v v' : Value} (h : NStep w w1 a v v') (ho : Oth a w1 w2) : NStep w w2 a v v' :=
  ⟨ho.os.trans h.os, ho.tape.trans h.tape, ho.output.trans h.output, by rw [ho.size]; exact h.size, fun k hk h1 h2 => (ho.block k h1).trans (h.block k hk h1 h2), h.row⟩
theorem NStep.of_below {w w1 : World} (h : Below w.heap.size w w1) (a : Nat) (v : Value) : NStep w w1 a v v := ⟨h.os, h.tape, h.output, h.size, fun k hk _ _ => h.block k hk, fun _ e => .inl e⟩
theorem NStep.trans {w w1 w2 : World} {v1 v2 : Value} (h : NStep w w1 a v v1) (k : NStep w1 w2 a v1 v2) : NStep w w2 a v v2 :=
  ⟨k.os.trans h.os, k.tape.trans h.tape, k.output.trans h.output, Nat.le_trans h.size k.size, fun j hj h1 h2 => (k.block j (Nat.lt_of_lt_of_le hj h.size) h1 (fun e => by
    rcases h.row j e with e2 | e2
    · exact h2 e2
    · omega)).trans (h.block j hj h1 h2), fun g e => by
    rcases k.row g e with e2 | e2
    · exact h.row g e2
    · exact .inr (Nat.le_trans h.size e2)⟩
theorem markW_set {q j : Nat} {l : List Bool} (h : q ≤ j) (hj : j < l.length) : (markW q j l).set j true = markW q (j + 1) l := by
  unfold markW
  apply List.ext_getElem?
  intro k
  simp only [List.getElem?_set, List.getElem?_append, List.length_append, List.length_take, List.length_replicate, List.getElem?_take, List.getElem?_replicate, List.getElem?_drop]
  have h1 : max q j = j := by omega
  have h2 : max q (j + 1) = j + 1 := by omega
  have h3 : min q l.length = q := by omega
  rw [h1, h2, h3]
  by_cases e : j = k
  · subst e
    have : q + (j - q) + (l.length - j) = l.length := by omega
    simp only [if_pos trivial, List.length_drop]
    rw [if_pos (by omega), if_pos (by omega), if_neg (by omega), if_pos (by omega)]
  · rw [if_neg e]
    by_cases e1 : k < q
    · rw [if_pos (by omega), if_pos (by omega), if_pos (by omega), if_pos (by omega), if_pos e1]
    · by_cases e2 : k < j
      · rw [if_pos (by omega), if_neg (by omega), if_pos (by omega), if_pos (by omega), if_neg (by omega), if_pos (by omega)]
      · rw [if_neg (by omega), if_neg (by omega)]
        congr 1
        omega
theorem markW_nil (q : Nat) (l : List Bool) (h : q ≤ l.length) : markW q q l = l := by
  unfold markW
  rw [Nat.sub_self, List.replicate_zero, Nat.max_self, List.append_nil, List.take_append_drop]
theorem markW_length {q j : Nat} {l : List Bool} (h : q ≤ j) (hj : j ≤ l.length) : (markW q j l).length = l.length := by
  unfold markW
  simp only [List.length_append, List.length_take, List.length_replicate, List.length_drop]
  omega
theorem ndc_mid_set {i : Nat} {x : Nd} {v en : Value} {k : Nat} (h : k < x.wr.length) (c : Bool) : (ndc i x v en).set (4 + k) (.bool c) = ndc i { x with wr := x.wr.set k c } v en := by
  unfold ndc
  rw [List.set_append_right _ _ (by simp [ndh]), List.set_append_left _ _ (by simp [ndh]; exact h)]
  have e : (x.wr.map Value.bool).set (4 + k - (ndh i x v).length) (.bool c) = (x.wr.set k c).map Value.bool := by
    show (x.wr.map Value.bool).set (4 + k - 4) (.bool c) = _
    rw [Nat.add_sub_cancel_left, List.map_set]
  rw [e]
  rfl
/-- a block marked -/
theorem NodeAt.mark {w : World} (h : NodeAt w B a i x v en) (hap : v.ownBlock ≠ some a) (hen : ∀ b, en = .map (some b) → b ≠ a) {k : Nat} (hk : k < 162) (c : Bool) : NodeAt (w.setCell ⟨a, 4 + k, none⟩ (.bool c)) B a i { x with wr := x.wr.set k c } v en where
  row := by rw [← ndc_mid_set (by rw [h.wrl]; exact hk)]; exact h.row.set (4 + k) _
  data := h.data.blk fun g e => heap_set_other w ⟨a, 4 + k, none⟩ _ (fun e2 => hap (by rw [← show g = a from e2]; exact e))
  wrl := by rw [List.length_set]; exact h.wrl
  oct := h.oct
  dl := h.dl
  ents := h.ents.blk rfl rfl fun b e => heap_set_other w ⟨a, 4 + k, none⟩ _ (hen b e)
  own := fun h3 => (h.own h3).blk fun g e => heap_set_other w ⟨a, 4 + k, none⟩ _ (fun e2 => hap (by rw [← show g = a from e2]; exact e))
end
end Go.Proofs.YtgcodlicbdaddaaGreatDoor
end

section
set_option linter.unusedVariables false
set_option linter.unusedSimpArgs false
namespace Go.Proofs.YtgcodlicbdaddaaGreatDoor
open Go.RowKit BigFrame
set_option maxRecDepth 100000

section
variable {B a i : Nat} {x : Nd} {v en : Value}
/-- too much, or nothing: nothing turns -/
theorem write_not (o : Nat) (sp : Option Addr) (cap : Nat) (b : List Nat) (w : World) (h : NodeAt w B a i x v en) (hb : b.length ≤ 1000000) (hn : 20736 < o + b.length ∨ b = []) :
    Calls Tryz.prog 140 #[.pointer (some ⟨a, 0, none⟩), .int .i64 ((o : Nat) : Int), .slice sp b.length cap] w fun e w' => e = .returned (.tuple #[ansV 0 0 0 0 (.slice none 0 0) (.slice none 0 0), .int .i64 (if 20736 < o + b.length then 15 else 0)]) ∧ Below w.heap.size w w' := by
  have h' := Lib.hid h
  clear h
  have tk : True := trivial
  have tk4 : True := trivial
  have hsub : IntKind.i64.wrap (20736 - ((b.length : Nat) : Int)) = 20736 - ((b.length : Nat) : Int) := wrap_in (by omega)
  by_cases h1 : 20736 < o + b.length
  · have t0 : decide (20736 - ((b.length : Nat) : Int) < ((o : Nat) : Int)) = true := decide_eq_true (by omega)
    rw [if_pos h1]
    clear hn h1
    go_enter Tryz.func140, Tryz.ntmps140
    go_wp2_with (first
      | (have _t := tk; refine wpList_alloc_ansv rfl rfl ?_; intro g0 w0 V0 hg0 b0; have G0 := Lib.hid hg0; have B0 := Lib.hid b0; have N0 := Lib.hid (h'.out.below b0); have cd0 := N0.out.dat; clear tk b0 hg0)
      | (go_at_call 79; refine (only_any _ _).mono ?_; rintro e w4 ⟨rfl, hb4⟩; have B4 := Lib.hid (B0.out.trans (hb4.mono B0.out.size)); have U4 := Lib.hid (V0.out.on' hb4); clear hb4)
      | (have _t := tk4; refine wpList_store_ans rfl (.tmp 6) (.tmp 17) rfl U4.out rfl rfl 0 0 0 0 none none 0 0 0 0 rfl ?_; intro w5 V5 O5; have B5 := Lib.hid (below_at B4.out O5.out G0.out); clear tk4))
    refine bodyPost_ret (cell_ret2 rfl rfl V5.out Tryz.underlying38 (by rw [Tryz.sizeA]; rfl)) rfl ?_
    exact ⟨rfl, B5.out⟩
  · rw [if_neg h1]
    have hb0 : b = [] := by rcases hn with h | h; exact absurd h h1; exact h
    subst hb0
    have t0 : decide ((20736 : Int) < ((o : Nat) : Int)) = false := decide_eq_false (by rw [List.length_nil] at h1; omega)
    rw [List.length_nil]
    clear hn h1 hsub hb
    go_enter Tryz.func140, Tryz.ntmps140
    go_wp2_with (first
      | (have _t := tk; refine wpList_alloc_ansv rfl rfl ?_; intro g0 w0 V0 hg0 b0; have G0 := Lib.hid hg0; have B0 := Lib.hid b0; have N0 := Lib.hid (h'.out.below b0); have cd0 := N0.out.dat; clear tk b0 hg0)
      | (go_at_call 79; refine (only_any _ _).mono ?_; rintro e w4 ⟨rfl, hb4⟩; have B4 := Lib.hid (B0.out.trans (hb4.mono B0.out.size)); have U4 := Lib.hid (V0.out.on' hb4); clear hb4)
      | (have _t := tk4; refine wpList_store_ans rfl (.tmp 6) (.tmp 24) rfl U4.out rfl rfl 0 0 0 0 none none 0 0 0 0 rfl ?_; intro w5 V5 O5; have B5 := Lib.hid (below_at B4.out O5.out G0.out); clear tk4))
    refine bodyPost_ret (cell_ret2 rfl rfl V5.out Tryz.underlying38 (by rw [Tryz.sizeA]; rfl)) rfl ?_
    exact ⟨rfl, B5.out⟩
end
end Go.Proofs.YtgcodlicbdaddaaGreatDoor
end
