/-
  What stands at a path told: stat, a link's target.
  What a descriptor has, to read.
  What a descriptor has, to write.
  A node's bytes have turned: of the tree.
-/
import Derived.Test.YtgcodlicbdaddaaGreatDoorB18
import Derived.Test.YtgcodlicbdaddaaGreatDoorB16
import Derived.Deep.RegionWith
import Derived.Deep.RegionHeld3
import Derived.StillTailTactics
import Derived.Test.YtgcodlicbdaddaaGreatDoorB22
import Derived.BigQuiet
import Derived.Test.YtgcodlicbdaddaaGreatDoorB19

section
set_option linter.unusedVariables false
set_option linter.unusedSimpArgs false
namespace Go.Proofs.YtgcodlicbdaddaaGreatDoor
open Go.RowKit BigFrame
set_option maxRecDepth 100000

/-- an answer: of a code nothing is said but that -/
structure AnsIs (w : World) (B : Nat) (A : Ad) (v : Value) (a : Ans) : Prop where
  form : ∃ d ns, v = ansV 0 a.n a.kind a.links d ns ∧ OwnB w B d a.data ∧ OwnT w B ns a.names ∧ (∀ g, d.ownBlock = some g → A.own g = none) ∧ ∀ g, ns.ownBlock = some g → A.own g = none
/-- what is told is an answer, whatever it says -/
def FormA (v : Value) : Prop := ∃ c n k e p1 n1 c1 p2 n2 c2, v = ansV c n k e (.slice p1 n1 c1) (.slice p2 n2 c2)
theorem FormA.own {c n k e : Int} {w : World} {B : Nat} {d ns : Value} {l : List Nat} {L : List (List Nat)} (h1 : OwnB w B d l) (h2 : OwnT w B ns L) : FormA (ansV c n k e d ns) := by
  obtain ⟨p1, c1, rfl, _⟩ := h1.slice
  obtain ⟨p2, c2, rfl, _⟩ := h2.slice
  exact ⟨_, _, _, _, _, _, _, _, _, _, rfl⟩
def TellPost (B : Nat) (A : Ad) (s' : Tr) (a : Ans) (w : World) (e : Ending) (w' : World) : Prop :=
  ∃ v A', e = .returned (.tuple #[v, .int .i64 a.code]) ∧ TreeAt w' B A' s' ∧ TStep w A w' A' ∧ (a.code = 0 → AnsIs w' w.heap.size A' v a) ∧ FormA v
/-- an answer is laid over an answer's variable -/
theorem wpList_store_ans {w : World} {ops : Array Oper} {rest : List Oper} {o : Oper} {a : Act} {Q : Exit → Act → World → Prop} (hgd : o.guard = none) (x y : Operand) (ho : o.op = .store 38 x y)
    {g : Nat} {l : List Value} (hV : Vw w 38 g l) (hl : l.length = 6) (hx : a.eval x = .pointer (some ⟨g, 0, none⟩)) (c n k e : Int) (p1 p2 : Option Addr) (n1 c1 n2 c2 : Nat)
    (hy : a.eval y = ansV c n k e (.slice p1 n1 c1) (.slice p2 n2 c2))
    (h : ∀ w', Hid (Vw w' 38 g [.int .i64 c, .int .i64 n, .int .i64 k, .int .i64 e, .slice p1 n1 c1, .slice p2 n2 c2]) → Hid (Oth g w w') → wpList Tryz.prog ops Q rest (a.put o.dst undef) w') : wpList Tryz.prog ops Q (o :: rest) a w := by
  refine wpList_store_row hgd _ x y ho g #[.int .i64 c, .int .i64 n, .int .i64 k, .int .i64 e, .slice p1 n1 c1, .slice p2 n2 c2] hx hy _ l.toArray hV (by rw [Tryz.sizeA]; rfl) (by rw [List.size_toArray, hl]; rfl) (by simp [Value.oneCell']) ?_
  exact h _ (setRow_heap w g _ _ _ _ hV) ⟨rfl, rfl, rfl, by simp [World.setRow], fun k hk => setRow_other w g k _ hk⟩
theorem below_at {w0 w w' : World} {n g : Nat} (h : Below n w0 w) (ho : Oth g w w') (hg : n ≤ g) : Below n w0 w' :=
  h.trans ⟨ho.os, ho.tape, ho.output, Nat.le_of_eq ho.size.symm, fun k hk => ho.block k (by omega)⟩
section
variable {w : World} {B b : Nat} {A : Ad} {s : Tr}
theorem tell_code {c : Int} {a : Ans} {v : Value} {w' : World} (h : TreeAt w B A s) (hb : Below w.heap.size w w') (hc : c ≠ 0) (ha : a = ansC c) (hv : FormA v := by exact ⟨_, _, _, _, _, _, _, _, _, _, rfl⟩) : TellPost B A s a w (.returned (.tuple #[v, .int .i64 c])) w' := by
  subst ha
  exact ⟨v, A, rfl, h.below hb, TStep.of_below A hb, fun h => absurd h hc, hv⟩
theorem tell_plain {a : Ans} {n k l : Int} {w' : World} (h : TreeAt w B A s) (hb : Below w.heap.size w w') (ha : a = { ans0 with n := n, kind := k, links := l }) : TellPost B A s a w (.returned (.tuple #[ansV 0 n k l (.slice none 0 0) (.slice none 0 0), .int .i64 0])) w' := by
  subst ha
  exact ⟨_, A, rfl, h.below hb, TStep.of_below A hb, fun _ => ⟨_, _, rfl, OwnB.nil _ _, OwnT.nil _ _, (fun g e => by cases e), (fun g e => by cases e)⟩, ⟨_, _, _, _, _, _, _, _, _, _, rfl⟩⟩
set_option maxHeartbeats 2000000 in
theorem stat_any (h : TreeAt w B A s) (ho : Ok b s) (hb : b ≤ 1000000) (p : ByteArray) (itself : Bool) :
    Calls Tryz.prog 94 #[.pointer (some ⟨A.t, 0, none⟩), .string p, .bool itself] w (TellPost B A s (s.stat (nb p) itself) w) := by
  have h' := Lib.hid h
  have hfi := fun w' (hw' : TreeAt w' B A s) => find_any hw' ho hb p itself
  unfold StepPost at hfi
  have hul : s.stat (nb p) itself = if (s.find (nb p) itself).1 ≠ 0 then ansC (s.find (nb p) itself).1 else
    { ans0 with n := ((s.at (s.find (nb p) itself).2).size : Nat), kind := ((s.at (s.find (nb p) itself).2).kind : Nat), links := ((s.at (s.find (nb p) itself).2).links : Nat) } := rfl
  have hal := ho.find_alive (p := nb p) (itself := itself)
  obtain ⟨⟨c1, i⟩, hq1⟩ : ∃ z, s.find (nb p) itself = z := ⟨_, rfl⟩
  rw [hq1] at hfi hul hal
  have hfi' := Lib.hid hfi
  obtain ⟨w0, hw0⟩ : ∃ w0, w.alloc (.cells #[.int .i64 0, .int .i64 0, .int .i64 0, .int .i64 0, .slice none 0 0, .slice none 0 0] 38) = w0 := ⟨_, rfl⟩
  have hB0 := Lib.hid (show Below w.heap.size w w0 by rw [← hw0]; exact (Below.refl w.heap.size w).alloc (Nat.le_refl _) _)
  have V0 := Lib.hid (show Vw w0 38 w.heap.size [.int .i64 0, .int .i64 0, .int .i64 0, .int .i64 0, .slice none 0 0, .slice none 0 0] by rw [← hw0]; exact Vw.alloc _ _ _)
  have h0 := Lib.hid (h.below hB0.out)
  clear h hfi hq1
  by_cases hc1 : c1 = 0
  · subst hc1
    obtain ⟨x, hx⟩ := hal rfl
    rw [if_neg (fun h => h rfl), Tr.at_of hx] at hul
    have hx' := Lib.hid hx
    have hul' := Lib.hid hul
    clear hul hx hal
    go_enter Tryz.func94, Tryz.ntmps94
    go_wp2_with (go_at_call 59; refine (hfi'.out _ h0.out).mono ?_; rintro e w1 ⟨rfl, hb1⟩; have hB1 := Lib.hid hb1; have hN1 := Lib.hid ((h0.out.below hb1).node i x hx'.out); have ck := hN1.out.kind; have cl := hN1.out.links; clear hb1)
    have V1 := Lib.hid (V0.out.on' hB1.out)
    have N2 := Lib.hid (show NodeAt w1.drew B (A.nd i) i x (A.da i) (A.en i) from hN1.out.blk rfl (fun _ _ => rfl) (fun _ _ => rfl))
    go_still_tail 11, (by kernel_rfl)
    still_call ((size_any _ N2.out).mono fun _ _ h => ⟨h.1, h.2.symm⟩)
    repeat still_step
    refine wpStill_nil ?_
    change wpList _ _ _ _ _ w1.drew
    have tk : True := trivial
    go_wp2_with (have _t := tk; refine wpList_store_ans rfl (.tmp 6) (.tmp 33) rfl V1.out.drew1 rfl rfl 0 ((x.size : Nat) : Int) ((x.kind : Nat) : Int) ((x.links : Nat) : Int) none none 0 0 0 0 rfl ?_; intro w3 V3 O3; clear tk)
    refine bodyPost_ret (cell_ret2 rfl rfl V3.out Tryz.underlying38 (by rw [Tryz.sizeA]; rfl)) rfl ?_
    exact tell_plain h'.out (below_at (hB0.out.trans (hB1.out.mono hB0.out.size)).drew O3.out (Nat.le_refl _)) hul'.out
  · rw [if_pos hc1] at hul
    have hul' := Lib.hid hul
    have hc' := Lib.hid hc1
    have t0 : (c1 != 0) = true := by rw [bne_iff_ne]; exact hc1
    have tk : True := trivial
    clear hul hal hc1
    go_enter Tryz.func94, Tryz.ntmps94
    go_wp2_with (first
      | (go_at_call 59; refine (hfi'.out _ h0.out).mono ?_; rintro e w1 ⟨rfl, hb1⟩; have hB1 := Lib.hid (hB0.out.trans (hb1.mono hB0.out.size)); have V1 := Lib.hid (V0.out.on' hb1); clear hb1)
      | (go_at_call 79; refine (only_any _ _).mono ?_; rintro e w2 ⟨rfl, hb2⟩; have hB2 := Lib.hid (hB1.out.trans (hb2.mono hB1.out.size)); have V2 := Lib.hid (V1.out.on' hb2); clear hb2)
      | (have _t := tk; refine wpList_store_ans rfl (.tmp 6) (.tmp 21) rfl V2.out rfl rfl 0 0 0 0 none none 0 0 0 0 rfl ?_; intro w3 V3 O3; clear tk))
    refine bodyPost_ret (cell_ret2 rfl rfl V3.out Tryz.underlying38 (by rw [Tryz.sizeA]; rfl)) rfl ?_
    exact tell_code h'.out (below_at hB2.out O3.out (Nat.le_refl _)) hc'.out hul'.out
end
end Go.Proofs.YtgcodlicbdaddaaGreatDoor
end

section
set_option linter.unusedVariables false
set_option linter.unusedSimpArgs false
namespace Go.Proofs.YtgcodlicbdaddaaGreatDoor
open Go.RowKit BigFrame
set_option maxRecDepth 100000

theorem wpList_store_file {w : World} {ops : Array Oper} {rest : List Oper} {o : Oper} {a : Act} {Q : Exit → Act → World → Prop} (hgd : o.guard = none) (x y : Operand) (ho : o.op = .store 113 x y)
    {g : Nat} {s0 : Plc} (hV : Vw w 113 g (gc s0)) (hx : a.eval x = .pointer (some ⟨g, 0, none⟩)) (s : Plc) (hy : a.eval y = gv s)
    (h : ∀ w', Hid (Vw w' 113 g (gc s)) → Hid (Oth g w w') → wpList Tryz.prog ops Q rest (a.put o.dst undef) w') : wpList Tryz.prog ops Q (o :: rest) a w := by
  refine wpList_store_row hgd _ x y ho g (gc s).toArray hx hy _ (gc s0).toArray hV (by rw [Tryz.sizeFile]; rfl) rfl (gc_all s) ?_
  exact h _ (setRow_heap w g _ _ _ _ hV) ⟨rfl, rfl, rfl, by simp [World.setRow], fun k hk => setRow_other w g k _ hk⟩
theorem file_ret3 {fn : Func} {p u v : Tmp} (h : fn.results = #[.cell p 113, .tmp u, .tmp v]) {tmps : Array Value} {w : World} {a : Nat} {s : Plc} (hp : tmps.getD p undef = .pointer (some ⟨a, 0, none⟩)) (hV : Vw w 113 a (gc s)) :
    (results fn tmps).run Tryz.prog w = .ok (.tuple #[gv s, tmps.getD u undef, tmps.getD v undef]) w := by
  have hp' : tmps[p]?.getD undef = .pointer (some ⟨a, 0, none⟩) := by simpa using hp
  simp [results, h, hp', asAddr, run_loadVar_row w a _ 113 _ _ _ hV Tryz.underlying113 rfl (by rw [Tryz.sizeFile]; simp [gc]), gv]
theorem below_dN {B : Nat} (w : World) (m : Nat) : Below B w (w.drewN m) := ⟨rfl, rfl, rfl, Nat.le_refl _, fun _ _ => rfl⟩
/-- what a descriptor has, and its node; or a code -/
def HasPost (A : Ad) (s : Tr) (fd : Int) (c : Int) (w : World) (e : Ending) (w' : World) : Prop :=
  e = .returned (.tuple #[if c = 0 then gv (s.plc fd) else gv p0, if c = 0 then .pointer (some ⟨A.nd (s.nof fd), 0, none⟩) else .pointer none, .int .i64 c]) ∧ Below w.heap.size w w'
section
variable {w : World} {B b : Nat} {A : Ad} {s : Tr}
theorem toRead_any (h : TreeAt w B A s) (ho : Ok b s) (hb : b ≤ 900000) (fd : Int) :
    Calls Tryz.prog 135 #[.pointer (some ⟨A.t, 0, none⟩), .int .i64 fd] w (HasPost A s fd (s.toRead fd) w) := by
  have h' := Lib.hid h
  have hcl := Lib.hid (fun w' (hw' : TreeAt w' B A s) => get_u A.f fd s.tb w' hw'.tab)
  have hul : s.toRead fd = if thereB s.tb fd = true then (if (s.at (s.nof fd)).kind = 2 then 8 else 0) else 10 := rfl
  unfold gP gC at hcl
  have hbd := run_bd0G
  have tk : True := trivial
  have tk2 : True := trivial
  have tk3 : True := trivial
  have tk4 : True := trivial
  unfold HasPost
  by_cases ht : thereB s.tb fd = true
  · obtain ⟨i, x, hn, hx, _⟩ := ho.tab ht
    have hni : s.nof fd = i := by unfold Tr.nof Tr.plc; rw [hn]; rfl
    have hpl : s.plc fd = pl s.tb fd.toNat := rfl
    simp only [if_pos ht] at hcl
    rw [if_pos ht, hni, Tr.at_of hx] at hul
    rw [hul, hpl, hni]
    obtain ⟨F, hF⟩ : ∃ F, pl s.tb fd.toNat = F := ⟨_, rfl⟩
    rw [hF] at hcl hn ⊢
    have hx' := Lib.hid hx
    have hn' := Lib.hid hn
    have hget := Lib.hid (fun w' (hw' : TreeAt w' B A s) => hw'.get_some ho (by omega) hx)
    clear h hul hx hn ht hpl hni hF
    by_cases hk : x.kind = 2
    · rw [if_pos hk]
      go_enter Tryz.func135, Tryz.ntmps135
      go_wp2_with (first
        | (have _t := tk; refine wpList_alloc_file rfl rfl ?_; intro g1 w1 V1 hg1 b1; have B1 := Lib.hid b1; have G1 := Lib.hid hg1; have T1 := Lib.hid (h'.out.below b1); have cf := T1.out.files; clear tk b1 hg1)
        | (go_at_call 96; refine (hcl.out _ T1.out).mono ?_; rintro e w2 ⟨rfl, hb2⟩; have B2 := Lib.hid (B1.out.trans (hb2.mono B1.out.size)); have V2 := Lib.hid (V1.out.on' hb2); clear hb2)
        | (have _t := tk2; refine wpList_alloc_file rfl rfl ?_; intro g3 w3 V3 hg3 b3; have G3 := Lib.hid hg3; have B3 := Lib.hid (B2.out.trans (b3.mono B2.out.size)); have V4 := Lib.hid (V2.out.on' b3); clear tk2 b3 hg3)
        | (have _t := tk3; refine wpList_store_file rfl (.tmp 7) (.tmp 17) rfl V3.out rfl F rfl ?_; intro w5 V5 O5; have B5 := Lib.hid (below_at B3.out O5.out (Nat.le_trans B2.out.size G3.out)); have V6 := Lib.hid (V4.out.oth O5.out (by have := G3.out; have := V2.out.lt; omega)); clear tk3))
      have T5 := Lib.hid (h'.out.below B5.out)
      have cm := T5.out.maps
      have cn := V5.out.cell (k := 0) rfl
      rw [hn'.out] at cn
      have ck := (T5.out.node i x hx'.out).kind
      have cg := fun n => hget.out _ (T5.out.drewN n)
      clear cf
      rw [hk] at ck
      go_quiet (fail)
      clear cm cn cg
      go_wp2_with (have _t := tk4; refine wpList_store_file rfl (.tmp 4) (.tmp 35) rfl V6.out.drew rfl p0 rfl ?_; intro w7 V7 O7; have B7 := Lib.hid (below_at (B5.out.trans (below_dN w5 _)) O7.out G1.out); clear tk4)
      refine bodyPost_ret (file_ret3 rfl rfl V7.out) rfl ⟨rfl, B7.out⟩
    · rw [if_neg hk]
      have t0 : (((x.kind : Nat) : Int) == 2) = false := nat_beq_ne (b := 2) hk
      go_enter Tryz.func135, Tryz.ntmps135
      go_wp2_with (first
        | (have _t := tk; refine wpList_alloc_file rfl rfl ?_; intro g1 w1 V1 hg1 b1; have B1 := Lib.hid b1; have G1 := Lib.hid hg1; have T1 := Lib.hid (h'.out.below b1); have cf := T1.out.files; clear tk b1 hg1)
        | (go_at_call 96; refine (hcl.out _ T1.out).mono ?_; rintro e w2 ⟨rfl, hb2⟩; have B2 := Lib.hid (B1.out.trans (hb2.mono B1.out.size)); have V2 := Lib.hid (V1.out.on' hb2); clear hb2)
        | (have _t := tk2; refine wpList_alloc_file rfl rfl ?_; intro g3 w3 V3 hg3 b3; have G3 := Lib.hid hg3; have B3 := Lib.hid (B2.out.trans (b3.mono B2.out.size)); have V4 := Lib.hid (V2.out.on' b3); clear tk2 b3 hg3)
        | (have _t := tk3; refine wpList_store_file rfl (.tmp 7) (.tmp 17) rfl V3.out rfl F rfl ?_; intro w5 V5 O5; have B5 := Lib.hid (below_at B3.out O5.out (Nat.le_trans B2.out.size G3.out)); have V6 := Lib.hid (V4.out.oth O5.out (by have := G3.out; have := V2.out.lt; omega)); clear tk3))
      have T5 := Lib.hid (h'.out.below B5.out)
      have cm := T5.out.maps
      have cn := V5.out.cell (k := 0) rfl
      rw [hn'.out] at cn
      have ck := (T5.out.node i x hx'.out).kind
      have cg := fun n => hget.out _ (T5.out.drewN n)
      clear cf
      go_quiet (fail)
      clear cm cn cg
      have cn := V5.out.cell (k := 0) rfl
      have cn1 := V5.out.cell (k := 1) rfl
      have cn2 := V5.out.cell (k := 2) rfl
      go_wp2_with (have _t := tk4; refine wpList_store_file rfl (.tmp 4) (.tmp 36) rfl V6.out.drew rfl F rfl ?_; intro w7 V7 O7; have B7 := Lib.hid (below_at (B5.out.trans (below_dN w5 _)) O7.out G1.out); clear tk4)
      refine bodyPost_ret (file_ret3 rfl rfl V7.out) rfl ⟨rfl, B7.out⟩
  · simp only [if_neg ht] at hcl
    rw [if_neg ht] at hul
    rw [hul]
    clear h hul ht
    go_enter Tryz.func135, Tryz.ntmps135
    go_wp2_with (first
      | (have _t := tk; refine wpList_alloc_file rfl rfl ?_; intro g1 w1 V1 hg1 b1; have B1 := Lib.hid b1; have G1 := Lib.hid hg1; have T1 := Lib.hid (h'.out.below b1); have cf := T1.out.files; clear tk b1 hg1)
      | (go_at_call 96; refine (hcl.out _ T1.out).mono ?_; rintro e w2 ⟨rfl, hb2⟩; have B2 := Lib.hid (B1.out.trans (hb2.mono B1.out.size)); have V2 := Lib.hid (V1.out.on' hb2); clear hb2)
      | (have _t := tk2; refine wpList_alloc_file rfl rfl ?_; intro g3 w3 V3 hg3 b3; have G3 := Lib.hid hg3; have B3 := Lib.hid (B2.out.trans (b3.mono B2.out.size)); have V4 := Lib.hid (V2.out.on' b3); clear tk2 b3 hg3)
      | (have _t := tk3; refine wpList_store_file rfl (.tmp 7) (.tmp 17) rfl V3.out rfl p0 rfl ?_; intro w5 V5 O5; have B5 := Lib.hid (below_at B3.out O5.out (Nat.le_trans B2.out.size G3.out)); have V6 := Lib.hid (V4.out.oth O5.out (by have := G3.out; have := V2.out.lt; omega)); clear tk3)
      | (have _t := tk4; refine wpList_store_file rfl (.tmp 4) (.tmp 21) rfl V6.out rfl p0 rfl ?_; intro w7 V7 O7; have B7 := Lib.hid (below_at B5.out O7.out G1.out); clear tk4))
    refine bodyPost_ret (file_ret3 rfl rfl V7.out) rfl ⟨rfl, B7.out⟩
end
end Go.Proofs.YtgcodlicbdaddaaGreatDoor
end

section
set_option linter.unusedVariables false
set_option linter.unusedSimpArgs false
namespace Go.Proofs.YtgcodlicbdaddaaGreatDoor
open Go.RowKit BigFrame
set_option maxRecDepth 100000

theorem flags_all : ∀ n : Fin 64, ∀ j : Fin 6, bits .and .i64 ((n.val : Nat) : Int) ((2 ^ j.val : Nat) : Int) = if bitF ((n.val : Nat) : Int) (2 ^ j.val) = true then ((2 ^ j.val : Nat) : Int) else 0 := by decide +kernel
/-- is a flag among them? -/
theorem flag_is {f : Int} (h0 : 0 ≤ f) (h1 : f ≤ 63) (j : Nat) (hj : j < 6) : bits .and .i64 f ((2 ^ j : Nat) : Int) = if bitF f (2 ^ j) = true then ((2 ^ j : Nat) : Int) else 0 := by
  have := flags_all ⟨f.toNat, by omega⟩ ⟨j, hj⟩
  simp only [Int.toNat_of_nonneg h0] at this
  exact this
section
variable {w : World} {B b : Nat} {A : Ad} {s : Tr}
theorem toWrite_any (h : TreeAt w B A s) (ho : Ok b s) (hb : b ≤ 900000) (fd : Int) :
    Calls Tryz.prog 138 #[.pointer (some ⟨A.t, 0, none⟩), .int .i64 fd] w (HasPost A s fd (s.toWrite fd) w) := by
  have h' := Lib.hid h
  have hcl := Lib.hid (fun w' (hw' : TreeAt w' B A s) => get_u A.f fd s.tb w' hw'.tab)
  have hul : s.toWrite fd = if thereB s.tb fd = true ∧ bitF (s.plc fd).fl 32 = true then 0 else 10 := rfl
  unfold gP gC at hcl
  have hbd := run_bd0G
  have tk : True := trivial
  have tk2 : True := trivial
  have tk3 : True := trivial
  have tk4 : True := trivial
  unfold HasPost
  by_cases ht : thereB s.tb fd = true
  · obtain ⟨i, x, hn, hx, _, hf1, hf2, _⟩ := ho.tab ht
    have hni : s.nof fd = i := by unfold Tr.nof Tr.plc; rw [hn]; rfl
    have hpl : s.plc fd = pl s.tb fd.toNat := rfl
    simp only [if_pos ht] at hcl
    rw [hpl] at hul
    rw [hul, hpl, hni]
    obtain ⟨F, hF⟩ : ∃ F, pl s.tb fd.toNat = F := ⟨_, rfl⟩
    rw [hF] at hcl hn hf1 hf2 ⊢
    have hx' := Lib.hid hx
    have hn' := Lib.hid hn
    have hget := Lib.hid (fun w' (hw' : TreeAt w' B A s) => hw'.get_some ho (by omega) hx)
    clear h hul hx hn hpl hni
    have hfl : bits .and .i64 F.fl 32 = if bitF F.fl 32 = true then 32 else 0 := flag_is hf1 hf2 5 (by omega)
    by_cases hk : bitF F.fl 32 = true
    · rw [if_pos (⟨ht, hk⟩ : thereB s.tb fd = true ∧ bitF F.fl 32 = true)]
      rw [if_pos hk] at hfl
      clear ht hF hk
      go_enter Tryz.func138, Tryz.ntmps138
      go_wp2_with (first
        | (have _t := tk; refine wpList_alloc_file rfl rfl ?_; intro g1 w1 V1 hg1 b1; have B1 := Lib.hid b1; have G1 := Lib.hid hg1; have T1 := Lib.hid (h'.out.below b1); have cf := T1.out.files; clear tk b1 hg1)
        | (go_at_call 96; refine (hcl.out _ T1.out).mono ?_; rintro e w2 ⟨rfl, hb2⟩; have B2 := Lib.hid (B1.out.trans (hb2.mono B1.out.size)); have V2 := Lib.hid (V1.out.on' hb2); clear hb2)
        | (have _t := tk2; refine wpList_alloc_file rfl rfl ?_; intro g3 w3 V3 hg3 b3; have G3 := Lib.hid hg3; have B3 := Lib.hid (B2.out.trans (b3.mono B2.out.size)); have V4 := Lib.hid (V2.out.on' b3); clear tk2 b3 hg3)
        | (have _t := tk3; refine wpList_store_file rfl (.tmp 7) (.tmp 16) rfl V3.out rfl F rfl ?_; intro w5 V5 O5; have B5 := Lib.hid (below_at B3.out O5.out (Nat.le_trans B2.out.size G3.out)); have V6 := Lib.hid (V4.out.oth O5.out (by have := G3.out; have := V2.out.lt; omega)); have cf2 := V5.out.cell (k := 2) rfl; clear tk3))
      have T5 := Lib.hid (h'.out.below B5.out)
      have cm := T5.out.maps
      have cn := V5.out.cell (k := 0) rfl
      rw [hn'.out] at cn
      have cn1 := V5.out.cell (k := 1) rfl
      have cg := hget.out _ T5.out.drew
      have d0 := V6.out.cell (k := 0) rfl
      have d1 := V6.out.cell (k := 1) rfl
      have d2 := V6.out.cell (k := 2) rfl
      have e0 := V6.out.frozen 0
      have e1 := V6.out.frozen 1
      have e2 := V6.out.frozen 2
      have n1 : ¬ g3 = g1 := by have := G3.out; have := V2.out.lt; omega
      have n1' : ¬ g1 = g3 := fun e => n1 e.symm
      have n2 : ¬ A.t = g1 := by have := (h'.out.hi _ _ h'.out.rt).2; have := G1.out; omega
      have n2' : ¬ g1 = A.t := fun e => n2 e.symm
      obtain ⟨w6, hw6⟩ : ∃ w6, ((w5.setCell ⟨g1, 0, none⟩ (.int .i64 ((i : Nat) : Int))).setCell ⟨g1, 1, none⟩ (.int .i64 F.off)).setCell ⟨g1, 2, none⟩ (.int .i64 F.fl) = w6 := ⟨_, rfl⟩
      have V7 := Lib.hid (show Vw w6 113 g1 (gc F) by rw [← hw6]; have := ((V6.out.set 0 (.int .i64 ((i : Nat) : Int))).set 1 (.int .i64 F.off)).set 2 (.int .i64 F.fl); unfold gc; rw [hn'.out]; exact this)
      have O7 := Lib.hid (show Oth g1 w5 w6 by rw [← hw6]; exact (((Oth.refl g1 w5).setCell _).setCell _).setCell _)
      have B7 := Lib.hid (below_at B5.out O7.out G1.out)
      have cg7 := hget.out _ (h'.out.below B7.out).drew
      have cm7 := (h'.out.below B7.out).maps
      have cn7 := (V5.out.oth O7.out n1).cell (k := 0) rfl
      rw [hn'.out] at cn7
      clear cf
      go_region
      go_wp2_with fail
      refine bodyPost_ret (file_ret3 rfl rfl V7.out.drew1) rfl ⟨rfl, B7.out.drew⟩
    · rw [if_neg (fun h => hk h.2 : ¬ (thereB s.tb fd = true ∧ bitF F.fl 32 = true))]
      rw [if_neg hk] at hfl
      clear ht hF hk
      go_enter Tryz.func138, Tryz.ntmps138
      go_wp2_with (first
        | (have _t := tk; refine wpList_alloc_file rfl rfl ?_; intro g1 w1 V1 hg1 b1; have B1 := Lib.hid b1; have G1 := Lib.hid hg1; have T1 := Lib.hid (h'.out.below b1); have cf := T1.out.files; clear tk b1 hg1)
        | (go_at_call 96; refine (hcl.out _ T1.out).mono ?_; rintro e w2 ⟨rfl, hb2⟩; have B2 := Lib.hid (B1.out.trans (hb2.mono B1.out.size)); have V2 := Lib.hid (V1.out.on' hb2); clear hb2)
        | (have _t := tk2; refine wpList_alloc_file rfl rfl ?_; intro g3 w3 V3 hg3 b3; have G3 := Lib.hid hg3; have B3 := Lib.hid (B2.out.trans (b3.mono B2.out.size)); have V4 := Lib.hid (V2.out.on' b3); clear tk2 b3 hg3)
        | (have _t := tk3; refine wpList_store_file rfl (.tmp 7) (.tmp 16) rfl V3.out rfl F rfl ?_; intro w5 V5 O5; have B5 := Lib.hid (below_at B3.out O5.out (Nat.le_trans B2.out.size G3.out)); have V6 := Lib.hid (V4.out.oth O5.out (by have := G3.out; have := V2.out.lt; omega)); have cf2 := V5.out.cell (k := 2) rfl; clear tk3)
        | (have _t := tk4; refine wpList_store_file rfl (.tmp 4) (.tmp 28) rfl V6.out rfl p0 rfl ?_; intro w7 V7 O7; have B7 := Lib.hid (below_at B5.out O7.out G1.out); clear tk4))
      refine bodyPost_ret (file_ret3 rfl rfl V7.out) rfl ⟨rfl, B7.out⟩
  · simp only [if_neg ht] at hcl
    rw [if_neg (fun h => ht h.1)] at hul
    rw [hul]
    clear h hul ht
    go_enter Tryz.func138, Tryz.ntmps138
    go_wp2_with (first
      | (have _t := tk; refine wpList_alloc_file rfl rfl ?_; intro g1 w1 V1 hg1 b1; have B1 := Lib.hid b1; have G1 := Lib.hid hg1; have T1 := Lib.hid (h'.out.below b1); have cf := T1.out.files; clear tk b1 hg1)
      | (go_at_call 96; refine (hcl.out _ T1.out).mono ?_; rintro e w2 ⟨rfl, hb2⟩; have B2 := Lib.hid (B1.out.trans (hb2.mono B1.out.size)); have V2 := Lib.hid (V1.out.on' hb2); clear hb2)
      | (have _t := tk2; refine wpList_alloc_file rfl rfl ?_; intro g3 w3 V3 hg3 b3; have G3 := Lib.hid hg3; have B3 := Lib.hid (B2.out.trans (b3.mono B2.out.size)); have V4 := Lib.hid (V2.out.on' b3); clear tk2 b3 hg3)
      | (have _t := tk3; refine wpList_store_file rfl (.tmp 7) (.tmp 16) rfl V3.out rfl p0 rfl ?_; intro w5 V5 O5; have B5 := Lib.hid (below_at B3.out O5.out (Nat.le_trans B2.out.size G3.out)); have V6 := Lib.hid (V4.out.oth O5.out (by have := G3.out; have := V2.out.lt; omega)); clear tk3)
      | (have _t := tk4; refine wpList_store_file rfl (.tmp 4) (.tmp 21) rfl V6.out rfl p0 rfl ?_; intro w7 V7 O7; have B7 := Lib.hid (below_at B5.out O7.out G1.out); clear tk4))
    refine bodyPost_ret (file_ret3 rfl rfl V7.out) rfl ⟨rfl, B7.out⟩
end
end Go.Proofs.YtgcodlicbdaddaaGreatDoor
end

section
set_option linter.unusedVariables false
set_option linter.unusedSimpArgs false
namespace Go.Proofs.YtgcodlicbdaddaaGreatDoor
open Go.RowKit BigFrame
set_option maxRecDepth 100000

/-- where a tree lies, a node's bytes elsewhere -/
def Ad.row (A : Ad) (i : Nat) (v : Value) : Ad :=
  { A with da := fun j => if j = i then v else A.da j, own := fun k => if v.ownBlock = some k then some (3 * i + 4) else A.own k }
section
variable {w w' : World} {B : Nat} {A : Ad} {s : Tr} {i : Nat} {x x' : Nd} {v : Value}
theorem row_own (h : TreeAt w B A s) (hi : s.opt i = some x) (hS : NStep w w' (A.nd i) (A.da i) v) {k r : Nat} (hk : A.own k = some r) : (A.row i v).own k = some r := by
  unfold Ad.row
  simp only
  by_cases e : v.ownBlock = some k
  · rw [if_pos e]
    rcases hS.row k e with h1 | h1
    · rw [← h.rd i x hi k h1]; exact hk
    · have := (h.hi k r hk).2; omega
  · rw [if_neg e]; exact hk
theorem TreeAt.node_data (h : TreeAt w B A s) (hi : s.opt i = some x) (hS : NStep w w' (A.nd i) (A.da i) v) (hN : NodeAt w' B (A.nd i) i x' v (A.en i)) : TreeAt w' B (A.row i v) (s.put i x') ∧ TStep w A w' (A.row i v) := by
  have hoth : ∀ k r, A.own k = some r → r ≠ 3 * i + 3 → r ≠ 3 * i + 4 → w'.heap[k]? = w.heap[k]? := fun k r hk h3 h4 => hS.block k (h.hi k r hk).2
    (fun e => by have h1 := h.rn i x hi; rw [e, h1] at hk; exact h3 (Option.some.inj hk).symm)
    (fun e => by have h1 := h.rd i x hi k e; rw [h1] at hk; exact h4 (Option.some.inj hk).symm)
  have hown := fun {k r : Nat} (hk : A.own k = some r) => row_own h hi hS hk
  refine ⟨⟨?_, ⟨?_, h.tab.len⟩, ?_, fun j y hy => ?_, hown h.rt, hown h.rm, hown h.rf, fun j y hy => ?_, fun j y hy c hc => ?_, fun j y hy c hc => ?_, fun k r hk => ?_⟩, ⟨hS.os, hS.tape, hS.output, hS.size, fun k hk hn => ?_, fun k hk => ?_, rfl⟩⟩
  · have h1 := h.tb
    unfold Vw treeC at h1 ⊢
    show w'.heap[A.t]? = _
    rw [hoth _ _ h.rt (by omega) (by omega), Tr.put_len]
    exact h1
  · have h1 := h.tab.row
    unfold Vw at h1 ⊢
    show w'.heap[A.f]? = _
    rw [hoth _ _ h.rf (by omega) (by omega)]
    exact h1
  · have e0 : nodesL (A.row i v) (s.put i x').opt (s.put i x').nd.length = nodesL A s.opt s.nd.length := by
      rw [Tr.put_len]
      show nodesL A (s.put i x').opt s.nd.length = _
      exact nodesL_congr fun j => by
        rw [Tr.opt_put hi]
        by_cases e : j = i
        · rw [if_pos e, e, hi]; rfl
        · rw [if_neg e]
    rw [e0]
    exact h.map.blk (hoth _ _ h.rm (by omega) (by omega))
  · rw [Tr.opt_put hi] at hy
    by_cases e : j = i
    · rw [if_pos e] at hy
      obtain rfl := Option.some.inj hy
      subst e
      unfold Ad.row
      simp only [if_pos]
      exact hN
    · rw [if_neg e] at hy
      unfold Ad.row
      simp only [if_neg e]
      exact (h.node j y hy).blk (hoth _ _ (h.rn j y hy) (by omega) (by omega)) (fun g eg => hoth _ _ (h.rd j y hy g eg) (by omega) (by omega)) (fun b eb => hoth _ _ (h.re j y hy b eb) (by omega) (by omega))
  · rw [Tr.opt_put hi] at hy
    by_cases e : j = i
    · rw [e]; exact hown (h.rn i x hi)
    · rw [if_neg e] at hy; exact hown (h.rn j y hy)
  · rw [Tr.opt_put hi] at hy
    by_cases e : j = i
    · subst e
      unfold Ad.row at hc ⊢
      simp only [if_pos] at hc ⊢
      rw [if_pos hc]
    · rw [if_neg e] at hy
      unfold Ad.row at hc
      simp only [if_neg e] at hc
      exact hown (h.rd j y hy c hc)
  · rw [Tr.opt_put hi] at hy
    by_cases e : j = i
    · subst e; exact hown (h.re j x hi c hc)
    · rw [if_neg e] at hy; exact hown (h.re j y hy c hc)
  · unfold Ad.row at hk
    simp only at hk
    by_cases e : v.ownBlock = some k
    · exact hN.data.hi e
    · rw [if_neg e] at hk
      exact ⟨(h.hi k r hk).1, Nat.lt_of_lt_of_le (h.hi k r hk).2 hS.size⟩
  · exact hS.block k hk (fun e => by rw [e, h.rn i x hi] at hn; cases hn) (fun e => by rw [h.rd i x hi k e] at hn; cases hn)
  · unfold Ad.row
    simp only
    by_cases e : v.ownBlock = some k
    · rw [if_pos e]
      rcases hS.row k e with h1 | h1
      · exact (h.rd i x hi k h1).symm
      · omega
    · rw [if_neg e]
def DataPost (B : Nat) (A : Ad) (s : Tr) (i : Nat) (x' : Nd) (r : Value) (w : World) (e : Ending) (w' : World) : Prop := e = .returned r ∧ ∃ v, TreeAt w' B (A.row i v) (s.put i x') ∧ TStep w A w' (A.row i v)
theorem resize_tree (h : TreeAt w B A s) (hi : s.opt i = some x) (hk3 : x.kind ≠ 3) (n : Nat) (hm : n ≤ 20736) (hB : B ≤ w.heap.size) :
    Calls Tryz.prog 131 #[.pointer (some ⟨A.nd i, 0, none⟩), .int .i64 ((n : Nat) : Int)] w (DataPost B A s i (x.resize n) (.tuple #[]) w) :=
  (resize_any n w (h.node i x hi) hk3 hm hB (h.apart_v hi) (fun b e => h.apart_e hi e)).mono fun _ _ ⟨he, v, hN, hS⟩ => ⟨he, v, (h.node_data hi hS hN).1, (h.node_data hi hS hN).2⟩
end
end Go.Proofs.YtgcodlicbdaddaaGreatDoor
end
