/-
  One operation done: readdir and the rest; any.
  One operation done, whatever its kind.
-/
import Derived.Test.YtgcodlicbdaddaaGreatDoorB38
import Derived.Deep.RegionWith
import Derived.Deep.RegionHeld3
import Derived.Test.YtgcodlicbdaddaaGreatDoorB39
import Derived.Test.YtgcodlicbdaddaaGreatDoorB40

section
set_option linter.unusedVariables false
set_option linter.unusedSimpArgs false
namespace Go.Proofs.YtgcodlicbdaddaaGreatDoor
open Go.RowKit BigFrame
set_option maxRecDepth 100000

section
variable {w : World} {B b : Nat} {A : Ad} {s : Tr}
set_option maxHeartbeats 2000000 in
theorem do_readdir (h : TreeAt w B A s) (ho : Ok b s) (hB : B ≤ w.heap.size) (hb : b ≤ 900000) (fd n off f : Int) (p t : ByteArray) (sp : Option Addr) (cap : Nat) (l : List Nat) (hl : l.length ≤ 1000000) (hin : InB w A sp l) :
    Calls Tryz.prog 45 #[.pointer (some ⟨A.t, 0, none⟩), .agg #[.int .i64 18, .int .i64 fd, .int .i64 n, .int .i64 off, .int .i64 f, .string p, .string t, .slice sp l.length cap]] w (TellPost B A (s.do ⟨18, fd, n, off, f, nb p, nb t, l⟩).2 (s.do ⟨18, fd, n, off, f, nb p, nb t, l⟩).1 w) := by
  have hul' := Lib.hid (show s.do ⟨18, fd, n, off, f, nb p, nb t, l⟩ = (s.readDir (nb p), s) from rfl)
  obtain ⟨D0, B0⟩ := do_new h 18 fd n off f p t (.slice sp l.length cap)
  obtain ⟨w0, hw0⟩ : ∃ w0, ((w.alloc (.cells #[.int .i64 18, .int .i64 fd, .int .i64 n, .int .i64 off, .int .i64 f, .string p, .string t, .slice sp l.length cap] 33)).alloc (.cells #[.int .i64 0, .int .i64 0, .int .i64 0, .int .i64 0, .slice none 0 0, .slice none 0 0] 38)) = w0 := ⟨_, rfl⟩
  rw [hw0] at D0 B0
  have Q0 := Lib.hid D0
  have B0' := Lib.hid B0
  have hB0 : B ≤ w0.heap.size := Nat.le_trans hB B0.size
  have hg0 := Lib.hid (show w.heap.size + 1 < w0.heap.size from Q0.out.an.at_.lt)
  have hin0 := Lib.hid (hin.below B0)
  have m0 := Q0.out.op.at_.cell (k := 0) rfl
  have m1 := Q0.out.op.at_.cell (k := 1) rfl
  have m2 := Q0.out.op.at_.cell (k := 2) rfl
  have m3 := Q0.out.op.at_.cell (k := 3) rfl
  have m4 := Q0.out.op.at_.cell (k := 4) rfl
  have m5 := Q0.out.op.at_.cell (k := 5) rfl
  have m6 := Q0.out.op.at_.cell (k := 6) rfl
  have m7 := Q0.out.op.at_.cell (k := 7) rfl
  have tk : True := trivial
  clear h D0 B0 hin
  go_enter Tryz.func45, Tryz.ntmps45
  go_wp2_with (first
    | (go_at_call 95; refine (readDir_any Q0.out.tree ho hb p).mono ?_; rintro e w1 ⟨v, A1, rfl, hT, hS, hA, c, n1, k1, e1, p1, l1, c1, p2, l2, c2, rfl⟩; have T1 := Lib.hid hT; have S1 := Lib.hid hS; have R1 := Lib.hid hA; have V1 := Lib.hid (Q0.out.an.turn hS); clear hT hS hA)
    | (have _t := tk; refine wpList_store_ans rfl (.tmp 4) (.tmp 182) rfl V1.out.at_ rfl rfl c n1 k1 e1 p1 p2 l1 c1 l2 c2 rfl ?_; intro w7 V7 O7; clear tk))
  refine bodyPost_ret (cell_ret2 rfl rfl V7.out Tryz.underlying38 (by rw [Tryz.sizeA]; rfl)) rfl ?_
  rw [hul'.out]
  exact tell_on T1.out Q0.out.step S1.out R1.out ⟨_, _, _, _, _, _, _, _, _, _, rfl⟩ O7.out V1.out.own (Nat.le_succ _) hg0.out rfl
set_option maxHeartbeats 2000000 in
theorem do_fsync (h : TreeAt w B A s) (ho : Ok b s) (hB : B ≤ w.heap.size) (hb : b ≤ 900000) (fd n off f : Int) (p t : ByteArray) (sp : Option Addr) (cap : Nat) (l : List Nat) (hl : l.length ≤ 1000000) (hin : InB w A sp l) :
    Calls Tryz.prog 45 #[.pointer (some ⟨A.t, 0, none⟩), .agg #[.int .i64 19, .int .i64 fd, .int .i64 n, .int .i64 off, .int .i64 f, .string p, .string t, .slice sp l.length cap]] w (TellPost B A (s.do ⟨19, fd, n, off, f, nb p, nb t, l⟩).2 (s.do ⟨19, fd, n, off, f, nb p, nb t, l⟩).1 w) := by
  have hul' := Lib.hid (show s.do ⟨19, fd, n, off, f, nb p, nb t, l⟩ = (if thereB s.tb fd = true then ans0 else ansC 10, s) from rfl)
  obtain ⟨D0, B0⟩ := do_new h 19 fd n off f p t (.slice sp l.length cap)
  obtain ⟨w0, hw0⟩ : ∃ w0, ((w.alloc (.cells #[.int .i64 19, .int .i64 fd, .int .i64 n, .int .i64 off, .int .i64 f, .string p, .string t, .slice sp l.length cap] 33)).alloc (.cells #[.int .i64 0, .int .i64 0, .int .i64 0, .int .i64 0, .slice none 0 0, .slice none 0 0] 38)) = w0 := ⟨_, rfl⟩
  rw [hw0] at D0 B0
  have Q0 := Lib.hid D0
  have B0' := Lib.hid B0
  have hB0 : B ≤ w0.heap.size := Nat.le_trans hB B0.size
  have hg0 := Lib.hid (show w.heap.size + 1 < w0.heap.size from Q0.out.an.at_.lt)
  have hin0 := Lib.hid (hin.below B0)
  have m0 := Q0.out.op.at_.cell (k := 0) rfl
  have m1 := Q0.out.op.at_.cell (k := 1) rfl
  have m2 := Q0.out.op.at_.cell (k := 2) rfl
  have m3 := Q0.out.op.at_.cell (k := 3) rfl
  have m4 := Q0.out.op.at_.cell (k := 4) rfl
  have m5 := Q0.out.op.at_.cell (k := 5) rfl
  have m6 := Q0.out.op.at_.cell (k := 6) rfl
  have m7 := Q0.out.op.at_.cell (k := 7) rfl
  have tk : True := trivial
  clear h D0 B0 hin
  have hget := Lib.hid (fun w' (hw' : TabAt w' A.f s.tb) => get_u A.f fd s.tb w' hw')
  have cf := Q0.out.tree.files
  have hcc := Lib.hid (show (if thereB s.tb fd = true then ans0 else ansC 10) = ansC (gC s.tb fd) by unfold gC; cases thereB s.tb fd <;> rfl)
  obtain ⟨⟨on, nd, of, fl⟩, hF⟩ : ∃ F, gP s.tb fd = F := ⟨_, rfl⟩
  obtain ⟨c, hc⟩ : ∃ c, gC s.tb fd = c := ⟨_, rfl⟩
  rw [hF, hc] at hget
  rw [hc] at hcc
  unfold gv gc at hget
  dsimp only at hget
  clear hF hc
  go_enter Tryz.func45, Tryz.ntmps45
  go_upto_region 39 with fail
  have hmk := Lib.hid (show ∀ w', Below w0.heap.size w0 w' → w'.cell? ⟨A.t, 2, none⟩ = some (.pointer (some ⟨A.f, 0, none⟩)) ∧ w'.cell? ⟨w.heap.size, 1, none⟩ = some (.int .i64 fd) ∧ Below w0.heap.size w0 w' from fun w' hb' => ⟨cell_later hb' cf, cell_later hb' m1, hb'⟩)
  have X0 := Lib.hid ((Below.refl w0.heap.size w0).drew)
  have X1 := Lib.hid (X0.out.alloc (Nat.le_refl _) (.cells #[.int .i64 0, .int .i64 0, .int .i64 0] 113))
  go_region_held3 (fun w' => w'.cell? ⟨A.t, 2, none⟩ = some (.pointer (some ⟨A.f, 0, none⟩)) ∧ w'.cell? ⟨w.heap.size, 1, none⟩ = some (.int .i64 fd) ∧ Below w0.heap.size w0 w') (first | exact hmk.out _ X0.out | exact hmk.out _ X1.out | exact hmk.out _ X2.out | exact hmk.out _ X3.out | exact hmk.out _ X4.out) (first
    | (go_at_call 96; refine (hget.out _ (Q0.out.tree.below X0.out).tab).mono ?_; rintro e w2 ⟨rfl, hb2⟩; have X2 := Lib.hid (X0.out.trans (hb2.mono X0.out.size)); have X3 := Lib.hid (X2.out.alloc X2.out.size (.cells #[.int .i64 0, .int .i64 0, .int .i64 0] 113)); have X4 := Lib.hid (X2.out.alloc X2.out.size (.cells #[.int .i64 nd, .int .i64 of, .int .i64 fl] 113)); clear hb2)
    | (go_at_call 96; refine (hget.out _ (Q0.out.tree.below X1.out).tab).mono ?_; rintro e w2 ⟨rfl, hb2⟩; have X2 := Lib.hid (X1.out.trans (hb2.mono X1.out.size)); have V2 := Lib.hid (show Vw w2 113 w0.heap.size [.int .i64 0, .int .i64 0, .int .i64 0] from (Vw.alloc w0.drew [.int .i64 0, .int .i64 0, .int .i64 0] 113).on' hb2); have k0 := V2.out.cell (k := 0) rfl; have k1 := V2.out.cell (k := 1) rfl; have k2 := V2.out.cell (k := 2) rfl; have j0 := V2.out.frozen 0; have j1 := V2.out.frozen 1; have j2 := V2.out.frozen 2; have X3 := Lib.hid (below_set3 (g := w0.heap.size) (x := .int .i64 nd) (y := .int .i64 of) (z := .int .i64 fl) X2.out (Nat.le_refl _)); clear hb2))
  clear hmk
  all_goals first
    | (have T1 := Lib.hid (Q0.out.tree.below X4.out); have S1 := Lib.hid (Q0.out.step.trans (TStep.of_below _ X4.out)); have V1 := Lib.hid (Q0.out.an.turn (TStep.of_below _ X4.out)); have tk : True := trivial; go_wp2_with (first | (go_at_call 79; refine (only_any _ _).mono ?_; rintro e w8 ⟨rfl, hb8⟩; have V8 := Lib.hid (V1.out.turn (TStep.of_below _ hb8)); have T8 := Lib.hid (T1.out.below hb8); have S8 := Lib.hid (S1.out.trans (TStep.of_below _ hb8)); clear hb8) | (have _t := tk; refine wpList_store_ans rfl (.tmp 4) (.tmp 199) rfl V8.out.at_ rfl rfl 0 0 0 0 none none 0 0 0 0 rfl ?_; intro w7 V7 O7; clear tk)); refine bodyPost_ret (cell_ret2 rfl rfl V7.out Tryz.underlying38 (by rw [Tryz.sizeA]; rfl)) rfl ?_; rw [hul'.out, hcc.out]; exact tell_only T8.out S8.out O7.out V8.out.own (Nat.le_succ _) rfl rfl)
    | (have T1 := Lib.hid (Q0.out.tree.below X3.out); have S1 := Lib.hid (Q0.out.step.trans (TStep.of_below _ X3.out)); have V1 := Lib.hid (Q0.out.an.turn (TStep.of_below _ X3.out)); have tk : True := trivial; go_wp2_with (first | (go_at_call 79; refine (only_any _ _).mono ?_; rintro e w8 ⟨rfl, hb8⟩; have V8 := Lib.hid (V1.out.turn (TStep.of_below _ hb8)); have T8 := Lib.hid (T1.out.below hb8); have S8 := Lib.hid (S1.out.trans (TStep.of_below _ hb8)); clear hb8) | (have _t := tk; refine wpList_store_ans rfl (.tmp 4) (.tmp 199) rfl V8.out.at_ rfl rfl 0 0 0 0 none none 0 0 0 0 rfl ?_; intro w7 V7 O7; clear tk)); refine bodyPost_ret (cell_ret2 rfl rfl V7.out Tryz.underlying38 (by rw [Tryz.sizeA]; rfl)) rfl ?_; rw [hul'.out, hcc.out]; exact tell_only T8.out S8.out O7.out V8.out.own (Nat.le_succ _) rfl rfl)
set_option maxHeartbeats 2000000 in
theorem do_fdatasync (h : TreeAt w B A s) (ho : Ok b s) (hB : B ≤ w.heap.size) (hb : b ≤ 900000) (fd n off f : Int) (p t : ByteArray) (sp : Option Addr) (cap : Nat) (l : List Nat) (hl : l.length ≤ 1000000) (hin : InB w A sp l) :
    Calls Tryz.prog 45 #[.pointer (some ⟨A.t, 0, none⟩), .agg #[.int .i64 20, .int .i64 fd, .int .i64 n, .int .i64 off, .int .i64 f, .string p, .string t, .slice sp l.length cap]] w (TellPost B A (s.do ⟨20, fd, n, off, f, nb p, nb t, l⟩).2 (s.do ⟨20, fd, n, off, f, nb p, nb t, l⟩).1 w) := by
  have hul' := Lib.hid (show s.do ⟨20, fd, n, off, f, nb p, nb t, l⟩ = (if thereB s.tb fd = true then ans0 else ansC 10, s) from rfl)
  obtain ⟨D0, B0⟩ := do_new h 20 fd n off f p t (.slice sp l.length cap)
  obtain ⟨w0, hw0⟩ : ∃ w0, ((w.alloc (.cells #[.int .i64 20, .int .i64 fd, .int .i64 n, .int .i64 off, .int .i64 f, .string p, .string t, .slice sp l.length cap] 33)).alloc (.cells #[.int .i64 0, .int .i64 0, .int .i64 0, .int .i64 0, .slice none 0 0, .slice none 0 0] 38)) = w0 := ⟨_, rfl⟩
  rw [hw0] at D0 B0
  have Q0 := Lib.hid D0
  have B0' := Lib.hid B0
  have hB0 : B ≤ w0.heap.size := Nat.le_trans hB B0.size
  have hg0 := Lib.hid (show w.heap.size + 1 < w0.heap.size from Q0.out.an.at_.lt)
  have hin0 := Lib.hid (hin.below B0)
  have m0 := Q0.out.op.at_.cell (k := 0) rfl
  have m1 := Q0.out.op.at_.cell (k := 1) rfl
  have m2 := Q0.out.op.at_.cell (k := 2) rfl
  have m3 := Q0.out.op.at_.cell (k := 3) rfl
  have m4 := Q0.out.op.at_.cell (k := 4) rfl
  have m5 := Q0.out.op.at_.cell (k := 5) rfl
  have m6 := Q0.out.op.at_.cell (k := 6) rfl
  have m7 := Q0.out.op.at_.cell (k := 7) rfl
  have tk : True := trivial
  clear h D0 B0 hin
  have hget := Lib.hid (fun w' (hw' : TabAt w' A.f s.tb) => get_u A.f fd s.tb w' hw')
  have cf := Q0.out.tree.files
  have hcc := Lib.hid (show (if thereB s.tb fd = true then ans0 else ansC 10) = ansC (gC s.tb fd) by unfold gC; cases thereB s.tb fd <;> rfl)
  obtain ⟨⟨on, nd, of, fl⟩, hF⟩ : ∃ F, gP s.tb fd = F := ⟨_, rfl⟩
  obtain ⟨c, hc⟩ : ∃ c, gC s.tb fd = c := ⟨_, rfl⟩
  rw [hF, hc] at hget
  rw [hc] at hcc
  unfold gv gc at hget
  dsimp only at hget
  clear hF hc
  go_enter Tryz.func45, Tryz.ntmps45
  go_upto_region 39 with fail
  have hmk := Lib.hid (show ∀ w', Below w0.heap.size w0 w' → w'.cell? ⟨A.t, 2, none⟩ = some (.pointer (some ⟨A.f, 0, none⟩)) ∧ w'.cell? ⟨w.heap.size, 1, none⟩ = some (.int .i64 fd) ∧ Below w0.heap.size w0 w' from fun w' hb' => ⟨cell_later hb' cf, cell_later hb' m1, hb'⟩)
  have X0 := Lib.hid ((Below.refl w0.heap.size w0).drew)
  have X1 := Lib.hid (X0.out.alloc (Nat.le_refl _) (.cells #[.int .i64 0, .int .i64 0, .int .i64 0] 113))
  go_region_held3 (fun w' => w'.cell? ⟨A.t, 2, none⟩ = some (.pointer (some ⟨A.f, 0, none⟩)) ∧ w'.cell? ⟨w.heap.size, 1, none⟩ = some (.int .i64 fd) ∧ Below w0.heap.size w0 w') (first | exact hmk.out _ X0.out | exact hmk.out _ X1.out | exact hmk.out _ X2.out | exact hmk.out _ X3.out | exact hmk.out _ X4.out) (first
    | (go_at_call 96; refine (hget.out _ (Q0.out.tree.below X0.out).tab).mono ?_; rintro e w2 ⟨rfl, hb2⟩; have X2 := Lib.hid (X0.out.trans (hb2.mono X0.out.size)); have X3 := Lib.hid (X2.out.alloc X2.out.size (.cells #[.int .i64 0, .int .i64 0, .int .i64 0] 113)); have X4 := Lib.hid (X2.out.alloc X2.out.size (.cells #[.int .i64 nd, .int .i64 of, .int .i64 fl] 113)); clear hb2)
    | (go_at_call 96; refine (hget.out _ (Q0.out.tree.below X1.out).tab).mono ?_; rintro e w2 ⟨rfl, hb2⟩; have X2 := Lib.hid (X1.out.trans (hb2.mono X1.out.size)); have V2 := Lib.hid (show Vw w2 113 w0.heap.size [.int .i64 0, .int .i64 0, .int .i64 0] from (Vw.alloc w0.drew [.int .i64 0, .int .i64 0, .int .i64 0] 113).on' hb2); have k0 := V2.out.cell (k := 0) rfl; have k1 := V2.out.cell (k := 1) rfl; have k2 := V2.out.cell (k := 2) rfl; have j0 := V2.out.frozen 0; have j1 := V2.out.frozen 1; have j2 := V2.out.frozen 2; have X3 := Lib.hid (below_set3 (g := w0.heap.size) (x := .int .i64 nd) (y := .int .i64 of) (z := .int .i64 fl) X2.out (Nat.le_refl _)); clear hb2))
  clear hmk
  all_goals first
    | (have T1 := Lib.hid (Q0.out.tree.below X4.out); have S1 := Lib.hid (Q0.out.step.trans (TStep.of_below _ X4.out)); have V1 := Lib.hid (Q0.out.an.turn (TStep.of_below _ X4.out)); have tk : True := trivial; go_wp2_with (first | (go_at_call 79; refine (only_any _ _).mono ?_; rintro e w8 ⟨rfl, hb8⟩; have V8 := Lib.hid (V1.out.turn (TStep.of_below _ hb8)); have T8 := Lib.hid (T1.out.below hb8); have S8 := Lib.hid (S1.out.trans (TStep.of_below _ hb8)); clear hb8) | (have _t := tk; refine wpList_store_ans rfl (.tmp 4) (.tmp 199) rfl V8.out.at_ rfl rfl 0 0 0 0 none none 0 0 0 0 rfl ?_; intro w7 V7 O7; clear tk)); refine bodyPost_ret (cell_ret2 rfl rfl V7.out Tryz.underlying38 (by rw [Tryz.sizeA]; rfl)) rfl ?_; rw [hul'.out, hcc.out]; exact tell_only T8.out S8.out O7.out V8.out.own (Nat.le_succ _) rfl rfl)
    | (have T1 := Lib.hid (Q0.out.tree.below X3.out); have S1 := Lib.hid (Q0.out.step.trans (TStep.of_below _ X3.out)); have V1 := Lib.hid (Q0.out.an.turn (TStep.of_below _ X3.out)); have tk : True := trivial; go_wp2_with (first | (go_at_call 79; refine (only_any _ _).mono ?_; rintro e w8 ⟨rfl, hb8⟩; have V8 := Lib.hid (V1.out.turn (TStep.of_below _ hb8)); have T8 := Lib.hid (T1.out.below hb8); have S8 := Lib.hid (S1.out.trans (TStep.of_below _ hb8)); clear hb8) | (have _t := tk; refine wpList_store_ans rfl (.tmp 4) (.tmp 199) rfl V8.out.at_ rfl rfl 0 0 0 0 none none 0 0 0 0 rfl ?_; intro w7 V7 O7; clear tk)); refine bodyPost_ret (cell_ret2 rfl rfl V7.out Tryz.underlying38 (by rw [Tryz.sizeA]; rfl)) rfl ?_; rw [hul'.out, hcc.out]; exact tell_only T8.out S8.out O7.out V8.out.own (Nat.le_succ _) rfl rfl)
set_option maxHeartbeats 2000000 in
theorem do_sync (h : TreeAt w B A s) (ho : Ok b s) (hB : B ≤ w.heap.size) (hb : b ≤ 900000) (fd n off f : Int) (p t : ByteArray) (sp : Option Addr) (cap : Nat) (l : List Nat) (hl : l.length ≤ 1000000) (hin : InB w A sp l) :
    Calls Tryz.prog 45 #[.pointer (some ⟨A.t, 0, none⟩), .agg #[.int .i64 21, .int .i64 fd, .int .i64 n, .int .i64 off, .int .i64 f, .string p, .string t, .slice sp l.length cap]] w (TellPost B A (s.do ⟨21, fd, n, off, f, nb p, nb t, l⟩).2 (s.do ⟨21, fd, n, off, f, nb p, nb t, l⟩).1 w) := by
  have hul' := Lib.hid (show s.do ⟨21, fd, n, off, f, nb p, nb t, l⟩ = (ans0, s) from rfl)
  obtain ⟨D0, B0⟩ := do_new h 21 fd n off f p t (.slice sp l.length cap)
  obtain ⟨w0, hw0⟩ : ∃ w0, ((w.alloc (.cells #[.int .i64 21, .int .i64 fd, .int .i64 n, .int .i64 off, .int .i64 f, .string p, .string t, .slice sp l.length cap] 33)).alloc (.cells #[.int .i64 0, .int .i64 0, .int .i64 0, .int .i64 0, .slice none 0 0, .slice none 0 0] 38)) = w0 := ⟨_, rfl⟩
  rw [hw0] at D0 B0
  have Q0 := Lib.hid D0
  have B0' := Lib.hid B0
  have hB0 : B ≤ w0.heap.size := Nat.le_trans hB B0.size
  have hg0 := Lib.hid (show w.heap.size + 1 < w0.heap.size from Q0.out.an.at_.lt)
  have hin0 := Lib.hid (hin.below B0)
  have m0 := Q0.out.op.at_.cell (k := 0) rfl
  have m1 := Q0.out.op.at_.cell (k := 1) rfl
  have m2 := Q0.out.op.at_.cell (k := 2) rfl
  have m3 := Q0.out.op.at_.cell (k := 3) rfl
  have m4 := Q0.out.op.at_.cell (k := 4) rfl
  have m5 := Q0.out.op.at_.cell (k := 5) rfl
  have m6 := Q0.out.op.at_.cell (k := 6) rfl
  have m7 := Q0.out.op.at_.cell (k := 7) rfl
  have tk : True := trivial
  clear h D0 B0 hin
  go_enter Tryz.func45, Tryz.ntmps45
  have T1 := Lib.hid Q0.out.tree
  have S1 := Lib.hid Q0.out.step
  have V1 := Lib.hid Q0.out.an
  go_wp2_with (first
    | (go_at_call 79; refine (only_any _ _).mono ?_; rintro e w8 ⟨rfl, hb8⟩; have V8 := Lib.hid (V1.out.turn (TStep.of_below _ hb8)); have T8 := Lib.hid (T1.out.below hb8); have S8 := Lib.hid (S1.out.trans (TStep.of_below _ hb8)); clear hb8)
    | (have _t := tk; refine wpList_store_ans rfl (.tmp 4) (.tmp 204) rfl V8.out.at_ rfl rfl 0 0 0 0 none none 0 0 0 0 rfl ?_; intro w7 V7 O7; clear tk))
  refine bodyPost_ret (cell_ret2 rfl rfl V7.out Tryz.underlying38 (by rw [Tryz.sizeA]; rfl)) rfl ?_
  rw [hul'.out]
  exact tell_only T8.out S8.out O7.out V8.out.own (Nat.le_succ _) rfl rfl
set_option maxHeartbeats 2000000 in
theorem do_tick (h : TreeAt w B A s) (ho : Ok b s) (hB : B ≤ w.heap.size) (hb : b ≤ 900000) (fd n off f : Int) (p t : ByteArray) (sp : Option Addr) (cap : Nat) (l : List Nat) (hl : l.length ≤ 1000000) (hin : InB w A sp l) :
    Calls Tryz.prog 45 #[.pointer (some ⟨A.t, 0, none⟩), .agg #[.int .i64 22, .int .i64 fd, .int .i64 n, .int .i64 off, .int .i64 f, .string p, .string t, .slice sp l.length cap]] w (TellPost B A (s.do ⟨22, fd, n, off, f, nb p, nb t, l⟩).2 (s.do ⟨22, fd, n, off, f, nb p, nb t, l⟩).1 w) := by
  have hul' := Lib.hid (show s.do ⟨22, fd, n, off, f, nb p, nb t, l⟩ = (if n < 0 then ansC 2 else ans0, s) from rfl)
  obtain ⟨D0, B0⟩ := do_new h 22 fd n off f p t (.slice sp l.length cap)
  obtain ⟨w0, hw0⟩ : ∃ w0, ((w.alloc (.cells #[.int .i64 22, .int .i64 fd, .int .i64 n, .int .i64 off, .int .i64 f, .string p, .string t, .slice sp l.length cap] 33)).alloc (.cells #[.int .i64 0, .int .i64 0, .int .i64 0, .int .i64 0, .slice none 0 0, .slice none 0 0] 38)) = w0 := ⟨_, rfl⟩
  rw [hw0] at D0 B0
  have Q0 := Lib.hid D0
  have B0' := Lib.hid B0
  have hB0 : B ≤ w0.heap.size := Nat.le_trans hB B0.size
  have hg0 := Lib.hid (show w.heap.size + 1 < w0.heap.size from Q0.out.an.at_.lt)
  have hin0 := Lib.hid (hin.below B0)
  have m0 := Q0.out.op.at_.cell (k := 0) rfl
  have m1 := Q0.out.op.at_.cell (k := 1) rfl
  have m2 := Q0.out.op.at_.cell (k := 2) rfl
  have m3 := Q0.out.op.at_.cell (k := 3) rfl
  have m4 := Q0.out.op.at_.cell (k := 4) rfl
  have m5 := Q0.out.op.at_.cell (k := 5) rfl
  have m6 := Q0.out.op.at_.cell (k := 6) rfl
  have m7 := Q0.out.op.at_.cell (k := 7) rfl
  have tk : True := trivial
  clear h D0 B0 hin
  go_enter Tryz.func45, Tryz.ntmps45
  have T1 := Lib.hid Q0.out.tree
  have S1 := Lib.hid Q0.out.step
  have V1 := Lib.hid Q0.out.an
  obtain ⟨c, hc⟩ : ∃ c : Int, (if n < 0 then (2 : Int) else 0) = c := ⟨_, rfl⟩
  have hcc := Lib.hid (show (if n < 0 then ansC 2 else ans0) = ansC c by rw [← hc]; by_cases hn : n < 0 <;> simp [hn] <;> rfl)
  have hnb := Lib.hid (show ∀ w', Calls Tryz.prog 97 #[.int .i64 n] w' fun e w2 => e = .returned (.int .i64 c) ∧ w' = w2 by rw [← hc]; exact fun w' => notBelow_any n w')
  clear hc
  go_wp2_with (first
    | (go_at_call 97; refine (hnb.out _).mono ?_; rintro e w1 ⟨rfl, rfl⟩)
    | (go_at_call 79; refine (only_any _ _).mono ?_; rintro e w8 ⟨rfl, hb8⟩; have V8 := Lib.hid (V1.out.turn (TStep.of_below _ hb8)); have T8 := Lib.hid (T1.out.below hb8); have S8 := Lib.hid (S1.out.trans (TStep.of_below _ hb8)); clear hb8)
    | (have _t := tk; refine wpList_store_ans rfl (.tmp 4) (.tmp 213) rfl V8.out.at_ rfl rfl 0 0 0 0 none none 0 0 0 0 rfl ?_; intro w7 V7 O7; clear tk))
  refine bodyPost_ret (cell_ret2 rfl rfl V7.out Tryz.underlying38 (by rw [Tryz.sizeA]; rfl)) rfl ?_
  rw [hul'.out, hcc.out]
  exact tell_only T8.out S8.out O7.out V8.out.own (Nat.le_succ _) rfl rfl
set_option maxHeartbeats 2000000 in
theorem do_drop (h : TreeAt w B A s) (ho : Ok b s) (hB : B ≤ w.heap.size) (hb : b ≤ 900000) (fd n off f : Int) (p t : ByteArray) (sp : Option Addr) (cap : Nat) (l : List Nat) (hl : l.length ≤ 1000000) (hin : InB w A sp l) :
    Calls Tryz.prog 45 #[.pointer (some ⟨A.t, 0, none⟩), .agg #[.int .i64 23, .int .i64 fd, .int .i64 n, .int .i64 off, .int .i64 f, .string p, .string t, .slice sp l.length cap]] w (TellPost B A (s.do ⟨23, fd, n, off, f, nb p, nb t, l⟩).2 (s.do ⟨23, fd, n, off, f, nb p, nb t, l⟩).1 w) := by
  have hul' := Lib.hid (show s.do ⟨23, fd, n, off, f, nb p, nb t, l⟩ = (if n < 0 then ansC 2 else ans0, s) from rfl)
  obtain ⟨D0, B0⟩ := do_new h 23 fd n off f p t (.slice sp l.length cap)
  obtain ⟨w0, hw0⟩ : ∃ w0, ((w.alloc (.cells #[.int .i64 23, .int .i64 fd, .int .i64 n, .int .i64 off, .int .i64 f, .string p, .string t, .slice sp l.length cap] 33)).alloc (.cells #[.int .i64 0, .int .i64 0, .int .i64 0, .int .i64 0, .slice none 0 0, .slice none 0 0] 38)) = w0 := ⟨_, rfl⟩
  rw [hw0] at D0 B0
  have Q0 := Lib.hid D0
  have B0' := Lib.hid B0
  have hB0 : B ≤ w0.heap.size := Nat.le_trans hB B0.size
  have hg0 := Lib.hid (show w.heap.size + 1 < w0.heap.size from Q0.out.an.at_.lt)
  have hin0 := Lib.hid (hin.below B0)
  have m0 := Q0.out.op.at_.cell (k := 0) rfl
  have m1 := Q0.out.op.at_.cell (k := 1) rfl
  have m2 := Q0.out.op.at_.cell (k := 2) rfl
  have m3 := Q0.out.op.at_.cell (k := 3) rfl
  have m4 := Q0.out.op.at_.cell (k := 4) rfl
  have m5 := Q0.out.op.at_.cell (k := 5) rfl
  have m6 := Q0.out.op.at_.cell (k := 6) rfl
  have m7 := Q0.out.op.at_.cell (k := 7) rfl
  have tk : True := trivial
  clear h D0 B0 hin
  go_enter Tryz.func45, Tryz.ntmps45
  have T1 := Lib.hid Q0.out.tree
  have S1 := Lib.hid Q0.out.step
  have V1 := Lib.hid Q0.out.an
  obtain ⟨c, hc⟩ : ∃ c : Int, (if n < 0 then (2 : Int) else 0) = c := ⟨_, rfl⟩
  have hcc := Lib.hid (show (if n < 0 then ansC 2 else ans0) = ansC c by rw [← hc]; by_cases hn : n < 0 <;> simp [hn] <;> rfl)
  have hnb := Lib.hid (show ∀ w', Calls Tryz.prog 97 #[.int .i64 n] w' fun e w2 => e = .returned (.int .i64 c) ∧ w' = w2 by rw [← hc]; exact fun w' => notBelow_any n w')
  clear hc
  go_wp2_with (first
    | (go_at_call 97; refine (hnb.out _).mono ?_; rintro e w1 ⟨rfl, rfl⟩)
    | (go_at_call 79; refine (only_any _ _).mono ?_; rintro e w8 ⟨rfl, hb8⟩; have V8 := Lib.hid (V1.out.turn (TStep.of_below _ hb8)); have T8 := Lib.hid (T1.out.below hb8); have S8 := Lib.hid (S1.out.trans (TStep.of_below _ hb8)); clear hb8)
    | (have _t := tk; refine wpList_store_ans rfl (.tmp 4) (.tmp 213) rfl V8.out.at_ rfl rfl 0 0 0 0 none none 0 0 0 0 rfl ?_; intro w7 V7 O7; clear tk))
  refine bodyPost_ret (cell_ret2 rfl rfl V7.out Tryz.underlying38 (by rw [Tryz.sizeA]; rfl)) rfl ?_
  rw [hul'.out, hcc.out]
  exact tell_only T8.out S8.out O7.out V8.out.own (Nat.le_succ _) rfl rfl
set_option maxHeartbeats 2000000 in
theorem do_other (h : TreeAt w B A s) (ho : Ok b s) (hB : B ≤ w.heap.size) (hb : b ≤ 900000) (k : Int) (fd n off f : Int) (p t : ByteArray) (sp : Option Addr) (cap : Nat) (l : List Nat) (hl : l.length ≤ 1000000) (hin : InB w A sp l) (h1 : k ≠ 1) (h2 : k ≠ 2) (h3 : k ≠ 3) (h4 : k ≠ 4) (h5 : k ≠ 5) (h6 : k ≠ 6) (h7 : k ≠ 7) (h8 : k ≠ 8) (h9 : k ≠ 9) (h10 : k ≠ 10) (h11 : k ≠ 11) (h12 : k ≠ 12) (h13 : k ≠ 13) (h14 : k ≠ 14) (h15 : k ≠ 15) (h16 : k ≠ 16) (h17 : k ≠ 17) (h18 : k ≠ 18) (h19 : k ≠ 19) (h20 : k ≠ 20) (h21 : k ≠ 21) (h22 : k ≠ 22) (h23 : k ≠ 23) :
    Calls Tryz.prog 45 #[.pointer (some ⟨A.t, 0, none⟩), .agg #[.int .i64 k, .int .i64 fd, .int .i64 n, .int .i64 off, .int .i64 f, .string p, .string t, .slice sp l.length cap]] w (TellPost B A (s.do ⟨k, fd, n, off, f, nb p, nb t, l⟩).2 (s.do ⟨k, fd, n, off, f, nb p, nb t, l⟩).1 w) := by
  have hul' := Lib.hid (show s.do ⟨k, fd, n, off, f, nb p, nb t, l⟩ = (ansC 2, s) from by unfold Tr.do; simp only [h1, h2, h3, h4, h5, h6, h7, h8, h9, h10, h11, h12, h13, h14, h15, h16, h17, h18, h19, h20, h21, h22, h23, if_false, or_self])
  obtain ⟨D0, B0⟩ := do_new h k fd n off f p t (.slice sp l.length cap)
  obtain ⟨w0, hw0⟩ : ∃ w0, ((w.alloc (.cells #[.int .i64 k, .int .i64 fd, .int .i64 n, .int .i64 off, .int .i64 f, .string p, .string t, .slice sp l.length cap] 33)).alloc (.cells #[.int .i64 0, .int .i64 0, .int .i64 0, .int .i64 0, .slice none 0 0, .slice none 0 0] 38)) = w0 := ⟨_, rfl⟩
  rw [hw0] at D0 B0
  have Q0 := Lib.hid D0
  have B0' := Lib.hid B0
  have hB0 : B ≤ w0.heap.size := Nat.le_trans hB B0.size
  have hg0 := Lib.hid (show w.heap.size + 1 < w0.heap.size from Q0.out.an.at_.lt)
  have hin0 := Lib.hid (hin.below B0)
  have m0 := Q0.out.op.at_.cell (k := 0) rfl
  have m1 := Q0.out.op.at_.cell (k := 1) rfl
  have m2 := Q0.out.op.at_.cell (k := 2) rfl
  have m3 := Q0.out.op.at_.cell (k := 3) rfl
  have m4 := Q0.out.op.at_.cell (k := 4) rfl
  have m5 := Q0.out.op.at_.cell (k := 5) rfl
  have m6 := Q0.out.op.at_.cell (k := 6) rfl
  have m7 := Q0.out.op.at_.cell (k := 7) rfl
  have tk : True := trivial
  clear h D0 B0 hin
  have t1 : (k == 1) = false := beq_false_of_ne h1
  have t2 : (k == 2) = false := beq_false_of_ne h2
  have t3 : (k == 3) = false := beq_false_of_ne h3
  have t4 : (k == 4) = false := beq_false_of_ne h4
  have t5 : (k == 5) = false := beq_false_of_ne h5
  have t6 : (k == 6) = false := beq_false_of_ne h6
  have t7 : (k == 7) = false := beq_false_of_ne h7
  have t8 : (k == 8) = false := beq_false_of_ne h8
  have t9 : (k == 9) = false := beq_false_of_ne h9
  have t10 : (k == 10) = false := beq_false_of_ne h10
  have t11 : (k == 11) = false := beq_false_of_ne h11
  have t12 : (k == 12) = false := beq_false_of_ne h12
  have t13 : (k == 13) = false := beq_false_of_ne h13
  have t14 : (k == 14) = false := beq_false_of_ne h14
  have t15 : (k == 15) = false := beq_false_of_ne h15
  have t16 : (k == 16) = false := beq_false_of_ne h16
  have t17 : (k == 17) = false := beq_false_of_ne h17
  have t18 : (k == 18) = false := beq_false_of_ne h18
  have t19 : (k == 19) = false := beq_false_of_ne h19
  have t20 : (k == 20) = false := beq_false_of_ne h20
  have t21 : (k == 21) = false := beq_false_of_ne h21
  have t22 : (k == 22) = false := beq_false_of_ne h22
  have t23 : (k == 23) = false := beq_false_of_ne h23
  clear h1 h2 h3 h4 h5 h6 h7 h8 h9 h10 h11 h12 h13 h14 h15 h16 h17 h18 h19 h20 h21 h22 h23
  have T1 := Lib.hid Q0.out.tree
  have S1 := Lib.hid Q0.out.step
  have V1 := Lib.hid Q0.out.an
  go_enter Tryz.func45, Tryz.ntmps45
  go_wp2_with (first
    | (go_at_call 79; refine (only_any _ _).mono ?_; rintro e w8 ⟨rfl, hb8⟩; have V8 := Lib.hid (V1.out.turn (TStep.of_below _ hb8)); have T8 := Lib.hid (T1.out.below hb8); have S8 := Lib.hid (S1.out.trans (TStep.of_below _ hb8)); clear hb8)
    | (have _t := tk; refine wpList_store_ans rfl (.tmp 4) (.tmp 216) rfl V8.out.at_ rfl rfl 0 0 0 0 none none 0 0 0 0 rfl ?_; intro w7 V7 O7; clear tk))
  refine bodyPost_ret (cell_ret2 rfl rfl V7.out Tryz.underlying38 (by rw [Tryz.sizeA]; rfl)) rfl ?_
  rw [hul'.out]
  exact tell_only T8.out S8.out O7.out V8.out.own (Nat.le_succ _) rfl rfl
end
end Go.Proofs.YtgcodlicbdaddaaGreatDoor
end

section
set_option linter.unusedVariables false
set_option linter.unusedSimpArgs false
namespace Go.Proofs.YtgcodlicbdaddaaGreatDoor
open Go.RowKit BigFrame

section
variable {w : World} {B b : Nat} {A : Ad} {s : Tr}
theorem doOp_any (h : TreeAt w B A s) (ho : Ok b s) (hB : B ≤ w.heap.size) (hb : b ≤ 900000) (k fd n off f : Int) (p t : ByteArray) (sp : Option Addr) (cap : Nat) (l : List Nat) (hl : l.length ≤ 1000000) (hin : InB w A sp l) :
    Calls Tryz.prog 45 #[.pointer (some ⟨A.t, 0, none⟩), .agg #[.int .i64 k, .int .i64 fd, .int .i64 n, .int .i64 off, .int .i64 f, .string p, .string t, .slice sp l.length cap]] w (TellPost B A (s.do ⟨k, fd, n, off, f, nb p, nb t, l⟩).2 (s.do ⟨k, fd, n, off, f, nb p, nb t, l⟩).1 w) := by
  by_cases h1 : k = 1
  · subst h1; exact do_open h ho hB hb fd n off f p t sp cap l hl hin
  by_cases h2 : k = 2
  · subst h2; exact do_close h ho hB hb fd n off f p t sp cap l hl hin
  by_cases h3 : k = 3
  · subst h3; exact do_read h ho hB hb fd n off f p t sp cap l hl hin
  by_cases h4 : k = 4
  · subst h4; exact do_write h ho hB hb fd n off f p t sp cap l hl hin
  by_cases h5 : k = 5
  · subst h5; exact do_pread h ho hB hb fd n off f p t sp cap l hl hin
  by_cases h6 : k = 6
  · subst h6; exact do_pwrite h ho hB hb fd n off f p t sp cap l hl hin
  by_cases h7 : k = 7
  · subst h7; exact do_seek h ho hB hb fd n off f p t sp cap l hl hin
  by_cases h8 : k = 8
  · subst h8; exact do_trunc h ho hB hb fd n off f p t sp cap l hl hin
  by_cases h9 : k = 9
  · subst h9; exact do_mkdir h ho hB hb fd n off f p t sp cap l hl hin
  by_cases h10 : k = 10
  · subst h10; exact do_rmdir h ho hB hb fd n off f p t sp cap l hl hin
  by_cases h11 : k = 11
  · subst h11; exact do_unlink h ho hB hb fd n off f p t sp cap l hl hin
  by_cases h12 : k = 12
  · subst h12; exact do_link h ho hB hb fd n off f p t sp cap l hl hin
  by_cases h13 : k = 13
  · subst h13; exact do_symlink h ho hB hb fd n off f p t sp cap l hl hin
  by_cases h14 : k = 14
  · subst h14; exact do_readlink h ho hB hb fd n off f p t sp cap l hl hin
  by_cases h15 : k = 15
  · subst h15; exact do_rename h ho hB hb fd n off f p t sp cap l hl hin
  by_cases h16 : k = 16
  · subst h16; exact do_stat h ho hB hb fd n off f p t sp cap l hl hin
  by_cases h17 : k = 17
  · subst h17; exact do_lstat h ho hB hb fd n off f p t sp cap l hl hin
  by_cases h18 : k = 18
  · subst h18; exact do_readdir h ho hB hb fd n off f p t sp cap l hl hin
  by_cases h19 : k = 19
  · subst h19; exact do_fsync h ho hB hb fd n off f p t sp cap l hl hin
  by_cases h20 : k = 20
  · subst h20; exact do_fdatasync h ho hB hb fd n off f p t sp cap l hl hin
  by_cases h21 : k = 21
  · subst h21; exact do_sync h ho hB hb fd n off f p t sp cap l hl hin
  by_cases h22 : k = 22
  · subst h22; exact do_tick h ho hB hb fd n off f p t sp cap l hl hin
  by_cases h23 : k = 23
  · subst h23; exact do_drop h ho hB hb fd n off f p t sp cap l hl hin
  exact do_other h ho hB hb k fd n off f p t sp cap l hl hin h1 h2 h3 h4 h5 h6 h7 h8 h9 h10 h11 h12 h13 h14 h15 h16 h17 h18 h19 h20 h21 h22 h23
end
end Go.Proofs.YtgcodlicbdaddaaGreatDoor
end
