/-
  One operation done: mkdir to lstat.
-/
import Derived.Test.YtgcodlicbdaddaaGreatDoorB38
import Derived.Deep.RegionWith
import Derived.Deep.RegionHeld3

section
set_option linter.unusedVariables false
set_option linter.unusedSimpArgs false
namespace Go.Proofs.YtgcodlicbdaddaaGreatDoor
open Go.RowKit BigFrame
set_option maxRecDepth 100000

section
variable {w : World} {B b : Nat} {A : Ad} {s : Tr}
set_option maxHeartbeats 2000000 in
theorem do_mkdir (h : TreeAt w B A s) (ho : Ok b s) (hB : B ≤ w.heap.size) (hb : b ≤ 900000) (fd n off f : Int) (p t : ByteArray) (sp : Option Addr) (cap : Nat) (l : List Nat) (hl : l.length ≤ 1000000) (hin : InB w A sp l) :
    Calls Tryz.prog 45 #[.pointer (some ⟨A.t, 0, none⟩), .agg #[.int .i64 9, .int .i64 fd, .int .i64 n, .int .i64 off, .int .i64 f, .string p, .string t, .slice sp l.length cap]] w (TellPost B A (s.do ⟨9, fd, n, off, f, nb p, nb t, l⟩).2 (s.do ⟨9, fd, n, off, f, nb p, nb t, l⟩).1 w) := by
  have hul' := Lib.hid (show s.do ⟨9, fd, n, off, f, nb p, nb t, l⟩ = s.mkdir (nb p) from rfl)
  obtain ⟨D0, B0⟩ := do_new h 9 fd n off f p t (.slice sp l.length cap)
  obtain ⟨w0, hw0⟩ : ∃ w0, ((w.alloc (.cells #[.int .i64 9, .int .i64 fd, .int .i64 n, .int .i64 off, .int .i64 f, .string p, .string t, .slice sp l.length cap] 33)).alloc (.cells #[.int .i64 0, .int .i64 0, .int .i64 0, .int .i64 0, .slice none 0 0, .slice none 0 0] 38)) = w0 := ⟨_, rfl⟩
  rw [hw0] at D0 B0
  have Q0 := Lib.hid D0
  have B0' := Lib.hid B0
  have hB0 : B ≤ w0.heap.size := Nat.le_trans hB B0.size
  have hg0 := Lib.hid (show w.heap.size + 1 < w0.heap.size from Q0.out.an.at_.lt)
  have hin0 := Lib.hid (hin.below B0)
  have m0 := Q0.out.op.at_.cell (k := 0) rfl
  have m1 := Q0.out.op.at_.cell (k := 1) rfl
  have m2 := Q0.out.op.at_.cell (k := 2) rfl
  have m3 := Q0.out.op.at_.cell (k := 3) rfl
  have m4 := Q0.out.op.at_.cell (k := 4) rfl
  have m5 := Q0.out.op.at_.cell (k := 5) rfl
  have m6 := Q0.out.op.at_.cell (k := 6) rfl
  have m7 := Q0.out.op.at_.cell (k := 7) rfl
  have tk : True := trivial
  clear h D0 B0 hin
  go_enter Tryz.func45, Tryz.ntmps45
  go_wp2_with (first
    | (go_at_call 87; refine (mkdir_any Q0.out.tree ho hB0 hb p).mono ?_; rintro e w1 ⟨rfl, A1, hT, hS⟩; have T1 := Lib.hid hT; have S1 := Lib.hid (Q0.out.step.trans hS); have V1 := Lib.hid (Q0.out.an.turn hS); clear hT hS)
    | (go_at_call 79; refine (only_any _ _).mono ?_; rintro e w8 ⟨rfl, hb8⟩; have V8 := Lib.hid (V1.out.turn (TStep.of_below _ hb8)); have T8 := Lib.hid (T1.out.below hb8); have S8 := Lib.hid (S1.out.trans (TStep.of_below _ hb8)); clear hb8)
    | (have _t := tk; refine wpList_store_ans rfl (.tmp 4) (.tmp 103) rfl V8.out.at_ rfl rfl 0 0 0 0 none none 0 0 0 0 rfl ?_; intro w7 V7 O7; clear tk))
  refine bodyPost_ret (cell_ret2 rfl rfl V7.out Tryz.underlying38 (by rw [Tryz.sizeA]; rfl)) rfl ?_
  rw [hul'.out]
  exact tell_only T8.out S8.out O7.out V8.out.own (Nat.le_succ _) rfl (codeA_mkdir s (nb p))
set_option maxHeartbeats 2000000 in
theorem do_rmdir (h : TreeAt w B A s) (ho : Ok b s) (hB : B ≤ w.heap.size) (hb : b ≤ 900000) (fd n off f : Int) (p t : ByteArray) (sp : Option Addr) (cap : Nat) (l : List Nat) (hl : l.length ≤ 1000000) (hin : InB w A sp l) :
    Calls Tryz.prog 45 #[.pointer (some ⟨A.t, 0, none⟩), .agg #[.int .i64 10, .int .i64 fd, .int .i64 n, .int .i64 off, .int .i64 f, .string p, .string t, .slice sp l.length cap]] w (TellPost B A (s.do ⟨10, fd, n, off, f, nb p, nb t, l⟩).2 (s.do ⟨10, fd, n, off, f, nb p, nb t, l⟩).1 w) := by
  have hul' := Lib.hid (show s.do ⟨10, fd, n, off, f, nb p, nb t, l⟩ = s.rmdir (nb p) from rfl)
  obtain ⟨D0, B0⟩ := do_new h 10 fd n off f p t (.slice sp l.length cap)
  obtain ⟨w0, hw0⟩ : ∃ w0, ((w.alloc (.cells #[.int .i64 10, .int .i64 fd, .int .i64 n, .int .i64 off, .int .i64 f, .string p, .string t, .slice sp l.length cap] 33)).alloc (.cells #[.int .i64 0, .int .i64 0, .int .i64 0, .int .i64 0, .slice none 0 0, .slice none 0 0] 38)) = w0 := ⟨_, rfl⟩
  rw [hw0] at D0 B0
  have Q0 := Lib.hid D0
  have B0' := Lib.hid B0
  have hB0 : B ≤ w0.heap.size := Nat.le_trans hB B0.size
  have hg0 := Lib.hid (show w.heap.size + 1 < w0.heap.size from Q0.out.an.at_.lt)
  have hin0 := Lib.hid (hin.below B0)
  have m0 := Q0.out.op.at_.cell (k := 0) rfl
  have m1 := Q0.out.op.at_.cell (k := 1) rfl
  have m2 := Q0.out.op.at_.cell (k := 2) rfl
  have m3 := Q0.out.op.at_.cell (k := 3) rfl
  have m4 := Q0.out.op.at_.cell (k := 4) rfl
  have m5 := Q0.out.op.at_.cell (k := 5) rfl
  have m6 := Q0.out.op.at_.cell (k := 6) rfl
  have m7 := Q0.out.op.at_.cell (k := 7) rfl
  have tk : True := trivial
  clear h D0 B0 hin
  go_enter Tryz.func45, Tryz.ntmps45
  go_wp2_with (first
    | (go_at_call 88; refine (rmdir_any Q0.out.tree ho hb p).mono ?_; rintro e w1 ⟨rfl, A1, hT, hS⟩; have T1 := Lib.hid hT; have S1 := Lib.hid (Q0.out.step.trans hS); have V1 := Lib.hid (Q0.out.an.turn hS); clear hT hS)
    | (go_at_call 79; refine (only_any _ _).mono ?_; rintro e w8 ⟨rfl, hb8⟩; have V8 := Lib.hid (V1.out.turn (TStep.of_below _ hb8)); have T8 := Lib.hid (T1.out.below hb8); have S8 := Lib.hid (S1.out.trans (TStep.of_below _ hb8)); clear hb8)
    | (have _t := tk; refine wpList_store_ans rfl (.tmp 4) (.tmp 112) rfl V8.out.at_ rfl rfl 0 0 0 0 none none 0 0 0 0 rfl ?_; intro w7 V7 O7; clear tk))
  refine bodyPost_ret (cell_ret2 rfl rfl V7.out Tryz.underlying38 (by rw [Tryz.sizeA]; rfl)) rfl ?_
  rw [hul'.out]
  exact tell_only T8.out S8.out O7.out V8.out.own (Nat.le_succ _) rfl (codeA_rmdir s (nb p))
set_option maxHeartbeats 2000000 in
theorem do_unlink (h : TreeAt w B A s) (ho : Ok b s) (hB : B ≤ w.heap.size) (hb : b ≤ 900000) (fd n off f : Int) (p t : ByteArray) (sp : Option Addr) (cap : Nat) (l : List Nat) (hl : l.length ≤ 1000000) (hin : InB w A sp l) :
    Calls Tryz.prog 45 #[.pointer (some ⟨A.t, 0, none⟩), .agg #[.int .i64 11, .int .i64 fd, .int .i64 n, .int .i64 off, .int .i64 f, .string p, .string t, .slice sp l.length cap]] w (TellPost B A (s.do ⟨11, fd, n, off, f, nb p, nb t, l⟩).2 (s.do ⟨11, fd, n, off, f, nb p, nb t, l⟩).1 w) := by
  have hul' := Lib.hid (show s.do ⟨11, fd, n, off, f, nb p, nb t, l⟩ = s.unlink (nb p) from rfl)
  obtain ⟨D0, B0⟩ := do_new h 11 fd n off f p t (.slice sp l.length cap)
  obtain ⟨w0, hw0⟩ : ∃ w0, ((w.alloc (.cells #[.int .i64 11, .int .i64 fd, .int .i64 n, .int .i64 off, .int .i64 f, .string p, .string t, .slice sp l.length cap] 33)).alloc (.cells #[.int .i64 0, .int .i64 0, .int .i64 0, .int .i64 0, .slice none 0 0, .slice none 0 0] 38)) = w0 := ⟨_, rfl⟩
  rw [hw0] at D0 B0
  have Q0 := Lib.hid D0
  have B0' := Lib.hid B0
  have hB0 : B ≤ w0.heap.size := Nat.le_trans hB B0.size
  have hg0 := Lib.hid (show w.heap.size + 1 < w0.heap.size from Q0.out.an.at_.lt)
  have hin0 := Lib.hid (hin.below B0)
  have m0 := Q0.out.op.at_.cell (k := 0) rfl
  have m1 := Q0.out.op.at_.cell (k := 1) rfl
  have m2 := Q0.out.op.at_.cell (k := 2) rfl
  have m3 := Q0.out.op.at_.cell (k := 3) rfl
  have m4 := Q0.out.op.at_.cell (k := 4) rfl
  have m5 := Q0.out.op.at_.cell (k := 5) rfl
  have m6 := Q0.out.op.at_.cell (k := 6) rfl
  have m7 := Q0.out.op.at_.cell (k := 7) rfl
  have tk : True := trivial
  clear h D0 B0 hin
  go_enter Tryz.func45, Tryz.ntmps45
  go_wp2_with (first
    | (go_at_call 89; refine (unlink_any Q0.out.tree ho hb p).mono ?_; rintro e w1 ⟨rfl, A1, hT, hS⟩; have T1 := Lib.hid hT; have S1 := Lib.hid (Q0.out.step.trans hS); have V1 := Lib.hid (Q0.out.an.turn hS); clear hT hS)
    | (go_at_call 79; refine (only_any _ _).mono ?_; rintro e w8 ⟨rfl, hb8⟩; have V8 := Lib.hid (V1.out.turn (TStep.of_below _ hb8)); have T8 := Lib.hid (T1.out.below hb8); have S8 := Lib.hid (S1.out.trans (TStep.of_below _ hb8)); clear hb8)
    | (have _t := tk; refine wpList_store_ans rfl (.tmp 4) (.tmp 121) rfl V8.out.at_ rfl rfl 0 0 0 0 none none 0 0 0 0 rfl ?_; intro w7 V7 O7; clear tk))
  refine bodyPost_ret (cell_ret2 rfl rfl V7.out Tryz.underlying38 (by rw [Tryz.sizeA]; rfl)) rfl ?_
  rw [hul'.out]
  exact tell_only T8.out S8.out O7.out V8.out.own (Nat.le_succ _) rfl (codeA_unlink s (nb p))
set_option maxHeartbeats 2000000 in
theorem do_link (h : TreeAt w B A s) (ho : Ok b s) (hB : B ≤ w.heap.size) (hb : b ≤ 900000) (fd n off f : Int) (p t : ByteArray) (sp : Option Addr) (cap : Nat) (l : List Nat) (hl : l.length ≤ 1000000) (hin : InB w A sp l) :
    Calls Tryz.prog 45 #[.pointer (some ⟨A.t, 0, none⟩), .agg #[.int .i64 12, .int .i64 fd, .int .i64 n, .int .i64 off, .int .i64 f, .string p, .string t, .slice sp l.length cap]] w (TellPost B A (s.do ⟨12, fd, n, off, f, nb p, nb t, l⟩).2 (s.do ⟨12, fd, n, off, f, nb p, nb t, l⟩).1 w) := by
  have hul' := Lib.hid (show s.do ⟨12, fd, n, off, f, nb p, nb t, l⟩ = s.link (nb p) (nb t) from rfl)
  obtain ⟨D0, B0⟩ := do_new h 12 fd n off f p t (.slice sp l.length cap)
  obtain ⟨w0, hw0⟩ : ∃ w0, ((w.alloc (.cells #[.int .i64 12, .int .i64 fd, .int .i64 n, .int .i64 off, .int .i64 f, .string p, .string t, .slice sp l.length cap] 33)).alloc (.cells #[.int .i64 0, .int .i64 0, .int .i64 0, .int .i64 0, .slice none 0 0, .slice none 0 0] 38)) = w0 := ⟨_, rfl⟩
  rw [hw0] at D0 B0
  have Q0 := Lib.hid D0
  have B0' := Lib.hid B0
  have hB0 : B ≤ w0.heap.size := Nat.le_trans hB B0.size
  have hg0 := Lib.hid (show w.heap.size + 1 < w0.heap.size from Q0.out.an.at_.lt)
  have hin0 := Lib.hid (hin.below B0)
  have m0 := Q0.out.op.at_.cell (k := 0) rfl
  have m1 := Q0.out.op.at_.cell (k := 1) rfl
  have m2 := Q0.out.op.at_.cell (k := 2) rfl
  have m3 := Q0.out.op.at_.cell (k := 3) rfl
  have m4 := Q0.out.op.at_.cell (k := 4) rfl
  have m5 := Q0.out.op.at_.cell (k := 5) rfl
  have m6 := Q0.out.op.at_.cell (k := 6) rfl
  have m7 := Q0.out.op.at_.cell (k := 7) rfl
  have tk : True := trivial
  clear h D0 B0 hin
  go_enter Tryz.func45, Tryz.ntmps45
  go_wp2_with (first
    | (go_at_call 90; refine (link_any Q0.out.tree ho hb p t).mono ?_; rintro e w1 ⟨rfl, A1, hT, hS⟩; have T1 := Lib.hid hT; have S1 := Lib.hid (Q0.out.step.trans hS); have V1 := Lib.hid (Q0.out.an.turn hS); clear hT hS)
    | (go_at_call 79; refine (only_any _ _).mono ?_; rintro e w8 ⟨rfl, hb8⟩; have V8 := Lib.hid (V1.out.turn (TStep.of_below _ hb8)); have T8 := Lib.hid (T1.out.below hb8); have S8 := Lib.hid (S1.out.trans (TStep.of_below _ hb8)); clear hb8)
    | (have _t := tk; refine wpList_store_ans rfl (.tmp 4) (.tmp 132) rfl V8.out.at_ rfl rfl 0 0 0 0 none none 0 0 0 0 rfl ?_; intro w7 V7 O7; clear tk))
  refine bodyPost_ret (cell_ret2 rfl rfl V7.out Tryz.underlying38 (by rw [Tryz.sizeA]; rfl)) rfl ?_
  rw [hul'.out]
  exact tell_only T8.out S8.out O7.out V8.out.own (Nat.le_succ _) rfl (codeA_link s (nb p) (nb t))
set_option maxHeartbeats 2000000 in
theorem do_symlink (h : TreeAt w B A s) (ho : Ok b s) (hB : B ≤ w.heap.size) (hb : b ≤ 900000) (fd n off f : Int) (p t : ByteArray) (sp : Option Addr) (cap : Nat) (l : List Nat) (hl : l.length ≤ 1000000) (hin : InB w A sp l) :
    Calls Tryz.prog 45 #[.pointer (some ⟨A.t, 0, none⟩), .agg #[.int .i64 13, .int .i64 fd, .int .i64 n, .int .i64 off, .int .i64 f, .string p, .string t, .slice sp l.length cap]] w (TellPost B A (s.do ⟨13, fd, n, off, f, nb p, nb t, l⟩).2 (s.do ⟨13, fd, n, off, f, nb p, nb t, l⟩).1 w) := by
  have hul' := Lib.hid (show s.do ⟨13, fd, n, off, f, nb p, nb t, l⟩ = s.symlink (nb p) (nb t) from rfl)
  obtain ⟨D0, B0⟩ := do_new h 13 fd n off f p t (.slice sp l.length cap)
  obtain ⟨w0, hw0⟩ : ∃ w0, ((w.alloc (.cells #[.int .i64 13, .int .i64 fd, .int .i64 n, .int .i64 off, .int .i64 f, .string p, .string t, .slice sp l.length cap] 33)).alloc (.cells #[.int .i64 0, .int .i64 0, .int .i64 0, .int .i64 0, .slice none 0 0, .slice none 0 0] 38)) = w0 := ⟨_, rfl⟩
  rw [hw0] at D0 B0
  have Q0 := Lib.hid D0
  have B0' := Lib.hid B0
  have hB0 : B ≤ w0.heap.size := Nat.le_trans hB B0.size
  have hg0 := Lib.hid (show w.heap.size + 1 < w0.heap.size from Q0.out.an.at_.lt)
  have hin0 := Lib.hid (hin.below B0)
  have m0 := Q0.out.op.at_.cell (k := 0) rfl
  have m1 := Q0.out.op.at_.cell (k := 1) rfl
  have m2 := Q0.out.op.at_.cell (k := 2) rfl
  have m3 := Q0.out.op.at_.cell (k := 3) rfl
  have m4 := Q0.out.op.at_.cell (k := 4) rfl
  have m5 := Q0.out.op.at_.cell (k := 5) rfl
  have m6 := Q0.out.op.at_.cell (k := 6) rfl
  have m7 := Q0.out.op.at_.cell (k := 7) rfl
  have tk : True := trivial
  clear h D0 B0 hin
  go_enter Tryz.func45, Tryz.ntmps45
  go_wp2_with (first
    | (go_at_call 91; refine (symlink_any Q0.out.tree ho hB0 hb p t).mono ?_; rintro e w1 ⟨rfl, A1, hT, hS⟩; have T1 := Lib.hid hT; have S1 := Lib.hid (Q0.out.step.trans hS); have V1 := Lib.hid (Q0.out.an.turn hS); clear hT hS)
    | (go_at_call 79; refine (only_any _ _).mono ?_; rintro e w8 ⟨rfl, hb8⟩; have V8 := Lib.hid (V1.out.turn (TStep.of_below _ hb8)); have T8 := Lib.hid (T1.out.below hb8); have S8 := Lib.hid (S1.out.trans (TStep.of_below _ hb8)); clear hb8)
    | (have _t := tk; refine wpList_store_ans rfl (.tmp 4) (.tmp 143) rfl V8.out.at_ rfl rfl 0 0 0 0 none none 0 0 0 0 rfl ?_; intro w7 V7 O7; clear tk))
  refine bodyPost_ret (cell_ret2 rfl rfl V7.out Tryz.underlying38 (by rw [Tryz.sizeA]; rfl)) rfl ?_
  rw [hul'.out]
  exact tell_only T8.out S8.out O7.out V8.out.own (Nat.le_succ _) rfl (codeA_symlink s (nb p) (nb t))
set_option maxHeartbeats 2000000 in
theorem do_readlink (h : TreeAt w B A s) (ho : Ok b s) (hB : B ≤ w.heap.size) (hb : b ≤ 900000) (fd n off f : Int) (p t : ByteArray) (sp : Option Addr) (cap : Nat) (l : List Nat) (hl : l.length ≤ 1000000) (hin : InB w A sp l) :
    Calls Tryz.prog 45 #[.pointer (some ⟨A.t, 0, none⟩), .agg #[.int .i64 14, .int .i64 fd, .int .i64 n, .int .i64 off, .int .i64 f, .string p, .string t, .slice sp l.length cap]] w (TellPost B A (s.do ⟨14, fd, n, off, f, nb p, nb t, l⟩).2 (s.do ⟨14, fd, n, off, f, nb p, nb t, l⟩).1 w) := by
  have hul' := Lib.hid (show s.do ⟨14, fd, n, off, f, nb p, nb t, l⟩ = (s.readLink (nb p), s) from rfl)
  obtain ⟨D0, B0⟩ := do_new h 14 fd n off f p t (.slice sp l.length cap)
  obtain ⟨w0, hw0⟩ : ∃ w0, ((w.alloc (.cells #[.int .i64 14, .int .i64 fd, .int .i64 n, .int .i64 off, .int .i64 f, .string p, .string t, .slice sp l.length cap] 33)).alloc (.cells #[.int .i64 0, .int .i64 0, .int .i64 0, .int .i64 0, .slice none 0 0, .slice none 0 0] 38)) = w0 := ⟨_, rfl⟩
  rw [hw0] at D0 B0
  have Q0 := Lib.hid D0
  have B0' := Lib.hid B0
  have hB0 : B ≤ w0.heap.size := Nat.le_trans hB B0.size
  have hg0 := Lib.hid (show w.heap.size + 1 < w0.heap.size from Q0.out.an.at_.lt)
  have hin0 := Lib.hid (hin.below B0)
  have m0 := Q0.out.op.at_.cell (k := 0) rfl
  have m1 := Q0.out.op.at_.cell (k := 1) rfl
  have m2 := Q0.out.op.at_.cell (k := 2) rfl
  have m3 := Q0.out.op.at_.cell (k := 3) rfl
  have m4 := Q0.out.op.at_.cell (k := 4) rfl
  have m5 := Q0.out.op.at_.cell (k := 5) rfl
  have m6 := Q0.out.op.at_.cell (k := 6) rfl
  have m7 := Q0.out.op.at_.cell (k := 7) rfl
  have tk : True := trivial
  clear h D0 B0 hin
  go_enter Tryz.func45, Tryz.ntmps45
  go_wp2_with (first
    | (go_at_call 92; refine (readLink_any Q0.out.tree ho (by omega) p).mono ?_; rintro e w1 ⟨v, A1, rfl, hT, hS, hA, c, n1, k1, e1, p1, l1, c1, p2, l2, c2, rfl⟩; have T1 := Lib.hid hT; have S1 := Lib.hid hS; have R1 := Lib.hid hA; have V1 := Lib.hid (Q0.out.an.turn hS); clear hT hS hA)
    | (have _t := tk; refine wpList_store_ans rfl (.tmp 4) (.tmp 151) rfl V1.out.at_ rfl rfl c n1 k1 e1 p1 p2 l1 c1 l2 c2 rfl ?_; intro w7 V7 O7; clear tk))
  refine bodyPost_ret (cell_ret2 rfl rfl V7.out Tryz.underlying38 (by rw [Tryz.sizeA]; rfl)) rfl ?_
  rw [hul'.out]
  exact tell_on T1.out Q0.out.step S1.out R1.out ⟨_, _, _, _, _, _, _, _, _, _, rfl⟩ O7.out V1.out.own (Nat.le_succ _) hg0.out rfl
set_option maxHeartbeats 2000000 in
theorem do_rename (h : TreeAt w B A s) (ho : Ok b s) (hB : B ≤ w.heap.size) (hb : b ≤ 900000) (fd n off f : Int) (p t : ByteArray) (sp : Option Addr) (cap : Nat) (l : List Nat) (hl : l.length ≤ 1000000) (hin : InB w A sp l) :
    Calls Tryz.prog 45 #[.pointer (some ⟨A.t, 0, none⟩), .agg #[.int .i64 15, .int .i64 fd, .int .i64 n, .int .i64 off, .int .i64 f, .string p, .string t, .slice sp l.length cap]] w (TellPost B A (s.do ⟨15, fd, n, off, f, nb p, nb t, l⟩).2 (s.do ⟨15, fd, n, off, f, nb p, nb t, l⟩).1 w) := by
  have hul' := Lib.hid (show s.do ⟨15, fd, n, off, f, nb p, nb t, l⟩ = s.rename (nb p) (nb t) from rfl)
  obtain ⟨D0, B0⟩ := do_new h 15 fd n off f p t (.slice sp l.length cap)
  obtain ⟨w0, hw0⟩ : ∃ w0, ((w.alloc (.cells #[.int .i64 15, .int .i64 fd, .int .i64 n, .int .i64 off, .int .i64 f, .string p, .string t, .slice sp l.length cap] 33)).alloc (.cells #[.int .i64 0, .int .i64 0, .int .i64 0, .int .i64 0, .slice none 0 0, .slice none 0 0] 38)) = w0 := ⟨_, rfl⟩
  rw [hw0] at D0 B0
  have Q0 := Lib.hid D0
  have B0' := Lib.hid B0
  have hB0 : B ≤ w0.heap.size := Nat.le_trans hB B0.size
  have hg0 := Lib.hid (show w.heap.size + 1 < w0.heap.size from Q0.out.an.at_.lt)
  have hin0 := Lib.hid (hin.below B0)
  have m0 := Q0.out.op.at_.cell (k := 0) rfl
  have m1 := Q0.out.op.at_.cell (k := 1) rfl
  have m2 := Q0.out.op.at_.cell (k := 2) rfl
  have m3 := Q0.out.op.at_.cell (k := 3) rfl
  have m4 := Q0.out.op.at_.cell (k := 4) rfl
  have m5 := Q0.out.op.at_.cell (k := 5) rfl
  have m6 := Q0.out.op.at_.cell (k := 6) rfl
  have m7 := Q0.out.op.at_.cell (k := 7) rfl
  have tk : True := trivial
  clear h D0 B0 hin
  go_enter Tryz.func45, Tryz.ntmps45
  go_wp2_with (first
    | (go_at_call 93; refine (rename_any Q0.out.tree ho hb p t).mono ?_; rintro e w1 ⟨rfl, A1, hT, hS⟩; have T1 := Lib.hid hT; have S1 := Lib.hid (Q0.out.step.trans hS); have V1 := Lib.hid (Q0.out.an.turn hS); clear hT hS)
    | (go_at_call 79; refine (only_any _ _).mono ?_; rintro e w8 ⟨rfl, hb8⟩; have V8 := Lib.hid (V1.out.turn (TStep.of_below _ hb8)); have T8 := Lib.hid (T1.out.below hb8); have S8 := Lib.hid (S1.out.trans (TStep.of_below _ hb8)); clear hb8)
    | (have _t := tk; refine wpList_store_ans rfl (.tmp 4) (.tmp 162) rfl V8.out.at_ rfl rfl 0 0 0 0 none none 0 0 0 0 rfl ?_; intro w7 V7 O7; clear tk))
  refine bodyPost_ret (cell_ret2 rfl rfl V7.out Tryz.underlying38 (by rw [Tryz.sizeA]; rfl)) rfl ?_
  rw [hul'.out]
  exact tell_only T8.out S8.out O7.out V8.out.own (Nat.le_succ _) rfl (codeA_rename s (nb p) (nb t))
set_option maxHeartbeats 2000000 in
theorem do_stat (h : TreeAt w B A s) (ho : Ok b s) (hB : B ≤ w.heap.size) (hb : b ≤ 900000) (fd n off f : Int) (p t : ByteArray) (sp : Option Addr) (cap : Nat) (l : List Nat) (hl : l.length ≤ 1000000) (hin : InB w A sp l) :
    Calls Tryz.prog 45 #[.pointer (some ⟨A.t, 0, none⟩), .agg #[.int .i64 16, .int .i64 fd, .int .i64 n, .int .i64 off, .int .i64 f, .string p, .string t, .slice sp l.length cap]] w (TellPost B A (s.do ⟨16, fd, n, off, f, nb p, nb t, l⟩).2 (s.do ⟨16, fd, n, off, f, nb p, nb t, l⟩).1 w) := by
  have hul' := Lib.hid (show s.do ⟨16, fd, n, off, f, nb p, nb t, l⟩ = (s.stat (nb p) false, s) from rfl)
  obtain ⟨D0, B0⟩ := do_new h 16 fd n off f p t (.slice sp l.length cap)
  obtain ⟨w0, hw0⟩ : ∃ w0, ((w.alloc (.cells #[.int .i64 16, .int .i64 fd, .int .i64 n, .int .i64 off, .int .i64 f, .string p, .string t, .slice sp l.length cap] 33)).alloc (.cells #[.int .i64 0, .int .i64 0, .int .i64 0, .int .i64 0, .slice none 0 0, .slice none 0 0] 38)) = w0 := ⟨_, rfl⟩
  rw [hw0] at D0 B0
  have Q0 := Lib.hid D0
  have B0' := Lib.hid B0
  have hB0 : B ≤ w0.heap.size := Nat.le_trans hB B0.size
  have hg0 := Lib.hid (show w.heap.size + 1 < w0.heap.size from Q0.out.an.at_.lt)
  have hin0 := Lib.hid (hin.below B0)
  have m0 := Q0.out.op.at_.cell (k := 0) rfl
  have m1 := Q0.out.op.at_.cell (k := 1) rfl
  have m2 := Q0.out.op.at_.cell (k := 2) rfl
  have m3 := Q0.out.op.at_.cell (k := 3) rfl
  have m4 := Q0.out.op.at_.cell (k := 4) rfl
  have m5 := Q0.out.op.at_.cell (k := 5) rfl
  have m6 := Q0.out.op.at_.cell (k := 6) rfl
  have m7 := Q0.out.op.at_.cell (k := 7) rfl
  have tk : True := trivial
  clear h D0 B0 hin
  go_enter Tryz.func45, Tryz.ntmps45
  go_wp2_with (first
    | (go_at_call 94; refine (stat_any Q0.out.tree ho (by omega) p false).mono ?_; rintro e w1 ⟨v, A1, rfl, hT, hS, hA, c, n1, k1, e1, p1, l1, c1, p2, l2, c2, rfl⟩; have T1 := Lib.hid hT; have S1 := Lib.hid hS; have R1 := Lib.hid hA; have V1 := Lib.hid (Q0.out.an.turn hS); clear hT hS hA)
    | (have _t := tk; refine wpList_store_ans rfl (.tmp 4) (.tmp 174) rfl V1.out.at_ rfl rfl c n1 k1 e1 p1 p2 l1 c1 l2 c2 rfl ?_; intro w7 V7 O7; clear tk))
  refine bodyPost_ret (cell_ret2 rfl rfl V7.out Tryz.underlying38 (by rw [Tryz.sizeA]; rfl)) rfl ?_
  rw [hul'.out]
  exact tell_on T1.out Q0.out.step S1.out R1.out ⟨_, _, _, _, _, _, _, _, _, _, rfl⟩ O7.out V1.out.own (Nat.le_succ _) hg0.out rfl
set_option maxHeartbeats 2000000 in
theorem do_lstat (h : TreeAt w B A s) (ho : Ok b s) (hB : B ≤ w.heap.size) (hb : b ≤ 900000) (fd n off f : Int) (p t : ByteArray) (sp : Option Addr) (cap : Nat) (l : List Nat) (hl : l.length ≤ 1000000) (hin : InB w A sp l) :
    Calls Tryz.prog 45 #[.pointer (some ⟨A.t, 0, none⟩), .agg #[.int .i64 17, .int .i64 fd, .int .i64 n, .int .i64 off, .int .i64 f, .string p, .string t, .slice sp l.length cap]] w (TellPost B A (s.do ⟨17, fd, n, off, f, nb p, nb t, l⟩).2 (s.do ⟨17, fd, n, off, f, nb p, nb t, l⟩).1 w) := by
  have hul' := Lib.hid (show s.do ⟨17, fd, n, off, f, nb p, nb t, l⟩ = (s.stat (nb p) true, s) from rfl)
  obtain ⟨D0, B0⟩ := do_new h 17 fd n off f p t (.slice sp l.length cap)
  obtain ⟨w0, hw0⟩ : ∃ w0, ((w.alloc (.cells #[.int .i64 17, .int .i64 fd, .int .i64 n, .int .i64 off, .int .i64 f, .string p, .string t, .slice sp l.length cap] 33)).alloc (.cells #[.int .i64 0, .int .i64 0, .int .i64 0, .int .i64 0, .slice none 0 0, .slice none 0 0] 38)) = w0 := ⟨_, rfl⟩
  rw [hw0] at D0 B0
  have Q0 := Lib.hid D0
  have B0' := Lib.hid B0
  have hB0 : B ≤ w0.heap.size := Nat.le_trans hB B0.size
  have hg0 := Lib.hid (show w.heap.size + 1 < w0.heap.size from Q0.out.an.at_.lt)
  have hin0 := Lib.hid (hin.below B0)
  have m0 := Q0.out.op.at_.cell (k := 0) rfl
  have m1 := Q0.out.op.at_.cell (k := 1) rfl
  have m2 := Q0.out.op.at_.cell (k := 2) rfl
  have m3 := Q0.out.op.at_.cell (k := 3) rfl
  have m4 := Q0.out.op.at_.cell (k := 4) rfl
  have m5 := Q0.out.op.at_.cell (k := 5) rfl
  have m6 := Q0.out.op.at_.cell (k := 6) rfl
  have m7 := Q0.out.op.at_.cell (k := 7) rfl
  have tk : True := trivial
  clear h D0 B0 hin
  go_enter Tryz.func45, Tryz.ntmps45
  go_wp2_with (first
    | (go_at_call 94; refine (stat_any Q0.out.tree ho (by omega) p true).mono ?_; rintro e w1 ⟨v, A1, rfl, hT, hS, hA, c, n1, k1, e1, p1, l1, c1, p2, l2, c2, rfl⟩; have T1 := Lib.hid hT; have S1 := Lib.hid hS; have R1 := Lib.hid hA; have V1 := Lib.hid (Q0.out.an.turn hS); clear hT hS hA)
    | (have _t := tk; refine wpList_store_ans rfl (.tmp 4) (.tmp 174) rfl V1.out.at_ rfl rfl c n1 k1 e1 p1 p2 l1 c1 l2 c2 rfl ?_; intro w7 V7 O7; clear tk))
  refine bodyPost_ret (cell_ret2 rfl rfl V7.out Tryz.underlying38 (by rw [Tryz.sizeA]; rfl)) rfl ?_
  rw [hul'.out]
  exact tell_on T1.out Q0.out.step S1.out R1.out ⟨_, _, _, _, _, _, _, _, _, _, rfl⟩ O7.out V1.out.own (Nat.le_succ _) hg0.out rfl
end
end Go.Proofs.YtgcodlicbdaddaaGreatDoor
end
