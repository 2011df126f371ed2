/-
  One operation done: open to trunc.
-/
import Derived.Test.YtgcodlicbdaddaaGreatDoorB38
import Derived.Deep.RegionWith
import Derived.Deep.RegionHeld3

section
set_option linter.unusedVariables false
set_option linter.unusedSimpArgs false
namespace Go.Proofs.YtgcodlicbdaddaaGreatDoor
open Go.RowKit BigFrame
set_option maxRecDepth 100000

section
variable {w : World} {B b : Nat} {A : Ad} {s : Tr}
set_option maxHeartbeats 2000000 in
theorem do_open (h : TreeAt w B A s) (ho : Ok b s) (hB : B ≤ w.heap.size) (hb : b ≤ 900000) (fd n off f : Int) (p t : ByteArray) (sp : Option Addr) (cap : Nat) (l : List Nat) (hl : l.length ≤ 1000000) (hin : InB w A sp l) :
    Calls Tryz.prog 45 #[.pointer (some ⟨A.t, 0, none⟩), .agg #[.int .i64 1, .int .i64 fd, .int .i64 n, .int .i64 off, .int .i64 f, .string p, .string t, .slice sp l.length cap]] w (TellPost B A (s.do ⟨1, fd, n, off, f, nb p, nb t, l⟩).2 (s.do ⟨1, fd, n, off, f, nb p, nb t, l⟩).1 w) := by
  have hul' := Lib.hid (show s.do ⟨1, fd, n, off, f, nb p, nb t, l⟩ = s.open (nb p) f from rfl)
  obtain ⟨D0, B0⟩ := do_new h 1 fd n off f p t (.slice sp l.length cap)
  obtain ⟨w0, hw0⟩ : ∃ w0, ((w.alloc (.cells #[.int .i64 1, .int .i64 fd, .int .i64 n, .int .i64 off, .int .i64 f, .string p, .string t, .slice sp l.length cap] 33)).alloc (.cells #[.int .i64 0, .int .i64 0, .int .i64 0, .int .i64 0, .slice none 0 0, .slice none 0 0] 38)) = w0 := ⟨_, rfl⟩
  rw [hw0] at D0 B0
  have Q0 := Lib.hid D0
  have B0' := Lib.hid B0
  have hB0 : B ≤ w0.heap.size := Nat.le_trans hB B0.size
  have hg0 := Lib.hid (show w.heap.size + 1 < w0.heap.size from Q0.out.an.at_.lt)
  have hin0 := Lib.hid (hin.below B0)
  have m0 := Q0.out.op.at_.cell (k := 0) rfl
  have m1 := Q0.out.op.at_.cell (k := 1) rfl
  have m2 := Q0.out.op.at_.cell (k := 2) rfl
  have m3 := Q0.out.op.at_.cell (k := 3) rfl
  have m4 := Q0.out.op.at_.cell (k := 4) rfl
  have m5 := Q0.out.op.at_.cell (k := 5) rfl
  have m6 := Q0.out.op.at_.cell (k := 6) rfl
  have m7 := Q0.out.op.at_.cell (k := 7) rfl
  have tk : True := trivial
  clear h D0 B0 hin
  go_enter Tryz.func45, Tryz.ntmps45
  go_wp2_with (first
    | (go_at_call 78; refine (open_any Q0.out.tree ho hB0 hb p f).mono ?_; rintro e w1 ⟨v, A1, rfl, hT, hS, hA, c, n1, k1, e1, p1, l1, c1, p2, l2, c2, rfl⟩; have T1 := Lib.hid hT; have S1 := Lib.hid hS; have R1 := Lib.hid hA; have V1 := Lib.hid (Q0.out.an.turn hS); clear hT hS hA)
    | (have _t := tk; refine wpList_store_ans rfl (.tmp 4) (.tmp 18) rfl V1.out.at_ rfl rfl c n1 k1 e1 p1 p2 l1 c1 l2 c2 rfl ?_; intro w7 V7 O7; clear tk))
  refine bodyPost_ret (cell_ret2 rfl rfl V7.out Tryz.underlying38 (by rw [Tryz.sizeA]; rfl)) rfl ?_
  rw [hul'.out]
  exact tell_on T1.out Q0.out.step S1.out R1.out ⟨_, _, _, _, _, _, _, _, _, _, rfl⟩ O7.out V1.out.own (Nat.le_succ _) hg0.out rfl
set_option maxHeartbeats 2000000 in
theorem do_close (h : TreeAt w B A s) (ho : Ok b s) (hB : B ≤ w.heap.size) (hb : b ≤ 900000) (fd n off f : Int) (p t : ByteArray) (sp : Option Addr) (cap : Nat) (l : List Nat) (hl : l.length ≤ 1000000) (hin : InB w A sp l) :
    Calls Tryz.prog 45 #[.pointer (some ⟨A.t, 0, none⟩), .agg #[.int .i64 2, .int .i64 fd, .int .i64 n, .int .i64 off, .int .i64 f, .string p, .string t, .slice sp l.length cap]] w (TellPost B A (s.do ⟨2, fd, n, off, f, nb p, nb t, l⟩).2 (s.do ⟨2, fd, n, off, f, nb p, nb t, l⟩).1 w) := by
  have hul' := Lib.hid (show s.do ⟨2, fd, n, off, f, nb p, nb t, l⟩ = s.close fd from rfl)
  obtain ⟨D0, B0⟩ := do_new h 2 fd n off f p t (.slice sp l.length cap)
  obtain ⟨w0, hw0⟩ : ∃ w0, ((w.alloc (.cells #[.int .i64 2, .int .i64 fd, .int .i64 n, .int .i64 off, .int .i64 f, .string p, .string t, .slice sp l.length cap] 33)).alloc (.cells #[.int .i64 0, .int .i64 0, .int .i64 0, .int .i64 0, .slice none 0 0, .slice none 0 0] 38)) = w0 := ⟨_, rfl⟩
  rw [hw0] at D0 B0
  have Q0 := Lib.hid D0
  have B0' := Lib.hid B0
  have hB0 : B ≤ w0.heap.size := Nat.le_trans hB B0.size
  have hg0 := Lib.hid (show w.heap.size + 1 < w0.heap.size from Q0.out.an.at_.lt)
  have hin0 := Lib.hid (hin.below B0)
  have m0 := Q0.out.op.at_.cell (k := 0) rfl
  have m1 := Q0.out.op.at_.cell (k := 1) rfl
  have m2 := Q0.out.op.at_.cell (k := 2) rfl
  have m3 := Q0.out.op.at_.cell (k := 3) rfl
  have m4 := Q0.out.op.at_.cell (k := 4) rfl
  have m5 := Q0.out.op.at_.cell (k := 5) rfl
  have m6 := Q0.out.op.at_.cell (k := 6) rfl
  have m7 := Q0.out.op.at_.cell (k := 7) rfl
  have tk : True := trivial
  clear h D0 B0 hin
  go_enter Tryz.func45, Tryz.ntmps45
  go_wp2_with (first
    | (go_at_call 80; refine (close_any Q0.out.tree ho hb fd).mono ?_; rintro e w1 ⟨rfl, A1, hT, hS⟩; have T1 := Lib.hid hT; have S1 := Lib.hid (Q0.out.step.trans hS); have V1 := Lib.hid (Q0.out.an.turn hS); clear hT hS)
    | (go_at_call 79; refine (only_any _ _).mono ?_; rintro e w8 ⟨rfl, hb8⟩; have V8 := Lib.hid (V1.out.turn (TStep.of_below _ hb8)); have T8 := Lib.hid (T1.out.below hb8); have S8 := Lib.hid (S1.out.trans (TStep.of_below _ hb8)); clear hb8)
    | (have _t := tk; refine wpList_store_ans rfl (.tmp 4) (.tmp 27) rfl V8.out.at_ rfl rfl 0 0 0 0 none none 0 0 0 0 rfl ?_; intro w7 V7 O7; clear tk))
  refine bodyPost_ret (cell_ret2 rfl rfl V7.out Tryz.underlying38 (by rw [Tryz.sizeA]; rfl)) rfl ?_
  rw [hul'.out]
  exact tell_only T8.out S8.out O7.out V8.out.own (Nat.le_succ _) rfl (codeA_close s fd)
set_option maxHeartbeats 2000000 in
theorem do_read (h : TreeAt w B A s) (ho : Ok b s) (hB : B ≤ w.heap.size) (hb : b ≤ 900000) (fd n off f : Int) (p t : ByteArray) (sp : Option Addr) (cap : Nat) (l : List Nat) (hl : l.length ≤ 1000000) (hin : InB w A sp l) :
    Calls Tryz.prog 45 #[.pointer (some ⟨A.t, 0, none⟩), .agg #[.int .i64 3, .int .i64 fd, .int .i64 n, .int .i64 off, .int .i64 f, .string p, .string t, .slice sp l.length cap]] w (TellPost B A (s.do ⟨3, fd, n, off, f, nb p, nb t, l⟩).2 (s.do ⟨3, fd, n, off, f, nb p, nb t, l⟩).1 w) := by
  have hul' := Lib.hid (show s.do ⟨3, fd, n, off, f, nb p, nb t, l⟩ = s.read fd n from rfl)
  obtain ⟨D0, B0⟩ := do_new h 3 fd n off f p t (.slice sp l.length cap)
  obtain ⟨w0, hw0⟩ : ∃ w0, ((w.alloc (.cells #[.int .i64 3, .int .i64 fd, .int .i64 n, .int .i64 off, .int .i64 f, .string p, .string t, .slice sp l.length cap] 33)).alloc (.cells #[.int .i64 0, .int .i64 0, .int .i64 0, .int .i64 0, .slice none 0 0, .slice none 0 0] 38)) = w0 := ⟨_, rfl⟩
  rw [hw0] at D0 B0
  have Q0 := Lib.hid D0
  have B0' := Lib.hid B0
  have hB0 : B ≤ w0.heap.size := Nat.le_trans hB B0.size
  have hg0 := Lib.hid (show w.heap.size + 1 < w0.heap.size from Q0.out.an.at_.lt)
  have hin0 := Lib.hid (hin.below B0)
  have m0 := Q0.out.op.at_.cell (k := 0) rfl
  have m1 := Q0.out.op.at_.cell (k := 1) rfl
  have m2 := Q0.out.op.at_.cell (k := 2) rfl
  have m3 := Q0.out.op.at_.cell (k := 3) rfl
  have m4 := Q0.out.op.at_.cell (k := 4) rfl
  have m5 := Q0.out.op.at_.cell (k := 5) rfl
  have m6 := Q0.out.op.at_.cell (k := 6) rfl
  have m7 := Q0.out.op.at_.cell (k := 7) rfl
  have tk : True := trivial
  clear h D0 B0 hin
  go_enter Tryz.func45, Tryz.ntmps45
  go_wp2_with (first
    | (go_at_call 81; refine (read_any Q0.out.tree ho hb fd n).mono ?_; rintro e w1 ⟨v, A1, rfl, hT, hS, hA, c, n1, k1, e1, p1, l1, c1, p2, l2, c2, rfl⟩; have T1 := Lib.hid hT; have S1 := Lib.hid hS; have R1 := Lib.hid hA; have V1 := Lib.hid (Q0.out.an.turn hS); clear hT hS hA)
    | (have _t := tk; refine wpList_store_ans rfl (.tmp 4) (.tmp 37) rfl V1.out.at_ rfl rfl c n1 k1 e1 p1 p2 l1 c1 l2 c2 rfl ?_; intro w7 V7 O7; clear tk))
  refine bodyPost_ret (cell_ret2 rfl rfl V7.out Tryz.underlying38 (by rw [Tryz.sizeA]; rfl)) rfl ?_
  rw [hul'.out]
  exact tell_on T1.out Q0.out.step S1.out R1.out ⟨_, _, _, _, _, _, _, _, _, _, rfl⟩ O7.out V1.out.own (Nat.le_succ _) hg0.out rfl
set_option maxHeartbeats 2000000 in
theorem do_write (h : TreeAt w B A s) (ho : Ok b s) (hB : B ≤ w.heap.size) (hb : b ≤ 900000) (fd n off f : Int) (p t : ByteArray) (sp : Option Addr) (cap : Nat) (l : List Nat) (hl : l.length ≤ 1000000) (hin : InB w A sp l) :
    Calls Tryz.prog 45 #[.pointer (some ⟨A.t, 0, none⟩), .agg #[.int .i64 4, .int .i64 fd, .int .i64 n, .int .i64 off, .int .i64 f, .string p, .string t, .slice sp l.length cap]] w (TellPost B A (s.do ⟨4, fd, n, off, f, nb p, nb t, l⟩).2 (s.do ⟨4, fd, n, off, f, nb p, nb t, l⟩).1 w) := by
  have hul' := Lib.hid (show s.do ⟨4, fd, n, off, f, nb p, nb t, l⟩ = s.write fd l from rfl)
  obtain ⟨D0, B0⟩ := do_new h 4 fd n off f p t (.slice sp l.length cap)
  obtain ⟨w0, hw0⟩ : ∃ w0, ((w.alloc (.cells #[.int .i64 4, .int .i64 fd, .int .i64 n, .int .i64 off, .int .i64 f, .string p, .string t, .slice sp l.length cap] 33)).alloc (.cells #[.int .i64 0, .int .i64 0, .int .i64 0, .int .i64 0, .slice none 0 0, .slice none 0 0] 38)) = w0 := ⟨_, rfl⟩
  rw [hw0] at D0 B0
  have Q0 := Lib.hid D0
  have B0' := Lib.hid B0
  have hB0 : B ≤ w0.heap.size := Nat.le_trans hB B0.size
  have hg0 := Lib.hid (show w.heap.size + 1 < w0.heap.size from Q0.out.an.at_.lt)
  have hin0 := Lib.hid (hin.below B0)
  have m0 := Q0.out.op.at_.cell (k := 0) rfl
  have m1 := Q0.out.op.at_.cell (k := 1) rfl
  have m2 := Q0.out.op.at_.cell (k := 2) rfl
  have m3 := Q0.out.op.at_.cell (k := 3) rfl
  have m4 := Q0.out.op.at_.cell (k := 4) rfl
  have m5 := Q0.out.op.at_.cell (k := 5) rfl
  have m6 := Q0.out.op.at_.cell (k := 6) rfl
  have m7 := Q0.out.op.at_.cell (k := 7) rfl
  have tk : True := trivial
  clear h D0 B0 hin
  go_enter Tryz.func45, Tryz.ntmps45
  go_wp2_with (first
    | (go_at_call 82; refine (write_any Q0.out.tree ho hb hB0 fd sp cap l hl hin0.out).mono ?_; rintro e w1 ⟨v, A1, rfl, hT, hS, hA, c, n1, k1, e1, p1, l1, c1, p2, l2, c2, rfl⟩; have T1 := Lib.hid hT; have S1 := Lib.hid hS; have R1 := Lib.hid hA; have V1 := Lib.hid (Q0.out.an.turn hS); clear hT hS hA)
    | (have _t := tk; refine wpList_store_ans rfl (.tmp 4) (.tmp 47) rfl V1.out.at_ rfl rfl c n1 k1 e1 p1 p2 l1 c1 l2 c2 rfl ?_; intro w7 V7 O7; clear tk))
  refine bodyPost_ret (cell_ret2 rfl rfl V7.out Tryz.underlying38 (by rw [Tryz.sizeA]; rfl)) rfl ?_
  rw [hul'.out]
  exact tell_on T1.out Q0.out.step S1.out R1.out ⟨_, _, _, _, _, _, _, _, _, _, rfl⟩ O7.out V1.out.own (Nat.le_succ _) hg0.out rfl
set_option maxHeartbeats 2000000 in
theorem do_pread (h : TreeAt w B A s) (ho : Ok b s) (hB : B ≤ w.heap.size) (hb : b ≤ 900000) (fd n off f : Int) (p t : ByteArray) (sp : Option Addr) (cap : Nat) (l : List Nat) (hl : l.length ≤ 1000000) (hin : InB w A sp l) :
    Calls Tryz.prog 45 #[.pointer (some ⟨A.t, 0, none⟩), .agg #[.int .i64 5, .int .i64 fd, .int .i64 n, .int .i64 off, .int .i64 f, .string p, .string t, .slice sp l.length cap]] w (TellPost B A (s.do ⟨5, fd, n, off, f, nb p, nb t, l⟩).2 (s.do ⟨5, fd, n, off, f, nb p, nb t, l⟩).1 w) := by
  have hul' := Lib.hid (show s.do ⟨5, fd, n, off, f, nb p, nb t, l⟩ = s.readAt fd off n from rfl)
  obtain ⟨D0, B0⟩ := do_new h 5 fd n off f p t (.slice sp l.length cap)
  obtain ⟨w0, hw0⟩ : ∃ w0, ((w.alloc (.cells #[.int .i64 5, .int .i64 fd, .int .i64 n, .int .i64 off, .int .i64 f, .string p, .string t, .slice sp l.length cap] 33)).alloc (.cells #[.int .i64 0, .int .i64 0, .int .i64 0, .int .i64 0, .slice none 0 0, .slice none 0 0] 38)) = w0 := ⟨_, rfl⟩
  rw [hw0] at D0 B0
  have Q0 := Lib.hid D0
  have B0' := Lib.hid B0
  have hB0 : B ≤ w0.heap.size := Nat.le_trans hB B0.size
  have hg0 := Lib.hid (show w.heap.size + 1 < w0.heap.size from Q0.out.an.at_.lt)
  have hin0 := Lib.hid (hin.below B0)
  have m0 := Q0.out.op.at_.cell (k := 0) rfl
  have m1 := Q0.out.op.at_.cell (k := 1) rfl
  have m2 := Q0.out.op.at_.cell (k := 2) rfl
  have m3 := Q0.out.op.at_.cell (k := 3) rfl
  have m4 := Q0.out.op.at_.cell (k := 4) rfl
  have m5 := Q0.out.op.at_.cell (k := 5) rfl
  have m6 := Q0.out.op.at_.cell (k := 6) rfl
  have m7 := Q0.out.op.at_.cell (k := 7) rfl
  have tk : True := trivial
  clear h D0 B0 hin
  go_enter Tryz.func45, Tryz.ntmps45
  go_wp2_with (first
    | (go_at_call 83; refine (readAt_any Q0.out.tree ho hb fd off n).mono ?_; rintro e w1 ⟨v, A1, rfl, hT, hS, hA, c, n1, k1, e1, p1, l1, c1, p2, l2, c2, rfl⟩; have T1 := Lib.hid hT; have S1 := Lib.hid hS; have R1 := Lib.hid hA; have V1 := Lib.hid (Q0.out.an.turn hS); clear hT hS hA)
    | (have _t := tk; refine wpList_store_ans rfl (.tmp 4) (.tmp 59) rfl V1.out.at_ rfl rfl c n1 k1 e1 p1 p2 l1 c1 l2 c2 rfl ?_; intro w7 V7 O7; clear tk))
  refine bodyPost_ret (cell_ret2 rfl rfl V7.out Tryz.underlying38 (by rw [Tryz.sizeA]; rfl)) rfl ?_
  rw [hul'.out]
  exact tell_on T1.out Q0.out.step S1.out R1.out ⟨_, _, _, _, _, _, _, _, _, _, rfl⟩ O7.out V1.out.own (Nat.le_succ _) hg0.out rfl
set_option maxHeartbeats 2000000 in
theorem do_pwrite (h : TreeAt w B A s) (ho : Ok b s) (hB : B ≤ w.heap.size) (hb : b ≤ 900000) (fd n off f : Int) (p t : ByteArray) (sp : Option Addr) (cap : Nat) (l : List Nat) (hl : l.length ≤ 1000000) (hin : InB w A sp l) :
    Calls Tryz.prog 45 #[.pointer (some ⟨A.t, 0, none⟩), .agg #[.int .i64 6, .int .i64 fd, .int .i64 n, .int .i64 off, .int .i64 f, .string p, .string t, .slice sp l.length cap]] w (TellPost B A (s.do ⟨6, fd, n, off, f, nb p, nb t, l⟩).2 (s.do ⟨6, fd, n, off, f, nb p, nb t, l⟩).1 w) := by
  have hul' := Lib.hid (show s.do ⟨6, fd, n, off, f, nb p, nb t, l⟩ = s.writeAt fd off l from rfl)
  obtain ⟨D0, B0⟩ := do_new h 6 fd n off f p t (.slice sp l.length cap)
  obtain ⟨w0, hw0⟩ : ∃ w0, ((w.alloc (.cells #[.int .i64 6, .int .i64 fd, .int .i64 n, .int .i64 off, .int .i64 f, .string p, .string t, .slice sp l.length cap] 33)).alloc (.cells #[.int .i64 0, .int .i64 0, .int .i64 0, .int .i64 0, .slice none 0 0, .slice none 0 0] 38)) = w0 := ⟨_, rfl⟩
  rw [hw0] at D0 B0
  have Q0 := Lib.hid D0
  have B0' := Lib.hid B0
  have hB0 : B ≤ w0.heap.size := Nat.le_trans hB B0.size
  have hg0 := Lib.hid (show w.heap.size + 1 < w0.heap.size from Q0.out.an.at_.lt)
  have hin0 := Lib.hid (hin.below B0)
  have m0 := Q0.out.op.at_.cell (k := 0) rfl
  have m1 := Q0.out.op.at_.cell (k := 1) rfl
  have m2 := Q0.out.op.at_.cell (k := 2) rfl
  have m3 := Q0.out.op.at_.cell (k := 3) rfl
  have m4 := Q0.out.op.at_.cell (k := 4) rfl
  have m5 := Q0.out.op.at_.cell (k := 5) rfl
  have m6 := Q0.out.op.at_.cell (k := 6) rfl
  have m7 := Q0.out.op.at_.cell (k := 7) rfl
  have tk : True := trivial
  clear h D0 B0 hin
  go_enter Tryz.func45, Tryz.ntmps45
  go_wp2_with (first
    | (go_at_call 84; refine (writeAt_any Q0.out.tree ho hb hB0 fd off sp cap l hl hin0.out).mono ?_; rintro e w1 ⟨v, A1, rfl, hT, hS, hA, c, n1, k1, e1, p1, l1, c1, p2, l2, c2, rfl⟩; have T1 := Lib.hid hT; have S1 := Lib.hid hS; have R1 := Lib.hid hA; have V1 := Lib.hid (Q0.out.an.turn hS); clear hT hS hA)
    | (have _t := tk; refine wpList_store_ans rfl (.tmp 4) (.tmp 71) rfl V1.out.at_ rfl rfl c n1 k1 e1 p1 p2 l1 c1 l2 c2 rfl ?_; intro w7 V7 O7; clear tk))
  refine bodyPost_ret (cell_ret2 rfl rfl V7.out Tryz.underlying38 (by rw [Tryz.sizeA]; rfl)) rfl ?_
  rw [hul'.out]
  exact tell_on T1.out Q0.out.step S1.out R1.out ⟨_, _, _, _, _, _, _, _, _, _, rfl⟩ O7.out V1.out.own (Nat.le_succ _) hg0.out rfl
set_option maxHeartbeats 2000000 in
theorem do_seek (h : TreeAt w B A s) (ho : Ok b s) (hB : B ≤ w.heap.size) (hb : b ≤ 900000) (fd n off f : Int) (p t : ByteArray) (sp : Option Addr) (cap : Nat) (l : List Nat) (hl : l.length ≤ 1000000) (hin : InB w A sp l) :
    Calls Tryz.prog 45 #[.pointer (some ⟨A.t, 0, none⟩), .agg #[.int .i64 7, .int .i64 fd, .int .i64 n, .int .i64 off, .int .i64 f, .string p, .string t, .slice sp l.length cap]] w (TellPost B A (s.do ⟨7, fd, n, off, f, nb p, nb t, l⟩).2 (s.do ⟨7, fd, n, off, f, nb p, nb t, l⟩).1 w) := by
  have hul' := Lib.hid (show s.do ⟨7, fd, n, off, f, nb p, nb t, l⟩ = s.seek fd off n from rfl)
  obtain ⟨D0, B0⟩ := do_new h 7 fd n off f p t (.slice sp l.length cap)
  obtain ⟨w0, hw0⟩ : ∃ w0, ((w.alloc (.cells #[.int .i64 7, .int .i64 fd, .int .i64 n, .int .i64 off, .int .i64 f, .string p, .string t, .slice sp l.length cap] 33)).alloc (.cells #[.int .i64 0, .int .i64 0, .int .i64 0, .int .i64 0, .slice none 0 0, .slice none 0 0] 38)) = w0 := ⟨_, rfl⟩
  rw [hw0] at D0 B0
  have Q0 := Lib.hid D0
  have B0' := Lib.hid B0
  have hB0 : B ≤ w0.heap.size := Nat.le_trans hB B0.size
  have hg0 := Lib.hid (show w.heap.size + 1 < w0.heap.size from Q0.out.an.at_.lt)
  have hin0 := Lib.hid (hin.below B0)
  have m0 := Q0.out.op.at_.cell (k := 0) rfl
  have m1 := Q0.out.op.at_.cell (k := 1) rfl
  have m2 := Q0.out.op.at_.cell (k := 2) rfl
  have m3 := Q0.out.op.at_.cell (k := 3) rfl
  have m4 := Q0.out.op.at_.cell (k := 4) rfl
  have m5 := Q0.out.op.at_.cell (k := 5) rfl
  have m6 := Q0.out.op.at_.cell (k := 6) rfl
  have m7 := Q0.out.op.at_.cell (k := 7) rfl
  have tk : True := trivial
  clear h D0 B0 hin
  go_enter Tryz.func45, Tryz.ntmps45
  go_wp2_with (first
    | (go_at_call 85; refine (seek_any Q0.out.tree ho hb fd off n).mono ?_; rintro e w1 ⟨v, A1, rfl, hT, hS, hA, c, n1, k1, e1, p1, l1, c1, p2, l2, c2, rfl⟩; have T1 := Lib.hid hT; have S1 := Lib.hid hS; have R1 := Lib.hid hA; have V1 := Lib.hid (Q0.out.an.turn hS); clear hT hS hA)
    | (have _t := tk; refine wpList_store_ans rfl (.tmp 4) (.tmp 83) rfl V1.out.at_ rfl rfl c n1 k1 e1 p1 p2 l1 c1 l2 c2 rfl ?_; intro w7 V7 O7; clear tk))
  refine bodyPost_ret (cell_ret2 rfl rfl V7.out Tryz.underlying38 (by rw [Tryz.sizeA]; rfl)) rfl ?_
  rw [hul'.out]
  exact tell_on T1.out Q0.out.step S1.out R1.out ⟨_, _, _, _, _, _, _, _, _, _, rfl⟩ O7.out V1.out.own (Nat.le_succ _) hg0.out rfl
set_option maxHeartbeats 2000000 in
theorem do_trunc (h : TreeAt w B A s) (ho : Ok b s) (hB : B ≤ w.heap.size) (hb : b ≤ 900000) (fd n off f : Int) (p t : ByteArray) (sp : Option Addr) (cap : Nat) (l : List Nat) (hl : l.length ≤ 1000000) (hin : InB w A sp l) :
    Calls Tryz.prog 45 #[.pointer (some ⟨A.t, 0, none⟩), .agg #[.int .i64 8, .int .i64 fd, .int .i64 n, .int .i64 off, .int .i64 f, .string p, .string t, .slice sp l.length cap]] w (TellPost B A (s.do ⟨8, fd, n, off, f, nb p, nb t, l⟩).2 (s.do ⟨8, fd, n, off, f, nb p, nb t, l⟩).1 w) := by
  have hul' := Lib.hid (show s.do ⟨8, fd, n, off, f, nb p, nb t, l⟩ = s.trunc fd off from rfl)
  obtain ⟨D0, B0⟩ := do_new h 8 fd n off f p t (.slice sp l.length cap)
  obtain ⟨w0, hw0⟩ : ∃ w0, ((w.alloc (.cells #[.int .i64 8, .int .i64 fd, .int .i64 n, .int .i64 off, .int .i64 f, .string p, .string t, .slice sp l.length cap] 33)).alloc (.cells #[.int .i64 0, .int .i64 0, .int .i64 0, .int .i64 0, .slice none 0 0, .slice none 0 0] 38)) = w0 := ⟨_, rfl⟩
  rw [hw0] at D0 B0
  have Q0 := Lib.hid D0
  have B0' := Lib.hid B0
  have hB0 : B ≤ w0.heap.size := Nat.le_trans hB B0.size
  have hg0 := Lib.hid (show w.heap.size + 1 < w0.heap.size from Q0.out.an.at_.lt)
  have hin0 := Lib.hid (hin.below B0)
  have m0 := Q0.out.op.at_.cell (k := 0) rfl
  have m1 := Q0.out.op.at_.cell (k := 1) rfl
  have m2 := Q0.out.op.at_.cell (k := 2) rfl
  have m3 := Q0.out.op.at_.cell (k := 3) rfl
  have m4 := Q0.out.op.at_.cell (k := 4) rfl
  have m5 := Q0.out.op.at_.cell (k := 5) rfl
  have m6 := Q0.out.op.at_.cell (k := 6) rfl
  have m7 := Q0.out.op.at_.cell (k := 7) rfl
  have tk : True := trivial
  clear h D0 B0 hin
  go_enter Tryz.func45, Tryz.ntmps45
  go_wp2_with (first
    | (go_at_call 86; refine (trunc_any Q0.out.tree ho hb hB0 fd off).mono ?_; rintro e w1 ⟨rfl, A1, hT, hS⟩; have T1 := Lib.hid hT; have S1 := Lib.hid (Q0.out.step.trans hS); have V1 := Lib.hid (Q0.out.an.turn hS); clear hT hS)
    | (go_at_call 79; refine (only_any _ _).mono ?_; rintro e w8 ⟨rfl, hb8⟩; have V8 := Lib.hid (V1.out.turn (TStep.of_below _ hb8)); have T8 := Lib.hid (T1.out.below hb8); have S8 := Lib.hid (S1.out.trans (TStep.of_below _ hb8)); clear hb8)
    | (have _t := tk; refine wpList_store_ans rfl (.tmp 4) (.tmp 94) rfl V8.out.at_ rfl rfl 0 0 0 0 none none 0 0 0 0 rfl ?_; intro w7 V7 O7; clear tk))
  refine bodyPost_ret (cell_ret2 rfl rfl V7.out Tryz.underlying38 (by rw [Tryz.sizeA]; rfl)) rfl ?_
  rw [hul'.out]
  exact tell_only T8.out S8.out O7.out V8.out.own (Nat.le_succ _) rfl (codeA_trunc s fd off)
end
end Go.Proofs.YtgcodlicbdaddaaGreatDoor
end
