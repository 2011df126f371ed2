/-
  A code leaves all as it was; a new tree is one that may be; what many operations leave.
  A new tree; an operation as it is told; a path's number.
  What all nodes take.
-/
import Derived.Test.YtgcodlicbdaddaaGreatDoorB32
import Derived.Test.YtgcodlicbdaddaaGreatDoorB41
import Derived.Test.YtgcodlicbdaddaaGreatDoorB4
import Derived.Shelf.SlMaps.Clone
import Derived.Test.YtgcodlicbdaddaaGreatDoorB10
import Derived.Test.YtgcodlicbdaddaaGreatDoorB17

section
set_option linter.unusedVariables false
set_option linter.unusedSimpArgs false
namespace Go.Proofs.YtgcodlicbdaddaaGreatDoor

/-- a code goes with nothing done -/
def Still (s : Tr) (r : Ans × Tr) : Prop := r.1.code ≠ 0 → r.2 = s
theorem Tr.still_open (s : Tr) (p : List Nat) (f : Int) : Still s (s.open p f) := by
  unfold Tr.open
  repeat' refine ite_to ?_ ?_
  all_goals (intro h; first | rfl | exact absurd rfl h)
theorem Tr.still_close (s : Tr) (fd : Int) : Still s (s.close fd) := by
  unfold Tr.close
  repeat' refine ite_to ?_ ?_
  all_goals (intro h; first | rfl | exact absurd rfl h)
theorem Tr.still_read (s : Tr) (fd n : Int) : Still s (s.read fd n) := by
  unfold Tr.read
  repeat' refine ite_to ?_ ?_
  all_goals (intro h; first | rfl | exact absurd rfl h)
theorem Tr.still_write (s : Tr) (fd : Int) (l : List Nat) : Still s (s.write fd l) := by
  unfold Tr.write
  repeat' refine ite_to ?_ ?_
  all_goals (intro h; first | rfl | exact absurd rfl h)
theorem Tr.still_readAt (s : Tr) (fd off n : Int) : Still s (s.readAt fd off n) := by
  unfold Tr.readAt
  repeat' refine ite_to ?_ ?_
  all_goals (intro h; first | rfl | exact absurd rfl h)
theorem Tr.still_writeAt (s : Tr) (fd off : Int) (l : List Nat) : Still s (s.writeAt fd off l) := by
  unfold Tr.writeAt
  repeat' refine ite_to ?_ ?_
  all_goals (intro h; first | rfl | exact absurd rfl h)
theorem Tr.still_seek (s : Tr) (fd off n : Int) : Still s (s.seek fd off n) := by
  unfold Tr.seek
  repeat' refine ite_to ?_ ?_
  all_goals (intro h; first | rfl | exact absurd rfl h)
theorem Tr.still_trunc (s : Tr) (fd n : Int) : Still s (s.trunc fd n) := by
  unfold Tr.trunc
  repeat' refine ite_to ?_ ?_
  all_goals (intro h; first | rfl | exact absurd rfl h)
theorem Tr.still_mkdir (s : Tr) (p : List Nat) : Still s (s.mkdir p) := by
  unfold Tr.mkdir
  repeat' refine ite_to ?_ ?_
  all_goals (intro h; first | rfl | exact absurd rfl h)
theorem Tr.still_rmdir (s : Tr) (p : List Nat) : Still s (s.rmdir p) := by
  unfold Tr.rmdir
  repeat' refine ite_to ?_ ?_
  all_goals (intro h; first | rfl | exact absurd rfl h)
theorem Tr.still_unlink (s : Tr) (p : List Nat) : Still s (s.unlink p) := by
  unfold Tr.unlink
  repeat' refine ite_to ?_ ?_
  all_goals (intro h; first | rfl | exact absurd rfl h)
theorem Tr.still_link (s : Tr) (p q : List Nat) : Still s (s.link p q) := by
  unfold Tr.link
  repeat' refine ite_to ?_ ?_
  all_goals (intro h; first | rfl | exact absurd rfl h)
theorem Tr.still_symlink (s : Tr) (p q : List Nat) : Still s (s.symlink p q) := by
  unfold Tr.symlink
  repeat' refine ite_to ?_ ?_
  all_goals (intro h; first | rfl | exact absurd rfl h)
theorem Tr.still_rename (s : Tr) (p q : List Nat) : Still s (s.rename p q) := by
  unfold Tr.rename
  repeat' refine ite_to ?_ ?_
  all_goals (intro h; first | rfl | exact absurd rfl h)
theorem Tr.do_code (s : Tr) (o : Opt) (h : (s.do o).1.code ≠ 0) : (s.do o).2 = s := by
  have hz : ∀ a : Ans, Still s (a, s) := fun _ _ => rfl
  refine (show Still s (s.do o) from ?_) h
  unfold Tr.do
  refine ite_to (P := Still s) (s.still_open _ _) ?_
  refine ite_to (P := Still s) (s.still_close _) ?_
  refine ite_to (P := Still s) (s.still_read _ _) ?_
  refine ite_to (P := Still s) (s.still_write _ _) ?_
  refine ite_to (P := Still s) (s.still_readAt _ _ _) ?_
  refine ite_to (P := Still s) (s.still_writeAt _ _ _) ?_
  refine ite_to (P := Still s) (s.still_seek _ _ _) ?_
  refine ite_to (P := Still s) (s.still_trunc _ _) ?_
  refine ite_to (P := Still s) (s.still_mkdir _) ?_
  refine ite_to (P := Still s) (s.still_rmdir _) ?_
  refine ite_to (P := Still s) (s.still_unlink _) ?_
  refine ite_to (P := Still s) (s.still_link _ _) ?_
  refine ite_to (P := Still s) (s.still_symlink _ _) ?_
  refine ite_to (P := Still s) (hz _) ?_
  refine ite_to (P := Still s) (s.still_rename _ _) ?_
  refine ite_to (P := Still s) (hz _) ?_
  refine ite_to (P := Still s) (hz _) ?_
  refine ite_to (P := Still s) (hz _) ?_
  refine ite_to (P := Still s) (hz _) ?_
  refine ite_to (P := Still s) (hz _) ?_
  exact ite_to (P := Still s) (hz _) (hz _)
theorem z16_pl (k : Nat) : pl z16 k = p0 := by unfold z16; exact pl_rep 16 k
theorem tr0_opt {i : Nat} {x : Nd} (h : tr0.opt i = some x) : i = 1 ∧ x = { ndNew 2 with links := 1 } := by
  unfold Tr.opt tr0 at h
  match i, h with
  | 0, h => cases h
  | 1, h => exact ⟨rfl, (Option.some.inj h).symm⟩
  | n + 2, h => simp at h
theorem ok_tr0 : Ok 1 tr0 := by
  refine ⟨⟨by decide, rfl, rfl⟩, rfl, ⟨by decide, by decide⟩, fun i x hx => ?_, fun i x hx e he => ?_, fun i x hx hu => ?_, ⟨fun _ => 0, fun i x hx hu => ?_⟩, fun i x hx => ?_, fun i x hx _ hi _ => ?_, fun i x hx hl => ?_, by decide, fun k _ hon => ?_⟩
  · obtain ⟨_, rfl⟩ := tr0_opt hx
    exact ⟨.inr (.inl rfl), fun h => absurd rfl h, fun h => (by cases h), fun _ => rfl, List.Pairwise.nil, fun e he => (by cases he), Nat.le_refl _, Nat.zero_le _, Nat.zero_le _, .nil, Nat.zero_le _⟩
  · obtain ⟨_, rfl⟩ := tr0_opt hx
    cases he
  · obtain ⟨_, rfl⟩ := tr0_opt hx
    exact absurd rfl hu
  · obtain ⟨_, rfl⟩ := tr0_opt hx
    exact absurd rfl hu
  · obtain ⟨rfl, rfl⟩ := tr0_opt hx
    rfl
  · exact absurd (tr0_opt hx).1 hi
  · obtain ⟨_, rfl⟩ := tr0_opt hx
    cases hl
  · rw [show tr0.tb = z16 from rfl, z16_pl] at hon
    cases hon
/-- what operations leave, one behind the other -/
def Tr.run (s : Tr) : List Opt → Tr
  | [] => s
  | o :: r => ((s.do o).2).run r
theorem Tr.run_append (s : Tr) : ∀ (a b : List Opt), s.run (a ++ b) = (s.run a).run b
  | [], _ => rfl
  | o :: r, b => Tr.run_append _ r b
theorem Tr.run_snoc (s : Tr) (a : List Opt) (o : Opt) : s.run (a ++ [o]) = ((s.run a).do o).2 := by rw [Tr.run_append]; rfl
end Go.Proofs.YtgcodlicbdaddaaGreatDoor
end

section
set_option linter.unusedVariables false
set_option linter.unusedSimpArgs false
namespace Go.Proofs.YtgcodlicbdaddaaGreatDoor
open Go.RowKit BigFrame
set_option maxRecDepth 100000

/-! ### A code and nothing else -/
def Sole (r : Ans × Tr) : Prop := r.1.code ≠ 0 → r.1 = ansC r.1.code
theorem sole_open (s : Tr) (p : List Nat) (f : Int) : Sole (s.open p f) := by
  unfold Tr.open
  repeat' refine ite_to ?_ ?_
  all_goals (intro h; first | rfl | exact absurd rfl h)
theorem sole_close (s : Tr) (fd : Int) : Sole (s.close fd) := by
  unfold Tr.close
  repeat' refine ite_to ?_ ?_
  all_goals (intro h; first | rfl | exact absurd rfl h)
theorem sole_read (s : Tr) (fd n : Int) : Sole (s.read fd n) := by
  unfold Tr.read
  repeat' refine ite_to ?_ ?_
  all_goals (intro h; first | rfl | exact absurd rfl h)
theorem sole_write (s : Tr) (fd : Int) (l : List Nat) : Sole (s.write fd l) := by
  unfold Tr.write
  repeat' refine ite_to ?_ ?_
  all_goals (intro h; first | rfl | exact absurd rfl h)
theorem sole_readAt (s : Tr) (fd off n : Int) : Sole (s.readAt fd off n) := by
  unfold Tr.readAt
  repeat' refine ite_to ?_ ?_
  all_goals (intro h; first | rfl | exact absurd rfl h)
theorem sole_writeAt (s : Tr) (fd off : Int) (l : List Nat) : Sole (s.writeAt fd off l) := by
  unfold Tr.writeAt
  repeat' refine ite_to ?_ ?_
  all_goals (intro h; first | rfl | exact absurd rfl h)
theorem sole_seek (s : Tr) (fd off n : Int) : Sole (s.seek fd off n) := by
  unfold Tr.seek
  repeat' refine ite_to ?_ ?_
  all_goals (intro h; first | rfl | exact absurd rfl h)
theorem sole_trunc (s : Tr) (fd n : Int) : Sole (s.trunc fd n) := by
  unfold Tr.trunc
  repeat' refine ite_to ?_ ?_
  all_goals (intro h; first | rfl | exact absurd rfl h)
theorem sole_mkdir (s : Tr) (p : List Nat) : Sole (s.mkdir p) := by
  unfold Tr.mkdir
  repeat' refine ite_to ?_ ?_
  all_goals (intro h; first | rfl | exact absurd rfl h)
theorem sole_rmdir (s : Tr) (p : List Nat) : Sole (s.rmdir p) := by
  unfold Tr.rmdir
  repeat' refine ite_to ?_ ?_
  all_goals (intro h; first | rfl | exact absurd rfl h)
theorem sole_unlink (s : Tr) (p : List Nat) : Sole (s.unlink p) := by
  unfold Tr.unlink
  repeat' refine ite_to ?_ ?_
  all_goals (intro h; first | rfl | exact absurd rfl h)
theorem sole_link (s : Tr) (p q : List Nat) : Sole (s.link p q) := by
  unfold Tr.link
  repeat' refine ite_to ?_ ?_
  all_goals (intro h; first | rfl | exact absurd rfl h)
theorem sole_symlink (s : Tr) (p q : List Nat) : Sole (s.symlink p q) := by
  unfold Tr.symlink
  repeat' refine ite_to ?_ ?_
  all_goals (intro h; first | rfl | exact absurd rfl h)
theorem sole_rename (s : Tr) (p q : List Nat) : Sole (s.rename p q) := by
  unfold Tr.rename
  repeat' refine ite_to ?_ ?_
  all_goals (intro h; first | rfl | exact absurd rfl h)
theorem sole_stat (s : Tr) (p : List Nat) (b : Bool) : Sole (s.stat p b, s) := by
  show (s.stat p b).code ≠ 0 → s.stat p b = ansC (s.stat p b).code
  unfold Tr.stat
  repeat' refine ite_to (P := fun a : Ans => a.code ≠ 0 → a = ansC a.code) ?_ ?_
  all_goals (intro h; first | rfl | exact absurd rfl h)
theorem sole_readLink (s : Tr) (p : List Nat) : Sole (s.readLink p, s) := by
  show (s.readLink p).code ≠ 0 → s.readLink p = ansC (s.readLink p).code
  unfold Tr.readLink
  repeat' refine ite_to (P := fun a : Ans => a.code ≠ 0 → a = ansC a.code) ?_ ?_
  all_goals (intro h; first | rfl | exact absurd rfl h)
theorem sole_readDir (s : Tr) (p : List Nat) : Sole (s.readDir p, s) := by
  show (s.readDir p).code ≠ 0 → s.readDir p = ansC (s.readDir p).code
  unfold Tr.readDir
  repeat' refine ite_to (P := fun a : Ans => a.code ≠ 0 → a = ansC a.code) ?_ ?_
  all_goals (intro h; first | rfl | exact absurd rfl h)
theorem Tr.do_sole (s : Tr) (o : Opt) : Sole (s.do o) := by
  unfold Tr.do
  refine ite_to (P := Sole) (sole_open s _ _) ?_
  refine ite_to (P := Sole) (sole_close s _) ?_
  refine ite_to (P := Sole) (sole_read s _ _) ?_
  refine ite_to (P := Sole) (sole_write s _ _) ?_
  refine ite_to (P := Sole) (sole_readAt s _ _ _) ?_
  refine ite_to (P := Sole) (sole_writeAt s _ _ _) ?_
  refine ite_to (P := Sole) (sole_seek s _ _ _) ?_
  refine ite_to (P := Sole) (sole_trunc s _ _) ?_
  refine ite_to (P := Sole) (sole_mkdir s _) ?_
  refine ite_to (P := Sole) (sole_rmdir s _) ?_
  refine ite_to (P := Sole) (sole_unlink s _) ?_
  refine ite_to (P := Sole) (sole_link s _ _) ?_
  refine ite_to (P := Sole) (sole_symlink s _ _) ?_
  refine ite_to (P := Sole) (sole_readLink s _) ?_
  refine ite_to (P := Sole) (sole_rename s _ _) ?_
  refine ite_to (P := Sole) (sole_stat s _ _) ?_
  refine ite_to (P := Sole) (sole_stat s _ _) ?_
  refine ite_to (P := Sole) (sole_readDir s _) ?_
  have hs : ∀ (c : Prop) [Decidable c] (x y : Ans), (x = ans0 ∨ ∃ c, x = ansC c) → (y = ans0 ∨ ∃ c, y = ansC c) → Sole ((if c then x else y), s) := fun c _ x y hx hy _ => ansC_code (ite_to (P := fun a => a = ans0 ∨ ∃ c, a = ansC c) hx hy)
  refine ite_to (P := Sole) (hs _ _ _ (.inl rfl) (.inr ⟨_, rfl⟩)) ?_
  refine ite_to (P := Sole) (fun h => rfl) ?_
  exact ite_to (P := Sole) (hs _ _ _ (.inr ⟨_, rfl⟩) (.inl rfl)) (fun _ => rfl)
section
variable {w : World} {B b : Nat} {A : Ad} {s : Tr}
/-! ### none -/
theorem noneT_no (h : TreeAt w B A s) : Calls Tryz.prog 44 #[.pointer (some ⟨A.t, 0, none⟩)] w fun e w' => e = .returned (.bool false) ∧ w = w' := by
  have cm := h.maps
  have hq := run_eql_map_nil_sl (P := Tryz.prog) (w := w) 68 3 77 (some A.m) Tryz.underlying68
  clear h
  go_enter Tryz.func44, Tryz.ntmps44
  go_wp2_with fail
  go_ret
  exact ⟨rfl, rfl⟩
theorem noneT_nil (w : World) : Calls Tryz.prog 44 #[.pointer none] w fun e w' => e = .returned (.bool true) ∧ w = w' := by
  go_enter Tryz.func44, Tryz.ntmps44
  go_wp2_with fail
  go_ret
  exact ⟨rfl, rfl⟩
/-! ### Number -/
theorem number_any (h : TreeAt w B A s) (ho : Ok b s) (hb : b ≤ 900000) (p : ByteArray) :
    Calls Tryz.prog 24 #[.pointer (some ⟨A.t, 0, none⟩), .string p] w (Tells (.int .i64 ((s.number (nb p) : Nat) : Int)) w) := by
  have h' := Lib.hid h
  have hfi := find_any h ho (by omega) p true
  unfold StepPost at hfi
  have hul : s.number (nb p) = if (s.find (nb p) true).1 ≠ 0 then 0 else (s.find (nb p) true).2 := rfl
  have hal := ho.find_alive (p := nb p) (itself := true)
  obtain ⟨⟨c1, i⟩, hq1⟩ : ∃ z, s.find (nb p) true = z := ⟨_, rfl⟩
  rw [hq1] at hfi hul hal
  have hfi' := Lib.hid hfi
  clear h hfi hq1
  by_cases hc1 : c1 = 0
  · subst hc1
    obtain ⟨x, hx⟩ := hal rfl
    rw [if_neg (fun h => h rfl)] at hul
    have hul' := Lib.hid hul
    have hx' := Lib.hid hx
    clear hul hx hal
    go_enter Tryz.func24, Tryz.ntmps24
    go_wp2_with (first
      | (go_at_call 44; refine (noneT_no h'.out).mono ?_; rintro e w0 ⟨rfl, rfl⟩)
      | (go_at_call 59; refine hfi'.out.mono ?_; rintro e w1 ⟨rfl, hb1⟩; have hB1 := Lib.hid hb1; have cn := ((h'.out.below hb1).node i x hx'.out).num; clear hb1))
    go_ret
    rw [hul'.out]
    exact ⟨rfl, hB1.out⟩
  · rw [if_pos hc1] at hul
    have hul' := Lib.hid hul
    have t0 : (c1 != 0) = true := by rw [bne_iff_ne]; exact hc1
    clear hul hal
    go_enter Tryz.func24, Tryz.ntmps24
    go_wp2_with (first
      | (go_at_call 44; refine (noneT_no h'.out).mono ?_; rintro e w0 ⟨rfl, rfl⟩)
      | (go_at_call 59; refine hfi'.out.mono ?_; rintro e w1 ⟨rfl, hb1⟩; have hB1 := Lib.hid hb1; clear hb1))
    go_ret
    rw [hul'.out]
    exact ⟨rfl, hB1.out⟩
theorem number_nil (w : World) (p : ByteArray) : Calls Tryz.prog 24 #[.pointer none, .string p] w fun e w' => e = .returned (.int .i64 0) ∧ w = w' := by
  go_enter Tryz.func24, Tryz.ntmps24
  go_wp2_with (go_at_call 44; refine (noneT_nil _).mono ?_; rintro e w0 ⟨rfl, rfl⟩)
  go_ret
  exact ⟨rfl, rfl⟩
/-! ### Do -/
/-- what is told of an operation, whole -/
def DonePost (B : Nat) (A : Ad) (s' : Tr) (a : Ans) (w : World) (e : Ending) (w' : World) : Prop :=
  ∃ p1 n1 c1 p2 n2 c2 A', e = .returned (ansV a.code a.n a.kind a.links (.slice p1 n1 c1) (.slice p2 n2 c2)) ∧ TreeAt w' B A' s' ∧ TStep w A w' A' ∧ OwnB w' w.heap.size (.slice p1 n1 c1) a.data ∧ OwnT w' w.heap.size (.slice p2 n2 c2) a.names ∧
    (∀ g, (Value.slice p1 n1 c1).ownBlock = some g → A'.own g = none) ∧ ∀ g, (Value.slice p2 n2 c2).ownBlock = some g → A'.own g = none
theorem done_at {w0 w1 w3 w4 w6 : World} {A1 : Ad} {s' : Tr} {g g3 : Nat} {dv ns : Value} {l : List Nat} {L : List (List Nat)} (T1 : TreeAt w1 B A1 s') (S1 : TStep w A w1 A1) (o1 : OwnB w1 w0.heap.size dv l) (o2 : OwnT w1 w0.heap.size ns L) (B3 : Below w1.heap.size w1 w3) (hg3 : w1.heap.size ≤ g3)
    (X4 : Oth g3 w3 w4) (X6 : Oth g w4 w6) (hg : w.heap.size ≤ g) (hg0 : g < w0.heap.size) (hz : w0.heap.size ≤ w1.heap.size) (hown : A1.own g = none) (hlw : w.heap.size ≤ w0.heap.size) : TreeAt w6 B A1 s' ∧ TStep w A w6 A1 ∧ OwnB w6 w.heap.size dv l ∧ OwnT w6 w.heap.size ns L := by
  have hblk : ∀ k, k < w1.heap.size → k ≠ g → w6.heap[k]? = w1.heap[k]? := fun k hk hn => (X6.block k hn).trans ((X4.block k (by omega)).trans (B3.block k hk))
  have hsz : w1.heap.size ≤ w6.heap.size := by rw [X6.size, X4.size]; exact B3.size
  refine ⟨T1.keep hsz fun k r hk => hblk k (T1.hi k r hk).2 (fun e => by rw [e, hown] at hk; cases hk), (S1.trans ((TStep.of_below A1 B3).oth X4 hg3)).oth X6 hg, (o1.lower hlw).blk fun k hk => hblk k (o1.hi hk).2 (fun e => by have := (o1.hi hk).1; omega), ?_⟩
  have h3 := o2.lower hlw
  rcases h3.2 with ⟨rfl, h0⟩ | ⟨k, cap, cur, rfl, q1, q2, q3⟩
  · exact ⟨h3.1, .inl ⟨rfl, h0⟩⟩
  · exact ⟨h3.1, .inr ⟨k, cap, cur, rfl, q1, (hblk k (o2.block k rfl).2 (fun e => by have := (o2.block k rfl).1; omega)).trans q2, q3⟩⟩
set_option maxHeartbeats 2000000 in
theorem Do_any (h : TreeAt w B A s) (ho : Ok b s) (hB : B ≤ w.heap.size) (hb : b ≤ 900000) (k fd n off f : Int) (p t : ByteArray) (sp : Option Addr) (cap : Nat) (l : List Nat) (hl : l.length ≤ 1000000) (hin : InB w A sp l) :
    Calls Tryz.prog 20 #[.pointer (some ⟨A.t, 0, none⟩), .agg #[.int .i64 k, .int .i64 fd, .int .i64 n, .int .i64 off, .int .i64 f, .string p, .string t, .slice sp l.length cap]] w (DonePost B A (s.do ⟨k, fd, n, off, f, nb p, nb t, l⟩).2 (s.do ⟨k, fd, n, off, f, nb p, nb t, l⟩).1 w) := by
  obtain ⟨D0, B0⟩ := do_new h k fd n off f p t (.slice sp l.length cap)
  obtain ⟨w0, hw0⟩ : ∃ w0, ((w.alloc (.cells #[.int .i64 k, .int .i64 fd, .int .i64 n, .int .i64 off, .int .i64 f, .string p, .string t, .slice sp l.length cap] 33)).alloc (.cells #[.int .i64 0, .int .i64 0, .int .i64 0, .int .i64 0, .slice none 0 0, .slice none 0 0] 38)) = w0 := ⟨_, rfl⟩
  rw [hw0] at D0 B0
  have Q0 := Lib.hid D0
  have hB0 : B ≤ w0.heap.size := Nat.le_trans hB B0.size
  have hg0 := Lib.hid (show w.heap.size + 1 < w0.heap.size from Q0.out.an.at_.lt)
  have hdo := Lib.hid (doOp_any Q0.out.tree ho hB0 hb k fd n off f p t sp cap l hl (hin.below B0))
  have hso := Lib.hid (s.do_sole ⟨k, fd, n, off, f, nb p, nb t, l⟩)
  obtain ⟨⟨a, s'⟩, hr⟩ : ∃ r, s.do ⟨k, fd, n, off, f, nb p, nb t, l⟩ = r := ⟨_, rfl⟩
  rw [hr] at hdo hso ⊢
  have hlw := Lib.hid B0.size
  have m0 := Q0.out.op.at_.cell (k := 0) rfl
  have m1 := Q0.out.op.at_.cell (k := 1) rfl
  have m2 := Q0.out.op.at_.cell (k := 2) rfl
  have m3 := Q0.out.op.at_.cell (k := 3) rfl
  have m4 := Q0.out.op.at_.cell (k := 4) rfl
  have m5 := Q0.out.op.at_.cell (k := 5) rfl
  have m6 := Q0.out.op.at_.cell (k := 6) rfl
  have m7 := Q0.out.op.at_.cell (k := 7) rfl
  clear h B0 D0 hin hr
  obtain ⟨cd, hcd⟩ : ∃ c, a.code = c := ⟨_, rfl⟩
  have hcd' := Lib.hid hcd
  unfold TellPost at hdo
  simp only [hcd] at hdo
  clear hcd
  by_cases hc : cd = 0
  · subst hc
    go_enter Tryz.func20, Tryz.ntmps20
    go_wp2_with (first
      | (go_at_call 44; refine (noneT_no Q0.out.tree).mono ?_; rintro e w9 ⟨rfl, rfl⟩)
      | (go_at_call 45; refine hdo.out.mono ?_; rintro e w1 ⟨v, A1, rfl, hT, hS, hA, _⟩; obtain ⟨dv, ns, rfl, o1, o2, o3, o4⟩ := (hA (by trivial)).form; obtain ⟨p1, c1, rfl, _⟩ := o1.slice; obtain ⟨p2, c2, rfl, _⟩ := o2.slice; have T1 := Lib.hid hT; have S1 := Lib.hid (Q0.out.step.trans hS); have V1 := Lib.hid (Q0.out.an.turn hS); have O1 := Lib.hid o1; have O2 := Lib.hid o2; have O3 := Lib.hid o3; have O4 := Lib.hid o4; have hz1 := Lib.hid hS.size; have tk : True := trivial; have tk2 : True := trivial; have tk3 : True := trivial; clear hT hS hA o1 o2 o3 o4)
      | (have _t := tk; refine wpList_alloc_ansv rfl rfl ?_; intro g3 w3 V3 g3l b3; have G3 := Lib.hid g3l; have B3 := Lib.hid b3; have U3 := Lib.hid (V1.out.at_.on' b3); clear tk g3l b3)
      | (have _t := tk2; refine wpList_store_ans rfl (.tmp 5) (.tmp 14) rfl V3.out rfl rfl 0 a.n a.kind a.links p1 p2 _ c1 _ c2 rfl ?_; intro w4 V4 X4; have U4 := Lib.hid (U3.out.oth X4.out (by have := G3.out; have := hz1.out; have := hg0.out; omega)); have q0 := V4.out.cell (k := 0) rfl; have q1 := V4.out.cell (k := 1) rfl; have q2 := V4.out.cell (k := 2) rfl; have q3 := V4.out.cell (k := 3) rfl; have q4 := V4.out.cell (k := 4) rfl; have q5 := V4.out.cell (k := 5) rfl; clear tk2)
      | (have _t := tk3; refine wpList_store_ans rfl (.tmp 4) (.tmp 20) rfl U4.out rfl rfl 0 a.n a.kind a.links p1 p2 _ c1 _ c2 rfl ?_; intro w6 V6 X6; clear tk3))
    refine bodyPost_ret (cell_ret1 rfl rfl V6.out Tryz.underlying38 (by rw [Tryz.sizeA]; rfl)) rfl ?_
    obtain ⟨r1, r2, r3, r4⟩ := done_at T1.out S1.out O1.out O2.out B3.out G3.out X4.out X6.out (Nat.le_succ _) hg0.out hz1.out V1.out.own hlw.out
    exact ⟨p1, _, c1, p2, _, c2, A1, by rw [hcd'.out]; rfl, r1, r2, r3, r4, O3.out, O4.out⟩
  · have t0 : (cd != 0) = true := by rw [bne_iff_ne]; exact hc
    have hso2 := hso.out (by rw [hcd'.out]; exact hc)
    rw [hcd'.out] at hso2
    have hso3 := Lib.hid hso2
    clear hso2 hc
    go_enter Tryz.func20, Tryz.ntmps20
    go_wp2_with (first
      | (go_at_call 44; refine (noneT_no Q0.out.tree).mono ?_; rintro e w9 ⟨rfl, rfl⟩)
      | (go_at_call 45; refine hdo.out.mono ?_; rintro e w1 ⟨v, A1, rfl, hT, hS, _, cc, n1, k1, e1, p1, l1, c1, p2, l2, c2, rfl⟩; have T1 := Lib.hid hT; have S1 := Lib.hid (Q0.out.step.trans hS); have V1 := Lib.hid (Q0.out.an.turn hS); have hz1 := Lib.hid hS.size; have tk : True := trivial; have tk2 : True := trivial; have tk3 : True := trivial; clear hT hS)
      | (have _t := tk; refine wpList_alloc_ansv rfl rfl ?_; intro g3 w3 V3 g3l b3; have G3 := Lib.hid g3l; have B3 := Lib.hid b3; have U3 := Lib.hid (V1.out.at_.on' b3); clear tk g3l b3)
      | (have _t := tk2; refine wpList_store_ans rfl (.tmp 5) (.tmp 14) rfl V3.out rfl rfl cc n1 k1 e1 p1 p2 l1 c1 l2 c2 rfl ?_; intro w4 V4 X4; have U4 := Lib.hid (U3.out.oth X4.out (by have := G3.out; have := hz1.out; have := hg0.out; omega)); clear tk2)
      | (have _t := tk3; refine wpList_store_ans rfl (.tmp 4) (.tmp 19) rfl U4.out rfl rfl cd 0 0 0 none none 0 0 0 0 rfl ?_; intro w6 V6 X6; clear tk3))
    refine bodyPost_ret (cell_ret1 rfl rfl V6.out Tryz.underlying38 (by rw [Tryz.sizeA]; rfl)) rfl ?_
    obtain ⟨r1, r2, r3, r4⟩ := done_at T1.out S1.out (OwnB.nil w1 w0.heap.size) (OwnT.nil w1 w0.heap.size) B3.out G3.out X4.out X6.out (Nat.le_succ _) hg0.out hz1.out V1.out.own hlw.out
    rw [hso3.out]
    exact ⟨none, 0, 0, none, 0, 0, A1, rfl, r1, r2, r3, r4, (fun g e => by cases e), (fun g e => by cases e)⟩
end
end Go.Proofs.YtgcodlicbdaddaaGreatDoor
end

section
set_option linter.unusedVariables false
set_option linter.unusedSimpArgs false
namespace Go.Proofs.YtgcodlicbdaddaaGreatDoor
open Go.RowKit BigFrame
set_option maxRecDepth 100000

/-! ### The numbers of those that are there -/
def aliveL (s : Tr) : List Nat := (List.range s.nd.length).filter fun i => (s.opt i).isSome
def nodesM (A : Ad) (l : List Nat) : List (Lit × Value) := l.map fun i => (keyN i, ptrN A i)
theorem nodesL_is (A : Ad) (s : Tr) : nodesL A s.opt s.nd.length = nodesM A (aliveL s) := by
  unfold nodesL nodesM aliveL
  generalize List.range s.nd.length = l
  induction l with
  | nil => rfl
  | cons i r ih =>
    rw [List.filterMap_cons, List.filter_cons, ih]
    cases h : s.opt i with
    | none => simp
    | some x => simp
theorem aliveL_mem {s : Tr} {i : Nat} : i ∈ aliveL s ↔ ∃ x, s.opt i = some x := by
  unfold aliveL
  rw [List.mem_filter]
  constructor
  · rintro ⟨_, h⟩
    exact Option.isSome_iff_exists.1 h
  · rintro ⟨x, h⟩
    exact ⟨List.mem_range.2 (Tr.opt_lt h), by rw [h]; rfl⟩
theorem aliveL_nodup (s : Tr) : (aliveL s).Nodup := List.Nodup.sublist List.filter_sublist List.nodup_range
theorem aliveL_le (s : Tr) : (aliveL s).length ≤ s.nd.length := by
  have := List.length_filter_le (fun i => (s.opt i).isSome) (List.range s.nd.length)
  rw [List.length_range] at this
  exact this
def butN (i : Nat) (l : List Nat) : List Nat := l.filter fun j => decide (j ≠ i)
theorem strL_nodes (A : Ad) (l : List Nat) (i : Nat) : strL (nodesM A l) (keyN i) = nodesM A (butN i l) := by
  unfold strL nodesM butN
  rw [List.filter_map]
  congr 1
  refine List.filter_congr fun j _ => ?_
  show (!(keyN j).sameKey (keyN i)) = _
  rw [same_keyN]
  by_cases h : j = i
  · rw [decide_eq_true h, decide_eq_false (fun h2 => h2 h)]; rfl
  · rw [decide_eq_false h, decide_eq_true h]; rfl
theorem butN_mem {i j : Nat} {l : List Nat} : j ∈ butN i l ↔ j ∈ l ∧ j ≠ i := by unfold butN; rw [List.mem_filter]; simp
theorem butN_nodup {i : Nat} {l : List Nat} (h : l.Nodup) : (butN i l).Nodup := List.Nodup.sublist List.filter_sublist h
theorem wpList_nodes_next {w : World} {A : Ad} {ops : Array Oper} {rest : List Oper} {o : Oper} {a : Act} {Q : Exit → Act → World → Prop} (hg : o.guard = none) (it : Operand) (hop : o.op = Op.next it false) (m r : Nat) (l rem : List Nat)
    (hoc : ∀ i ∈ rem, i < 1000000000) (hit : a.eval it = .pointer (some ⟨r, 0, none⟩)) (h : MapOn 3 w m r (nodesM A l) (nodesM A rem))
    (hDone : rem = [] → wpList Tryz.prog ops Q rest (a.put o.dst (.tuple #[.bool false])) w)
    (hMore : ∀ (i : Nat) w', i ∈ rem → Hid (MapOn 3 w' m r (nodesM A l) (nodesM A (butN i rem))) → Hid ((butN i rem).length + 1 = rem.length) → Hid (w.grownBy w' (some r)) → Hid (w'.heap.size = w.heap.size) →
      (Instr.entry (.pointer (some ⟨r, 0, none⟩))).run Tryz.prog w' = .ok (.tuple #[.int .i64 ((i : Nat) : Int), ptrN A i]) w' → wpList Tryz.prog ops Q rest (a.put o.dst (.tuple #[.bool true, .int .i64 ((i : Nat) : Int), ptrN A i])) w') : wpList Tryz.prog ops Q (o :: rest) a w := by
  refine wpList_map_next hg it hop law_int m r (nodesM A l) (nodesM A rem) hit h (fun h0 => hDone (by cases rem with | nil => rfl | cons e r => cases h0)) fun key p w' hp hkey h1 h2 h3 h4 h5 => ?_
  obtain ⟨i, hi, rfl⟩ := List.mem_map.1 hp
  have hk2 := keyN_of i (hoc i hi)
  obtain rfl := law_int.inj hkey hk2
  have hs : strL (nodesM A rem) (keyN i) = nodesM A (butN i rem) := strL_nodes A rem i
  rw [hs] at h1 h2
  refine hMore i w' hi h1 ?_ h3 h4 h5
  have h6 := h2.out.length_eq
  have h7 : (butN i rem).length + 1 = rem.length := by simpa [nodesM] using h6
  exact h7

/-! ### Added up -/
def sumBk (s : Tr) : List Nat → Nat
  | [] => 0
  | i :: r => (s.at i).blk + sumBk s r
theorem sumBk_but {s : Tr} : ∀ {l : List Nat} {i : Nat}, l.Nodup → i ∈ l → sumBk s l = (s.at i).blk + sumBk s (butN i l)
  | j :: r, i, hn, hi => by
    obtain ⟨h1, h2⟩ := List.nodup_cons.1 hn
    unfold butN
    by_cases e : j = i
    · subst e
      rw [List.filter_cons, if_neg (by simp), List.filter_eq_self.2 fun k hk => by
        have : k ≠ j := fun e => h1 (e ▸ hk)
        simpa using this]
      rfl
    · have hm : i ∈ r := by
        rcases List.mem_cons.1 hi with h | h
        · exact absurd h.symm e
        · exact h
      rw [List.filter_cons, if_pos (by simpa using e)]
      have ih := sumBk_but (s := s) h2 hm
      unfold butN at ih
      show (s.at j).blk + sumBk s r = (s.at i).blk + ((s.at j).blk + sumBk s (r.filter _))
      rw [ih]
      omega
theorem sumBk_le {s : Tr} {n : Nat} : ∀ {l : List Nat}, (∀ i ∈ l, (s.at i).blk ≤ n) → sumBk s l ≤ l.length * n
  | [], _ => Nat.zero_le _
  | i :: r, h => by
    have h1 := h i List.mem_cons_self
    have h2 := sumBk_le (l := r) fun j hj => h j (List.mem_cons_of_mem _ hj)
    show (s.at i).blk + sumBk s r ≤ (r.length + 1) * n
    rw [Nat.add_mul]
    omega
theorem blk_le {b : Nat} {x : Nd} (h : NodeOk b x) (hb : b ≤ 900000) : x.blk ≤ 225001 := by
  unfold Nd.blk
  have hm := h.most
  split
  · omega
  · split
    · omega
    · unfold blkM
      have h1 := cntU_le x.wr 162
      have h2 := sumN_le _ (secL_le x.wr 162)
      rw [secL_length] at h2
      have h3 := oneN_le (hitU x.wr inS 162)
      have h4 := oneN_le (hitU x.wr inD 162)
      omega
def Tr.needB (s : Tr) : Nat := sumBk s (aliveL s)
def Tr.needI (s : Tr) : Nat := (aliveL s).length
theorem Ok.needB_le {b : Nat} {s : Tr} (h : Ok b s) (hb : b ≤ 900000) : s.needB ≤ 1000000000000 := by
  have h1 := sumBk_le (s := s) (n := 225001) (l := aliveL s) fun i hi => by
    obtain ⟨x, hx⟩ := aliveL_mem.1 hi
    rw [Tr.at_of hx]
    exact blk_le (h.each i x hx) hb
  have h2 := aliveL_le s
  have h3 := h.len.2
  have h4 : (aliveL s).length * 225001 ≤ 900002 * 225001 := Nat.mul_le_mul_right _ (by omega)
  unfold Tr.needB
  omega
section
variable {w : World} {B b : Nat} {A : Ad} {s : Tr}
set_option maxHeartbeats 2000000 in
theorem treeNeed_any (h : TreeAt w B A s) (ho : Ok b s) (hb : b ≤ 900000) :
    Calls Tryz.prog 28 #[.pointer (some ⟨A.t, 0, none⟩)] w (Tells (.tuple #[.int .i64 ((s.needB : Nat) : Int), .int .i64 ((s.needI : Nat) : Int)]) w) := by
  have h' := Lib.hid h
  have cm := h.maps
  have hm := h.map
  rw [nodesL_is] at hm
  have hm' := Lib.hid hm
  have htot := Lib.hid (ho.needB_le hb)
  have hml := Lib.hid hm.lt
  clear h hm
  go_enter Tryz.func28, Tryz.ntmps28
  go_wp2_with (first
    | (go_at_call 44; refine (noneT_no h'.out).mono ?_; rintro e w9 ⟨rfl, rfl⟩)
    | (at_range; refine wpList_map_range rfl _ rfl law_int Tryz.underlying68 A.m (nodesM A (aliveL s)) rfl hm'.out ?_; intro w1 hmo hb1 hs1))
  go_frame
  go_loopg [4] ((aliveL s).length + 1) (fun g m wr => ∃ (rem : List Nat) (acc : Nat), g = rem.length + 1 ∧ m = .int .i64 ((acc : Nat) : Int) ∧ rem.Nodup ∧ (∀ i ∈ rem, i ∈ aliveL s) ∧ acc + sumBk s rem = s.needB ∧ MapOn 3 wr A.m w.heap.size (nodesM A (aliveL s)) (nodesM A rem) ∧ Below w.heap.size w wr)
  case atStart => exact ⟨aliveL s, 0, rfl, rfl, aliveL_nodup s, fun i hi => hi, by rw [Nat.zero_add]; rfl, hmo.out, hb1.out⟩
  case round =>
    obtain ⟨rem, acc, rfl, rfl, hnd, hsub, hacc, hmr, hB⟩ := hrel
    have hB' := Lib.hid hB
    have hmr' := Lib.hid hmr
    have hnd' := Lib.hid hnd
    have hsub' := Lib.hid hsub
    have hacc' := Lib.hid hacc
    have hlt := Lib.hid (show ∀ i ∈ rem, i < 1000000000 from fun i hi => by
      obtain ⟨x, hx⟩ := aliveL_mem.1 (hsub i hi)
      have := Tr.opt_lt hx
      have := ho.len.2
      omega)
    have hal : acc ≤ 1000000000000 := by have := htot.out; omega
    have hlen := (hmr.at).len Tryz.underlying68 3
    have hz := Lib.hid (show (nodesM A (aliveL s)).length = s.needI by unfold nodesM Tr.needI; rw [List.length_map])
    have cm := ((h'.out.below hB).maps)
    clear hB hmr hnd hsub hacc
    go_wp2_with (at_next; refine wpList_nodes_next rfl _ rfl A.m w.heap.size (aliveL s) rem hlt.out (by simp [Act.eval]) hmr'.out (fun h0 => ?_) (fun i w2 hi hm2 hl2 hg2 hs2 hen => ?_))
    · subst h0
      go_ret2
      have e1 : s.needB = acc := hacc'.out.symm
      rw [e1, hz.out]
      exact ⟨rfl, hB'.out⟩
    · obtain ⟨x, hx⟩ := aliveL_mem.1 (hsub'.out i hi)
      have hB2 := Lib.hid (hB'.out.grown hg2.out hB'.out.size (fun j hj => by have := Option.some.inj hj; omega))
      have N2 := Lib.hid ((h'.out.below hB2.out).node i x hx)
      have hok2 := Lib.hid (ho.each i x hx)
      have hacc2 := Lib.hid (show acc + x.blk + sumBk s (butN i rem) = s.needB by
        have h1 := hacc'.out
        rw [sumBk_but hnd'.out hi, Tr.at_of hx] at h1
        omega)
      have hal2 : acc + x.blk ≤ 1000000000000 := by have := htot.out; have := hacc2.out; omega
      obtain ⟨z, hzz⟩ : ∃ z, x.blk = z := ⟨_, rfl⟩
      have hzz' := Lib.hid hzz
      rw [hzz] at hal2
      clear hzz hx
      unfold ptrN
      refine (blocks_any _ N2.out hok2.out hb).mono ?_
      rw [hzz'.out]
      rintro e3 w3 ⟨rfl, hb3⟩
      have B3 := Lib.hid (hB2.out.trans (hb3.mono hB2.out.size))
      have hm3 := Lib.hid (hm2.out.blk (hb3.block A.m hm2.out.at.lt) (hb3.block _ hm2.out.lt))
      clear hb3
      go_wp2_with fail
      go_roundg ((butN i rem).length + 1)
      case measure => have := hl2.out; omega
      case rel => exact ⟨butN i rem, acc + z, rfl, by go_num, butN_nodup hnd'.out, fun j hj => hsub'.out j (butN_mem.1 hj).1, by rw [← hzz'.out]; exact hacc2.out, hm3.out, B3.out⟩
end
end Go.Proofs.YtgcodlicbdaddaaGreatDoor
end
