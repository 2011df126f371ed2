/-
  One taken, one deferred, in a group's set; the first one of the best group taken.
-/
import Derived.Test.YtdkjmpicdkfgoaaQc
import Derived.Test.YtdkjmpicdkfgoaaFirst
import Derived.Test.YtdkjmpicdkfgoaaWith
import Derived.Test.YtdkjmpicdkfgoaaG1

namespace Go.Proofs.Ytdkjmpicdkfgoaa
open Go.RowKit BigFrame Fl

/-- a call that tells v, and turns the space's block alone: its sets are X behind it -/
def GivesS (F : List Nat) (s g i b : Nat) (X : Nat → List Nat) (v : Value) (w : World) (e : Ending) (w' : World) : Prop := e = .returned v ∧ Sp w' F s g i b X ∧ TurnF [s] w w'
variable {w w' : World} {F : List Nat} {s g i b : Nat} {X : Nat → List Nat} {o e : Nat}
theorem Sp.turn (h : Sp w F s g i b X) (hg : g ≤ 8) {c : Nat} (hc : Slot g c) {B : Nat} {v : Value} {l : List Nat} (hb : Below w.heap.size w w') (hv : OwnB w' B v l) (hB : w.heap.size ≤ B) (h0 : 0 < l.length) (ho : Octs l) (hl : l.length = (X c).length) :
    Sp (w'.setCell ⟨s, c, none⟩ v) F s g i b (updX X c l) ∧ TurnF [s] w (w'.setCell ⟨s, c, none⟩ v) :=
  ⟨(h.below hb).put hg hc (RdF.own hv h0 fun f hf => Nat.lt_of_lt_of_le (h.ltF f hf) hB) ho hl, (TurnF.of_below [s] hb).trans (TurnF.set [s] w' (by simp) c v)⟩

set_option maxHeartbeats 400000 in
theorem mark_there (c n : Nat) (h : Sp w F s g i b X) (_hg : g ≤ 8) (hc : Slot g c) (hw : wid i b c ≤ 96) (_hn : n < 1000) (hr : hasN (X c) n = true) :
    Calls Try.prog 54 #[.pointer (some ⟨s, c, none⟩), .int .i64 (n : Int)] w (Told (.int .i64 6) w) := by
  obtain ⟨q, cap, c1, _, _, _, hb⟩ := h.slot hc
  obtain ⟨m, hm⟩ : ∃ m, (X c).length = m := ⟨_, rfl⟩
  have hs := h.siz hc
  rw [hm] at c1 hs
  have ho' := Lib.hid (h.oct hc)
  have hb' := Lib.hid hb
  have hm' := Lib.hid hm
  have hr' := Lib.hid hr
  have hm2 : m ≤ 1000 := by omega
  clear h hb hm hr hs hw
  go_enter Try.func54, Try.ntmps54
  go_wp2_with (go_at_call 70; refine (has_is _ _ _ n _ _ _ hr'.out ho'.out hm'.out (by omega) hb'.out).mono ?_; rintro e w1 ⟨rfl, m1, rfl⟩)
  go_ret
  exact ⟨rfl, _, rfl⟩
set_option maxHeartbeats 400000 in
theorem mark_new (c n : Nat) (h : Sp w F s g i b X) (hg : g ≤ 8) (hc : Slot g c) (hw : wid i b c ≤ 96) (hw0 : 0 < wid i b c) (_hn : n < 1000) (hr : hasN (X c) n = false) :
    Calls Try.prog 54 #[.pointer (some ⟨s, c, none⟩), .int .i64 (n : Int)] w (GivesS F s g i b (updX X c (putN (X c) n true)) (.int .i64 0) w) := by
  obtain ⟨q, cap, c1, _, _, _, hb⟩ := h.slot hc
  obtain ⟨m, hm⟩ : ∃ m, (X c).length = m := ⟨_, rfl⟩
  have hs := h.siz hc
  rw [hm] at c1 hs
  have hoct := h.oct hc
  have ho' := Lib.hid hoct
  have hb' := Lib.hid hb
  have hm' := Lib.hid hm
  have hr' := Lib.hid hr
  have hm2 : m ≤ 1000 := by omega
  have hm0 : 0 < m := by omega
  clear hs hw hw0
  have h' := Lib.hid h
  have fr := h.fro c
  clear h hb hm hr
  go_enter Try.func54, Try.ntmps54
  go_wp2_with (first
    | (go_at_call 70; refine (has_is _ _ _ n _ _ _ hr'.out ho'.out hm'.out (by omega) hb'.out).mono ?_; rintro e w1 ⟨rfl, m1, rfl⟩; have S1 := Lib.hid (h'.out.drew m1);)
    | (go_at_call 71; refine (with_any _ _ _ n true _ _ ho'.out hm'.out (by omega) hb'.out.drew (fun h => by cases h)).mono ?_; rintro e w2 ⟨v2, rfl, ho2, hb2⟩; obtain ⟨q2, cap2, rfl, _, _, _, _⟩ := ho2.form (by rw [putN_length, hm'.out]; omega); have T2 := Lib.hid (S1.out.turn hg hc hb2 ho2 (Nat.le_refl _) (by rw [putN_length, hm'.out]; omega) (putN_octs ho'.out _ _) (by rw [putN_length])); have fr2 := (S1.out.below hb2).fro c; have c4 := hb2.cell (p := ⟨s, c, none⟩) S1.out.ltS))
  go_ret
  exact ⟨rfl, T2.out.1, (TurnF.of_below [s] (below_drewN w m1)).trans T2.out.2⟩

/-- what Mark says, and leaves -/
def markCode (X : Nat → List Nat) (c n : Nat) : Int := if hasN (X c) n = true then 6 else 0
def markX (X : Nat → List Nat) (c n : Nat) : Nat → List Nat := if hasN (X c) n = true then X else updX X c (putN (X c) n true)
/-- mark: by what is there -/
theorem mark_c (c n : Nat) (h : Sp w F s g i b X) (hg : g ≤ 8) (hc : Slot g c) (hw : wid i b c ≤ 96) (hw0 : 0 < wid i b c) (hn : n < 1000) :
    Calls Try.prog 54 #[.pointer (some ⟨s, c, none⟩), .int .i64 (n : Int)] w (GivesS F s g i b (markX X c n) (.int .i64 (markCode X c n)) w) := by
  unfold markX markCode
  by_cases hr : hasN (X c) n = true
  · rw [if_pos hr, if_pos hr]
    exact (mark_there c n h hg hc hw hn hr).mono fun e w' ⟨he, m, hw'⟩ => ⟨he, by rw [hw']; exact h.drew m, by rw [hw']; exact TurnF.of_below _ (below_drewN w m)⟩
  · rw [if_neg hr, if_neg hr]
    exact mark_new c n h hg hc hw hw0 hn (by simpa using hr)

/-- what a set says to one that is to be deferred -/
def deferCode (X : Nat → List Nat) (c n : Nat) : Int := if hasN (X c) n = true ∧ hasN (X (c + 1)) n = false then 0 else 5
def deferX (X : Nat → List Nat) (c n : Nat) : Nat → List Nat := if hasN (X c) n = true ∧ hasN (X (c + 1)) n = false then updX X (c + 1) (putN (X (c + 1)) n true) else X
set_option maxHeartbeats 400000 in
theorem postpone_c (c n : Nat) (h : Sp w F s g i b X) (hg : g ≤ 8) (hc : Slot g c) (hc1 : Slot g (c + 1)) (hw : wid i b c ≤ 96) (hw0 : 0 < wid i b c) (hw1 : wid i b (c + 1) = wid i b c) (_hn : n < 1000) :
    Calls Try.prog 52 #[.pointer (some ⟨s, c, none⟩), .int .i64 (n : Int)] w (GivesS F s g i b (deferX X c n) (.int .i64 (deferCode X c n)) w) := by
  obtain ⟨q, cap, c1, _, _, _, hb⟩ := h.slot hc
  obtain ⟨qd, capd, d1, _, _, _, hbd⟩ := h.slot hc1
  obtain ⟨m, hm⟩ : ∃ m, (X c).length = m := ⟨_, rfl⟩
  have hs := h.siz hc
  have hsd := h.siz hc1
  rw [hw1, ← hs] at hsd
  rw [hm] at c1 hs hsd
  rw [hsd] at d1
  have ho' := Lib.hid (h.oct hc)
  have hb' := Lib.hid hb
  have hm' := Lib.hid hm
  have hod := Lib.hid (h.oct hc1)
  have hbd' := Lib.hid hbd
  have hmd := Lib.hid hsd
  have hm2 : m ≤ 1000 := by omega
  have hm0 : 0 < m := by omega
  have h' := Lib.hid h
  have fr := h.fro (c + 1)
  clear h hb hm hbd hs hsd hw hw0 hw1
  obtain ⟨r, hr⟩ : ∃ r, hasN (X c) n = r := ⟨_, rfl⟩
  obtain ⟨p, hp⟩ : ∃ p, hasN (X (c + 1)) n = p := ⟨_, rfl⟩
  have e1 : deferCode X c n = if r = true ∧ p = false then 0 else 5 := by unfold deferCode; rw [hr, hp]
  have e2 : deferX X c n = if r = true ∧ p = false then updX X (c + 1) (putN (X (c + 1)) n true) else X := by unfold deferX; rw [hr, hp]
  rw [e1, e2]
  clear e1 e2
  have hr' := Lib.hid hr
  have hp' := Lib.hid hp
  clear hr hp
  cases r
  · rw [if_neg (by simp), if_neg (by simp)]
    go_enter Try.func52, Try.ntmps52
    go_wp2_with (go_at_call 70; refine (has_is _ _ _ n _ _ _ hr'.out ho'.out hm'.out (by omega) hb'.out).mono ?_; rintro e w1 ⟨rfl, m1, rfl⟩)
    go_ret
    exact ⟨rfl, h'.out.drew _, TurnF.of_below _ (below_drewN w _)⟩
  · cases p
    · rw [if_pos (by simp), if_pos (by simp)]
      go_enter Try.func52, Try.ntmps52
      go_wp2_with (first
        | (go_at_call_of 70 (Value.slice (some { block := q, off := 0 }) m cap); refine (has_is _ _ _ n _ _ _ hr'.out ho'.out hm'.out (by omega) hb'.out).mono ?_; rintro e w1 ⟨rfl, m1, rfl⟩)
        | (go_at_call 70; refine (has_is _ _ _ n _ _ _ hp'.out hod.out hmd.out (by omega) hbd'.out.drew).mono ?_; rintro e w1 ⟨rfl, m2, rfl⟩; rw [World.drewN_drewN]; have S1 := Lib.hid (h'.out.drew (m1 + m2)))
        | (go_at_call 71; refine (with_any _ _ _ n true _ _ hod.out hmd.out (by omega) hbd'.out.drew (fun h => by cases h)).mono ?_; rintro e w2 ⟨v2, rfl, ho2, hb2⟩; obtain ⟨q2, cap2, rfl, _, _, _, _⟩ := ho2.form (by rw [putN_length, hmd.out]; omega); have T2 := Lib.hid (S1.out.turn hg hc1 hb2 ho2 (Nat.le_refl _) (by rw [putN_length, hmd.out]; omega) (putN_octs hod.out _ _) (by rw [putN_length])); have fr2 := (S1.out.below hb2).fro (c + 1); have c4 := hb2.cell (p := ⟨s, c + 1, none⟩) S1.out.ltS))
      go_ret
      exact ⟨rfl, T2.out.1, (TurnF.of_below [s] (below_drewN w (m1 + m2))).trans T2.out.2⟩
    · rw [if_neg (by simp), if_neg (by simp)]
      go_enter Try.func52, Try.ntmps52
      go_wp2_with (first
        | (go_at_call_of 70 (Value.slice (some { block := q, off := 0 }) m cap); refine (has_is _ _ _ n _ _ _ hr'.out ho'.out hm'.out (by omega) hb'.out).mono ?_; rintro e w1 ⟨rfl, m1, rfl⟩)
        | (go_at_call 70; refine (has_is _ _ _ n _ _ _ hp'.out hod.out hmd.out (by omega) hbd'.out.drew).mono ?_; rintro e w1 ⟨rfl, m2, rfl⟩))
      go_ret
      exact ⟨rfl, h'.out.drew (m1 + m2), TurnF.of_below _ (below_drewN w (m1 + m2))⟩

theorem two_pair (a c : Int) : Value.tuple #[.int .i64 a, .int .i64 c] = two a c := rfl
set_option maxHeartbeats 400000 in
theorem take_none (near : Int) (h : PolAt w F s g i b X o e) (hn : bestI (kf X o e near) g < 0) :
    Calls Try.prog 49 #[.pointer (some ⟨s, o, none⟩), .int .i64 near] w (Tells (.tuple #[.int .i64 (-1), .int .i64 (-1)]) w) := by
  obtain ⟨r, hr⟩ : ∃ r, bestI (kf X o e near) g = r := ⟨_, rfl⟩
  rw [hr] at hn
  have hr' := Lib.hid hr
  have h' := Lib.hid h
  have d0 : decide (r < 0) = true := decide_eq_true hn
  clear h hr hn
  go_enter Try.func49, Try.ntmps49
  go_wp2_with (go_at_call 41; refine (best_c near h'.out).mono ?_; rw [hr'.out]; rintro e1 w1 ⟨rfl, hb1⟩; have B1 := Lib.hid hb1; clear hb1)
  go_ret2
  exact ⟨rfl, B1.out⟩
set_option maxHeartbeats 1000000 in
theorem take_some (near : Int) (k n : Nat) (h : PolAt w F s g i b X o e) (hk : bestI (kf X o e near) g = (k : Int)) (hkg : k < g) (hf : IsFirst (X (o + 2 + 2 * k)) 0 e (n : Int)) (hh : hasN (X (o + 2 + 2 * k)) n = false) (hne : n < e) :
    Calls Try.prog 49 #[.pointer (some ⟨s, o, none⟩), .int .i64 near] w (GivesS F s g i b (updX X (o + 2 + 2 * k) (putN (X (o + 2 + 2 * k)) n true)) (.tuple #[.int .i64 (k : Int), .int .i64 (n : Int)]) w) := by
  have hk' := Lib.hid hk
  have d0 : decide ((k : Int) < 0) = false := decide_eq_false (by omega)
  have k0 : (0 : Int) ≤ (k : Int) := by omega
  have k8 : (k : Int) < 8 := by have := h.g8; omega
  have he := h.e96
  have he4 := h.e1
  have hg8 := h.g8
  have hs0 := h.pol.slot (d := 0) hkg (by omega)
  have hw0 := h.pol.wid (d := 0) h.g8 hkg (by omega)
  have hcell := Lib.hid (fun w' (hb : Below w.heap.size w w') => (h.below hb).set (d := 0) hkg (by omega))
  have hce := Lib.hid (fun w' (hb : Below w.heap.size w w') => (h.below hb).sp.ce h.pol)
  have hs' := Lib.hid h.sp
  have h' := Lib.hid h
  have hf' := Lib.hid hf
  have hh' := Lib.hid hh
  have ea : Hid (o + 2 + k * 2 = o + 2 + 2 * k) := Lib.hid (by omega)
  rw [Nat.add_zero] at hs0 hw0
  have hs0' := Lib.hid hs0
  have hw0' := Lib.hid hw0
  clear h hk hf hh hs0 hw0
  go_enter Try.func49, Try.ntmps49
  go_wp2_with (go_at_call 41; refine (best_c near h'.out).mono ?_; rw [hk'.out]; rintro e1 w1 ⟨rfl, hb1⟩; have B1 := Lib.hid hb1; obtain ⟨q, cap, m, c1, hl, hm, _, _, _, hb, ho⟩ := hcell.out w1 hb1; have c2 := hce.out w1 hb1; rw [Nat.add_zero] at c1 hl hb ho; have hm2 : m ≤ 1000 := (by omega); have hl' := Lib.hid hl; have hx' := Lib.hid hb; have ho' := Lib.hid ho; clear hl hb ho hm hb1)
  rw [ea.out]
  have S1 := Lib.hid (fun m => (hs'.out.below B1.out).drew m)
  go_big_quiet ((go_at_call 68; exact quiet_toldN (first_is _ _ _ 0 e _ _ (n : Int) _ _ hf'.out rfl rfl ho'.out hl'.out (by omega) hx'.out.drew (by omega) (by omega))))
  go_wp2_with (go_at_call 54; refine (mark_new _ n (S1.out _) hg8 hs0'.out (by rw [hw0'.out]; omega) (by rw [hw0'.out]; omega) (by omega) hh'.out).mono ?_; rintro e2 w2 ⟨rfl, hS2, hT2⟩; have S2 := Lib.hid hS2; have T2 := Lib.hid hT2; clear hS2 hT2)
  go_ret2
  exact ⟨rfl, S2.out, (TurnF.of_below [s] (bl_drew' B1.out)).trans T2.out⟩
end Go.Proofs.Ytdkjmpicdkfgoaa
