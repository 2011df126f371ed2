/-
  Firm, Left, Bits of a space.
-/
import Derived.Test.YtdkjmpicdkfgoaaQh

namespace Go.Proofs.Ytdkjmpicdkfgoaa
open Go.RowKit BigFrame Fl
variable {w w' : World} {F : List Nat} {s g i b : Nat} {X : Nat → List Nat} {o e : Nat}

theorem firm_nil (w : World) : Calls Try.prog 27 #[.pointer none] w (fun e w' => e = .returned (.int .i64 0) ∧ w = w') := by
  go_enter Try.func27, Try.ntmps27
  go_wp2_with fail
  go_ret
  exact ⟨rfl, rfl⟩
theorem left_nil (w : World) : Calls Try.prog 11 #[.pointer none] w (fun e w' => e = .returned (.tuple #[.int .i64 0, .int .i64 0]) ∧ w = w') := by
  go_enter Try.func11, Try.ntmps11
  go_wp2_with fail
  go_ret2
  exact ⟨rfl, rfl⟩
/-- how many are free in all -/
def leftN (g i b : Nat) (X : Nat → List Nat) (q : Bool) : Nat := freeTo X (polO q) (polE i b q) g
set_option maxHeartbeats 400000 in
theorem left_c (n m : Int) (h : Spc w F s g i b X) (hn : n = ((leftN g i b X true : Nat) : Int)) (hm : m = ((leftN g i b X false : Nat) : Int)) :
    Calls Try.prog 11 #[.pointer (some ⟨s, 0, none⟩)] w (Told (.tuple #[.int .i64 n, .int .i64 m]) w) := by
  have hP := Lib.hid (h.pol (polIs i b true))
  have hQ := Lib.hid (h.pol (polIs i b false))
  have hn' := Lib.hid hn
  have hm' := Lib.hid hm
  clear h hn hm
  go_enter Try.func11, Try.ntmps11
  go_wp2_with fail
  go_big_quiet (first
    | (go_at_call_of 39 (Value.pointer (some { block := s, off := 3 })); exact quiet_toldN (free_c (hP.out.drew _) n hn'.out))
    | (go_at_call 39; exact quiet_toldN (free_c (hQ.out.drew _) m hm'.out)))
  go_wp2_with fail
  go_ret2
  exact ⟨rfl, _, rfl⟩

/-- all sets behind Firm -/
def allFirm (g i b : Nat) (X : Nat → List Nat) : Nat → List Nat := firmX (firmX X 3 i g) 21 b g
theorem defTo_congr {Y : Nat → List Nat} {o e : Nat} : ∀ {k : Nat}, (∀ j, j < k → X (o + 2 + 2 * j + 1) = Y (o + 2 + 2 * j + 1)) → defTo X o e k = defTo Y o e k
  | 0, _ => rfl
  | k + 1, h => by
    unfold defTo
    rw [defTo_congr (k := k) fun j hj => h j (by omega), h k (by omega)]
set_option maxHeartbeats 400000 in
theorem firm_s (r : Int) (h : Spc w F s g i b X) (hr : r = ((defTo X 3 i g + defTo X 21 b g : Nat) : Int)) :
    Calls Try.prog 27 #[.pointer (some ⟨s, 0, none⟩)] w (GivesS F s g i b (allFirm g i b X) (.int .i64 r) w) := by
  have ok := h.ok
  have e21 : defTo (firmX X 3 i g) 21 b g = defTo X 21 b g := defTo_congr fun j hj => firmX_off _ _ _ _ _ (by have := ok.g2; omega)
  have b1 := defTo_le X 3 i g
  have b2 := defTo_le X 21 b g
  have b3 := Nat.mul_le_mul ok.g2 ok.i2
  have b4 := Nat.mul_le_mul ok.g2 ok.b2
  obtain ⟨p, hp⟩ : ∃ p, defTo X 3 i g = p := ⟨_, rfl⟩
  obtain ⟨q, hq⟩ : ∃ q, defTo X 21 b g = q := ⟨_, rfl⟩
  rw [hp] at b1 hr
  rw [hq] at b2 hr e21
  have hp' := Lib.hid (show ((p : Nat) : Int) = ((defTo X 3 i g : Nat) : Int) by rw [hp])
  have hq' := Lib.hid (show ((q : Nat) : Int) = ((defTo (firmX X 3 i g) 21 b g : Nat) : Int) by rw [e21])
  have hr' : Hid (((p : Nat) : Int) + ((q : Nat) : Int) = r) := Lib.hid (by omega)
  have hP := Lib.hid (h.pol (polIs i b true))
  have ok' := Lib.hid ok
  have pb : p ≤ 1000 := by omega
  have qb : q ≤ 1000 := by omega
  clear h hr hp hq e21 b1 b2 b3 b4 ok
  go_enter Try.func27, Try.ntmps27
  go_wp2_with fail
  go_region_held3 (fun _ => True) (first | exact trivial) (first
    | (go_at_call_of 53 (Value.pointer (some { block := s, off := 3 })); refine (firm_c (hP.out.drew 1) (p : Int) hp'.out).mono ?_; rintro e1 w1 ⟨rfl, hS1, hT1⟩; have S1 := Lib.hid (show Spc w1 F s g i b (firmX X 3 i g) from ⟨hS1, ok'.out⟩); have T1 := Lib.hid hT1; clear hS1 hT1)
    | (go_at_call 53; refine (firm_c (S1.out.pol (polIs i b false)) (q : Int) hq'.out).mono ?_; rintro e2 w2 ⟨rfl, hS2, hT2⟩; have S2 := Lib.hid hS2; have T2 := Lib.hid hT2; clear hS2 hT2))
  go_wp2_with fail
  rw [wrap_in (by omega), hr'.out]
  go_ret
  exact ⟨rfl, S2.out, ((TurnF.of_below [s] (below_drewN w 1)).trans T1.out).trans T2.out⟩

theorem bits_nil (k : Int) (w : World) : Calls Try.prog 15 #[.pointer none, .int .i64 k] w (fun e w' => e = .returned (.tuple #[.slice none 0 0, .slice none 0 0]) ∧ w = w') := by
  go_enter Try.func15, Try.ntmps15
  go_wp2_with fail
  go_ret2
  exact ⟨rfl, rfl⟩
theorem bits_out (k : Int) (h : Spc w F s g i b X) (hk : k < 0 ∨ (g : Int) ≤ k) :
    Calls Try.prog 15 #[.pointer (some ⟨s, 0, none⟩), .int .i64 k] w (fun e w' => e = .returned (.tuple #[.slice none 0 0, .slice none 0 0]) ∧ w = w') := by
  have c0 := h.sp.cg
  clear h
  rcases Int.lt_or_le k 0 with h0 | h0
  · have d0 : decide (k < 0) = true := decide_eq_true h0
    clear hk h0
    go_enter Try.func15, Try.ntmps15
    go_wp2_with fail
    go_ret2
    exact ⟨rfl, rfl⟩
  · have d0 : decide (k < 0) = false := decide_eq_false (by omega)
    have d1 : decide ((g : Int) ≤ k) = true := decide_eq_true (by omega)
    clear hk h0
    go_enter Try.func15, Try.ntmps15
    go_wp2_with fail
    go_ret2
    exact ⟨rfl, rfl⟩
/-- two slices of bytes of one's own, apart -/
def BitsPost (l m : List Nat) (w : World) (e : Ending) (w' : World) : Prop :=
  ∃ v1 v2, e = .returned (.tuple #[v1, v2]) ∧ OwnB w' w.heap.size v1 l ∧ OwnB w' w.heap.size v2 m ∧ (∀ k, v1.ownBlock = some k → some k ≠ v2.ownBlock) ∧ Below w.heap.size w w'
set_option maxHeartbeats 1000000 in
theorem bits_in (k : Nat) (K : Int) (h : Spc w F s g i b X) (hk : k < g) (hK : K = (k : Int)) :
    Calls Try.prog 15 #[.pointer (some ⟨s, 0, none⟩), .int .i64 K] w (BitsPost (X (5 + 2 * k)) (X (23 + 2 * k)) w) := by
  subst hK
  have ok := h.ok
  have c0 := h.sp.cg
  have s1 : Slot g (5 + 2 * k) := ⟨k, 0, hk, by omega, .inl (by omega)⟩
  have s2 : Slot g (23 + 2 * k) := ⟨k, 0, hk, by omega, .inr (by omega)⟩
  obtain ⟨q1, cap1, d1, _, _, _, hb1⟩ := h.sp.slot s1
  obtain ⟨q2, cap2, d2, _, _, _, hb2⟩ := h.sp.slot s2
  obtain ⟨m1, hm1⟩ : ∃ m, (X (5 + 2 * k)).length = m := ⟨_, rfl⟩
  obtain ⟨m2, hm2⟩ : ∃ m, (X (23 + 2 * k)).length = m := ⟨_, rfl⟩
  have z1 := h.sp.siz s1
  have z2 := h.sp.siz s2
  unfold wid at z1 z2
  have hg := ok.g2
  rw [if_pos (by omega), hm1] at z1
  rw [if_neg (by omega), hm2] at z2
  rw [hm1] at d1
  rw [hm2] at d2
  have i2 := ok.i2
  have b2 := ok.b2
  have i1 := ok.i1
  have b1 := ok.b1
  have l1 : m1 ≤ 1000 := by omega
  have l2 : m2 ≤ 1000 := by omega
  have p1 : 0 < m1 := by omega
  have p2 : 0 < m2 := by omega
  have e0 : decide ((k : Int) < 0) = false := decide_eq_false (by omega)
  have e1 : decide ((g : Int) ≤ (k : Int)) = false := decide_eq_false (by omega)
  have k0 : (0 : Int) ≤ (k : Int) := by omega
  have k8 : (k : Int) < 8 := by omega
  have hx1 := Lib.hid hb1
  have hx2 := Lib.hid hb2
  have hm1' := Lib.hid hm1
  have hm2' := Lib.hid hm2
  have hlt := Lib.hid h.sp.ltS
  have ea : 5 + k * 2 = 5 + 2 * k := by omega
  have eb : 23 + k * 2 = 23 + 2 * k := by omega
  rw [← ea] at d1
  rw [← eb] at d2
  have hcell := Lib.hid (fun (w2 : World) (hb : Below w.heap.size w w2) => (⟨(hb.cell (p := ⟨s, 5 + k * 2, none⟩) hlt.out).trans d1, (hb.cell (p := ⟨s, 23 + k * 2, none⟩) hlt.out).trans d2⟩ : w2.cell? ⟨s, 5 + k * 2, none⟩ = some (.slice (some ⟨q1, 0, none⟩) m1 cap1) ∧ w2.cell? ⟨s, 23 + k * 2, none⟩ = some (.slice (some ⟨q2, 0, none⟩) m2 cap2)))
  clear h s1 s2 hb1 hb2 hm1 hm2 z1 z2 i2 b2 i1 b1 ok hg ea eb
  go_enter Try.func15, Try.ntmps15
  go_wp2_with fail
  have tk0 : True := trivial
  go_region_held3 (fun w' => w'.cell? ⟨s, 5 + k * 2, none⟩ = some (.slice (some ⟨q1, 0, none⟩) m1 cap1) ∧ w'.cell? ⟨s, 23 + k * 2, none⟩ = some (.slice (some ⟨q2, 0, none⟩) m2 cap2)) (first | exact ⟨d1, d2⟩) (first
    | (clear tk0; go_at_call 45; refine (clone_any _ _ m1 _ _ hm1'.out (by omega) hx1.out.drew1 (fun h => by cases h)).mono ?_; rintro e1 w1 ⟨v1, rfl, hO1, hB1⟩; have O1 := Lib.hid hO1; have B1 := Lib.hid (show Below w.heap.size w w1 from ⟨hB1.os, hB1.tape, hB1.output, hB1.size, hB1.block⟩); clear d1 d2; obtain ⟨d1, d2⟩ := hcell.out w1 B1.out; clear hO1 hB1)
    | (go_at_call 45; refine (clone_any _ _ m2 _ _ hm2'.out (by omega) (hx2.out.on B1.out (Nat.le_refl _)) (fun h => by cases h)).mono ?_; rintro e2 w2 ⟨v2, rfl, hO2, hB2⟩; have O2 := Lib.hid hO2; have B2 := Lib.hid hB2; clear d1 d2; obtain ⟨d1, d2⟩ := hcell.out w2 (B1.out.trans (hB2.mono B1.out.size)); clear hO2 hB2))
  go_wp2_with fail
  go_ret2
  refine ⟨v1, v2, rfl, O1.out.on B2.out (Nat.le_refl _), O2.out.lower B1.out.size, fun k hk e => ?_, B1.out.trans (B2.out.mono B1.out.size)⟩
  have h1 := (World.ownsRow.lt O1.out k hk).2
  have h2 := (World.ownsRow.lt O2.out k e.symm).1
  omega
end Go.Proofs.Ytdkjmpicdkfgoaa
