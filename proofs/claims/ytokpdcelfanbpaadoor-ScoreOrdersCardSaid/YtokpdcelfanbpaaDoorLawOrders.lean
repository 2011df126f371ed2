/-
  The law on what stands ahead of what, walked.
-/
import Derived.Test.YtokpdcelfanbpaaDoorArr
import Derived.BigQuiet
import Derived.Deep.DeepCutAuto
namespace Go.Proofs.YtokpdcelfanbpaaDoor
open Go.RowKit Fl BigFrame

set_option maxRecDepth 20000 in
theorem orders_many (a b c n : Nat) (d : Option Addr) (cap : Nat) (w : World) {B0 : Nat} (ht : Tab B0 w) (h : 30 < n) :
    Calls Tryd.prog 4 #[.int .u64 a, .int .u64 b, .int .u64 c, .slice d n cap] w fun e w' => e = .returned (.bool true) ∧ Below w.heap.size w w' := by
  have T := Lib.hid ht
  have e1 : decide ((30 : Int) < (n : Int)) = true := by simp; omega
  clear ht h
  go_enter Tryd.func4, Tryd.ntmps4
  go_wp2_with (go_at_call 11; refine (awake_any _ T.out).mono ?_; rintro e w' ⟨rfl, hb1⟩)
  go_ret
  exact ⟨rfl, hb1⟩

/-- of two numbers one stands ahead, or both are alike; of three the order goes on -/
def Three (a b c : Nat) (p1 p2 p3 p4 p5 : Bool) : Prop :=
  decide (key a < key b) = p1 ∧ decide (key b < key a) = p2 ∧ decide (key a = key b) = p3 ∧ decide (key b < key c) = p4 ∧ decide (key a < key c) = p5
theorem three (a b c : Nat) : Three a b c true false false true true ∨ (∃ p5, Three a b c true false false false p5) ∨ (∃ p4 p5, Three a b c false true false p4 p5) ∨ ∃ p4 p5, Three a b c false false true p4 p5 := by
  unfold Three
  by_cases h1 : key a < key b
  · by_cases h2 : key b < key c
    · left; simp; omega
    · right; left; refine ⟨_, ?_, ?_, ?_, ?_, rfl⟩ <;> simp <;> omega
  · by_cases h2 : key b < key a
    · right; right; left; refine ⟨_, _, ?_, ?_, ?_, rfl, rfl⟩ <;> simp <;> omega
    · right; right; right; refine ⟨_, _, ?_, ?_, ?_, rfl, rfl⟩ <;> simp <;> omega

def b2i (p : Bool) : Int := if p then 1 else 0
theorem b2i_bd (p : Bool) : 0 ≤ b2i p ∧ b2i p ≤ 1 := by cases p <;> decide
/-- how far each loop is -/
def UpTo (ad : Option Addr) (g : Nat) (C : Nat → Int) (xs : List Nat) (w : World) (i : Value) (wr : World) : Prop :=
  ∃ k : Nat, k ≤ xs.length ∧ i = .int .i64 k ∧ FAt wr ad xs ∧ At g xs.length C wr ∧ Below w.heap.size w wr
def UpTo2 (ad : Option Addr) (xs : List Nat) (w : World) (i : Value) (wr : World) : Prop :=
  ∃ k : Nat, k ≤ xs.length ∧ i = .int .i64 k ∧ FAt wr ad xs ∧ Below w.heap.size w wr
theorem FAt.drewN {ad : Option Addr} {xs : List Nat} {w : World} {m : Nat} (h : FAt w ad xs) : FAt (w.drewN m) ad xs := by
  rcases h with h | ⟨b, off, rfl, hx⟩
  · exact .inl h
  · exact .inr ⟨b, off, rfl, hx.cell, hx.fits⟩
theorem bl_drewN {B m : Nat} {a w : World} (h : Below B a w) : Below B a (w.drewN m) := ⟨h.os, h.tape, h.output, h.size, h.block⟩

theorem upTo2_next {ad : Option Addr} {xs : List Nat} {w wr : World} {k m : Nat} (hlt : k < xs.length) (hx : FAt wr ad xs) (hb : Below w.heap.size w wr) : UpTo2 ad xs w (.int .i64 ((k : Int) + 1)) (wr.drewN m) :=
  ⟨k + 1, by omega, by go_num, hx.drewN, bl_drewN hb⟩

set_option maxRecDepth 20000 in
set_option maxHeartbeats 2000000 in
theorem orders_some (a b c : Nat) (ha : Fits a) (hb : Fits b) (hc : Fits c) (zs : List Int) (cap : Nat) (ad : Option Addr) (w : World) {B0 : Nat} (ht : Tab B0 w) (hl : zs.length ≤ 30) (hv : ISlice .u64 w (.slice ad zs.length cap) zs)
    (p1 p2 p3 p4 p5 : Bool) (h3 : Three a b c p1 p2 p3 p4 p5) (hp : (p1, p2, p3, p4, p5) = (true, false, false, true, true) ∨ (p1, p2, p3, p4) = (true, false, false, false) ∨ (p1, p2, p3) = (false, true, false) ∨ (p1, p2, p3) = (false, false, true)) :
    Calls Tryd.prog 4 #[.int .u64 a, .int .u64 b, .int .u64 c, .slice ad zs.length cap] w fun e w' => e = .returned (.bool true) ∧ Below w.heap.size w w' := by
  have T := Lib.hid ht
  have hv' := Lib.hid hv
  have e1 : decide ((30 : Int) < (zs.length : Int)) = false := by simp; omega
  have hf := frombits_run
  obtain ⟨d1, d2, d3, d4, d5⟩ := h3
  clear ht hv
  have hp' := Lib.hid hp
  have n1 := b2i_bd p1
  have n2 := b2i_bd p2
  obtain ⟨m1, hm1⟩ : ∃ m, m = b2i p1 := ⟨_, rfl⟩
  obtain ⟨m2, hm2⟩ : ∃ m, m = b2i p1 + b2i p2 := ⟨_, rfl⟩
  have hm1' := Lib.hid hm1
  have hm2' := Lib.hid hm2
  have b1 : 0 ≤ m1 ∧ m1 ≤ 1 := by omega
  have b2 : 0 ≤ m2 ∧ m2 ≤ 2 := by omega
  obtain ⟨b11, b12⟩ := b1
  obtain ⟨b21, b22⟩ := b2
  clear hp hm1 hm2 n1 n2
  go_enter Tryd.func4, Tryd.ntmps4
  go_upto_if 30 with (go_at_call 24; refine (less_any _ _ _ (by assumption) (by assumption)).mono ?_; rintro e w' ⟨rfl, rfl⟩)
  go_cut [12] (fun n wx => n = .int .i64 m1 ∧ w = wx)
  case first =>
    cases p1 with
    | true =>
      go_wp2_with fail
      go_meet
      exact ⟨by rw [hm1'.out]; rfl, rfl⟩
    | false =>
      go_wp2_with fail
      go_meet
      exact ⟨by rw [hm1'.out]; rfl, rfl⟩
  case rest =>
  obtain ⟨rfl, rfl⟩ := hcut
  go_upto_if 35 with (go_at_call 24; refine (less_any _ _ _ (by assumption) (by assumption)).mono ?_; rintro e w' ⟨rfl, rfl⟩)
  go_cut [12] (fun n wx => n = .int .i64 m2 ∧ w = wx)
  case first =>
    cases p2 with
    | true =>
      go_wp2_with fail
      go_meet
      exact ⟨by rw [hm2'.out, hm1'.out]; rfl, rfl⟩
    | false =>
      go_wp2_with fail
      go_meet
      exact ⟨by rw [hm2'.out, hm1'.out]; simp [b2i], rfl⟩
  case rest =>
  obtain ⟨rfl, rfl⟩ := hcut
  go_upto_if 40 with (go_at_call 23; refine (alike_any _ _ _ (by assumption) (by assumption)).mono ?_; rintro e w' ⟨rfl, rfl⟩)
  go_cut [12] (fun n wx => n = .int .i64 1 ∧ w = wx)
  case first =>
    have he : m2 = if p3 then 0 else 1 := by
      rw [hm2'.out]
      rcases hp'.out with h | h | h | h <;> simp only [Prod.mk.injEq] at h <;> simp [h, b2i]
    clear hm1' hm2' b11 b12 b21 b22
    cases p3 with
    | true =>
      obtain rfl : m2 = 0 := he
      go_wp2_with fail
      go_meet
      exact ⟨rfl, rfl⟩
    | false =>
      obtain rfl : m2 = 1 := he
      go_wp2_with fail
      go_meet
      exact ⟨rfl, rfl⟩
  case rest =>
  obtain ⟨rfl, rfl⟩ := hcut
  go_upto_region 11 with (fail)
  go_cut [66] (fun t wx => t = .bool false ∧ w = wx)
  case first =>
    have d6 : decide (key a = key a) = true := by simp
    have hpp := hp'.out
    clear hp' hm1' hm2' b11 b12 b21 b22
    simp only [Prod.mk.injEq] at hpp
    rcases hpp with ⟨rfl, rfl, rfl, rfl, rfl⟩ | ⟨rfl, rfl, rfl, rfl⟩ | ⟨rfl, rfl, rfl⟩ | ⟨rfl, rfl, rfl⟩
    all_goals
      go_wp2_with (first
        | (go_at_call 24; refine (less_any _ _ _ (by assumption) (by assumption)).mono ?_; rintro e w' ⟨rfl, rfl⟩)
        | (go_at_call 23; refine (alike_any _ _ _ (by assumption) (by assumption)).mono ?_; rintro e w' ⟨rfl, rfl⟩))
      go_meet
      exact ⟨rfl, rfl⟩
  case rest =>
  obtain ⟨rfl, rfl⟩ := hcut
  clear d1 d2 d3 d4 d5 hm1' hm2' b11 b12 b21 b22 hp'
  go_wp2_with fail
  refine (numbers_sl _ zs w hv'.out (by omega)).mono ?_
  rintro e w1 ⟨a1, c1, rfl, hx, hb1, _⟩
  have hL := bitsOf_length zs
  generalize bitsOf zs = xs at *
  rw [← hL] at hl ⊢
  have hx' := Lib.hid hx
  clear hx hL hv'
  go_wp2_with fail
  refine (order_sl a1 c1 xs w1 hx'.out (by omega)).mono ?_
  rintro e w2 ⟨g, C, rfl, _, _, hA, hP, hb2⟩
  have hx2 := hx'.out.on hb2 rfl
  have hb12 := Lib.hid (stp hb1 hb2)
  clear hb1 hb2 hx'
  go_wp2_with fail
  go_loopw [15] (fun i wr => UpTo a1 g C xs w i wr) (fun i _ => xs.length - (intOf i).toNat)
  case atStart => exact ⟨0, by omega, rfl, hx2, hA, hb12.out⟩
  case round =>
    clear hx2 hA
    obtain ⟨k, hk, rfl, hx2, hA, hb⟩ := hrel
    by_cases hlt : k < xs.length
    · obtain ⟨b1, o1, rfl, hF⟩ := hx2.at hlt
      obtain ⟨i0, hi0⟩ := Int.eq_ofNat_of_zero_le (hP.2 k hlt).1
      have hi1 : i0 < xs.length := by have := (hP.2 k hlt).2; omega
      have c0 : wr.cell? ⟨g, k, none⟩ = some (.int .i64 i0) := by rw [(hA k hlt).1, hi0]
      have q0 := hF.cell i0 hi1
      have f0 := hF.fits i0 hi1
      have hend := Lib.hid (show ∀ m, UpTo (some ⟨b1, o1, none⟩) g C xs w (.int .i64 ((k : Int) + 1)) (wr.drewN m) from fun m => ⟨k + 1, by omega, by go_num, hx2.drewN, hA.drewN, bl_drewN hb⟩)
      have gA : decide ((i0 : Int) < 0) = false := by simp
      have gB : decide (xs.length ≤ i0) = false := by simp; omega
      cases k with
      | zero =>
        clear hx2 hA hb hP hF hi0
        as_aux_lemma =>
          go_wp2_with fail
          simp only [List.append]
          go_big_quiet (fail)
          go_wp2_with fail
          exact ⟨hend.out _, by simp [intOf]; omega⟩
      | succ k =>
        obtain ⟨j0, hj0⟩ := Int.eq_ofNat_of_zero_le (hP.2 k (by omega)).1
        have hj1 : j0 < xs.length := by have := (hP.2 k (by omega)).2; omega
        have c1 : wr.cell? ⟨g, k, none⟩ = some (.int .i64 j0) := by rw [(hA k (by omega)).1, hj0]
        have q1 := hF.cell j0 hj1
        have f1 := hF.fits j0 hj1
        have hlk : key (fl xs j0) < key (fl xs i0) ∨ (key (fl xs j0) = key (fl xs i0) ∧ j0 < i0) := by
          have := hP.1 k (k + 1) (by omega) (by omega) hlt
          rw [hi0, hj0] at this
          rcases this with h | h
          · exact .inl h
          · exact .inr ⟨h.1, by omega⟩
        have g1 : decide (key (fl xs i0) < key (fl xs j0)) = false := by simp; omega
        have gC : decide ((0 : Int) < (k : Int) + 1) = true := by simp only [decide_eq_true_eq]; omega
        clear hx2 hA hb hP hF hi0 hj0
        by_cases hq : key (fl xs i0) = key (fl xs j0)
        · have g2 : decide (key (fl xs i0) = key (fl xs j0)) = true := by simpa using hq
          have g3 : decide (i0 < j0) = false := by simp; omega
          clear hlk hq
          as_aux_lemma =>
            go_wp2_with fail
            simp only [List.append]
            go_big_quiet (first
              | (go_at_call 24; refine Calls.quiet_of_same ((less_any _ _ _ (by assumption) (by assumption)).mono fun _ _ h => ⟨by rw [h.1, g1], h.2.symm⟩))
              | (go_at_call 23; refine Calls.quiet_of_same ((alike_any _ _ _ (by assumption) (by assumption)).mono fun _ _ h => ⟨by rw [h.1, g2], h.2.symm⟩)))
            go_wp2_with fail
            exact ⟨hend.out _, by simp [intOf]; omega⟩
        · have g2 : decide (key (fl xs i0) = key (fl xs j0)) = false := by simpa using hq
          clear hlk hq
          as_aux_lemma =>
            go_wp2_with fail
            simp only [List.append]
            go_big_quiet (first
              | (go_at_call 24; refine Calls.quiet_of_same ((less_any _ _ _ (by assumption) (by assumption)).mono fun _ _ h => ⟨by rw [h.1, g1], h.2.symm⟩))
              | (go_at_call 23; refine Calls.quiet_of_same ((alike_any _ _ _ (by assumption) (by assumption)).mono fun _ _ h => ⟨by rw [h.1, g2], h.2.symm⟩)))
            go_wp2_with fail
            exact ⟨hend.out _, by simp [intOf]; omega⟩
    · have hk' : k = xs.length := by omega
      subst hk'
      have hbs := best_sl a1 c1 xs wr hx2 (by omega)
      clear hA hP
      rcases best_spec xs xs.length with ⟨hk1, hk2⟩ | ⟨j, hk1, hk2, hk3, hk4, _⟩
      · rw [hk1] at hbs
        have hbs' := Lib.hid hbs
        have hb' := Lib.hid hb
        have hx2' := Lib.hid hx2
        clear hb hx2 hbs hk1
        go_wp2_with fail
        refine hbs'.out.mono ?_
        rintro e w3 ⟨rfl, rfl⟩
        go_wp2_with fail
        go_loopw [17] (fun i wq => UpTo2 a1 xs w i wq) (fun i _ => xs.length - (intOf i).toNat)
        case atStart => exact ⟨0, by omega, rfl, hx2'.out, hb'.out⟩
        case round =>
          clear hx2' hb' hbs'
          obtain ⟨k, hk, rfl, hx2, hb⟩ := hrel
          by_cases hlt : k < xs.length
          · obtain ⟨b1, o1, rfl, hF⟩ := hx2.at hlt
            have q0 := hF.cell k hlt
            have g1 := hk2 k hlt
            have g2 : decide ((xs.length : Int) ≤ -1) = false := by simp; omega
            have hend := Lib.hid (fun m => upTo2_next (m := m) hlt hx2 hb)
            clear hx2 hb hF
            as_aux_lemma =>
              go_wp2_with fail
              try simp only [List.append]
              go_big_quiet ((go_at_call 32; refine Calls.quiet_of_same ((isNaN_any _ _).mono fun _ _ h => ⟨by rw [h.1, g1], h.2.symm⟩)))
              go_wp2_with fail
              exact ⟨hend.out _, by simp [intOf]; omega⟩
          · have hb' := Lib.hid hb
            clear hb hx2
            go_wp2_with fail
            refine (awake_any _ (T.out.on hb'.out)).mono ?_
            rintro e w5 ⟨rfl, c5⟩
            go_wp2_with fail
            go_ret
            exact ⟨rfl, stp hb'.out c5⟩
      · rw [hk1] at hbs
        have hbs' := Lib.hid hbs
        have hb' := Lib.hid hb
        have hx2' := Lib.hid hx2
        have hk4' := Lib.hid hk4
        clear hb hx2 hbs hk1 hk4
        go_wp2_with fail
        refine hbs'.out.mono ?_
        rintro e w3 ⟨rfl, rfl⟩
        go_wp2_with fail
        go_loopw [17] (fun i wq => UpTo2 a1 xs w i wq) (fun i _ => xs.length - (intOf i).toNat)
        case atStart => exact ⟨0, by omega, rfl, hx2'.out, hb'.out⟩
        case round =>
          clear hx2' hb' hbs'
          obtain ⟨k, hk, rfl, hx2, hb⟩ := hrel
          by_cases hlt : k < xs.length
          · obtain ⟨b1, o1, rfl, hF⟩ := hx2.at hlt
            have q0 := hF.cell k hlt
            have q1 := hF.cell j hk2
            have f0 := hF.fits k hlt
            have f1 := hF.fits j hk2
            have g1 : decide (key (fl xs j) < key (fl xs k)) = false := by have := hk4'.out k hlt; simp; omega
            have g2 : decide (xs.length ≤ j) = false := by simp; omega
            have g3 : decide ((j : Int) < 0) = false := by simp
            have g4 : decide ((0 : Int) ≤ (j : Int)) = true := by simp
            have hend := Lib.hid (fun m => upTo2_next (m := m) hlt hx2 hb)
            clear hx2 hb hF
            as_aux_lemma =>
              go_wp2_with fail
              try simp only [List.append]
              go_big_quiet (first
                | (go_at_call 32; refine Calls.quiet_of_same ((isNaN_any _ _).mono fun _ _ h => ⟨by rw [h.1, hk3], h.2.symm⟩))
                | (go_at_call 24; refine Calls.quiet_of_same ((less_any _ _ _ (by assumption) (by assumption)).mono fun _ _ h => ⟨by rw [h.1, g1], h.2.symm⟩)))
              go_wp2_with fail
              exact ⟨hend.out _, by simp [intOf]; omega⟩
          · have hb' := Lib.hid hb
            clear hb hx2
            go_wp2_with fail
            refine (awake_any _ (T.out.on hb'.out)).mono ?_
            rintro e w5 ⟨rfl, c5⟩
            go_wp2_with fail
            go_ret
            exact ⟨rfl, stp hb'.out c5⟩

theorem orders_any (v : Value) (zs : List Int) (a b c : Nat) (ha : Fits a) (hb : Fits b) (hc : Fits c) (w : World) {B0 : Nat} (ht : Tab B0 w) (hv : ISlice .u64 w v zs) :
    Calls Tryd.prog 4 #[.int .u64 a, .int .u64 b, .int .u64 c, v] w fun e w' => e = .returned (.bool true) ∧ Below w.heap.size w w' := by
  have go : ∀ (ad : Option Addr) (cap : Nat), v = .slice ad zs.length cap → zs.length ≤ 30 → Calls Tryd.prog 4 #[.int .u64 a, .int .u64 b, .int .u64 c, v] w fun e w' => e = .returned (.bool true) ∧ Below w.heap.size w w' := by
    rintro ad cap rfl hl
    rcases three a b c with h | ⟨p5, h⟩ | ⟨p4, p5, h⟩ | ⟨p4, p5, h⟩
    · exact orders_some a b c ha hb hc zs cap ad w ht hl hv _ _ _ _ _ h (by simp)
    · exact orders_some a b c ha hb hc zs cap ad w ht hl hv _ _ _ _ _ h (by simp)
    · exact orders_some a b c ha hb hc zs cap ad w ht hl hv _ _ _ _ _ h (by simp)
    · exact orders_some a b c ha hb hc zs cap ad w ht hl hv _ _ _ _ _ h (by simp)
  by_cases hl : zs.length ≤ 30
  · rcases hv with ⟨ad, cap, rfl, rfl⟩ | ⟨h0, b1, off, cap, rfl, _⟩
    · exact go ad cap rfl hl
    · exact go _ cap rfl hl
  · rcases hv with ⟨ad, cap, rfl, rfl⟩ | ⟨h0, b1, off, cap, rfl, _⟩
    · exact absurd (Nat.zero_le _) hl
    · exact orders_many a b c _ _ cap w ht (by omega)
end Go.Proofs.YtokpdcelfanbpaaDoor
