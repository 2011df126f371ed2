/-
  TreeLoops.
-/
import Derived.Test.YtgcodlicbdaddaaGreatDoorZx
import Derived.Test.YtgcodlicbdaddaaGreatDoorB45
import Derived.StillTailTactics
set_option linter.unusedVariables false
set_option linter.unusedSimpArgs false
namespace Go.Proofs.YtgcodlicbdaddaaGreatDoor
open Go.RowKit BigFrame
set_option maxRecDepth 100000

/-- an answer's fields -/
theorem field_code (c n k l : Int) (d ns : Value) (w : World) : (Instr.field 38 (ansV c n k l d ns) 0).run Tryz.prog w = .ok (.int .i64 c) w := by kernel_rfl
theorem field_n (c n k l : Int) (d ns : Value) (w : World) : (Instr.field 38 (ansV c n k l d ns) 1).run Tryz.prog w = .ok (.int .i64 n) w := by kernel_rfl
theorem wrap_in' {n : Int} (h : -9223372036854775808 ≤ n ∧ n ≤ 9223372036854775807) : IntKind.i64.wrap n = n := by rw [IntKind.wrap_i64]; omega
theorem hrem_all : ∀ r : Nat, r < 4 → ∀ j : Nat, j < r + 1 → ((j : Int) + 1).tmod (1 + (r : Int)) = (((j + 1) % (r + 1) : Nat) : Int) := by decide
def LoopRel (w : World) (ta B m : Nat) (g : Nat) (u i : Value) (wr : World) : Prop :=
  ∃ (k b : Nat) (A : Ad), g = m - k + 1 ∧ k ≤ m ∧ b ≤ 3 + 2 * k ∧ u = .string (strOf (toL k)) ∧ i = .int .i64 ((k : Nat) : Int) ∧ TLive w wr ta B b A (stL k)
def LoopRel2 (w : World) (ta B m r ga : Nat) (ca : Int) (g : Nat) (i : Value) (wr : World) : Prop :=
  ∃ (k b : Nat) (A : Ad) (n c l : Int) (d q : Value), g = r + 1 - k + 1 ∧ k ≤ r + 1 ∧ b ≤ 100 + 2 * k ∧ i = .int .i64 ((k : Nat) : Int) ∧ TLive w wr ta B b A (stR m (r + 1) k) ∧ OffT wr A 38 ga [.int .i64 ca, .int .i64 n, .int .i64 c, .int .i64 l, d, q]
theorem endS : ({ data := #[47, 101, 110, 100] } : ByteArray) = strOf (toL 0) := by decide +kernel
theorem at_octs (k : Nat) (h : k < 13) : Octs [47, 97 + k] := .cons (by decide) (.cons (by omega) .nil)
theorem toL_octs (k : Nat) (h : k < 13 := by omega) : Octs (toL k) := by
  cases k with
  | zero => exact .cons (by decide) (.cons (by decide) (.cons (by decide) (.cons (by decide) .nil)))
  | succ k => exact at_octs k (by omega)
theorem at_all : ∀ k, k < 13 → (({ data := #[47] } : ByteArray) ++ ({ data := #[97, 98, 99, 100, 101, 102, 103, 104, 105, 106, 107, 108, 109, 110, 111, 112] } : ByteArray).extract k (k + 1)).data.toList = (strOf [47, 97 + k]).data.toList := by decide +kernel
theorem at_is (k : Nat) (h : k < 13) : ({ data := #[47] } : ByteArray) ++ ({ data := #[97, 98, 99, 100, 101, 102, 103, 104, 105, 106, 107, 108, 109, 110, 111, 112] } : ByteArray).extract k (k + 1) = strOf [47, 97 + k] := by
  apply ByteArray.ext
  apply Array.ext'
  exact at_all k h
theorem rq_all : ∀ k, k < 4 → (({ data := #[114] } : ByteArray) ++ ({ data := #[97, 98, 99, 100, 101, 102, 103, 104, 105, 106, 107, 108, 109, 110, 111, 112] } : ByteArray).extract k (k + 1)).data.toList = (strOf [114, 97 + k]).data.toList := by decide +kernel
theorem rq_is (k : Nat) (h : k < 4) : ({ data := #[114] } : ByteArray) ++ ({ data := #[97, 98, 99, 100, 101, 102, 103, 104, 105, 106, 107, 108, 109, 110, 111, 112] } : ByteArray).extract k (k + 1) = strOf [114, 97 + k] := by
  apply ByteArray.ext
  apply Array.ext'
  exact rq_all k h
theorem sj_all : ∀ k, k < 4 → (({ data := #[47, 114] } : ByteArray) ++ ({ data := #[97, 98, 99, 100, 101, 102, 103, 104, 105, 106, 107, 108, 109, 110, 111, 112] } : ByteArray).extract k (k + 1)).data.toList = (strOf [47, 114, 97 + k]).data.toList := by decide +kernel
theorem sj_is (k : Nat) (h : k < 4) : ({ data := #[47, 114] } : ByteArray) ++ ({ data := #[97, 98, 99, 100, 101, 102, 103, 104, 105, 106, 107, 108, 109, 110, 111, 112] } : ByteArray).extract k (k + 1) = strOf [47, 114, 97 + k] := by
  apply ByteArray.ext
  apply Array.ext'
  exact sj_all k h
theorem nbRa : nb ⟨#[47, 114, 97]⟩ = pRa := by decide +kernel
theorem ca_cases {k : Nat} {ca : Int} (h : (if k ≤ 8 then 0 else 12) = ca) : (k ≤ 8 ∧ ca = 0) ∨ (8 < k ∧ ca = 12) := by
  split at h
  · exact .inl ⟨by assumption, h.symm⟩
  · exact .inr ⟨by omega, h.symm⟩
set_option maxHeartbeats 4000000 in
theorem treeLoops_any (x y : Int) (w : World) : Calls Tryz.prog 6 #[.int .i64 x, .int .i64 y] w fun e w' => e = .returned (.bool true) ∧ Below w.heap.size w w' := by
  have hfd := field_code
  have hE : nb ⟨#[47, 101, 110, 100]⟩ = pEnd := by decide +kernel
  obtain ⟨n1, k1, l1, d1, m1, hrun1⟩ := end_run
  have hr1 := Lib.hid hrun1
  clear hrun1
  generalize hs0 : stL 0 = s1 at hr1
  have hs0' := Lib.hid hs0
  clear hs0
  go_enter Tryz.func6, Tryz.ntmps6
  have ci1 : True := trivial
  have ci2 : True := trivial
  go_wp2_with (first
    | (have _c := ci1; go_at_call 38; refine (low_c x 13 13 _ rfl (by omega) (by omega)).mono ?_; rintro e w9 ⟨m, hm, rfl, rfl⟩; clear ci1 _c)
    | (have _c := ci2; go_at_call 38; refine (low_c y 4 4 _ rfl (by omega) (by omega)).mono ?_; rintro e w9 ⟨r, hr, rfl, rfl⟩; clear ci2 _c)
    | (go_at_call 17; refine (treeNew_any _).mono ?_; rintro e wn ⟨A0, rfl, hT, hb⟩; have L0 := Lib.hid (TLive.new (w0 := w) (Below.refl _ _) hT hb); clear hT hb)
    | (go_at_call 20; refine (Do_live L0.out (by omega) hr1.out hE nb4 none 0 (by decide) InB.nil).mono ?_; rintro e wa ⟨p1, q1, x1, p2, q2, x2, A1, rfl, hL, hS, _⟩; have L1 := Lib.hid hL; clear hL hS))
  go_loopg [7, 8] (m + 1) (fun g u i wr => LoopRel w A0.t w.heap.size m g u i wr)
  case atStart => exact ⟨0, 3, A1, rfl, Nat.zero_le _, by omega, congrArg Value.string endS, rfl, by rw [hs0'.out]; exact L1.out⟩
  case round =>
    obtain ⟨k, b, A2, rfl, hk, hb, rfl, rfl, hL⟩ := hrel
    have hL' := Lib.hid hL
    clear hL
    have hoc := toL_octs k
    go_wp2_with fail
    · obtain ⟨n2, k2, l2, d2, m2, hrun2⟩ := sym_run (i := k) (by omega)
      have hr2 := Lib.hid hrun2
      clear hrun2
      have hat := Lib.hid (at_is k (by omega))
      rw [hat.out]
      refine (Do_live hL'.out (by omega) hr2.out (nb_strOf hoc) (nb_strOf (at_octs k (by omega))) none 0 (Nat.zero_le _) InB.nil).mono ?_
      rintro e wa ⟨p3, q3, x3, p4, q4, x4, A3, rfl, hL3, hS3, _⟩
      have L3 := Lib.hid hL3
      clear hL3 hS3
      go_wp2_with fail
      go_roundg (m - (k + 1) + 1)
      case measure => omega
      case rel => exact ⟨k + 1, b + 2, A3, rfl, by omega, by omega, rfl, by go_num, L3.out⟩
    · obtain rfl : k = m := by omega
      obtain ⟨n2, k2, l2, d2, m2, hrun2⟩ := stat_run (m := k) (r := r + 1) (by omega)
      obtain ⟨ca, hca⟩ : ∃ ca : Int, (if k ≤ 8 then 0 else 12) = ca := ⟨_, rfl⟩
      rw [hca] at hrun2
      have hr2 := Lib.hid hrun2
      have hca' := Lib.hid hca
      clear hrun2 hca
      refine (Do_live hL'.out (by omega) hr2.out (nb_strOf hoc) nb4 none 0 (Nat.zero_le _) InB.nil).mono ?_
      rintro e wa ⟨p3, q3, x3, p4, q4, x4, A3, rfl, hL3, hS3, _⟩
      have L3 := Lib.hid hL3
      have tk : True := trivial
      clear hL3 hS3
      go_wp2_with (first
        | (have _t := tk; refine wpList_alloc_ansv rfl rfl ?_; intro g1 wb W1 hgn hbn; have N1 := Lib.hid (L3.out.on hbn); have O1 := Lib.hid (L3.out.tree.fresh hgn); have G1 := Lib.hid hgn; clear tk _t hgn hbn; have tk2 : True := trivial)
        | (have _t := tk2; refine wpList_store_ans rfl (.tmp 10) (.tmp 51) rfl W1.out rfl rfl ca n2 k2 l2 _ _ _ _ _ _ rfl ?_; intro wc Z X; have X := X.out; have L4 := Lib.hid (N1.out.oth X O1.out (Nat.le_trans L3.out.below.size G1.out)); have V4 := Lib.hid (⟨Z.out, O1.out⟩ : OffT wc A3 38 g1 _); clear tk2 _t X Z))
      go_loopg [11] (r + 1 + 1) (fun g i wr => LoopRel2 w A0.t w.heap.size k r g1 ca g i wr)
      case atStart => exact ⟨0, b + 2, A3, _, _, _, _, _, rfl, Nat.zero_le _, by omega, rfl, L4.out, V4.out⟩
      case round =>
        obtain ⟨j, b2, A4, _, _, _, _, _, rfl, hj, hb2, rfl, hL5, hV5⟩ := hrel
        have L5 := Lib.hid hL5
        have V5 := Lib.hid hV5
        clear hL5 hV5
        go_wp2_with fail
        · have L5d := Lib.hid (L5.out.on (Below.refl _ _).drew)
          have V5d := Lib.hid (V5.out.below (Below.refl _ _).drew)
          have hjr : j < r + 1 := by omega
          obtain ⟨n6, k6, l6, d6, m6, hrun6⟩ := ring_run (m := k) (r := r) (i := j) (by omega) hr hjr
          obtain ⟨q, hq⟩ : ∃ q, (j + 1) % (r + 1) = q := ⟨_, rfl⟩
          unfold opRing at hrun6
          rw [hq] at hrun6
          have hr6 := Lib.hid hrun6
          clear hrun6
          have hq4 : q < 4 := by rw [← hq]; exact Nat.lt_of_lt_of_le (Nat.mod_lt _ (by omega)) (by omega)
          have hne : ¬ (1 + (r : Int) = 0) := by omega
          have hwj : IntKind.i64.wrap ((j : Int) + 1) = (j : Int) + 1 := wrap_in' (by omega)
          have hrem := hrem_all r hr j hjr
          rw [hq] at hrem
          have hwq : IntKind.i64.wrap ((q : Int) + 1) = (q : Int) + 1 := wrap_in' (by omega)
          have q0 : (0 : Int) ≤ (q : Int) := by omega
          have q1 : (q : Int) + 1 ≤ 16 := by omega
          have j0 : (0 : Int) ≤ (j : Int) := by omega
          have j1 : (j : Int) + 1 ≤ 16 := by omega
          have q2 : (0 : Int) ≤ (q : Int) + 1 := by omega
          have q3 : (q : Int) ≤ (q : Int) + 1 := by omega
          have j2 : (0 : Int) ≤ (j : Int) + 1 := by omega
          have j3 : (j : Int) ≤ (j : Int) + 1 := by omega
          have sz1 : ¬ 9223372036854775807 < 1 + (min (q + 1) 16 - q) := by omega
          have sz2 : ¬ 9223372036854775807 < 2 + (min (j + 1) 16 - j) := by omega
          have eq1 := Lib.hid (rq_is q hq4)
          have eq2 := Lib.hid (sj_is j (by omega))
          have o1 : Octs [114, 97 + q] := .cons (by decide) (.cons (by omega) .nil)
          have o2 : Octs [47, 114, 97 + j] := .cons (by decide) (.cons (by decide) (.cons (by omega) .nil))
          go_still_tail 20, (by kernel_rfl)
          change wpList _ _ _ _ _ wr.drew
          go_wp2_with fail
          rw [eq1.out, eq2.out]
          refine (Do_live L5d.out (by omega) hr6.out (nb_strOf o1) (nb_strOf o2) none 0 (Nat.zero_le _) InB.nil).mono ?_
          rintro e wd ⟨p5, q5, x5, p6, q6, x6, A6, rfl, hL6, hS6, _⟩
          have L6 := Lib.hid hL6
          have V6 := Lib.hid (V5d.out.turn hS6)
          clear hL6 hS6
          go_wp2_with fail
          go_roundg (r + 1 - (j + 1) + 1)
          case measure => omega
          case rel => exact ⟨j + 1, b2 + 2, A6, _, _, _, _, _, rfl, by omega, by omega, by go_num, L6.out, V6.out⟩
        · obtain rfl : j = r + 1 := by omega
          obtain ⟨s7, n7, k7, l7, d7, m7, c8, n8, l8, d8, m8, s8, hrun7, hrun8⟩ := ra_run (m := k) (r := r) (by omega) hr
          have hr7 := Lib.hid hrun7
          have hr8 := Lib.hid hrun8
          clear hrun7 hrun8
          have ci1 : True := trivial
          go_wp2_with (first
            | (have _c := ci1; go_at_call 20; refine (Do_live L5.out (by omega) hr7.out nbRa nb4 none 0 (Nat.zero_le _) InB.nil).mono ?_; rintro e wd ⟨p5, q5, x5, p6, q6, x6, A6, rfl, hL6, hS6, _⟩; have L6 := Lib.hid hL6; have V6 := Lib.hid (V5.out.turn hS6); clear ci1 _c hL6 hS6; have al1 : True := trivial)
            | (have _t := al1; refine wpList_alloc_ansv rfl rfl ?_; intro g2 we W2 hgn hbn; have N2 := Lib.hid (L6.out.on hbn); have O2 := Lib.hid (L6.out.tree.fresh hgn); have G2 := Lib.hid hgn; have V7 := Lib.hid (V6.out.below hbn); have H2 := Lib.hid (Nat.lt_of_lt_of_le V6.out.at_.lt hgn); clear al1 _t hgn hbn; have st1 : True := trivial)
            | (have _t := st1; refine wpList_store_ans rfl (.tmp 12) (.tmp 82) rfl W2.out rfl rfl 12 n7 k7 l7 _ _ _ _ _ _ rfl ?_; intro wf Z X; have X := X.out; have L7 := Lib.hid (N2.out.oth X O2.out (Nat.le_trans L6.out.below.size G2.out)); have U7 := Lib.hid (⟨Z.out, O2.out⟩ : OffT wf A6 38 g2 _); have V8 := Lib.hid (V7.out.oth X (by have := H2.out; omega)); clear st1 _t X Z; have ci2 : True := trivial)
            | (have _c := ci2; go_at_call 20; refine (Do_live L7.out (by omega) hr8.out nbRa nb4 none 0 (Nat.zero_le _) InB.nil).mono ?_; rintro e wg ⟨p7, q7, x7, p8, q8, x8, A7, rfl, hL8, hS8, _⟩; have L8 := Lib.hid hL8; have V9 := Lib.hid (V8.out.turn hS8); have U8 := Lib.hid (U7.out.turn hS8); clear ci2 _c hL8 hS8; have al2 : True := trivial)
            | (have _t := al2; refine wpList_alloc_ansv rfl rfl ?_; intro g3 wh W3 hgn hbn; have N3 := Lib.hid (L8.out.on hbn); have O3 := Lib.hid (L8.out.tree.fresh hgn); have G3 := Lib.hid hgn; have V10 := Lib.hid (V9.out.below hbn); have U10 := Lib.hid (U8.out.below hbn); have H3 := Lib.hid (Nat.lt_of_lt_of_le V9.out.at_.lt hgn); have H4 := Lib.hid (Nat.lt_of_lt_of_le U8.out.at_.lt hgn); clear al2 _t hgn hbn; have st2 : True := trivial)
            | (have _t := st2; refine wpList_store_ans rfl (.tmp 13) (.tmp 85) rfl W3.out rfl rfl c8 n8 3 l8 _ _ _ _ _ _ rfl ?_; intro wi Z X; have X := X.out; have L9 := Lib.hid (N3.out.oth X O3.out (Nat.le_trans L8.out.below.size G3.out)); have c1 := (V10.out.oth X (by have := H3.out; omega)).at_.cell (k := 0) rfl; have c2 := (U10.out.oth X (by have := H4.out; omega)).at_.cell (k := 0) rfl; have c3 := Z.out.cell (k := 2) rfl; clear st2 _t X Z; have ci3 : True := trivial; rcases ca_cases hca'.out with ⟨h8, rfl⟩ | ⟨h8, rfl⟩)
            | (have _c := ci3; go_at_call 16; refine (awake_c _).mono ?_; rintro e wj ⟨rfl, hb⟩; have B9 := Lib.hid (L9.out.below.trans (hb.mono L9.out.below.size)); clear ci3 _c hb))
          all_goals go_ret
          all_goals first
            | exact ⟨rfl, B9.out⟩
            | (refine ⟨?_, B9.out⟩; show Ending.returned (.bool _) = _; rw [decide_eq_false (by omega)]; rfl)
            | (refine ⟨?_, B9.out⟩; show Ending.returned (.bool _) = _; rw [decide_eq_true (by omega)])
end Go.Proofs.YtgcodlicbdaddaaGreatDoor
