/-
  TreeLong.
-/
import Derived.Test.YtgcodlicbdaddaaGreatDoorYla
import Derived.Test.YtgcodlicbdaddaaGreatDoorB45
set_option linter.unusedVariables false
set_option linter.unusedSimpArgs false
namespace Go.Proofs.YtgcodlicbdaddaaGreatDoor
open Go.RowKit BigFrame
set_option maxRecDepth 100000

theorem size_strOf (l : List Nat) : (strOf l).size = l.length := by show ((l.map UInt8.ofNat).toArray).size = _; simp
theorem field_c0 (c n k l : Int) (d ns : Value) (w : World) : (Instr.field 38 (ansV c n k l d ns) 0).run Tryz.prog w = .ok (.int .i64 c) w := by kernel_rfl
def LongRel (w : World) (ta B L : Nat) (g : Nat) (u i : Value) (wr : World) : Prop :=
  ∃ (k : Nat) (A : Ad), g = L - k + 1 ∧ k ≤ L ∧ u = .string (strOf (sL k)) ∧ i = .int .i64 ((k : Nat) : Int) ∧ TLive w wr ta B 1 A tr0
def LongRel2 (w : World) (ta B L : Nat) (g : Nat) (u d i : Value) (wr : World) : Prop :=
  ∃ (k b : Nat) (A : Ad), g = 22 - k + 1 ∧ k ≤ deepL L ∧ b ≤ 1 + 2 * k ∧ u = .string (strOf (pL L k)) ∧ d = .int .i64 ((k : Nat) : Int) ∧ i = .int .i64 ((k : Nat) : Int) ∧ TLive w wr ta B b A (stM L k)
theorem sl0 : ({ data := #[47] } : ByteArray) = strOf (sL 0) := by decide +kernel
theorem strOf_app (a b : List Nat) : strOf (a ++ b) = strOf a ++ strOf b := by
  apply ByteArray.ext
  apply Array.ext'
  simp [strOf]
theorem sl_add (k : Nat) : strOf (sL k) ++ ({ data := #[120] } : ByteArray) = strOf (sL (k + 1)) := by
  rw [← sL_succ, strOf_app]
  rfl
set_option maxHeartbeats 4000000 in
theorem treeLong_any (x : Int) (link : Bool) (w : World) : Calls Tryz.prog 11 #[.int .i64 x, .bool link] w fun e w' => e = .returned (.bool true) ∧ Below w.heap.size w w' := by

  have hfd := field_c0
  go_enter Tryz.func11, Tryz.ntmps11
  go_wp2_with (first
    | (go_at_call 38; refine (low_c x 24 24 _ rfl (by omega) (by omega)).mono ?_; rintro e w9 ⟨n, hn, rfl, rfl⟩)
    | (go_at_call 17; refine (treeNew_any _).mono ?_; rintro e wn ⟨A0, rfl, hT, hb⟩; have L0 := Lib.hid (TLive.new (w0 := w) (Below.refl _ _) hT hb); clear hT hb))
  go_loopg [6, 7] (n + 1 + 1) (fun g u i wr => LongRel w A0.t w.heap.size (n + 1) g u i wr)
  case atStart => exact ⟨0, A0, rfl, Nat.zero_le _, congrArg Value.string sl0, rfl, L0.out⟩
  case round =>
    obtain ⟨k, A1, rfl, hk, rfl, rfl, hL⟩ := hrel
    have hL' := Lib.hid hL
    clear hL
    have hsz : (strOf (sL k)).size = k + 1 := by rw [size_strOf, sL_len]
    go_wp2_with fail
    · have hk1 : k < n + 1 := by omega
      rw [sl_add]
      go_roundg (n + 1 - (k + 1) + 1)
      case measure => omega
      case rel => exact ⟨k + 1, A1, rfl, by omega, rfl, by go_num, hL'.out⟩
    · obtain rfl : k = n + 1 := by omega
      obtain ⟨hd1, hd20, hd200, hdn⟩ := deepL_is n hn
      obtain ⟨ss, hss⟩ : ∃ ss, strOf (sL (n + 1)) = ss := ⟨_, rfl⟩
      rw [hss] at hsz
      rw [hss]
      go_loopg [8, 9, 10] (22 + 1) (fun g u d i wr => LongRel2 w A0.t w.heap.size (n + 1) g u d i wr)
      case atStart => exact ⟨0, 1, A1, rfl, Nat.zero_le _, by omega, rfl, rfl, rfl, by rw [stM_zero]; exact hL'.out⟩
      case round =>
        obtain ⟨k, b, A2, rfl, hk2, hb, rfl, rfl, rfl, hL2⟩ := hrel
        have L2 := Lib.hid hL2
        clear hL2
        obtain ⟨a, ha⟩ : ∃ a, k * (n + 2) = a := ⟨_, rfl⟩
        have hpz : (strOf (pL (n + 1) k)).size = a := by rw [size_strOf, pL_len, ← ha]
        have hcat := Lib.hid (show strOf (pL (n + 1) k) ++ ss = strOf (pL (n + 1) (k + 1)) by rw [← hss, ← strOf_app]; rfl)
        have hnb := Lib.hid (show nb (strOf (pL (n + 1) k) ++ ss) = pL (n + 1) (k + 1) by rw [hcat.out, nb_strOf (pL_octs _ _)])
        have ha2 : a ≤ 200 := by rw [← ha]; exact Nat.le_trans (Nat.mul_le_mul_right _ hk2) hd200
        have hps' := Lib.hid (show nb (strOf (pL (n + 1) k)) = pL (n + 1) k from nb_strOf (pL_octs _ _))
        obtain ⟨ps, hps⟩ : ∃ ps, strOf (pL (n + 1) k) = ps := ⟨_, rfl⟩
        rw [hps] at hpz hcat hnb hps'
        rw [hps]
        clear hps
        have k22 : (k : Int) < 22 := by omega
        rcases Nat.lt_or_eq_of_le hk2 with hlt | hke
        · have hfit : a + (n + 2) ≤ 200 := by
            have := Nat.le_trans (Nat.mul_le_mul_right (n + 2) hlt) hd200
            rw [Nat.succ_mul, ha] at this
            exact this
          clear ha
          obtain ⟨n2, k2, l2, d2, m2, hrun2⟩ := mk_run hn hlt
          have hr2 := Lib.hid hrun2
          clear hrun2
          have ci1 : True := trivial
          go_wp2_with (first
            | (have _c := ci1; go_at_call 20; refine (Do_live L2.out (by omega) hr2.out hnb.out nb4 none 0 (Nat.zero_le _) InB.nil).mono ?_; rintro e wa ⟨p3, q3, x3, p4, q4, x4, A3, rfl, hL3, hS3, _⟩; have L3 := Lib.hid hL3; clear ci1 _c hL3 hS3; have tk : True := trivial)
            | (have _t := tk; refine wpList_alloc_ansv rfl rfl ?_; intro g1 wb W1 hgn hbn; have N1 := Lib.hid (L3.out.on hbn); have O1 := Lib.hid (L3.out.tree.fresh hgn); have G1 := Lib.hid hgn; clear tk _t hgn hbn; have tk2 : True := trivial)
            | (have _t := tk2; refine wpList_store_ans rfl (.tmp 11) (.tmp 36) rfl W1.out rfl rfl 0 n2 k2 l2 _ _ _ _ _ _ rfl ?_; intro wc Z X; have X := X.out; have L4 := Lib.hid (N1.out.oth X O1.out (Nat.le_trans L3.out.below.size G1.out)); have c1 := Z.out.cell (k := 0) rfl; clear tk2 _t X Z))
          rw [hcat.out]
          go_roundg (22 - (k + 1) + 1)
          case measure => omega
          case rel => exact ⟨k + 1, b + 2, A3, rfl, hlt, by omega, rfl, by go_num, by go_num, L4.out⟩
        · have hend : k = 20 ∨ 200 < a + (n + 2) := by
            rw [← hke, Nat.succ_mul, ha] at hdn
            exact hdn
          obtain ⟨n2, k2, l2, d2, m2, hrun2⟩ := last_run hn
          have hmany := nodes_many hn
          rw [← hke] at hrun2 hmany
          have hr2 := Lib.hid hrun2
          obtain ⟨nn, hnn⟩ : ∃ nn, (stE (n + 1)).nodes.length = nn := ⟨_, rfl⟩
          rw [hnn] at hmany
          have hnn := Lib.hid hnn
          rw [← hke] at hd1
          have hnot : ((k : Int) < 20) = False ∨ ((k : Int) < 20 ∧ decide ((a : Int) + ((n : Int) + 1 + 1) ≤ 200) = false) := by
            rcases hend with h | h
            · left; simp; omega
            · by_cases h2 : k < 20
              · right; refine ⟨by omega, ?_⟩; exact decide_eq_false (by omega)
              · left; simp; omega
          by_cases hl : link = true ∧ a ≤ 100
          · obtain ⟨rfl, h100⟩ := hl
            obtain ⟨n5, k5, l5, d5, m5, s5, n6, k6, l6, d6, m6, s6, hrun5, hrun6⟩ := link_run hn (by rw [← hke, ha]; exact h100)
            rw [← hke] at hrun5
            have hr5 := Lib.hid hrun5
            have hr6 := Lib.hid hrun6
            have hns := Lib.hid (show nb (({ data := #[47, 108] } : ByteArray) ++ ss) = [47, 108] ++ sL (n + 1) by rw [← hss, show ({ data := #[47, 108] } : ByteArray) = strOf [47, 108] from rfl, ← strOf_app]; exact nb_strOf (.cons (by decide) (.cons (by decide) (sL_octs _))))
            clear hrun2 hrun5 hrun6 ha hke hend
            have nbl : nb (⟨#[47, 108]⟩ : ByteArray) = [47, 108] := by decide +kernel
            have ci1 : True := trivial
            rcases hnot with hn1 | ⟨hn1, hn2⟩
            case inr => have := of_decide_eq_false hn2; exfalso; omega
            go_wp2_with (first
            | (have _c := ci1; go_at_call 20; refine (Do_live L2.out (by omega) hr2.out hnb.out nb4 none 0 (Nat.zero_le _) InB.nil).mono ?_; rintro e wa ⟨p3, q3, x3, p4, q4, x4, A3, rfl, hL3, hS3, _⟩; have L3 := Lib.hid hL3; clear ci1 _c hL3 hS3; have tk : True := trivial)
            | (have _t := tk; refine wpList_alloc_ansv rfl rfl ?_; intro g1 wb W1 hgn hbn; have N1 := Lib.hid (L3.out.on hbn); have O1 := Lib.hid (L3.out.tree.fresh hgn); have G1 := Lib.hid hgn; clear tk _t hgn hbn; have tk2 : True := trivial)
            | (have _t := tk2; refine wpList_store_ans rfl (.tmp 11) (.tmp 36) rfl W1.out rfl rfl 11 n2 k2 l2 _ _ _ _ _ _ rfl ?_; intro wc Z X; have X := X.out; have L4 := Lib.hid (N1.out.oth X O1.out (Nat.le_trans L3.out.below.size G1.out)); have c1 := Z.out.cell (k := 0) rfl; clear tk2 _t X Z; have ci2 : True := trivial)
            | (have _c := ci2; go_at_call 20; refine (Do_live L4.out (by omega) hr5.out hps'.out nbl none 0 (Nat.zero_le _) InB.nil).mono ?_; rintro e wd ⟨p5, q5, x5, p6, q6, x6, A5, rfl, hL5, hS5, _⟩; have L5 := Lib.hid hL5; clear ci2 _c hL5 hS5; have ci4 : True := trivial)
            | (have _c := ci4; go_at_call 20; refine (Do_live L5.out (by omega) hr6.out hns.out nb4 none 0 (Nat.zero_le _) InB.nil).mono ?_; rintro e we ⟨p7, q7, x7, p8, q8, x8, A6, rfl, hL6, hS6, _⟩; have L6 := Lib.hid hL6; clear ci4 _c hL6 hS6; have tk5 : True := trivial)
            | (have _t := tk5; refine wpList_alloc_ansv rfl rfl ?_; intro g2 wf W2 hgn hbn; have N2 := Lib.hid (L6.out.on hbn); have O2 := Lib.hid (L6.out.tree.fresh hgn); have G2 := Lib.hid hgn; clear tk5 _t hgn hbn; have tk6 : True := trivial)
            | (have _t := tk6; refine wpList_store_ans rfl (.tmp 13) (.tmp 86) rfl W2.out rfl rfl 11 n6 k6 l6 _ _ _ _ _ _ rfl ?_; intro wg Z X; have X := X.out; have L7 := Lib.hid (N2.out.oth X O2.out (Nat.le_trans L6.out.below.size G2.out)); have c2 := Z.out.cell (k := 0) rfl; clear tk6 _t X Z; have ci7 : True := trivial)
            | (have _c := ci7; go_at_call 16; refine (awake_c _).mono ?_; rintro e wj ⟨rfl, hb⟩; have B9 := Lib.hid (L7.out.below.trans (hb.mono L7.out.below.size)); clear ci7 _c hb))
            go_ret
            exact ⟨rfl, B9.out⟩
          · clear hrun2 ha hke hend
            have hnl : link = false ∨ (link = true ∧ ¬ (a : Int) ≤ 100) := by
              cases link
              · exact .inl rfl
              · exact .inr ⟨rfl, fun h => hl ⟨rfl, by omega⟩⟩
            clear hl
            have d1 : (1 : Int) ≤ (k : Int) := by omega
            have d2 : (k : Int) ≤ (nn : Int) := by omega
            have ci1 : True := trivial
            rcases hnot with hn1 | ⟨hn1, hn2⟩
            all_goals rcases hnl with rfl | ⟨rfl, hn3⟩
            all_goals go_wp2_with (first
            | (have _c := ci1; go_at_call 20; refine (Do_live L2.out (by omega) hr2.out hnb.out nb4 none 0 (Nat.zero_le _) InB.nil).mono ?_; rintro e wa ⟨p3, q3, x3, p4, q4, x4, A3, rfl, hL3, hS3, _⟩; have L3 := Lib.hid hL3; clear ci1 _c hL3 hS3; have tk : True := trivial)
            | (have _t := tk; refine wpList_alloc_ansv rfl rfl ?_; intro g1 wb W1 hgn hbn; have N1 := Lib.hid (L3.out.on hbn); have O1 := Lib.hid (L3.out.tree.fresh hgn); have G1 := Lib.hid hgn; clear tk _t hgn hbn; have tk2 : True := trivial)
            | (have _t := tk2; refine wpList_store_ans rfl (.tmp 11) (.tmp 36) rfl W1.out rfl rfl 11 n2 k2 l2 _ _ _ _ _ _ rfl ?_; intro wc Z X; have X := X.out; have L4 := Lib.hid (N1.out.oth X O1.out (Nat.le_trans L3.out.below.size G1.out)); have c1 := Z.out.cell (k := 0) rfl; clear tk2 _t X Z; have ci2 : True := trivial)
            | (have _c := ci2; go_at_call 32; have hN := treeNodes_any L4.out.tree L4.out.ok (by omega); rw [L4.out.t] at hN; refine hN.mono ?_; rintro e wf ⟨v, R, rfl, hR, hrows, hb⟩; obtain ⟨pp, cc, rfl⟩ := hR.form (n := nn) (by rw [← hnn.out, ← hrows, List.length_map]); have L5 := Lib.hid (L4.out.on hb); clear ci2 _c hb hR hrows hN; have ci7 : True := trivial)
            | (have _c := ci7; go_at_call 16; refine (awake_c _).mono ?_; rintro e wj ⟨rfl, hb⟩; have B9 := Lib.hid (L5.out.below.trans (hb.mono L5.out.below.size)); clear ci7 _c hb))
            all_goals go_ret
            all_goals exact ⟨rfl, B9.out⟩
            all_goals exact ⟨rfl, B9.out⟩
end Go.Proofs.YtgcodlicbdaddaaGreatDoor
