/-
  CachePins: the walk.
-/
import Derived.Test.YtedbfehoeflmgaaClc
import Derived.Deep.LoopGhost
set_option linter.unusedVariables false
set_option linter.unusedSimpArgs false
namespace Go.Proofs.Ytedbfehoeflmgaa
open Go.RowKit BigFrame
set_option maxRecDepth 100000

theorem get_of {H : List Sx} (hA : Apart H) {x : Sx} (hx : x ∈ H) {a : Int} (ha : a = (x.pos : Int)) : get H a = some x := by subst ha; exact get_at hA hx
/-- a round of it -/
def PinRel (w0 : World) (A : Lies) (d : Dk) (C G m q k : Nat) (wr : World) : Prop := ∃ c H, Cv w0 wr A d c C G m (1 + k) H ∧ PinIn m q H
theorem pin_start {x : Sx} {m q : Nat} (hq : x.pos = q) (hd : x.dirty = false) (hm : 1 ≤ m) : PinIn m q (trim m (putS (x.withP true) [x])) := by
  have e : putS (x.withP true) [x] = [x.withP true] := by unfold putS; rw [List.map_singleton]; exact congrArg (fun z => [z]) (if_pos rfl)
  rw [e, trim_one _ _ hm]
  refine ⟨⟨_, List.mem_cons_self, hq, rfl⟩, fun y hy => ?_, fun y hy hne => ?_, by simp; omega⟩
  · rw [List.mem_singleton] at hy; rw [hy]; exact hd
  · rw [List.mem_singleton] at hy; rw [hy] at hne; exact absurd hq hne
/-- is q among the first k? -/
theorem any_next {W : List Nat} {k q x : Nat} (hx : W[k]? = some x) : decide (q ∈ W.take (k + 1)) = (decide (q ∈ W.take k) || decide ((x : Int) = (q : Int))) := by
  rw [take_snoc hx]
  by_cases h1 : q ∈ W.take k
  · rw [decide_eq_true h1, decide_eq_true (List.mem_append_left _ h1)]; rfl
  · rw [decide_eq_false h1, Bool.false_or]
    by_cases h2 : x = q
    · subst h2
      rw [decide_eq_true (by rw [List.mem_append, List.mem_singleton]; exact .inr rfl), decide_eq_true rfl]
    · rw [decide_eq_false (by rw [List.mem_append, List.mem_singleton]; rintro (h | h); exact h1 h; exact h2 h.symm), decide_eq_false (by omega)]
theorem pin_end {m : Nat} {P : List Sx} (h : AllF P) (h1 : 1 ≤ P.length) (h2 : P.length ≤ 20) (hm : 1 ≤ m) : (trim m P).length = min ((20 : Int).toNat) (fr (trim m P)).length ∧ 1 ≤ (trim m P).length ∧ dropN (trim m P) (trim m P).length = [] := by
  have hA : AllF (trim m P) := fun x hx => h x ((trim_sub m P).subset hx)
  have hl : (trim m P).length = P.length - (P.length - m) := by
    unfold trim
    rw [h.drop, List.length_drop]
  refine ⟨?_, by omega, by rw [hA.drop, List.drop_length]⟩
  rw [hA.fr]
  have : (20 : Int).toNat = 20 := rfl
  omega
set_option maxHeartbeats 4000000 in
theorem pins_any (which : Int) (n cap : Nat) (a : Option Addr) (R : Nat → Int) (most : Int) (w : World) (x1 : IntsAt w a n R) :
    Calls Try.prog 5 #[.int .i64 which, .slice a n cap, .int .i64 most] w (Woke w) := by
  have x1' := Lib.hid x1
  clear x1
  by_cases hn : n ≤ 30
  · obtain ⟨d0, hd0⟩ : ∃ d0, (Dk.fresh 12 fun _ => zs 128) = d0 := ⟨_, rfl⟩
    have h0 := Lib.hid (show d0.on = true ∧ d0.n = 12 ∧ d0.log = [] by rw [← hd0]; exact ⟨rfl, rfl, rfl⟩)
    have e0 := Lib.hid hd0
    clear hd0
    go_enter Try.func5, Try.ntmps5
    go_wp2_with fail
    refine (low_c most _ 4 _ rfl (by omega) (by omega)).mono ?_
    rintro e w1 ⟨m0, hm0, rfl, rfl⟩
    go_wp2_with fail
    refine (low_c which _ 12 _ rfl (by omega) (by omega)).mono ?_
    rintro e w1 ⟨q, hq, rfl, rfl⟩
    obtain ⟨m, hm⟩ : ∃ m : Nat, m = 1 + m0 := ⟨_, rfl⟩
    have hm1 : 1 ≤ m := by omega
    have hm4 : m ≤ 4 := by omega
    go_upto_region 4 with fail
    rw [show (1 + (m0 : Int)) = (m : Int) by omega]
    clear hm hm0
    go_wp2_with (go_at_call 8; refine (new_c _ 12 _ rfl (by omega) (by omega)).mono ?_; rw [e0.out]; rintro e w1 ⟨G, A, rfl, hD1, hb1⟩; have D1 := Lib.hid hD1; have B1 := Lib.hid hb1; clear hD1 hb1)
    go_wp2_with (go_at_call 10; refine (newc_v (m := m) (Below.refl w.heap.size w) D1.out B1.out rfl hm1).mono ?_; rintro e w2 ⟨C, c2, rfl, hC2, _⟩; have C2 := Lib.hid hC2; clear hC2)
    go_wp2_with (go_at_call 26; refine (getv_miss C2.out (by omega) (by omega) (p := q) rfl h0.out.1 (by rw [h0.out.2.1]; exact hq) rfl).mono ?_; rintro e w3 ⟨v3, c3, b3, rfl, hC3, _⟩; rw [nw_nil, trim_one _ _ hm1] at hC3; obtain ⟨x3, hx3⟩ : ∃ x3, (⟨b3, q, d0.seen q, 0 + 1, false, false⟩ : Sx) = x3 := ⟨_, rfl⟩; have X3 := Lib.hid (show x3.pos = q ∧ x3.dirty = false by rw [← hx3]; exact ⟨rfl, rfl⟩); rw [hx3] at hC3; have C3 := Lib.hid hC3; clear hC3 hx3)
    go_wp2_with (go_at_call 29; refine (pinv_hit C3.out (by omega) (x := x3) List.mem_cons_self true (by rw [X3.out.1])).mono ?_; rintro e w4 ⟨A4, c4, rfl, hC4, _⟩; have C4 := Lib.hid hC4; have P4 := Lib.hid (pin_start X3.out.1 X3.out.2 hm1); clear hC4)
    go_loopg [11] n (fun gk v11 wr => ∃ k : Nat, k + gk = n ∧ v11 = .int .i64 (k : Int) ∧ PinRel w A4 d0 C G m q k wr)
    case atStart => exact ⟨0, by omega, rfl, c4, _, C4.out, P4.out⟩
    case round =>
      obtain ⟨k, hkg, rfl, c5, H5, hC5, hP5⟩ := hrel
      have C5 := Lib.hid hC5
      have P5 := Lib.hid hP5
      clear hC5 hP5
      by_cases hlt : k < n
      · obtain ⟨gn, rfl⟩ : ∃ gn, gk = gn + 1 := ⟨gk - 1, by omega⟩
        obtain ⟨ga, off, rfl, hcell⟩ : ∃ ga off, a = some ⟨ga, off, none⟩ ∧ wr.cell? ⟨ga, off + k, none⟩ = some (.int .i64 (R k)) := by
          rcases x1'.out.on' C5.out.below (Nat.le_refl _) with h | ⟨b, o, rfl, h⟩
          · omega
          · exact ⟨b, o, rfl, h k hlt⟩
        have hk1 : (k : Int) < (n : Int) := by omega
        have hk0 : (0 : Int) ≤ (k : Int) := by omega
        go_wp2_with fail
        refine (low_c (R k) _ 12 _ rfl (by omega) (by omega)).mono ?_
        rintro e w1 ⟨s, hs, rfl, rfl⟩
        clear hcell
        go_wp2_with (go_at_call 26; refine (getv_pin C5.out (by omega) (by omega) P5.out (by rw [h0.out.2.1]; exact hs) h0.out.1).mono ?_; rintro e w6 ⟨v6, c6, H6, rfl, hC6, hP6⟩; have C6 := Lib.hid hC6; have P6 := Lib.hid hP6; clear hC6 hP6)
        go_wp2_with (go_at_call 12; refine (heldv C6.out).mono ?_; rintro e w7 ⟨v7, rfl, ho7, hb7⟩; have C7 := Lib.hid (C6.out.read hb7); obtain ⟨a7, cap7, rfl, _, hi7⟩ := OwnZ.ints ho7; have I7 := Lib.hid hi7; clear ho7 hb7 hi7)
        obtain ⟨W, hW⟩ : ∃ W, H6.map Sx.pos = W := ⟨_, rfl⟩
        rw [hW] at I7
        have hqW := Lib.hid (show q ∈ W by
          obtain ⟨x, hx, h1, _⟩ := P6.out.one
          rw [← hW]; exact List.mem_map.2 ⟨x, hx, h1⟩)
        have hWl : W.length ≤ max m 1 := by rw [← hW, List.length_map]; exact P6.out.few
        have hHW : H6.length = W.length := by rw [← hW, List.length_map]
        simp only [hHW, List.length_map]
        obtain ⟨nw', hnw⟩ : ∃ nw', W.length = nw' := ⟨_, rfl⟩
        have hnw' := Lib.hid hnw
        rw [hnw] at I7 hWl ⊢
        clear hW hHW hnw
        go_loopg [15, 16] nw' (fun g2 v15 v16 wx => ∃ j : Nat, j + g2 = nw' ∧ v16 = .int .i64 (j : Int) ∧ v15 = .bool (decide (q ∈ W.take j)) ∧ wx = w7)
        case atStart => exact ⟨0, by omega, rfl, by rw [List.take_zero, decide_eq_false (by simp)], rfl⟩
        case round =>
          obtain ⟨j, hjg, rfl, rfl, rfl⟩ := hrel
          by_cases hlt2 : j < nw'
          · obtain ⟨g3, rfl⟩ : ∃ g3, gk = g3 + 1 := ⟨gk - 1, by omega⟩
            obtain ⟨gb, ob, rfl, hcj⟩ : ∃ gb ob, a7 = some ⟨gb, ob, none⟩ ∧ wr.cell? ⟨gb, ob + j, none⟩ = some (.int .i64 ((W.getD j 0 : Nat) : Int)) := by
              rcases I7.out with h | ⟨b, o, rfl, h⟩
              · omega
              · exact ⟨b, o, rfl, h j hlt2⟩
            have hj1 : (j : Int) < (nw' : Int) := by omega
            have hj0 : (0 : Int) ≤ (j : Int) := by omega
            have hnx := Lib.hid (any_next (q := q) (W := W) (k := j) (x := W.getD j 0) (by rw [List.getD_eq_getElem?_getD, List.getElem?_eq_getElem (by rw [hnw'.out]; exact hlt2)]; rfl))
            obtain ⟨bb, hbb⟩ : ∃ bb, decide (q ∈ W.take j) = bb := ⟨_, rfl⟩
            rw [hbb] at hnx ⊢
            clear hbb
            cases bb with
            | true =>
              go_wp2_with fail
              go_roundg g3
              case measure => omega
              case rel => exact ⟨j + 1, by omega, by go_num, by rw [hnx.out]; rfl, rfl⟩
            | false =>
              go_wp2_with fail
              go_roundg g3
              case measure => omega
              case rel =>
                refine ⟨j + 1, by omega, by go_num, ?_, rfl⟩
                rw [hnx.out, Bool.false_or]
                exact congrArg Value.bool (by rw [← List.getD_eq_getElem?_getD, Bool.eq_iff_iff]; simp)
          · have hjn : j = nw' := by omega
            subst hjn
            have hall : decide (q ∈ W.take j) = true := decide_eq_true (by rw [List.take_of_length_le (by rw [hnw'.out]; exact Nat.le_refl _)]; exact hqW.out)
            rw [hall]
            have hmx : ¬ (max (m : Int) 2 < (j : Int)) := by omega
            clear hall
            go_wp2_with fail
            go_roundg gn
            case measure => omega
            case rel => exact ⟨k + 1, by omega, by go_num, c6, H6, C7.out, P6.out⟩
      · have hkn : k = n := by omega
        subst hkn
        obtain ⟨x, hx, hxq, hxp⟩ := P5.out.one
        go_wp2_with (go_at_call 29; refine (pinv_hit C5.out (by omega) hx false (by rw [hxq])).mono ?_; rintro e w6 ⟨A6, c6, rfl, hC6, _⟩; have C6 := Lib.hid hC6; clear hC6)
        have hE := Lib.hid (pin_end (m := m) (P5.out.off C5.out.pos hx hxq C5.out.srt) (by rw [show (putS (x.withP false) H5).length = H5.length from List.length_map _]; exact List.length_pos_of_mem hx) (by rw [show (putS (x.withP false) H5).length = H5.length from List.length_map _]; have := P5.out.few; omega) hm1)
        obtain ⟨E, hEe⟩ : ∃ E, trim m (putS (x.withP false) H5) = E := ⟨_, rfl⟩
        rw [hEe] at hE C6
        obtain ⟨r, hr⟩ : ∃ r, E.length = r := ⟨_, rfl⟩
        have hr1 : ¬ ((r : Int) < 1) := by have := hE.out.2.1; omega
        have hr' := Lib.hid hr
        clear hEe hr
        go_wp2_with (go_at_call 25; refine (dropv C6.out (by omega) (n := r) (by rw [← hr'.out]; exact hE.out.1)).mono ?_; rintro e w7 ⟨A7, c7, rfl, hC7, _⟩; rw [← hr'.out, hE.out.2.2] at hC7; have C7 := Lib.hid hC7; clear hC7)
        go_wp2_with (go_at_call 12; refine (heldv C7.out).mono ?_; rintro e w8 ⟨v8, rfl, ho8, hb8⟩; have C8 := Lib.hid (C7.out.read hb8); obtain ⟨a8, cap8, rfl, _, _⟩ := OwnZ.ints ho8; clear ho8 hb8)
        go_wp2_with (go_at_call 29; refine (pinv_none C8.out ⟨by omega, by omega⟩ true rfl).mono ?_; rintro e w9 ⟨rfl, rfl⟩)
        go_wp2_with (go_at_call 17; refine (writes_n _ _ _ _ d0 0 C8.out.dk (congrArg List.length h0.out.2.2)).mono ?_; rintro e w14 ⟨v14, rfl, hi14, hb14⟩; have C14 := Lib.hid (C8.out.read hb14); obtain ⟨a14, cap14, rfl, _, _, _, _⟩ := hi14.slice; clear hi14 hb14)
        go_wp2_with (go_at_call 7; refine (awake_any _).mono ?_; rintro e w15 ⟨rfl, hb15⟩; have B15 := Lib.hid (C14.out.below.trans (hb15.mono C14.out.l.base)); clear hb15)
        go_ret
        exact ⟨rfl, B15.out⟩
  · have hn2 : ¬ ((n : Int) ≤ 30) := by omega
    go_enter Try.func5, Try.ntmps5
    go_wp2_with (go_at_call 7; refine (awake_any _).mono ?_; rintro e w15 ⟨rfl, hb15⟩; have B15 := Lib.hid hb15; clear hb15)
    go_ret
    exact ⟨rfl, B15.out⟩
end Go.Proofs.Ytedbfehoeflmgaa
