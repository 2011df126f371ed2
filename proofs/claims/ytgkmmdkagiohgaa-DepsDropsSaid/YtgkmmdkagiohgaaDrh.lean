/-
  DepsDrops answers true.
-/
import Derived.Test.YtgkmmdkagiohgaaDrg
import Derived.Test.YtgkmmdkagiohgaaB13
set_option linter.unusedVariables false
set_option linter.unusedSimpArgs false
namespace Go.Proofs.Ytgkmmdkagiohgaa
open Go.RowKit BigFrame
set_option maxRecDepth 100000
variable {w w0 w' wr : World} {B a M : Nat} {G G0 G' : Gr} {ρ : Nat → Nat} {many wh : Nat}

def nidC (x : Nat) : Nat := x
set_option maxHeartbeats 16000000 in
theorem drops_any (z1 z2 : Int) (w : World) : Calls Try.prog 4 #[.int .i64 z1, .int .i64 z2] w (Woke w) := by
  go_enter Try.func4, Try.ntmps4
  go_upto_region 2 with (go_at_call 6; refine (low_nat z1 11 w (by omega) (by omega)).mono ?_; rintro e w1 ⟨m0, hm0, rfl, rfl⟩)
  obtain ⟨many, hmany⟩ : ∃ many, 2 + m0 = many := ⟨_, rfl⟩
  have hme : (2 : Int) + (m0 : Int) = (many : Int) := by omega
  rw [hme]
  have hm1 : 2 ≤ many := by omega
  have hm2 : many ≤ 12 := by omega
  clear hmany hme
  go_wp2_with fail
  refine (live_new nidC w).mono ?_
  rintro e w2 ⟨a, M, G0, rfl, hL0, _⟩
  have L0 := Lib.hid hL0
  clear hL0
  go_wp2_with fail
  go_loopg [6] many (fun g v6 wr => ∃ i : Nat, 1 ≤ i ∧ i ≤ many + 1 ∧ i + g = many + 1 ∧ v6 = .int .i64 (i : Int) ∧ ∃ G, Lv w a M nidC G (idsN (i - 1)) chD wr)
  case atStart => exact ⟨1, by omega, by omega, by omega, rfl, G0, L0.out.cong fun j hj => by cases hj⟩
  case round =>
    obtain ⟨i, hi1, hi2, hig, rfl, G, hL⟩ := hrel
    by_cases hi : i ≤ many
    · obtain ⟨g, rfl⟩ : ∃ g, gk = g + 1 := ⟨gk - 1, by omega⟩
      have t1 : decide ((i : Int) ≤ (many : Int)) = true := decide_eq_true (by omega)
      have hadd := Lib.hid (live_add hL (i := i) (by rw [idsN_mem]; omega) (by omega) (by omega) (by rw [idsN_len]; omega))
      have hids : idsN (i - 1) ++ [i] = idsN i := by
        obtain ⟨j, rfl⟩ : ∃ j, i = j + 1 := ⟨i - 1, by omega⟩
        exact (idsN_succ j).symm
      rw [hids] at hadd
      clear hL hids
      by_cases h1 : 1 < i
      · have t2 : decide ((1 : Int) < (i : Int)) = true := decide_eq_true (by omega)
        obtain ⟨k, hik⟩ : ∃ k, i = k + 1 := ⟨i - 1, by omega⟩
        have hke : (i : Int) - 1 = (k : Int) := by omega
        have hik' := Lib.hid hik
        have hke' := Lib.hid hke
        clear hik hke
        go_wp2_with fail
        refine hadd.out.mono ?_
        rintro e w3 ⟨rfl, G3, hL3, _⟩
        have hne := Lib.hid (live_need hL3 (i := i) (k := k) (by rw [idsN_mem]; omega) (by rw [idsN_mem]; have := hik'.out; omega) (by rw [if_pos rfl]; simp) (by show k < i; have := hik'.out; omega))
        clear hL3
        go_wp2_with fail
        rw [hke'.out]
        refine hne.out.mono ?_
        rintro e w4 ⟨rfl, G4, hL4, _⟩
        have L4 := Lib.hid (show Lv w a M nidC G4 (idsN (i + 1 - 1)) chD w4 from hL4.cong fun j hj => by
          by_cases e : j = i
          · rw [if_pos e, if_pos trivial]
            unfold chD
            rw [if_neg (by omega), e, hik'.out]; rfl
          · rw [if_neg e, if_neg e])
        clear hL4
        go_wp2_with fail
        go_roundg g
        case measure => omega
        case rel => exact ⟨i + 1, by omega, by omega, by omega, by go_num, G4, L4.out⟩
      · have hi1' : i = 1 := by omega
        subst hi1'
        go_wp2_with fail
        refine hadd.out.mono ?_
        rintro e w3 ⟨rfl, G', hL', _⟩
        have L' := Lib.hid (show Lv w a M nidC G' (idsN (1 + 1 - 1)) chD w3 from hL'.cong fun j hj => by
          have := idsN_mem.1 hj
          rw [if_pos (by omega)]; unfold chD; rw [if_pos (by omega)])
        clear hL'
        go_wp2_with fail
        go_roundg g
        case measure => omega
        case rel => exact ⟨1 + 1, by omega, by omega, by omega, by go_num, G', L'.out⟩
    · have hie : i = many + 1 := by omega
      subst hie
      have L5 := Lib.hid (show Lv w a M nidC G (idsN many) chD wr from hL)
      clear hL
      have t1 : decide ((many : Int) + 1 ≤ (many : Int)) = false := decide_eq_false (by omega)
      go_upto_region 11 with (go_at_call 6; refine (low_c z2 _ (many - 1) wr (by omega) (by omega) (by omega)).mono ?_; rintro e w3 ⟨n0, hn0, rfl, rfl⟩)
      obtain ⟨wh, hwh⟩ : ∃ wh, 1 + n0 = wh := ⟨_, rfl⟩
      have hwe : (1 : Int) + (n0 : Int) = (wh : Int) := by omega
      rw [hwe]
      have hw1 : 1 ≤ wh := by omega
      have hw2 : wh < many := by omega
      clear hwh hwe t1
      go_wp2_with fail
      have L6 := Lib.hid (L5.out.on ((Below.refl _ _).alloc (Nat.le_refl _) (.cells #[.int .i64 (many : Int)] 3)))
      refine (closure_c (R := fun _ => (many : Int)) (cap := 1) L6.out.gr L6.out.ok (by omega) (ints1 wr many) (fun k _ => by omega)).mono ?_
      rintro e w6 ⟨⟨v, O, rfl, hown, hn, hsub, hcl⟩, hb⟩
      have hO : (srt O).length = many := by rw [srt_len, len_from (s := 0) (n := many) hn (fun z => by rw [hcl, clo_chain L6.out (by omega)]; omega)]; omega
      obtain ⟨a6, c6, hv6, _, _⟩ := hown.ints
      rw [hO] at hv6
      subst hv6
      have L7 := Lib.hid (L6.out.on hb)
      clear hn hsub hcl hown hb hO
      go_wp2_with fail
      have L8 := Lib.hid (L7.out.on ((Below.refl _ _).alloc (Nat.le_refl _) (.cells #[.int .i64 (wh : Int), .int .i64 99] 3)))
      have i8 := ints2 w6 wh 99
      refine (drop_c (ρ := nidC) (R := fun k => (([wh, 99].getD k 0 : Nat) : Int)) (cap := 2) L8.out.gr L8.out.ok (by omega) i8 (fun x hx => ?_) (fun k hk => ?_)).mono ?_
      · obtain rfl := Option.some.inj hx
        show G.own w6.heap.size = none
        cases hc : G.own w6.heap.size with
        | none => rfl
        | some r => have := (L7.out.gr.hi _ _ hc).2; omega
      · rcases (show k = 0 ∨ k = 1 by omega) with rfl | rfl
        · show _ ≤ (wh : Int) ∧ (wh : Int) ≤ _; omega
        · show _ ≤ (99 : Int) ∧ (99 : Int) ≤ _; omega
      rintro e w8 ⟨c, G8, rfl, hD⟩
      have hC := ChCut.of (wh := wh) L8.out hD rfl rfl hm2
      have hc1 : c = 1 := hC.count L8.out hD ⟨hw1, by omega⟩
      subst hc1
      have hC8 := Lib.hid hC
      have L9 := Lib.hid (show Lv w a M nidC G8 G8.ids (G8.lk 0) w8 from ⟨hD.gr, hD.ok, rfl, fun _ _ => rfl, L8.out.bel.trans (hD.step.below L8.out.gr)⟩)
      clear hD hC i8
      go_wp2_with fail
      have L10 := Lib.hid (L9.out.on ((Below.refl _ _).alloc (Nat.le_refl _) (.cells #[.int .i64 (many : Int)] 3)))
      refine (closure_c (R := fun _ => (many : Int)) (cap := 1) L10.out.gr L10.out.ok (by omega) (ints1 w8 many) (fun k _ => by omega)).mono ?_
      rintro e w10 ⟨⟨v, O, rfl, hown, hn, hsub, hcl⟩, hb⟩
      obtain ⟨mw, hmw⟩ : ∃ mw, wh + mw = many := ⟨many - wh, by omega⟩
      have hO : (srt O).length = mw := by rw [srt_len, len_from (s := wh) (n := many) hn (fun z => by rw [hcl, hC8.out.clo ⟨hw1, hw2⟩])]; omega
      obtain ⟨a10, c10, hv10, _, _⟩ := hown.ints
      rw [hO] at hv10
      subst hv10
      have L11 := Lib.hid (L10.out.on hb)
      clear hn hsub hcl hown hb hO
      have t3 : ((mw : Int) == (many : Int) - (wh : Int)) = true := by rw [beq_iff_eq]; omega
      obtain ⟨sh, hsh⟩ : ∃ sh, wh + 1 = sh := ⟨_, rfl⟩
      have hse := Lib.hid (show (wh : Int) + 1 = (sh : Int) by omega)
      go_upto_region 15 with fail
      rw [hse.out]
      by_cases h1 : 1 < wh
      · have t4 : decide ((1 : Int) < (wh : Int)) = true := decide_eq_true (by omega)
        go_upto_region 18 with fail
        rw [hse.out]
        have i12 := Lib.hid (ints2 (w10.alloc (.cells #[.int .i64 (sh : Int)] 3)) 1 sh)
        rw [size_alloc] at i12
        have L12 := Lib.hid (L11.out.on (((Below.refl _ _).alloc (Nat.le_refl _) (.cells #[.int .i64 (sh : Int)] 3)).alloc (by rw [size_alloc]; omega) (.cells #[.int .i64 1, .int .i64 (sh : Int)] 3)))
        go_wp2_with fail
        refine (ready_c L12.out.gr).mono ?_
        rintro e w13 ⟨⟨v, T, rfl, hown, hn, hT⟩, hb⟩
        have hs : srt T = [1, sh] := srt_is hn (by simp; try omega) fun z => by rw [hT, hC8.out.ready ⟨hw1, hw2⟩]; simp; omega
        rw [hs] at hown
        obtain ⟨a13, c13, hv13, _, hi13⟩ := hown.ints
        have hv13' : v = .slice a13 2 c13 := hv13
        subst hv13'
        have L13 := Lib.hid (L12.out.on hb)
        have i13 := Lib.hid (i12.out.on hb rfl)
        have j13 := Lib.hid hi13
        clear hn hT hs hown hi13 hb hv13
        go_wp2_with fail
        refine (sameI_any a13 _ c13 2 2 _ _ _ (by omega) j13.out i13.out (fun _ _ => rfl)).mono ?_
        rintro e w14 ⟨rfl, hb14⟩
        have L14 := Lib.hid (L13.out.on hb14)
        clear hb14 i13 j13
        go_wp2_with fail
        refine (add_nil 1 _).mono ?_
        rintro e w15 ⟨rfl, rfl⟩
        go_wp2_with fail
        refine (needs_nil 1 2 _).mono ?_
        rintro e w15 ⟨rfl, rfl⟩
        go_wp2_with fail
        refine (drop_nil _ _).mono ?_
        rintro e w15 ⟨rfl, rfl⟩
        go_wp2_with fail
        refine (closure_nil _ _).mono ?_
        rintro e w15 ⟨rfl, rfl⟩
        go_wp2_with fail
        have B15 := Lib.hid (((Below.refl w14.heap.size w14).alloc (Nat.le_refl _) (.cells #[.int .i64 1] 3)).alloc (by rw [size_alloc]; omega) (.cells #[.int .i64 1] 3) |>.alloc (by rw [size_alloc, size_alloc]; omega) (.cells #[.int .i64 1] 3))
        refine (levels_nil _ _).mono ?_
        rintro e w16 ⟨rfl, hb16⟩
        have B16 := Lib.hid (B15.out.trans (hb16.mono B15.out.size))
        clear hb16
        go_wp2_with fail
        refine (all_nil _).mono ?_
        rintro e w17 ⟨rfl, rfl⟩
        go_wp2_with fail
        refine (awake_any _).mono ?_
        rintro e w18 ⟨rfl, hb18⟩
        have B18 := Lib.hid (L14.out.bel.trans ((B16.out.trans (hb18.mono B16.out.size)).mono L14.out.bel.size))
        clear hb18
        go_wp2_with fail
        go_ret
        exact ⟨rfl, B18.out⟩
      · have t4 : decide ((1 : Int) < (wh : Int)) = false := decide_eq_false (by omega)
        go_upto_region 18 with fail
        have i12 := Lib.hid (ints1 w10 sh)
        have L12 := Lib.hid (L11.out.on ((Below.refl _ _).alloc (Nat.le_refl _) (.cells #[.int .i64 (sh : Int)] 3)))
        go_wp2_with fail
        refine (ready_c L12.out.gr).mono ?_
        rintro e w13 ⟨⟨v, T, rfl, hown, hn, hT⟩, hb⟩
        have hs : srt T = [sh] := srt_is hn (by simp; try omega) fun z => by rw [hT, hC8.out.ready ⟨hw1, hw2⟩]; simp; omega
        rw [hs] at hown
        obtain ⟨a13, c13, hv13, _, hi13⟩ := hown.ints
        have hv13' : v = .slice a13 1 c13 := hv13
        subst hv13'
        have L13 := Lib.hid (L12.out.on hb)
        have i13 := Lib.hid (i12.out.on hb rfl)
        have j13 := Lib.hid hi13
        clear hn hT hs hown hi13 hb hv13
        go_wp2_with fail
        refine (sameI_any a13 _ c13 1 1 _ _ _ (by omega) j13.out i13.out (fun k hk => by have hk0 : k = 0 := Nat.lt_one_iff.1 hk; rw [hk0]; rfl)).mono ?_
        rintro e w14 ⟨rfl, hb14⟩
        have L14 := Lib.hid (L13.out.on hb14)
        clear hb14 i13 j13
        go_wp2_with fail
        refine (add_nil 1 _).mono ?_
        rintro e w15 ⟨rfl, rfl⟩
        go_wp2_with fail
        refine (needs_nil 1 2 _).mono ?_
        rintro e w15 ⟨rfl, rfl⟩
        go_wp2_with fail
        refine (drop_nil _ _).mono ?_
        rintro e w15 ⟨rfl, rfl⟩
        go_wp2_with fail
        refine (closure_nil _ _).mono ?_
        rintro e w15 ⟨rfl, rfl⟩
        go_wp2_with fail
        have B15 := Lib.hid (((Below.refl w14.heap.size w14).alloc (Nat.le_refl _) (.cells #[.int .i64 1] 3)).alloc (by rw [size_alloc]; omega) (.cells #[.int .i64 1] 3) |>.alloc (by rw [size_alloc, size_alloc]; omega) (.cells #[.int .i64 1] 3))
        refine (levels_nil _ _).mono ?_
        rintro e w16 ⟨rfl, hb16⟩
        have B16 := Lib.hid (B15.out.trans (hb16.mono B15.out.size))
        clear hb16
        go_wp2_with fail
        refine (all_nil _).mono ?_
        rintro e w17 ⟨rfl, rfl⟩
        go_wp2_with fail
        refine (awake_any _).mono ?_
        rintro e w18 ⟨rfl, hb18⟩
        have B18 := Lib.hid (L14.out.bel.trans ((B16.out.trans (hb18.mono B16.out.size)).mono L14.out.bel.size))
        clear hb18
        go_wp2_with fail
        go_ret
        exact ⟨rfl, B18.out⟩
end Go.Proofs.Ytgkmmdkagiohgaa
