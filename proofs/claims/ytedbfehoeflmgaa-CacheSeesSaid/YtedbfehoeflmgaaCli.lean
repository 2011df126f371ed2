/-
  CacheSees: the walk.
-/
import Derived.Test.YtedbfehoeflmgaaClh
import Derived.Test.YtedbfehoeflmgaaCld
import Derived.Deep.LoopGhost
set_option linter.unusedVariables false
set_option linter.unusedSimpArgs false
namespace Go.Proofs.Ytedbfehoeflmgaa
open Go.RowKit BigFrame
set_option maxRecDepth 100000

def DnIn (s : Nat) (H : List Sx) : Prop := ∀ x ∈ H, x.pos < s → x.dirty = false
theorem DnIn.get {s : Nat} {H H' : List Sx} (h : DnIn s H) (hd : DirtyIn H' H) : DnIn s H' := fun x hx hp => by
  cases hx2 : x.dirty with
  | false => rfl
  | true =>
    obtain ⟨z, hz, h1, h2⟩ := hd x hx hx2
    have := h z hz (by omega)
    rw [h2] at this; cases this
theorem DnIn.next {s : Nat} {H H' : List Sx} (h : DnIn s H) (hd : DirtyIn H' H) (hs : ∀ y ∈ H', y.pos = s → y.dirty = false) : DnIn (s + 1) H' := fun x hx hp => by
  by_cases e : x.pos = s
  · exact hs x hx e
  · exact h.get hd x hx (by omega)
theorem bat_step {w w' : World} {F F' : List Nat} {g : Nat} {l : List Nat} (h : BAt w (some ⟨g, 0, none⟩) l) (hs : Step w F w' F') (hg : g ∉ F) (hl : g < w.heap.size) : BAt w' (some ⟨g, 0, none⟩) l := by
  rcases h with h | ⟨b, o, e, h⟩
  · exact .inl h
  · cases e
    exact .inr ⟨g, 0, rfl, fun k hk => by rw [World.cell?_of_block (w := w) (a := ⟨g, 0 + k, none⟩) (hs.block g hl hg)]; exact h k hk⟩
/-- a round of what is got -/
def GotRel (w0 : World) (C G m g1 g2 k : Nat) (f : Nat → Nat) (h : Nat → Bool) (s : Nat) (wr : World) : Prop := ∃ A d c H, Sv w0 wr C G m (k + s) (k + s) (curL f h) A d c H ∧ VarsAt w0 wr (foots A c) g1 g2 f h ∧ DnIn s H
/-- a round of what is put -/
def SeeRel (w0 : World) (C G m g1 g2 k : Nat) (wr : World) : Prop := ∃ A d c H f h, Sv w0 wr C G m k k (curL f h) A d c H ∧ VarsAt w0 wr (foots A c) g1 g2 f h
theorem tmod_nat (i n : Nat) : Int.tmod (i : Int) (n : Int) = ((i % n : Nat) : Int) := by
  rw [Int.tmod_eq_emod_of_nonneg (by omega)]; rfl
theorem Sv.more {w0 w : World} {A : Lies} {d : Dk} {c : Ck} {C G m u t : Nat} {cur : Nat → List Nat} {H : List Sx} (h : Sv w0 w C G m u t cur A d c H) {t' : Nat} (ht : t ≤ t') : Sv w0 w C G m u t' cur A d c H := ⟨h.cv, h.see, h.on, h.set, h.n, Nat.le_trans h.wt ht, Nat.le_trans h.lg ht⟩
set_option maxHeartbeats 1000000 in
theorem sees_any (n cap : Nat) (a : Option Addr) (R : Nat → Int) (pins most : Int) (w : World) (x1 : IntsAt w a n R) :
    Calls Try.prog 4 #[.slice a n cap, .int .i64 pins, .int .i64 most] w (Woke w) := by
  have x1' := Lib.hid x1
  clear x1
  by_cases hn : n ≤ 40
  · go_enter Try.func4, Try.ntmps4
    go_wp2_with (go_at_call 8; refine (new_c _ 8 _ rfl (by omega) (by omega)).mono ?_; rintro e w1 ⟨G, A, rfl, hD1, hb1⟩; have D1 := Lib.hid hD1; have B1 := Lib.hid hb1; clear hD1 hb1)
    refine (low_c most _ 6 _ rfl (by omega) (by omega)).mono ?_
    rintro e w2 ⟨m0, hm0, rfl, rfl⟩
    obtain ⟨m, hm⟩ : ∃ m : Nat, m = 1 + m0 := ⟨_, rfl⟩
    have hm1 : 1 ≤ m := by omega
    have hm4 : m ≤ 6 := by omega
    have hmm := Lib.hid (show (1 + (m0 : Int)) = (m : Int) by omega)
    clear hm
    go_upto_region 9 with (first
      | (go_at_call 10; refine (newc_v (m := m) (Below.refl w.heap.size w) D1.out B1.out hmm.out hm1).mono ?_; rintro e w2 ⟨C, c2, rfl, hC2, _⟩; have C2 := Lib.hid (Sv.start hC2 (w1 := w2)); clear hC2)
      | (refine wpList_alloc_L8 rfl rfl ?_; intro g1 w3 hv3 hg3 hb3; have C3 := Lib.hid (C2.out.read hb3); have B3 := Lib.hid hb3; have hg3' := Lib.hid hg3; clear hb3 hg3)
      | (refine wpList_alloc_H8 rfl rfl ?_; intro g2 w4 hv4 hg4 hb4; have C4 := Lib.hid (C3.out.read hb4); have V4 := Lib.hid (show VarsAt w w4 (foots A c2) g1 g2 (fun _ => 0) (fun _ => false) from ⟨hv3.out.on' hb4, hv4.out, by rw [hg3'.out]; exact C2.out.cv.l.off (Nat.le_refl _), by rw [hg4]; exact C3.out.cv.l.off (Nat.le_refl _), by rw [hg3'.out]; exact C2.out.cv.l.base, by rw [hg4]; exact C3.out.cv.l.base, by have := hv3.out.lt; omega⟩); clear hb4))
    have R0 := Lib.hid (show SeeRel w C G m g1 g2 0 w4 from ⟨A, _, c2, [], _, _, C4.out, V4.out⟩)
    clear hv3 hv4 hg4
    go_wp2_with fail
    go_loopg [11] n (fun gk v11 wr => ∃ k : Nat, k + gk = n ∧ v11 = .int .i64 (k : Int) ∧ SeeRel w C G m g1 g2 k wr)
    case atStart => exact ⟨0, by omega, rfl, R0.out⟩
    case round =>
      obtain ⟨k, hkg, rfl, A5, d5, c5, H5, f, hh, hS5, hV5⟩ := hrel
      have S5 := Lib.hid hS5
      have V5 := Lib.hid hV5
      clear hS5 hV5
      by_cases hlt : k < n
      · obtain ⟨gn, rfl⟩ : ∃ gn, gk = gn + 1 := ⟨gk - 1, by omega⟩
        obtain ⟨ga, off, rfl, hcell⟩ : ∃ ga off, a = some ⟨ga, off, none⟩ ∧ wr.cell? ⟨ga, off + k, none⟩ = some (.int .i64 (R k)) := by
          rcases x1'.out.on' S5.out.cv.below (Nat.le_refl _) with h | ⟨b, o, rfl, h⟩
          · omega
          · exact ⟨b, o, rfl, h k hlt⟩
        have hk1 : (k : Int) < (n : Int) := by omega
        have hk0 : (0 : Int) ≤ (k : Int) := by omega
        go_wp2_with fail
        refine (low_c (R k) _ 8 _ rfl (by omega) (by omega)).mono ?_
        rintro e w6 ⟨s, hs, rfl, rfl⟩
        clear hcell
        obtain ⟨l, hl0⟩ : ∃ l, fillN (k : Int) 128 = l := ⟨_, rfl⟩
        have el := Lib.hid hl0
        have hl := Lib.hid (show l.length = 128 by rw [← hl0]; exact fillN_length _ _)
        clear hl0
        have hs8 : (s : Int) < 8 := by omega
        have hs0 : (0 : Int) ≤ (s : Int) := by omega
        have hrem : Int.tmod (k : Int) 60 = (k : Int) := by rw [show (60 : Int) = ((60 : Nat) : Int) from rfl, tmod_nat, Nat.mod_eq_of_lt (by omega)]
        go_wp2_with (go_at_call 23; refine (fill_c (k : Int) _ 128 _ rfl (by omega)).mono ?_; rw [el.out]; rintro e w7 ⟨v7, rfl, ho7, hb7⟩; obtain ⟨g7, cap7, rfl, hc7, hg7, hlt7⟩ := ho7.at hl.out (by omega); have S7 := Lib.hid (S5.out.read hb7); have V7 := Lib.hid (V5.out.on hb7); have O7 := Lib.hid ho7; have F7 := Lib.hid (S5.out.cv.l.off hg7); clear ho7 hb7)
        go_upto_region 15 with (go_at_call 22; refine (S7.out.put_c (cur' := curL (updN f s k) (updN hh s true)) (by omega) (by omega) hs rfl hl.out hc7 O7.out.bat ⟨hlt7, F7.out⟩ (by rw [curL_put, el.out]) (fun t ht => curL_oth f hh s k ht)).mono ?_; rintro e w8 ⟨c8, H8, rfl, hS8, hx8, hs8⟩; have S8 := Lib.hid hS8; have X8 := Lib.hid hx8; have V8 := Lib.hid (V7.out.step hs8); clear hS8 hx8 hs8)
        have q1 := V8.out.v1.cell (lsv_get hs)
        have q2 := V8.out.v2.cell (hsv_get hs)
        have r1 := V8.out.v1.frozen s
        have r2 := V8.out.v2.frozen s
        have hne := V8.out.ne
        go_upto_region 16 with fail
        obtain ⟨w9, hw9⟩ : ∃ w9, (w8.setCell ⟨g1, s, none⟩ (.int .i64 (k : Int))).setCell ⟨g2, s, none⟩ (.bool true) = w9 := ⟨_, rfl⟩
        have S9 := Lib.hid (show Sv w w9 C G m (k + 1) k _ A5 d5 c8 H8 by rw [← hw9]; exact (S8.out.put2 V8.out.o1 V8.out.b1 _).put2 V8.out.o2 V8.out.b2 _)
        have V9 := Lib.hid (show VarsAt w w9 (foots A5 c8) g1 g2 (updN f s k) (updN hh s true) by rw [← hw9]; exact V8.out.set s k)
        rw [hw9]
        clear hw9 q1 q2 r1 r2 hne
        go_wp2_with fail
        · refine (S9.out.clean_c (by omega) (by omega) hs rfl).mono ?_
          rintro e w10 ⟨A10, d10, c10, H10, r10, rfl, hS10, hs10, _, hr10, _, _⟩
          obtain rfl : r10 = 0 := hr10 (by obtain ⟨x, hx, hp, _⟩ := X8.out; exact ⟨x, hx, hp⟩)
          have S10 := Lib.hid hS10
          have V10 := Lib.hid (V9.out.step hs10)
          clear hS10 hs10 hr10
          go_wp2_with fail
          refine (low_c (k : Int) _ 5 _ rfl (by omega) (by omega)).mono ?_
          rintro e w11 ⟨j, hj, rfl, rfl⟩
          go_wp2_with (go_at_call 25; refine (S10.out.drop_c (a := (j : Int)) (by omega)).mono ?_; rintro e w12 ⟨A12, c12, H12, r12, rfl, hS12, hs12⟩; have S12 := Lib.hid hS12; have V12 := Lib.hid (V10.out.step hs12); clear hS12 hs12)
          go_roundg gn
          case measure => omega
          case rel => exact ⟨k + 1, by omega, by go_num, A12, _, c12, H12, _, _, S12.out, V12.out⟩
        · have S10 := Lib.hid (S9.out.more (Nat.le_succ k))
          have V10 := Lib.hid V9.out
          refine (low_c (k : Int) _ 5 _ rfl (by omega) (by omega)).mono ?_
          rintro e w11 ⟨j, hj, rfl, rfl⟩
          go_wp2_with (go_at_call 25; refine (S10.out.drop_c (a := (j : Int)) (by omega)).mono ?_; rintro e w12 ⟨A12, c12, H12, r12, rfl, hS12, hs12⟩; have S12 := Lib.hid hS12; have V12 := Lib.hid (V10.out.step hs12); clear hS12 hs12)
          go_roundg gn
          case measure => omega
          case rel => exact ⟨k + 1, by omega, by go_num, A12, _, c12, H12, _, _, S12.out, V12.out⟩
      · have hkn : k = n := by omega
        subst hkn
        have hmk := make_zrow
        have G0 := Lib.hid (show GotRel w C G m g1 g2 k f hh 0 wr from ⟨A5, d5, c5, H5, S5.out, V5.out, fun x _ h => (by omega)⟩)
        go_upto_region 20 with fail
        go_loopg [13] 8 (fun gk2 v13 wx => ∃ s : Nat, s + gk2 = 8 ∧ v13 = .int .i64 (s : Int) ∧ GotRel w C G m g1 g2 k f hh s wx)
        case atStart => exact ⟨0, by omega, rfl, G0.out⟩
        case round =>
          obtain ⟨s, hsg, rfl, A6, d6, c6, H6, hS6, hV6, hD6⟩ := hrel
          have S6 := Lib.hid hS6
          have V6 := Lib.hid hV6
          have D6 := Lib.hid hD6
          clear hS6 hV6 hD6
          by_cases hlt2 : s < 8
          · obtain ⟨g3, rfl⟩ : ∃ g3, gk = g3 + 1 := ⟨gk - 1, by omega⟩
            have hs8 : (s : Int) < 8 := by omega
            have hs0 : (0 : Int) ≤ (s : Int) := by omega
            obtain ⟨l, hl0⟩ : ∃ l, curL f hh s = l := ⟨_, rfl⟩
            have el := Lib.hid hl0
            have hl := Lib.hid (show l.length = 128 by rw [← hl0]; exact curL_len _ _ _)
            have b7 := Lib.hid ((Below.refl wr.heap.size wr).alloc (Nat.le_refl _) (.cells zrow 5))
            have S7 := Lib.hid (S6.out.read b7.out)
            have V7 := Lib.hid (V6.out.on b7.out)
            have Z7 := Lib.hid (zrow_row wr)
            have F7 := Lib.hid (S6.out.cv.l.off (Nat.le_refl wr.heap.size))
            have q1 := V7.out.v1.cell (lsv_get hlt2)
            have q2 := V7.out.v2.cell (hsv_get hlt2)
            cases hb : hh s with
            | false =>
              rw [hb] at q2
              have hlz : l = zs 128 := by rw [← hl0]; unfold curL; rw [hb]; rfl
              clear hl0
              go_upto_region 25 with fail
              obtain ⟨w7, hw7⟩ : ∃ w7, wr.alloc (.cells zrow 5) = w7 := ⟨_, rfl⟩
              obtain ⟨gw, hgw⟩ : ∃ gw, wr.heap.size = gw := ⟨_, rfl⟩
              have SW := Lib.hid (show Sv w w7 C G m (k + s) (k + s) (curL f hh) A6 d6 c6 H6 by rw [← hw7]; exact S7.out)
              have VW := Lib.hid (show VarsAt w w7 (foots A6 c6) g1 g2 f hh by rw [← hw7]; exact V7.out)
              have XW := Lib.hid (show BAt w7 (some ⟨gw, 0, none⟩) l by rw [← hw7, ← hgw, hlz]; exact Z7.out.bat)
              have FW := Lib.hid (show gw ∉ foots A6 c6 by rw [← hgw]; exact F7.out)
              have LW := Lib.hid (show gw < w7.heap.size by rw [← hw7, ← hgw, size_alloc]; omega)
              rw [hw7, hgw]
              clear hw7 hgw b7 S7 V7 Z7 F7 q1 q2 hlz
              go_wp2_with (go_at_call 26; refine (SW.out.get_c (by omega) (by omega) hlt2 rfl).mono ?_; rintro e w8 ⟨v8, c8, H8, rfl, hS8, ho8, hf8, hs8, hd8⟩; have S8 := Lib.hid hS8; have Y8 := Lib.hid (VW.out.step hs8); have X8 := Lib.hid (bat_step XW.out hs8 FW.out LW.out); have XF := Lib.hid ((show OffC A6 c6 (.slice (some ⟨gw, 0, none⟩) 128 128) from fun j hj => by cases hj; exact FW.out).call hs8 (fun j hj => by cases hj; exact LW.out)); have XL := Lib.hid (Nat.lt_of_lt_of_le LW.out hs8.size); have N8 := Lib.hid (D6.out.get hd8); rw [show curL f hh s = l from el.out] at ho8; obtain ⟨g8, cap8, rfl, hc8, hg8, hlt8⟩ := ho8.at hl.out (by omega); have O8 := Lib.hid ho8; clear hS8 ho8 hf8 hs8 hd8)
              go_wp2_with (go_at_call 27; refine (same_same _ _ _ _ 128 l l _ hl.out rfl (by omega) O8.out.bat X8.out).mono ?_; rintro e w9 ⟨rfl, hb9⟩; have S9 := Lib.hid (S8.out.read hb9); have Y9 := Lib.hid (Y8.out.on hb9); have X9 := Lib.hid (bat_step X8.out (Step.of_below hb9 []) (by simp) XL.out); have XL9 := Lib.hid (Nat.lt_of_lt_of_le XL.out hb9.size); clear hb9)
              go_wp2_with (go_at_call 24; refine (S9.out.clean_c (by omega) (by omega) hlt2 rfl).mono ?_; rintro e w10 ⟨A10, d10, c10, H10, r10, rfl, hS10, hs10, hr10, _, hd10, hq10⟩; have S10 := Lib.hid hS10; have Y10 := Lib.hid (Y9.out.step hs10); have X10 := Lib.hid (bat_step X9.out hs10 (fun e => XF.out gw rfl e) XL9.out); have XL10 := Lib.hid (Nat.lt_of_lt_of_le XL9.out hs10.size); have R10 := Lib.hid hr10; have N10 := Lib.hid (N8.out.next hd10 hq10); clear hS10 hs10 hr10 hd10 hq10)
              obtain ⟨l2, hl2⟩ : ∃ l2, d10.seen s = l2 := ⟨_, rfl⟩
              have hl2' := Lib.hid (show l2.length = 128 by rw [← hl2]; exact (IsDkS.fine S10.out.cv.dk).seen (by rw [S10.out.n]; exact hlt2))
              have R10' := Lib.hid (show r10 = 0 → l2 = l from fun e => by rw [← hl2, R10.out e]; exact el.out)
              go_wp2_with (go_at_call 28; refine (read_c _ _ _ _ d10 _ s l2 rfl S10.out.cv.dk S10.out.on (by rw [S10.out.n]; exact hlt2) hl2).mono ?_; rintro e w11 ⟨v11, rfl, ho11, hb11⟩; obtain ⟨g11, cap11, rfl, hc11, hg11, hlt11⟩ := ho11.at hl2'.out (by omega); have S11 := Lib.hid (S10.out.read hb11); have Y11 := Lib.hid (Y10.out.on hb11); have X11 := Lib.hid (bat_step X10.out (Step.of_below hb11 []) (by simp) XL10.out); have O11 := Lib.hid ho11; clear ho11 hb11)
              clear hl2
              by_cases hr : r10 = 0
              · obtain rfl : l2 = l := R10'.out hr
                subst hr
                go_wp2_with (go_at_call 27; refine (same_same _ _ _ _ 128 l2 l2 _ hl.out rfl (by omega) O11.out.bat X11.out).mono ?_; rintro e w12 ⟨rfl, hb12⟩; have S12 := Lib.hid (S11.out.read hb12); have Y12 := Lib.hid (Y11.out.on hb12); clear hb12)
                go_roundg g3
                case measure => omega
                case rel => exact ⟨s + 1, by omega, by go_num, A10, d10, c10, H10, S12.out, Y12.out, N10.out⟩
              · have hr' := Lib.hid hr
                have hrb := Lib.hid (show ¬ (r10 == (0 : Int)) = true by simpa using hr)
                clear hr R10 R10'
                go_wp2_with fail
                first | exact absurd (show r10 = 0 by assumption) hr'.out | exact absurd (show (r10 == (0 : Int)) = true by assumption) hrb.out
              go_roundg g3
              case measure => omega
              case rel => exact ⟨s + 1, by omega, by go_num, A10, d10, c10, H10, S11.out, Y11.out, N10.out⟩
            | true =>
              rw [hb] at q2
              have hlf : fillN (f s : Int) 128 = l := by rw [← hl0]; unfold curL; rw [hb]; rfl
              have hlf' := Lib.hid hlf
              clear hl0 hlf
              go_upto_region 25 with (go_at_call 23; refine (fill_c (f s : Int) _ 128 _ rfl (by omega)).mono ?_; rw [hlf'.out]; rintro e w8 ⟨v8, rfl, ho8, hb8⟩; obtain ⟨gw, cw, rfl, hcw, hgw, hltw⟩ := ho8.at hl.out (by omega); have SW := Lib.hid (S7.out.read hb8); have VW := Lib.hid (V7.out.on hb8); have XW := Lib.hid ho8.bat; have FW := Lib.hid (S7.out.cv.l.off hgw); have LW := Lib.hid hltw; clear ho8 hb8)
              clear b7 S7 V7 Z7 F7 q1 q2
              go_wp2_with (go_at_call 26; refine (SW.out.get_c (by omega) (by omega) hlt2 rfl).mono ?_; rintro e w8 ⟨v8, c8, H8, rfl, hS8, ho8, hf8, hs8, hd8⟩; have S8 := Lib.hid hS8; have Y8 := Lib.hid (VW.out.step hs8); have X8 := Lib.hid (bat_step XW.out hs8 FW.out LW.out); have XF := Lib.hid ((show OffC A6 c6 (.slice (some ⟨gw, 0, none⟩) 128 cw) from fun j hj => by cases hj; exact FW.out).call hs8 (fun j hj => by cases hj; exact LW.out)); have XL := Lib.hid (Nat.lt_of_lt_of_le LW.out hs8.size); have N8 := Lib.hid (D6.out.get hd8); rw [show curL f hh s = l from el.out] at ho8; obtain ⟨g8, cap8, rfl, hc8, hg8, hlt8⟩ := ho8.at hl.out (by omega); have O8 := Lib.hid ho8; clear hS8 ho8 hf8 hs8 hd8)
              go_wp2_with (go_at_call 27; refine (same_same _ _ _ _ 128 l l _ hl.out rfl (by omega) O8.out.bat X8.out).mono ?_; rintro e w9 ⟨rfl, hb9⟩; have S9 := Lib.hid (S8.out.read hb9); have Y9 := Lib.hid (Y8.out.on hb9); have X9 := Lib.hid (bat_step X8.out (Step.of_below hb9 []) (by simp) XL.out); have XL9 := Lib.hid (Nat.lt_of_lt_of_le XL.out hb9.size); clear hb9)
              go_wp2_with (go_at_call 24; refine (S9.out.clean_c (by omega) (by omega) hlt2 rfl).mono ?_; rintro e w10 ⟨A10, d10, c10, H10, r10, rfl, hS10, hs10, hr10, _, hd10, hq10⟩; have S10 := Lib.hid hS10; have Y10 := Lib.hid (Y9.out.step hs10); have X10 := Lib.hid (bat_step X9.out hs10 (fun e => XF.out gw rfl e) XL9.out); have XL10 := Lib.hid (Nat.lt_of_lt_of_le XL9.out hs10.size); have R10 := Lib.hid hr10; have N10 := Lib.hid (N8.out.next hd10 hq10); clear hS10 hs10 hr10 hd10 hq10)
              obtain ⟨l2, hl2⟩ : ∃ l2, d10.seen s = l2 := ⟨_, rfl⟩
              have hl2' := Lib.hid (show l2.length = 128 by rw [← hl2]; exact (IsDkS.fine S10.out.cv.dk).seen (by rw [S10.out.n]; exact hlt2))
              have R10' := Lib.hid (show r10 = 0 → l2 = l from fun e => by rw [← hl2, R10.out e]; exact el.out)
              go_wp2_with (go_at_call 28; refine (read_c _ _ _ _ d10 _ s l2 rfl S10.out.cv.dk S10.out.on (by rw [S10.out.n]; exact hlt2) hl2).mono ?_; rintro e w11 ⟨v11, rfl, ho11, hb11⟩; obtain ⟨g11, cap11, rfl, hc11, hg11, hlt11⟩ := ho11.at hl2'.out (by omega); have S11 := Lib.hid (S10.out.read hb11); have Y11 := Lib.hid (Y10.out.on hb11); have X11 := Lib.hid (bat_step X10.out (Step.of_below hb11 []) (by simp) XL10.out); have O11 := Lib.hid ho11; clear ho11 hb11)
              clear hl2
              by_cases hr : r10 = 0
              · obtain rfl : l2 = l := R10'.out hr
                subst hr
                go_wp2_with (go_at_call 27; refine (same_same _ _ _ _ 128 l2 l2 _ hl.out rfl (by omega) O11.out.bat X11.out).mono ?_; rintro e w12 ⟨rfl, hb12⟩; have S12 := Lib.hid (S11.out.read hb12); have Y12 := Lib.hid (Y11.out.on hb12); clear hb12)
                go_roundg g3
                case measure => omega
                case rel => exact ⟨s + 1, by omega, by go_num, A10, d10, c10, H10, S12.out, Y12.out, N10.out⟩
              · have hr' := Lib.hid hr
                have hrb := Lib.hid (show ¬ (r10 == (0 : Int)) = true by simpa using hr)
                clear hr R10 R10'
                go_wp2_with fail
                first | exact absurd (show r10 = 0 by assumption) hr'.out | exact absurd (show (r10 == (0 : Int)) = true by assumption) hrb.out
              go_roundg g3
              case measure => omega
              case rel => exact ⟨s + 1, by omega, by go_num, A10, d10, c10, H10, S11.out, Y11.out, N10.out⟩
          · have hs8 : s = 8 := by omega
            subst hs8
            have hdl := Lib.hid (fun x (hx : x ∈ H6) => D6.out x hx (S6.out.see.low x hx))
            go_wp2_with (first
              | (go_at_call 26; refine (get_nil 0 _).mono ?_; rintro e w7 ⟨rfl, rfl⟩)
              | (go_at_call 13; refine (dirtyv_none S6.out.cv hdl.out).mono ?_; rintro e w8 ⟨a8, cap8, rfl, hb8⟩; have S8 := Lib.hid (S6.out.read hb8); clear hb8)
              | (go_at_call 22; refine (put_nil 0 _ _).mono ?_; rintro e w9 ⟨rfl, rfl⟩)
              | (go_at_call 25; refine (drop_nil 1 _).mono ?_; rintro e w10 ⟨rfl, rfl⟩)
              | (go_at_call 12; refine (held_nil _).mono ?_; rintro e w11 ⟨v11, rfl, ho11, hb11⟩; obtain ⟨a11, cap11, rfl, _, _⟩ := OwnZ.ints ho11; have S11 := Lib.hid (S8.out.read hb11); clear ho11 hb11)
              | (go_at_call 7; refine (awake_any _).mono ?_; rintro e w15 ⟨rfl, hb15⟩; have B15 := Lib.hid (S11.out.cv.below.trans (hb15.mono S11.out.cv.l.base)); clear hb15))
            go_ret
            exact ⟨rfl, B15.out⟩
  · have hn2 : ¬ ((n : Int) ≤ 40) := by omega
    go_enter Try.func4, Try.ntmps4
    go_wp2_with (go_at_call 7; refine (awake_any _).mono ?_; rintro e w15 ⟨rfl, hb15⟩; have B15 := Lib.hid hb15; clear hb15)
    go_ret
    exact ⟨rfl, B15.out⟩
end Go.Proofs.Ytedbfehoeflmgaa
