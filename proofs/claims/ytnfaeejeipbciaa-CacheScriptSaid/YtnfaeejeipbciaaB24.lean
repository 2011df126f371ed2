/-
  CacheScript: the walk.
-/
import Derived.Test.YtnfaeejeipbciaaB23
import Derived.Test.YtnfaeejeipbciaaB9
import Derived.Deep.LoopGhost
import Derived.Deep.RegionHeld3
import Derived.Deep.DrawnRows

section
set_option linter.unusedVariables false
set_option linter.unusedSimpArgs false
namespace Go.Proofs.Ytnfaeejeipbciaa
open Go.RowKit BigFrame
set_option maxRecDepth 100000

theorem Sd.below {w0 w : World} {C G m Gr W t : Nat} (h : Sd w0 C G m Gr W t w) : Below w0.heap.size w0 w := by
  obtain ⟨A, d, c, u, H, Ar, rc, q, _⟩ := h
  exact q.q.cv.below
theorem over_first {w3 w4 w5 w6 w7 : World} {v4 v5 : Value} {n1 n2 : Nat} {D1 D2 : Nat → Int} (h4 : OwnI w4 w3.heap.size v4 n1 D1) (B4 : Below w3.heap.size w3 w4) (h5 : OwnI w5 w4.heap.size v5 n2 D2) (B5 : Below w4.heap.size w4 w5) (B6 : Below w5.heap.size w5 w6) (h7 : w6.grownBy w7 v4.ownBlock) :
    OwnI w7 w4.heap.size v5 n2 D2 ∧ w4.heap.size ≤ w7.heap.size ∧ Below w3.heap.size w3 w7 := by
  have hz4 := B4.size
  have hz5 := B5.size
  have hz6 := B6.size
  have e4 := fun k hk => World.ownsRow.lt h4 k hk
  have e5 := fun k hk => World.ownsRow.lt h5 k hk
  refine ⟨ownsRow_block h5 fun k hk => ?_, Nat.le_trans hz5 (Nat.le_trans hz6 h7.size), (B4.trans ((B5.mono hz4).trans (B6.mono (by omega)))).trans (grownBy_below h7 (by omega) fun k hk => (e4 k hk).1)⟩
  have h1 := e5 k hk
  rw [h7.block k (by omega) (fun e => by have := e4 k e.symm; omega), B6.block k h1.2]
theorem own_read {w w' : World} {B n : Nat} {v : Value} {D : Nat → Int} (h : OwnI w B v n D) (hb : Below w.heap.size w w') : OwnI w' B v n D :=
  ownsRow_block h fun k hk => hb.block k (World.ownsRow.lt h k hk).2
theorem new_duo {w w1 w2 : World} {A : Lies} {d : Dk} {G m Gr : Nat} {Ar : RLies} (hD1 : IsDk w1 w.heap.size G A d) (hb1 : Below w.heap.size w w1) (hD2 : IsRf w2 w1.heap.size Gr Ar (A.foot G) d) (hb2 : Below w1.heap.size w1 w2) (hd : d = .fresh 12 fun _ => zs 128) (hm : 1 ≤ m ∧ m ≤ 20) :
    Calls Try.prog 10 #[.pointer (some ⟨G, 0, none⟩), .int .i64 (m : Int)] (w2.alloc (.cells #[.pointer (some ⟨Gr, 0, none⟩), .int .i64 (m : Int), .slice none 0 0] 31)) fun e w4 => ∃ C, e = .returned (.pointer (some ⟨C, 0, none⟩)) ∧ Sd w C G m Gr w2.heap.size 0 w4 := by
  refine (newc_c G m hm.1 _).mono ?_
  rintro e w4 ⟨rfl, hN, hb4⟩
  refine ⟨_, rfl, duo_start hD1 hb1 hD2 hb2 rfl hN hb4 ?_ ?_ ?_ ?_ hm⟩ <;> rw [hd] <;> rfl
set_option maxHeartbeats 4000000 in
theorem script_any (most : Int) (a : Option Addr) (n cap : Nat) (w : World) (hA : ActsAt w a n) :
    Calls Try.prog 3 #[.int .i64 most, .slice a n cap] w (Woke w) := by
  have hA' := Lib.hid hA
  clear hA
  by_cases hn : n ≤ 60
  · have dn : decide (60 < (n : Int)) = false := decide_eq_false (by omega)
    by_cases hm20 : most ≤ 20
    · have dm : decide (20 < most) = false := decide_eq_false (by omega)
      by_cases hm1 : most < 1
      · have dm1 : decide (most < 1) = true := decide_eq_true hm1
        go_enter Try.func3, Try.ntmps3
        go_wp2_with (first
          | (go_at_call 8; refine (new_c _ 12 _ rfl (by omega) (by omega)).mono ?_; rintro e w1 ⟨G, A, rfl, hD1, hb1⟩; have B1 := Lib.hid hb1; clear hD1 hb1)
          | (go_at_call 9; refine (rnew_some 12 [] _ (by omega) (by omega) (fun k hk => by cases hk)).mono ?_; rintro e w2 ⟨Gr, Ar, rfl, hD2, hb2⟩; have B2 := Lib.hid (B1.out.trans (hb2.mono B1.out.size)); clear hD2 hb2)
          | (go_at_call 10; refine (new_low G most hm1 _).mono ?_; rintro e w4 ⟨rfl, rfl⟩)
          | (go_at_call 7; refine (awake_any _).mono ?_; rintro e w5 ⟨rfl, hb5⟩; have B5 := Lib.hid ((B2.out.alloc B2.out.size _).trans (hb5.mono (B2.out.alloc B2.out.size _).size)); clear hb5))
        go_ret
        exact ⟨rfl, B5.out⟩
      · have dm1 : decide (most < 1) = false := decide_eq_false hm1
        obtain ⟨m, rfl⟩ : ∃ m : Nat, most = (m : Int) := ⟨most.toNat, by omega⟩
        have hm : 1 ≤ m ∧ m ≤ 20 := by omega
        obtain ⟨d0, hd0⟩ : ∃ d0, (Dk.fresh 12 fun _ => zs 128) = d0 := ⟨_, rfl⟩
        have e0 := Lib.hid hd0
        clear hd0 hm1
        go_enter Try.func3, Try.ntmps3
        go_upto_region 9 with (first
          | (go_at_call 8; refine (new_c _ 12 _ rfl (by omega) (by omega)).mono ?_; rw [e0.out]; rintro e w1 ⟨G, A, rfl, hD1, hb1⟩; have D1 := Lib.hid hD1; have B1 := Lib.hid hb1; clear hD1 hb1)
          | (go_at_call 9; refine (rnew_some 12 (A.foot G) _ (by omega) (by omega) (fun k hk => (IsDkS.over D1.out k hk).2)).mono ?_; rw [e0.out]; rintro e w2 ⟨Gr, Ar, rfl, hD2, hb2⟩; have D2 := Lib.hid hD2; have B2 := Lib.hid hb2; clear hD2 hb2)
          | (go_at_call 10; refine (new_duo D1.out B1.out D2.out B2.out e0.out.symm hm).mono ?_; rintro e w4 ⟨C, rfl, hS4⟩; have S4 := Lib.hid hS4; clear hS4))
        obtain ⟨W, hW⟩ : ∃ W, w2.heap.size = W := ⟨_, rfl⟩
        rw [hW]
        have S0 := Lib.hid (show Sd w C G m Gr W 0 w4 by rw [← hW]; exact S4.out)
        clear hW D1 D2 B1 B2 S4
        go_wp2_with fail
        go_loopg [8] n (fun gk v8 wr => ∃ t : Nat, t + gk = n ∧ v8 = .int .i64 (t : Int) ∧ Sd w C G m Gr W t wr)
        case atStart => exact ⟨0, by omega, rfl, S0.out⟩
        case round =>
          obtain ⟨t, htg, rfl, hS1⟩ := hrel
          have S1 := Lib.hid hS1
          clear hS1 S0
          by_cases hlt : t < n
          · obtain ⟨gn, rfl⟩ : ∃ gn, gk = gn + 1 := ⟨gk - 1, by omega⟩
            rcases hA'.out with h0 | ⟨b, off, rfl, hacts⟩
            · omega
            obtain ⟨k, x, y, sh, hact⟩ := hacts t hlt
            have hb : b < w.heap.size := World.block_lt_of_cell? w _ hact.c0
            have hbl := S1.out.below
            have q0 : wr.cell? ⟨b, off + t * 4, none⟩ = some (.int .i64 k) := by rw [hbl.cell (p := ⟨b, _, none⟩) hb]; exact hact.c0
            have q1 : wr.cell? ⟨b, off + t * 4 + 1, none⟩ = some (.int .i64 x) := by rw [hbl.cell (p := ⟨b, _, none⟩) hb]; exact hact.c1
            have q2 : wr.cell? ⟨b, off + t * 4 + 2, none⟩ = some (.int .i64 y) := by rw [hbl.cell (p := ⟨b, _, none⟩) hb]; exact hact.c2
            have q3 : wr.cell? ⟨b, off + t * 4 + 3, none⟩ = some (.bool sh) := by rw [hbl.cell (p := ⟨b, _, none⟩) hb]; exact hact.c3
            have hcall := Lib.hid (act_any S1.out (by omega) k y sh hact.i)
            have di : decide ((t : Int) < (n : Int)) = true := decide_eq_true (by omega)
            have din : (t : Int) < (n : Int) := by omega
            have di0 : (0 : Int) ≤ (t : Int) := by omega
            clear hacts hact hbl hb
            go_upto_region 14 with (go_at_call 11; refine (hcall.out).mono ?_; rintro e w3 ⟨rfl, hS3⟩; have S3 := Lib.hid hS3; clear hS3)
            obtain ⟨A, d, c, u, H, Ar, rc, hq3, _, _, hlg⟩ := S3.out
            have Q3 := Lib.hid hq3
            obtain ⟨l1, hl1'⟩ : ∃ l, H.map Sx.pos = l := ⟨_, rfl⟩
            obtain ⟨n1, hn1'⟩ : ∃ k, l1.length = k := ⟨_, rfl⟩
            obtain ⟨l2, hl2'⟩ : ∃ l, dirtL rc.L 12 = l := ⟨_, rfl⟩
            obtain ⟨n2, hn2'⟩ : ∃ k, l2.length = k := ⟨_, rfl⟩
            obtain ⟨n3, hn3'⟩ : ∃ k, d.log.length = k := ⟨_, rfl⟩
            have b1 : n1 ≤ 12 := by rw [← hn1', ← hl1', List.length_map]; exact hq3.len
            have b2 : n2 ≤ 12 := by rw [← hn2', ← hl2']; exact dirtL_len _ _
            have b3 : n3 ≤ 61 := by omega
            have hl1 := Lib.hid hl1'
            have hn1 := Lib.hid hn1'
            have hl2 := Lib.hid hl2'
            have hn2 := Lib.hid hn2'
            have hn3 := Lib.hid hn3'
            clear hl1' hn1' hl2' hn2' hn3' hlg hq3 q0 q1 q2 q3 hcall
            go_upto_region 15 with (first
              | (go_at_call 12; refine (held_d Q3.out hl1.out hn1.out).mono ?_; rintro e w4 ⟨v4, rfl, ho4, hb4⟩; obtain ⟨a4, c4, rfl, _⟩ := ho4.slice; have O4 := Lib.hid ho4; have B4 := Lib.hid hb4; have Q4 := Lib.hid (Q3.out.made (X' := []) hb4 (fun _ h => by cases h)); clear ho4 hb4)
              | (go_at_call 13; refine (dirty_d Q4.out hl2.out hn2.out).mono ?_; rintro e w5 ⟨v5, rfl, ho5, hb5⟩; obtain ⟨a5, c5, rfl, _⟩ := ho5.slice; have O5 := Lib.hid ho5; have B5 := Lib.hid hb5; have Q5 := Lib.hid (Q4.out.made (X' := []) hb5 (fun _ h => by cases h)); clear ho5 hb5))
            obtain ⟨al, cl, hvl, hil⟩ := log_rf Q5.out.q.rf
            rw [hn3.out] at hvl hil
            have hdr := Lib.hid (show ∀ w', Below w5.heap.size w5 w' → w'.cell? ⟨W, 0, none⟩ = some (.pointer (some ⟨Gr, 0, none⟩)) ∧ w'.cell? ⟨Gr, 6, none⟩ = some (.slice al n3 cl) from fun w' hb => by
              have hQ := (Q5.out.made (X' := []) hb (fun _ h => by cases h))
              refine ⟨by rw [← hQ.at']; exact hQ.q.hdr, ?_⟩
              rw [hQ.q.rf.cell, ← hvl]; rfl)
            have hAi := Lib.hid (show ∀ w', Below w5.heap.size w5 w' → IntsAt w' a4 n1 (gzl l1) from fun w' hb => by
              obtain ⟨a2, c2, e2, hx2, _⟩ := (own_read (own_read O4.out B5.out) hb).slice
              obtain ⟨rfl, rfl⟩ : a2 = a4 ∧ c2 = c4 := by simpa [eq_comm] using e2
              exact hx2)
            have hBi := Lib.hid (show ∀ w', Below w5.heap.size w5 w' → IntsAt w' a5 n2 (gzl l2) from fun w' hb => by
              obtain ⟨a2, c2, e2, hx2, _⟩ := (own_read O5.out hb).slice
              obtain ⟨rfl, rfl⟩ : a2 = a5 ∧ c2 = c5 := by simpa [eq_comm] using e2
              exact hx2)
            have hLi := Lib.hid (show ∀ w', Below w5.heap.size w5 w' → IntsAt w' al n3 (logD d) from fun w' hb => hil.on' hb (Nat.le_refl _))
            have hQd := Lib.hid (show ∀ w', Below w5.heap.size w5 w' → Duo w A d c C G m u H Gr W Ar rc [] w' from fun w' hb => Q5.out.made (X' := []) hb (fun _ h => by cases h))
            have BB := Lib.hid (show Below w5.heap.size w5 w5.drew from below_drewN w5 1)
            obtain ⟨r0, r6⟩ := hdr.out _ BB.out
            clear hvl hil
            go_region_held3 (fun w' => w'.cell? ⟨W, 0, none⟩ = some (.pointer (some ⟨Gr, 0, none⟩)) ∧ w'.cell? ⟨Gr, 6, none⟩ = some (.slice al n3 cl)) (exact ⟨r0, r6⟩)
              (first
                | (go_at_call 15; refine (rlist_d (hQd.out _ BB.out) hl1.out hn1.out).mono ?_; rintro e w6 ⟨v6, rfl, ho6, hb⟩; obtain ⟨a6, c6, rfl, hx6, _⟩ := ho6.slice; have X6 := Lib.hid hx6; clear ho6 hx6; have BB2 := Lib.hid (BB.out.trans (hb.mono BB.out.size)); clear BB r0 r6; have BB := BB2; clear BB2; obtain ⟨r0, r6⟩ := hdr.out _ BB.out; clear hb)
                | (go_at_call 14; refine (sameI_any _ _ _ _ n1 (gzl l1) (gzl l1) _ (by omega) (hAi.out _ BB.out) X6.out (fun _ _ => rfl)).mono ?_; rintro e w7 ⟨rfl, hb⟩; clear X6; have BB2 := Lib.hid (BB.out.trans (hb.mono BB.out.size)); clear BB r0 r6; have BB := BB2; clear BB2; obtain ⟨r0, r6⟩ := hdr.out _ BB.out; clear hb)
                | (go_at_call 16; refine (rdirty_d (hQd.out _ BB.out) hl2.out hn2.out).mono ?_; rintro e w8 ⟨v8, rfl, ho8, hb⟩; obtain ⟨a8, c8, rfl, hx8, _⟩ := ho8.slice; have X8 := Lib.hid hx8; clear ho8 hx8; have BB2 := Lib.hid (BB.out.trans (hb.mono BB.out.size)); clear BB r0 r6; have BB := BB2; clear BB2; obtain ⟨r0, r6⟩ := hdr.out _ BB.out; clear hb)
                | (go_at_call 14; refine (sameI_any _ _ _ _ n2 (gzl l2) (gzl l2) _ (by omega) (hBi.out _ BB.out) X8.out (fun _ _ => rfl)).mono ?_; rintro e w9 ⟨rfl, hb⟩; clear X8; have BB2 := Lib.hid (BB.out.trans (hb.mono BB.out.size)); clear BB r0 r6; have BB := BB2; clear BB2; obtain ⟨r0, r6⟩ := hdr.out _ BB.out; clear hb)
                | (go_at_call 17; refine (writes_any _ _ G A d (hQd.out _ BB.out).q.cv.dk).mono ?_; rw [hn3.out]; rintro e w10 ⟨v10, rfl, ho10, hb⟩; obtain ⟨a10, c10, rfl, hx10, _⟩ := ho10.slice; have X10 := Lib.hid hx10; clear ho10 hx10; have BB2 := Lib.hid (BB.out.trans (hb.mono BB.out.size)); clear BB r0 r6; have BB := BB2; clear BB2; obtain ⟨r0, r6⟩ := hdr.out _ BB.out; clear hb)
                | (go_at_call 14; refine (sameI_any _ _ _ _ n3 (logD d) (logD d) _ (by omega) X10.out (hLi.out _ BB.out) (fun _ _ => rfl)).mono ?_; rintro e w11 ⟨rfl, hb⟩; clear X10; have BB2 := Lib.hid (BB.out.trans (hb.mono BB.out.size)); clear BB r0 r6; have BB := BB2; clear BB2; obtain ⟨r0, r6⟩ := hdr.out _ BB.out; clear hb))
            clear r0 r6
            have BF := Lib.hid BB.out
            have hz3 := Lib.hid (Nat.le_trans B4.out.size (Nat.le_trans B5.out.size BF.out.size))
            go_upto_region 18 with (go_at_call 18; refine (overI_own w3.heap.size n1 _ (gzl l1) _ (by omega) (own_read (own_read O4.out B5.out) BF.out) hz3.out).mono ?_; rintro e w14 ⟨rfl, hg14⟩; obtain ⟨hO, hp, hB⟩ := over_first O4.out B4.out O5.out B5.out BF.out hg14; have O14 := Lib.hid hO; have p14 := Lib.hid hp; have B14 := Lib.hid hB; clear hg14 hO hp hB)
            go_wp2_with (go_at_call 18; refine (overI_own w4.heap.size n2 _ (gzl l2) _ (by omega) O14.out p14.out).mono ?_; rintro e w15 ⟨rfl, hg15⟩; have B15 := Lib.hid (B14.out.trans (grownBy_below hg15 B14.out.size (fun c hc => Nat.le_trans B4.out.size (World.ownsRow.lt O14.out c hc).1))); clear hg15)
            go_roundg gn
            case measure => omega
            case rel => exact ⟨t + 1, by omega, by go_num, S3.out.read B15.out⟩
          · have hkn : t = n := by omega
            subst hkn
            have di : decide ((t : Int) < (t : Int)) = false := decide_eq_false (by omega)
            obtain ⟨A, d, c, u, H, Ar, rc, hq3, _, _, _⟩ := S1.out
            have Q3 := Lib.hid hq3
            clear hq3
            have hdr := Lib.hid (show ∀ w', Below wr.heap.size wr w' → w'.cell? ⟨W, 0, none⟩ = some (.pointer (some ⟨Gr, 0, none⟩)) ∧ w'.cell? ⟨Gr, 0, none⟩ = some (.slice (some ⟨Ar.g, 0, none⟩) 12 Ar.c) from fun w' hb => by
              have hQ := (Q3.out.made (X' := []) hb (fun _ h => by cases h))
              have h2 := hQ.q.secs.1
              rw [hQ.q.g, hQ.n] at h2
              exact ⟨by rw [← hQ.at']; exact hQ.q.hdr, h2⟩)
            have hQd := Lib.hid (show ∀ w', Below wr.heap.size wr w' → Duo w A d c C G m u H Gr W Ar rc [] w' from fun w' hb => Q3.out.made (X' := []) hb (fun _ h => by cases h))
            have hF := Lib.hid (show ∀ w', Below wr.heap.size wr w' → Parts w' (some ⟨Ar.g, 0, none⟩) 12 d.firm from fun w' hb => by
              have := (hQd.out w' hb).q.rf.parts
              rwa [(hQd.out w' hb).n] at this)
            have hfl := Lib.hid (show ∀ i, i < 12 → (d.firm i).length ≤ 100000 from fun i hi => by rw [Q3.out.q.rf.fine.firm i (by rw [Q3.out.n]; exact hi)]; omega)
            go_upto_region 19 with fail
            have BB := Lib.hid (show Below wr.heap.size wr wr.drew from below_drewN wr 1)
            obtain ⟨r0, r6⟩ := hdr.out _ BB.out
            go_region_held3 (fun w' => w'.cell? ⟨W, 0, none⟩ = some (.pointer (some ⟨Gr, 0, none⟩)) ∧ w'.cell? ⟨Gr, 0, none⟩ = some (.slice (some ⟨Ar.g, 0, none⟩) 12 Ar.c)) (exact ⟨r0, r6⟩)
              (first
                | (go_at_call 20; refine (image_n _ _ G A d 12 d.firm (hQd.out _ BB.out).q.cv.dk (hQd.out _ BB.out).n (fun _ _ => rfl)).mono ?_; rintro e w4 ⟨g4, V4, bk4, rfl, hI4, hb⟩; have P4 := Lib.hid (hI4.parts hfl.out); clear hI4; have BB2 := Lib.hid (BB.out.trans (hb.mono BB.out.size)); clear BB r0 r6; have BB := BB2; clear BB2; obtain ⟨r0, r6⟩ := hdr.out _ BB.out; clear hb)
                | (go_at_call 19; refine ((parts_same _ _ _ _ 12 d.firm d.firm _ (by omega) P4.out (hF.out _ BB.out) (fun _ _ => rfl)).mono fun _ _ h => h.below).mono ?_; rintro e w7 ⟨rfl, hb⟩; clear P4; have BB2 := Lib.hid (BB.out.trans (hb.mono BB.out.size)); clear BB r0 r6; have BB := BB2; clear BB2; obtain ⟨r0, r6⟩ := hdr.out _ BB.out; clear hb)
                | (go_at_call 7; refine (awake_any _).mono ?_; rintro e w8 ⟨rfl, hb⟩; have BB2 := Lib.hid (BB.out.trans (hb.mono BB.out.size)); clear BB r0 r6; have BB := BB2; clear BB2; obtain ⟨r0, r6⟩ := hdr.out _ BB.out; clear hb))
            clear r0 r6
            have BF := Lib.hid (S1.out.below.trans (BB.out.mono S1.out.below.size))
            go_wp2_with fail
            go_ret
            exact ⟨by simp, BF.out⟩
    · have dm : decide (20 < most) = true := decide_eq_true (by omega)
      go_enter Try.func3, Try.ntmps3
      go_wp2_with (go_at_call 7; refine (awake_any _).mono ?_; rintro e w2 ⟨rfl, hb2⟩)
      go_ret
      exact ⟨rfl, hb2⟩
  · have dn : decide (60 < (n : Int)) = true := decide_eq_true (by omega)
    go_enter Try.func3, Try.ntmps3
    go_wp2_with (go_at_call 7; refine (awake_any _).mono ?_; rintro e w2 ⟨rfl, hb2⟩)
    go_ret
    exact ⟨rfl, hb2⟩
end Go.Proofs.Ytnfaeejeipbciaa
end
