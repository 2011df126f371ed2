/-
  Whatever acts there are, both disks answer the same: the walk.
-/
import Derived.Test.YtmaodnidodoadaaMi
import Derived.Test.YtmaodnidodoadaaOpa
import Derived.Test.YtmaodnidodoadaaAk
import Derived.Deep.RegionHeld3
import Derived.Deep.DrawnRows
namespace Go.Proofs.Ytmaodnidodoadaa
open Go.RowKit BigFrame

def ScRel (w : World) (G H s n : Nat) (I : Value) (wr : World) : Prop :=
  ∃ i A C d, i ≤ n ∧ I = .int .i64 (i : Int) ∧ Both w wr G A d H C d ∧ Cnt d i ∧ d.n = s
/-- which rows are written over -/
def ScOver (w3 : World) (g n p4 p5 : Nat) (V : Nat → Value) (X : Nat → List Nat) (bk : Nat → Nat) (va : Value) (na : Nat) (Da : Nat → Int) (vb : Value) (nb : Nat) (Db : Nat → Int) (I : Value) (wr : World) : Prop :=
  ∃ k, k ≤ n ∧ I = .int .i64 ((k : Nat) : Int) ∧ Mine w3 g n p4 p5 V X bk va na Da vb nb Db k wr

set_option maxRecDepth 100000 in
set_option maxHeartbeats 2000000 in
theorem script_law (z : Int) (a : Option Addr) (n cap : Nat) (w : World) (hA : ActsAt w a n) :
    Calls Try.prog 3 #[.int .i64 z, .slice a n cap] w (Woke w) := by
  by_cases hn : n ≤ 60
  · have dn : decide (60 < (n : Int)) = false := decide_eq_false (by omega)
    by_cases hz : z ≤ 12
    · have dz : decide (12 < z) = false := decide_eq_false (by omega)
      by_cases hz1 : z < 1
      · go_enter Try.func3, Try.ntmps3
        go_wp2_with (first
          | (go_at_call 5; refine (new_none z _ (.inl hz1)).mono ?_; rintro e w1 ⟨rfl, rfl⟩)
          | (go_at_call 6; refine (rnew_none z _ (.inl hz1)).mono ?_; rintro e w1 ⟨rfl, rfl⟩)
          | (go_at_call 4; refine (awake_any _).mono ?_; rintro e w2 ⟨rfl, hb2⟩))
        go_ret
        exact ⟨rfl, hb2⟩
      · obtain ⟨s, rfl⟩ : ∃ s : Nat, z = (s : Int) := ⟨z.toNat, by omega⟩
        have hs0 : 0 < s := by omega
        have hs12 : s ≤ 12 := by omega
        have hA' := Lib.hid hA
        clear hA
        go_enter Try.func3, Try.ntmps3
        go_wp2_with (first
          | (go_at_call 5; refine (new_c _ s _ rfl hs0 (by omega)).mono ?_; rintro e w1 ⟨G, A1, rfl, hD1, hb1⟩; have L1 := Lib.hid (Live.new (Below.refl _ _) hD1 hb1); clear hD1 hb1)
          | (go_at_call 6; refine (rnew_some s (A1.foot G) _ hs0 (by omega) (fun k hk => (IsDkS.over L1.out.disk k hk).2)).mono ?_; rintro e w2 ⟨H, C2, rfl, hD2, hb2⟩; have b2 := Lib.hid (Both.start L1.out hD2 hb2); clear hD2 hb2))
        go_loopw [7] (fun I wr => ScRel w G H s n I wr) (fun I _ => n - (intOf I).toNat)
        case atStart => exact ⟨0, A1, C2, _, by omega, rfl, b2.out, ⟨Nat.le_refl _, Nat.le_refl _, Nat.le_refl _⟩, rfl⟩
        case round =>
          obtain ⟨i, A, C, d, hi, rfl, hB, hC, hds⟩ := hrel
          have b3 := Lib.hid hB
          have hc3 := Lib.hid hC
          have hs3 := Lib.hid hds
          clear hB hC hds L1 b2
          by_cases hin : i < n
          · rcases hA'.out with h0 | ⟨b, off, rfl, hacts⟩
            · omega
            obtain ⟨k, x, y, sh, ka, nk, kcap, K, hact⟩ := hacts i hin
            have hlt : b < w.heap.size := World.block_lt_of_cell? w _ hact.c0
            have hbl := b3.out.live.below
            have q0 : wr.cell? ⟨b, off + i * 5, none⟩ = some (.int .i64 k) := by rw [hbl.cell (p := ⟨b, _, none⟩) hlt]; exact hact.c0
            have q1 : wr.cell? ⟨b, off + i * 5 + 1, none⟩ = some (.int .i64 x) := by rw [hbl.cell (p := ⟨b, _, none⟩) hlt]; exact hact.c1
            have q2 : wr.cell? ⟨b, off + i * 5 + 2, none⟩ = some (.int .i64 y) := by rw [hbl.cell (p := ⟨b, _, none⟩) hlt]; exact hact.c2
            have q3 : wr.cell? ⟨b, off + i * 5 + 3, none⟩ = some (.bool sh) := by rw [hbl.cell (p := ⟨b, _, none⟩) hlt]; exact hact.c3
            have q4 : wr.cell? ⟨b, off + i * 5 + 4, none⟩ = some (.slice ka nk kcap) := by rw [hbl.cell (p := ⟨b, _, none⟩) hlt]; exact hact.c4
            have hact' := Lib.hid hact
            have di : decide ((i : Int) < (n : Int)) = true := decide_eq_true (by omega)
            have din : (i : Int) < (n : Int) := by omega
            have di0 : (0 : Int) ≤ (i : Int) := by omega
            clear hacts hact hbl
            by_cases hnk : nk ≤ 20
            · have dk : decide (20 < (nk : Int)) = false := decide_eq_false (by omega)
              obtain ⟨d', hc', hn', hcall⟩ := next_c b3.out (i := i) (by omega) hc3.out k x y hact'.out.big sh hact'.out.len hact'.out.room (by omega) hact'.out.keep hact'.out.nil
              have hcall' := Lib.hid hcall
              have hc5 := Lib.hid hc'
              have hs5 := Lib.hid (hn'.trans hs3.out)
              clear hcall hc' hn'
              obtain ⟨nw, hnw⟩ : ∃ nw, d'.waits.length = nw := ⟨_, rfl⟩
              obtain ⟨nl, hnl⟩ : ∃ nl, d'.log.length = nl := ⟨_, rfl⟩
              obtain ⟨fl, hfl⟩ : ∃ fl, d'.flushes = fl := ⟨_, rfl⟩
              obtain ⟨on, hon⟩ : ∃ on, d'.on = on := ⟨_, rfl⟩
              have nw6 : nw ≤ 61 := by have := hc5.out.waits; omega
              have nl6 : nl ≤ 61 := by have := hc5.out.logs; omega
              have hnw' := Lib.hid hnw
              have hnl' := Lib.hid hnl
              have hfl' := Lib.hid hfl
              have hon' := Lib.hid hon
              clear hnw hnl hfl hon
              go_wp2_with (first
                | (go_at_call 7; refine (hcall'.out).mono ?_; rintro e w3 ⟨rfl, A3, C3, hb3⟩; have b4 := Lib.hid hb3; clear hb3)
                | (go_at_call 8; refine (image_n _ _ G A3 d' s d'.firm b4.out.live.disk hs5.out (fun _ _ => rfl)).mono ?_; rintro e w4 ⟨g4, V4, bk4, rfl, hI4, hb4⟩; have I4 := Lib.hid hI4; have B4 := Lib.hid hb4; have b5 := Lib.hid (b4.out.read hb4); clear hI4 hb4)
                | (go_at_call 9; refine (waiting_n _ _ G A3 d' nw (waitD d') b5.out.live.disk hnw'.out (fun _ _ => rfl)).mono ?_; rintro e w5 ⟨g5, rfl, hg5, hr5, hb5⟩; have O5 := Lib.hid (rowIs_own hr5 hg5 (by omega)); have B5 := Lib.hid hb5; have b6 := Lib.hid (b5.out.read hb5); clear hr5 hg5 hb5)
                | (go_at_call 10; refine (writes_any _ _ G A3 d' b6.out.live.disk).mono ?_; rw [hnl'.out]; rintro e w6 ⟨v6, rfl, ho6, hb6⟩; obtain ⟨ab, cb, rfl, _, _⟩ := ho6.slice; have M6 := Lib.hid (mine_new I4.out B4.out O5.out B5.out ho6 hb6); have b7 := Lib.hid (b6.out.read hb6); clear ho6 hb6))
              obtain ⟨al, cl, hvl, hil⟩ := rlog_ints b7.out.ref
              rw [hnl'.out] at hvl hil
              have hHl : H < w6.heap.size := (Array.getElem?_eq_some_iff.1 b7.out.ref.hdr).1
              have hdr := Lib.hid (show ∀ w', Below w6.heap.size w6 w' → w'.cell? ⟨H, 0, none⟩ = some (.slice (some ⟨C3.g, 0, none⟩) s C3.c) ∧ w'.cell? ⟨H, 2, none⟩ = some (.bool (!on)) ∧ w'.cell? ⟨H, 4, none⟩ = some (.int .i64 (fl : Int)) ∧ w'.cell? ⟨H, 6, none⟩ = some (.slice al nl cl) from fun w' hb => by
                refine ⟨?_, ?_, ?_, ?_⟩ <;> rw [hb.cell (p := ⟨H, _, none⟩) hHl, b7.out.ref.cell]
                · rw [← hs5.out]; rfl
                · rw [← hon'.out]; rfl
                · rw [← hfl'.out]; rfl
                · rw [← hvl]; rfl)
              have hP := Lib.hid (show ∀ w', Below w6.heap.size w6 w' → Parts w' (some ⟨g4, 0, none⟩) s d'.firm from fun w' hb => (M6.out.on hb).parts (fun j hj => by rw [b7.out.ref.fine.firm j (by rw [hs5.out]; exact hj)]; omega))
              have hF := Lib.hid (show ∀ w', Below w6.heap.size w6 w' → Parts w' (some ⟨C3.g, 0, none⟩) s d'.firm from fun w' hb => by rw [← hs5.out]; exact (b7.out.ref.read hb).parts)
              have hAi := Lib.hid (show ∀ w', Below w6.heap.size w6 w' → IntsAt w' (some ⟨g5, 0, none⟩) nw (waitD d') from fun w' hb => by
                obtain ⟨a2, c2, e2, hx2, _⟩ := (M6.out.on hb).a.slice
                obtain ⟨rfl, rfl⟩ : a2 = some ⟨g5, 0, none⟩ ∧ c2 = nw := by simpa [eq_comm] using e2
                exact hx2)
              have hBi := Lib.hid (show ∀ w', Below w6.heap.size w6 w' → IntsAt w' ab nl (logD d') from fun w' hb => by
                obtain ⟨a2, c2, e2, hx2, _⟩ := (M6.out.on hb).b.slice
                obtain ⟨rfl, rfl⟩ : a2 = ab ∧ c2 = cb := by simpa [eq_comm] using e2
                exact hx2)
              have hLi := Lib.hid (show ∀ w', Below w6.heap.size w6 w' → IntsAt w' al nl (logD d') from fun w' hb => hil.on' hb (Nat.le_refl _))
              have BB := Lib.hid (show Below w6.heap.size w6 w6.drew from below_drewN w6 1)
              obtain ⟨r0, r2, r4, r6⟩ := hdr.out _ BB.out
              have tk1 := Lib.hid trivial
              have hno : (on == !on) = false := by cases on <;> rfl
              have hno2 : decide (on = !on) = false := by cases on <;> rfl
              clear hvl hil
              go_region_held3 (fun w' => w'.cell? ⟨H, 0, none⟩ = some (.slice (some ⟨C3.g, 0, none⟩) s C3.c) ∧ w'.cell? ⟨H, 2, none⟩ = some (.bool (!on)) ∧ w'.cell? ⟨H, 4, none⟩ = some (.int .i64 (fl : Int)) ∧ w'.cell? ⟨H, 6, none⟩ = some (.slice al nl cl)) (exact ⟨r0, r2, r4, r6⟩)
                (first
                  | (go_at_call 11; refine ((parts_same _ _ _ _ s d'.firm d'.firm _ (by omega) (hP.out _ BB.out) (hF.out _ BB.out) (fun _ _ => rfl)).mono fun _ _ h => h.below).mono ?_; rintro e w7 ⟨rfl, hb7⟩; have BB2 := Lib.hid (BB.out.trans (hb7.mono BB.out.size)); clear BB r0 r2 r4 r6; have BB := BB2; clear BB2; obtain ⟨r0, r2, r4, r6⟩ := hdr.out _ BB.out; clear hb7)
                  | (go_at_call 13; refine (rwaiting_any _ _ H C3 _ d' (b7.out.ref.read BB.out)).mono ?_; rw [hnw'.out]; rintro e w8 ⟨v8, rfl, ho8, hb8⟩; obtain ⟨ac, cc, rfl, hx8, _⟩ := ho8.slice; have X8 := Lib.hid hx8; have BB2 := Lib.hid (BB.out.trans (hb8.mono BB.out.size)); clear BB r0 r2 r4 r6; have BB := BB2; clear BB2; obtain ⟨r0, r2, r4, r6⟩ := hdr.out _ BB.out; clear ho8 hb8 hx8)
                  | (go_at_call 12; clear tk1; refine (sameI_any _ _ _ _ nw (waitD d') (waitD d') _ (by omega) (hAi.out _ BB.out) X8.out (fun _ _ => rfl)).mono ?_; rintro e w9 ⟨rfl, hb9⟩; have BB2 := Lib.hid (BB.out.trans (hb9.mono BB.out.size)); clear BB r0 r2 r4 r6; have BB := BB2; clear BB2; obtain ⟨r0, r2, r4, r6⟩ := hdr.out _ BB.out; clear hb9)
                  | (go_at_call 12; refine (sameI_any _ _ _ _ nl (logD d') (logD d') _ (by omega) (hBi.out _ BB.out) (hLi.out _ BB.out) (fun _ _ => rfl)).mono ?_; rintro e w10 ⟨rfl, hb10⟩; have BB2 := Lib.hid (BB.out.trans (hb10.mono BB.out.size)); clear BB r0 r2 r4 r6; have BB := BB2; clear BB2; obtain ⟨r0, r2, r4, r6⟩ := hdr.out _ BB.out; clear hb10)
                  | (go_at_call 14; refine (flushes_any _ _ G A3 d' (b7.out.read BB.out).live.disk).mono ?_; rw [hfl'.out]; rintro e w11 ⟨rfl, rfl⟩)
                  | (go_at_call 15; refine (on_any _ _ G A3 d' (b7.out.read BB.out).live.disk).mono ?_; rw [hon'.out]; rintro e w12 ⟨rfl, rfl⟩))
              have M0 := Lib.hid (M6.out.on BB.out)
              clear r0 r2 r4 r6
              go_wp2_with fail
              go_loopw [11] (fun I w2 => ScOver w3 g4 s w4.heap.size w5.heap.size V4 d'.firm bk4 (.slice (some ⟨g5, 0, none⟩) nw nw) nw (waitD d') (.slice ab nl cb) nl (logD d') I w2) (fun I _ => s - (intOf I).toNat)
              case atStart => exact ⟨0, by omega, rfl, M0.out⟩
              case round =>
                obtain ⟨j, hj, rfl, hM⟩ := hrel
                have M1 := Lib.hid hM
                clear hM M0
                by_cases hjs : j < s
                · have dj : decide ((j : Int) < (s : Int)) = true := decide_eq_true (by omega)
                  have dji : (j : Int) < (s : Int) := by omega
                  have dj0 : (0 : Int) ≤ (j : Int) := by omega
                  have qj := M1.out.row.cell hjs
                  go_wp2_with (go_at_call 16; refine (over_own _ _ (d'.firm j) _ (by rw [b7.out.ref.fine.firm j (by rw [hs5.out]; exact hjs)]; omega) (M1.out.own j (Nat.le_refl _) hjs)).mono ?_; rintro e w13 ⟨rfl, hg13⟩; have M2 := Lib.hid (M1.out.over hjs hg13); clear hg13)
                  exact ⟨⟨j + 1, by omega, by go_num, M2.out⟩, by simp [intOf]; omega⟩
                · obtain rfl : j = s := by omega
                  have dj : decide ((j : Int) < (j : Int)) = false := decide_eq_false (by omega)
                  have hp4 := Lib.hid (Nat.le_of_lt (Nat.lt_of_le_of_lt (World.ownsRow.lt M1.out.a g5 rfl).1 (World.ownsRow.lt M1.out.a g5 rfl).2))
                  go_wp2_with (first
                    | (go_at_call_of 17 g5; refine (overI_own w4.heap.size nw _ (waitD d') _ (by omega) M1.out.a hp4.out).mono ?_; rintro e w14 ⟨rfl, hg14⟩; obtain ⟨hO, hp, hB⟩ := M1.out.overA hg14; have O14 := Lib.hid hO; have p14 := Lib.hid hp; have B14 := Lib.hid hB; clear hg14 hO hp hB)
                    | (go_at_call 17; refine (overI_own w5.heap.size nl _ (logD d') _ (by omega) O14.out p14.out).mono ?_; rintro e w15 ⟨rfl, hg15⟩; have B15 := Lib.hid (B14.out.trans (grownBy_below hg15 B14.out.size (fun c hc => Nat.le_trans (Nat.le_trans B4.out.size B5.out.size) (World.ownsRow.lt O14.out c hc).1))); clear hg15))
                  exact ⟨⟨i + 1, A3, C3, d', by omega, by go_num, b4.out.read B15.out, hc5.out, hs5.out⟩, by simp [intOf]; omega⟩
            · have dk : decide (20 < (nk : Int)) = true := decide_eq_true (by omega)
              go_wp2_with (go_at_call 4; refine (awake_any _).mono ?_; rintro e w2 ⟨rfl, hb2⟩)
              go_ret
              exact ⟨rfl, b3.out.live.below.trans (hb2.mono b3.out.live.below.size)⟩
          · obtain rfl : i = n := by omega
            have di : decide ((i : Int) < (i : Int)) = false := decide_eq_false (by omega)
            go_wp2_with (first
              | (go_at_call 18; refine (sectors_any _ _ G A d b3.out.live.disk).mono ?_; rw [hs3.out]; rintro e w3 ⟨rfl, rfl⟩)
              | (go_at_call 4; refine (awake_any _).mono ?_; rintro e w2 ⟨rfl, hb2⟩))
            go_ret
            exact ⟨rfl, b3.out.live.below.trans (hb2.mono b3.out.live.below.size)⟩
    · have dz : decide (12 < z) = true := decide_eq_true (by omega)
      go_enter Try.func3, Try.ntmps3
      go_wp2_with (go_at_call 4; refine (awake_any _).mono ?_; rintro e w2 ⟨rfl, hb2⟩)
      go_ret
      exact ⟨rfl, hb2⟩
  · have dn : decide (60 < (n : Int)) = true := decide_eq_true (by omega)
    go_enter Try.func3, Try.ntmps3
    go_wp2_with (go_at_call 4; refine (awake_any _).mono ?_; rintro e w2 ⟨rfl, hb2⟩)
    go_ret
    exact ⟨rfl, hb2⟩
end Go.Proofs.Ytmaodnidodoadaa
