/-
  The stable sort of the library: the merge, whole.
-/
import Derived.Test.YtdnemlanahlnpaaDoorSymA
import Derived.Test.YtdnemlanahlnpaaDoorSymB
import Derived.Deep.DeepCutAuto
namespace Go.Proofs.YtdnemlanahlnpaaDoor
open Go.RowKit Fl

/-- what the merge of stretches of at most N gives -/
def SymSaid (N : Nat) : Prop := ∀ (g c n cap a m b : Nat) (xs : List Nat) (D : Nat → Int) (w : World), b - a ≤ N → n ≤ 1000 → xs.length ≤ 1000 → a < m → m < b → b ≤ n → At g n D w → Env g c xs w → (∀ p, p < n → 0 ≤ D p ∧ D p < xs.length) →
  Stab (kf xs) D a b → LS (kf xs) D a m → LS (kf xs) D m b →
  Calls Tryd.prog 41 #[.slice (some ⟨g, 0, none⟩) n cap, .int .i64 a, .int .i64 m, .int .i64 b, .func (.func 30) #[] #[.pointer (some ⟨c, 0, none⟩)]] w (SortPost g n a b xs D w)

def MidRel (g n s0 r0 P : Nat) (xs : List Nat) (D : Nat → Int) (w : World) (i j : Value) (wr : World) : Prop :=
  ∃ x y : Nat, s0 ≤ x ∧ x ≤ y ∧ y ≤ r0 ∧ i = .int .i64 x ∧ j = .int .i64 y ∧ At g n D wr ∧ Oth g w wr ∧ (s0 < x → kf xs (D (x - 1)) ≤ kf xs (D (P - (x - 1)))) ∧ (y < r0 → kf xs (D (P - y)) < kf xs (D y))

set_option maxRecDepth 100000 in
set_option maxHeartbeats 4000000 in
theorem symMerge_mid {N : Nat} (ih : SymSaid N) (g c n cap a m b : Nat) (xs : List Nat) (D : Nat → Int) (w : World) (hN : b - a ≤ N + 1) (hn : n ≤ 1000) (hl : xs.length ≤ 1000) (ham : a + 1 < m) (hmb : m + 1 < b) (hbn : b ≤ n) (hD : At g n D w) (hE : Env g c xs w) (hr : ∀ p, p < n → 0 ≤ D p ∧ D p < xs.length)
    (hs : Stab (kf xs) D a b) (hL : LS (kf xs) D a m) (hR : LS (kf xs) D m b) :
    Calls Tryd.prog 41 #[.slice (some ⟨g, 0, none⟩) n cap, .int .i64 a, .int .i64 m, .int .i64 b, .func (.func 30) #[] #[.pointer (some ⟨c, 0, none⟩)]] w (SortPost g n a b xs D w) := by
  have ih' := Lib.hid ih
  have hD' := Lib.hid hD
  have hE' := Lib.hid hE
  have hs' := Lib.hid hs
  have hL' := Lib.hid hL
  have hR' := Lib.hid hR
  have hr' := Lib.hid hr
  have n1 : (((m : Int) - (a : Int)) == 1) = false := by rw [beq_eq_false_iff_ne]; omega
  have n2 : (((b : Int) - (m : Int)) == 1) = false := by rw [beq_eq_false_iff_ne]; omega
  obtain ⟨M, hM⟩ : ∃ M : Nat, M = (a + b) / 2 := ⟨_, rfl⟩
  have hM' := Lib.hid hM
  have k1 : 2 * M ≤ a + b := by omega
  have k2 : a + b ≤ 2 * M + 1 := by omega
  have m1 : a < M := by omega
  have m2 : M < b := by omega
  clear ih hD hE hs hL hR hr hM
  obtain ⟨s0, hs0⟩ : ∃ s0 : Nat, s0 = if M < m then M + m - b else a := ⟨_, rfl⟩
  obtain ⟨r0, hr0⟩ : ∃ r0 : Nat, r0 = if M < m then M else m := ⟨_, rfl⟩
  have hs0' := Lib.hid hs0
  have hr0' := Lib.hid hr0
  have q1 : a ≤ s0 := by rw [hs0]; split <;> omega
  have q2 : s0 ≤ r0 := by rw [hs0, hr0]; split <;> omega
  have q3 : r0 ≤ m := by rw [hr0]; split <;> omega
  have q4 : r0 ≤ M := by rw [hr0]; split <;> omega
  have q5 : M + m ≤ b + s0 := by rw [hs0]; split <;> omega
  clear hs0 hr0
  go_enter Tryd.func41, Tryd.ntmps41
  go_upto_if 140 with (fail)
  rw [show (((a : Int) + (b : Int)) / 2) = (M : Int) from by have := hM'.out; omega]
  go_cut [20, 21] (fun u v wx => u = .int .i64 s0 ∧ v = .int .i64 r0 ∧ At g n D wx ∧ Oth g w wx)
  case first =>
    by_cases e : M < m
    · have e1 : (M : Int) < (m : Int) := by omega
      have h1 := Lib.hid (show s0 = M + m - b by rw [hs0'.out, if_pos e])
      have h2 := Lib.hid (show r0 = M by rw [hr0'.out, if_pos e])
      go_wp2_with fail
      go_meet
      have := h1.out
      have := h2.out
      exact ⟨by congr 1; omega, by congr 1; omega, hD'.out, Oth.refl _ _⟩
    · have e1 : ¬ (M : Int) < (m : Int) := by omega
      have h1 := Lib.hid (show s0 = a by rw [hs0'.out, if_neg e])
      have h2 := Lib.hid (show r0 = m by rw [hr0'.out, if_neg e])
      go_wp2_with fail
      go_meet
      have := h1.out
      have := h2.out
      exact ⟨by congr 1; omega, by congr 1; omega, hD'.out, Oth.refl _ _⟩
  case rest =>
    obtain ⟨rfl, rfl, hDc, hOc⟩ := hcut
    have hDc' := Lib.hid hDc
    have hOc' := Lib.hid hOc
    clear hDc hOc
    go_wp2_with fail
    obtain ⟨P, hP⟩ : ∃ P : Nat, P = M + m - 1 := ⟨_, rfl⟩
    rw [show ((M : Int) + (m : Int) - 1) = (P : Int) from by omega]
    have hPe := Lib.hid hP
    have p1 : P + 1 = M + m := by omega
    clear hP
    go_loopw [20, 21, 23] (fun i j _ wr => MidRel g n s0 r0 P xs D w i j wr) (fun i j _ _ => (intOf j).toNat - (intOf i).toNat)
    case atStart => exact ⟨s0, r0, Nat.le_refl _, q2, Nat.le_refl _, rfl, rfl, hDc'.out, hOc'.out, fun h => by omega, fun h => by omega⟩
    case round =>
      obtain ⟨x, y, h1, h2, h3, rfl, rfl, hT, hO, hlo, hhi⟩ := hrel
      have hT' := Lib.hid hT
      have hO' := Lib.hid hO
      have hlo' := Lib.hid hlo
      have hhi' := Lib.hid hhi
      clear hT hO hlo hhi
      by_cases hxy : x < y
      · obtain ⟨h, hh⟩ : ∃ h : Nat, h = (x + y) / 2 := ⟨_, rfl⟩
        have hx1 : x ≤ h := by omega
        have hx2 : h < y := by omega
        obtain ⟨X, hX⟩ := Int.eq_ofNat_of_zero_le (hr'.out (P - h) (by omega)).1
        have hXl : X < xs.length := by have := (hr'.out (P - h) (by omega)).2; omega
        have cx : wr.cell? ⟨g, P - h, none⟩ = some (.int .i64 (X : Int)) := by rw [(hT'.out (P - h) (by omega)).1, ← hX]
        obtain ⟨Y, hY⟩ := Int.eq_ofNat_of_zero_le (hr'.out h (by omega)).1
        have hYl : Y < xs.length := by have := (hr'.out h (by omega)).2; omega
        have cy : wr.cell? ⟨g, h, none⟩ = some (.int .i64 (Y : Int)) := by rw [(hT'.out h (by omega)).1, ← hY]
        have hX' := Lib.hid hX
        have hY' := Lib.hid hY
        have bh : (0 : Int) ≤ (h : Int) := by omega
        have bh2 : (h : Int) < (n : Int) := by omega
        have bp : (0 : Int) ≤ (P : Int) - (h : Int) := by omega
        have bp2 : (P : Int) - (h : Int) < (n : Int) := by omega
        have bp3 : ((P : Int) - (h : Int)).toNat = P - h := by omega
        have hh' := Lib.hid hh
        clear hX hY hh
        go_wp2_with fail
        rw [show (((x : Int) + (y : Int)) / 2) = (h : Int) from by have := hh'.out; omega]
        by_cases hk : kf xs X < kf xs Y
        · have hc3 : decide (cmp3 (kf xs X) (kf xs Y) < 0) = true := by rw [cmp3_lt]; simpa using hk
          have hk' := Lib.hid hk
          clear hk
          go_quiet ((go_at_call 30; refine Calls.quiet_of (cmpF_any g c xs X Y _ (hE'.out.on hO'.out.drewN) hXl hYl hl)))
          go_wp2_with fail
          exact ⟨⟨x, h, h1, hx1, by omega, rfl, rfl, hT'.out.drewN, hO'.out.drewN, hlo'.out, fun _ => by rw [hX'.out, hY'.out]; exact hk'.out⟩, by simp [intOf]; omega⟩
        · have hc3 : decide (cmp3 (kf xs X) (kf xs Y) < 0) = false := by rw [cmp3_lt]; simpa using hk
          have hk' := Lib.hid (show kf xs Y ≤ kf xs X by omega)
          clear hk
          go_quiet ((go_at_call 30; refine Calls.quiet_of (cmpF_any g c xs X Y _ (hE'.out.on hO'.out.drewN) hXl hYl hl)))
          go_wp2_with fail
          exact ⟨⟨h + 1, y, by omega, by omega, h3, by go_num, rfl, hT'.out.drewN, hO'.out.drewN, fun _ => by rw [Nat.add_sub_cancel, hX'.out, hY'.out]; exact hk'.out, hhi'.out⟩, by simp [intOf]; omega⟩
      · have e : x = y := by omega
        subst e
        obtain ⟨t, ht⟩ : ∃ t : Nat, t = M + m - x := ⟨_, rfl⟩
        have hcut := search_cut (K := kf xs) (D := D) ham hmb s0 r0 (by rw [← hM'.out]; exact hs0'.out) (by rw [← hM'.out]; exact hr0'.out) h1 h3
          (by rw [← hM'.out, ← hPe.out]; intro hh; have := hlo'.out hh; omega) (by rw [← hM'.out, ← hPe.out]; exact hhi'.out)
        rw [← hM'.out, ← ht] at hcut
        have t1 := hcut.t1
        have t2 := hcut.t2
        have t3 := hcut.smid
        have t4 := hcut.s1
        have t5 := hcut.s2
        have t6 : x + t = M + m := hcut.sum
        have hcut' := Lib.hid hcut
        have ht' := Lib.hid ht
        clear hcut ht
        by_cases hxm : x < m
        · by_cases hmt : m < t
          · have hxM : x < M := by omega
            have hMt : M < t := by omega
            by_cases hax : a < x
            · by_cases htb : t < b
              · skip
                go_upto_region 39 with (fail)
                rw [show ((M : Int) + (m : Int) - (x : Int)) = (t : Int) from by omega]
                go_wp2_with fail
                refine (rotate_any g n cap x m t _ D _ hn hxm hmt (by omega) hT'.out).mono ?_
                rintro e w1 ⟨rfl, hA1, hO1⟩
                have hO1' := Lib.hid (hO'.out.trans hO1)
                have hA1' := Lib.hid hA1
                clear hA1 hO1
                go_wp2_with fail
                refine (ih'.out g c n cap a x M xs (rotR D x m t) _ (by omega) hn hl (by omega) (by omega) (by omega) hA1'.out (hE'.out.on hO1'.out) ((cut_moves hcut'.out).rng hbn hr'.out) (cut_stab1 hcut'.out hL'.out hR'.out hs'.out) (cut_sorted1 hcut'.out hL'.out) (cut_sorted2 hcut'.out hR'.out)).mono ?_
                rintro e w2 ⟨rfl, E, hA2, hO2, hm2, hl2⟩
                have hO2' := Lib.hid (hO1'.out.trans hO2)
                have hA2' := Lib.hid hA2
                have hm2' := Lib.hid hm2
                have hl2' := Lib.hid hl2
                clear hA2 hO2 hm2 hl2
                go_wp2_with fail
                have hR3 := Lib.hid (show LS (kf xs) E M t from (cut_sorted3 hcut'.out hL'.out).congr fun p p1 _ => hm2'.out.1 p (.inr p1))
                have hR4 := Lib.hid (show LS (kf xs) E t b from (cut_sorted4 hcut'.out hR'.out).congr fun p p1 _ => hm2'.out.1 p (.inr (by omega)))
                have hS2 := Lib.hid (show Stab (kf xs) E M b from fun p q p1 p2 p3 hk => by
                  rw [hm2'.out.1 p (.inr p1), hm2'.out.1 q (.inr (by omega))] at hk ⊢
                  exact cut_stab2 hcut'.out hL'.out hR'.out hs'.out p q p1 p2 p3 hk)
                refine (ih'.out g c n cap M t b xs E _ (by omega) hn hl (by omega) (by omega) hbn hA2'.out (hE'.out.on hO2'.out) (hm2'.out.rng (by omega) ((cut_moves hcut'.out).rng hbn hr'.out)) hS2.out hR3.out hR4.out).mono ?_
                rintro e w3 ⟨rfl, C, hA3, hO3, hm3, hl3⟩
                have hO3' := Lib.hid (hO2'.out.trans hO3)
                have hA3' := Lib.hid hA3
                have hm3' := Lib.hid hm3
                have hl3' := Lib.hid hl3
                clear hA3 hO3 hm3 hl3
                go_wp2_with fail
                go_end0
                have fin := merged hcut'.out hL'.out hR'.out hs'.out (by omega) (by omega) hm2'.out hl2'.out hm3'.out hl3'.out
                exact ⟨rfl, C, hA3'.out, hO3'.out, fin.2, fin.1⟩
              · skip
                go_upto_region 39 with (fail)
                rw [show ((M : Int) + (m : Int) - (x : Int)) = (t : Int) from by omega]
                go_wp2_with fail
                refine (rotate_any g n cap x m t _ D _ hn hxm hmt (by omega) hT'.out).mono ?_
                rintro e w1 ⟨rfl, hA1, hO1⟩
                have hO1' := Lib.hid (hO'.out.trans hO1)
                have hA1' := Lib.hid hA1
                clear hA1 hO1
                go_wp2_with fail
                refine (ih'.out g c n cap a x M xs (rotR D x m t) _ (by omega) hn hl (by omega) (by omega) (by omega) hA1'.out (hE'.out.on hO1'.out) ((cut_moves hcut'.out).rng hbn hr'.out) (cut_stab1 hcut'.out hL'.out hR'.out hs'.out) (cut_sorted1 hcut'.out hL'.out) (cut_sorted2 hcut'.out hR'.out)).mono ?_
                rintro e w2 ⟨rfl, E, hA2, hO2, hm2, hl2⟩
                have hO2' := Lib.hid (hO1'.out.trans hO2)
                have hA2' := Lib.hid hA2
                have hm2' := Lib.hid hm2
                have hl2' := Lib.hid hl2
                clear hA2 hO2 hm2 hl2
                go_wp2_with fail
                have hR3 := Lib.hid (show LS (kf xs) E M t from (cut_sorted3 hcut'.out hL'.out).congr fun p p1 _ => hm2'.out.1 p (.inr p1))
                have hR4 := Lib.hid (show LS (kf xs) E t b from (cut_sorted4 hcut'.out hR'.out).congr fun p p1 _ => hm2'.out.1 p (.inr (by omega)))
                go_end0
                have fin := merged hcut'.out hL'.out hR'.out hs'.out (by omega) (by omega) hm2'.out hl2'.out (Moves.refl _ _ _) (right_done hR3.out hR4.out (by omega))
                exact ⟨rfl, E, hA2'.out, hO2'.out, fin.2, fin.1⟩
            · by_cases htb : t < b
              · skip
                go_upto_region 39 with (fail)
                rw [show ((M : Int) + (m : Int) - (x : Int)) = (t : Int) from by omega]
                go_wp2_with fail
                refine (rotate_any g n cap x m t _ D _ hn hxm hmt (by omega) hT'.out).mono ?_
                rintro e w1 ⟨rfl, hA1, hO1⟩
                have hO1' := Lib.hid (hO'.out.trans hO1)
                have hA1' := Lib.hid hA1
                clear hA1 hO1
                go_wp2_with fail
                have hO2' := hO1'
                obtain ⟨E, hEq⟩ : ∃ E, E = rotR D x m t := ⟨_, rfl⟩
                have hA2' := Lib.hid (show At g n E _ by rw [hEq]; exact hA1'.out)
                have hm2' := Lib.hid (show Moves a M (rotR D x m t) E by rw [hEq]; exact Moves.refl _ _ _)
                have hl2' := Lib.hid (show LS (kf xs) E a M by rw [hEq]; exact left_done hcut'.out hL'.out hR'.out (by omega))
                clear hEq
                have hR3 := Lib.hid (show LS (kf xs) E M t from (cut_sorted3 hcut'.out hL'.out).congr fun p p1 _ => hm2'.out.1 p (.inr p1))
                have hR4 := Lib.hid (show LS (kf xs) E t b from (cut_sorted4 hcut'.out hR'.out).congr fun p p1 _ => hm2'.out.1 p (.inr (by omega)))
                have hS2 := Lib.hid (show Stab (kf xs) E M b from fun p q p1 p2 p3 hk => by
                  rw [hm2'.out.1 p (.inr p1), hm2'.out.1 q (.inr (by omega))] at hk ⊢
                  exact cut_stab2 hcut'.out hL'.out hR'.out hs'.out p q p1 p2 p3 hk)
                refine (ih'.out g c n cap M t b xs E _ (by omega) hn hl (by omega) (by omega) hbn hA2'.out (hE'.out.on hO2'.out) (hm2'.out.rng (by omega) ((cut_moves hcut'.out).rng hbn hr'.out)) hS2.out hR3.out hR4.out).mono ?_
                rintro e w3 ⟨rfl, C, hA3, hO3, hm3, hl3⟩
                have hO3' := Lib.hid (hO2'.out.trans hO3)
                have hA3' := Lib.hid hA3
                have hm3' := Lib.hid hm3
                have hl3' := Lib.hid hl3
                clear hA3 hO3 hm3 hl3
                go_wp2_with fail
                go_end0
                have fin := merged hcut'.out hL'.out hR'.out hs'.out (by omega) (by omega) hm2'.out hl2'.out hm3'.out hl3'.out
                exact ⟨rfl, C, hA3'.out, hO3'.out, fin.2, fin.1⟩
              · skip
                go_upto_region 39 with (fail)
                rw [show ((M : Int) + (m : Int) - (x : Int)) = (t : Int) from by omega]
                go_wp2_with fail
                refine (rotate_any g n cap x m t _ D _ hn hxm hmt (by omega) hT'.out).mono ?_
                rintro e w1 ⟨rfl, hA1, hO1⟩
                have hO1' := Lib.hid (hO'.out.trans hO1)
                have hA1' := Lib.hid hA1
                clear hA1 hO1
                go_wp2_with fail
                have hO2' := hO1'
                obtain ⟨E, hEq⟩ : ∃ E, E = rotR D x m t := ⟨_, rfl⟩
                have hA2' := Lib.hid (show At g n E _ by rw [hEq]; exact hA1'.out)
                have hm2' := Lib.hid (show Moves a M (rotR D x m t) E by rw [hEq]; exact Moves.refl _ _ _)
                have hl2' := Lib.hid (show LS (kf xs) E a M by rw [hEq]; exact left_done hcut'.out hL'.out hR'.out (by omega))
                clear hEq
                have hR3 := Lib.hid (show LS (kf xs) E M t from (cut_sorted3 hcut'.out hL'.out).congr fun p p1 _ => hm2'.out.1 p (.inr p1))
                have hR4 := Lib.hid (show LS (kf xs) E t b from (cut_sorted4 hcut'.out hR'.out).congr fun p p1 _ => hm2'.out.1 p (.inr (by omega)))
                go_end0
                have fin := merged hcut'.out hL'.out hR'.out hs'.out (by omega) (by omega) hm2'.out hl2'.out (Moves.refl _ _ _) (right_done hR3.out hR4.out (by omega))
                exact ⟨rfl, E, hA2'.out, hO2'.out, fin.2, fin.1⟩
          · have hxM : ¬ x < M := by omega
            have htb : t < b := by omega
            have hax : a < x := by omega
            by_cases hMt : M < t
            · skip
              go_upto_region 39 with (fail)
              rw [show ((M : Int) + (m : Int) - (x : Int)) = (t : Int) from by omega]
              go_wp2_with fail
              have hO1' := hO'
              have hA1' := Lib.hid (hT'.out.congr (D' := rotR D x m t) fun p _ => rot_id (by omega) p)
              have hO2' := hO1'
              obtain ⟨E, hEq⟩ : ∃ E, E = rotR D x m t := ⟨_, rfl⟩
              have hA2' := Lib.hid (show At g n E _ by rw [hEq]; exact hA1'.out)
              have hm2' := Lib.hid (show Moves a M (rotR D x m t) E by rw [hEq]; exact Moves.refl _ _ _)
              have hl2' := Lib.hid (show LS (kf xs) E a M by rw [hEq]; exact left_done hcut'.out hL'.out hR'.out (by omega))
              clear hEq
              have hR3 := Lib.hid (show LS (kf xs) E M t from (cut_sorted3 hcut'.out hL'.out).congr fun p p1 _ => hm2'.out.1 p (.inr p1))
              have hR4 := Lib.hid (show LS (kf xs) E t b from (cut_sorted4 hcut'.out hR'.out).congr fun p p1 _ => hm2'.out.1 p (.inr (by omega)))
              have hS2 := Lib.hid (show Stab (kf xs) E M b from fun p q p1 p2 p3 hk => by
                rw [hm2'.out.1 p (.inr p1), hm2'.out.1 q (.inr (by omega))] at hk ⊢
                exact cut_stab2 hcut'.out hL'.out hR'.out hs'.out p q p1 p2 p3 hk)
              refine (ih'.out g c n cap M t b xs E _ (by omega) hn hl (by omega) (by omega) hbn hA2'.out (hE'.out.on hO2'.out) (hm2'.out.rng (by omega) ((cut_moves hcut'.out).rng hbn hr'.out)) hS2.out hR3.out hR4.out).mono ?_
              rintro e w3 ⟨rfl, C, hA3, hO3, hm3, hl3⟩
              have hO3' := Lib.hid (hO2'.out.trans hO3)
              have hA3' := Lib.hid hA3
              have hm3' := Lib.hid hm3
              have hl3' := Lib.hid hl3
              clear hA3 hO3 hm3 hl3
              go_wp2_with fail
              go_end0
              have fin := merged hcut'.out hL'.out hR'.out hs'.out (by omega) (by omega) hm2'.out hl2'.out hm3'.out hl3'.out
              exact ⟨rfl, C, hA3'.out, hO3'.out, fin.2, fin.1⟩
            · skip
              go_upto_region 39 with (fail)
              rw [show ((M : Int) + (m : Int) - (x : Int)) = (t : Int) from by omega]
              go_wp2_with fail
              have hO1' := hO'
              have hA1' := Lib.hid (hT'.out.congr (D' := rotR D x m t) fun p _ => rot_id (by omega) p)
              have hO2' := hO1'
              obtain ⟨E, hEq⟩ : ∃ E, E = rotR D x m t := ⟨_, rfl⟩
              have hA2' := Lib.hid (show At g n E _ by rw [hEq]; exact hA1'.out)
              have hm2' := Lib.hid (show Moves a M (rotR D x m t) E by rw [hEq]; exact Moves.refl _ _ _)
              have hl2' := Lib.hid (show LS (kf xs) E a M by rw [hEq]; exact left_done hcut'.out hL'.out hR'.out (by omega))
              clear hEq
              have hR3 := Lib.hid (show LS (kf xs) E M t from (cut_sorted3 hcut'.out hL'.out).congr fun p p1 _ => hm2'.out.1 p (.inr p1))
              have hR4 := Lib.hid (show LS (kf xs) E t b from (cut_sorted4 hcut'.out hR'.out).congr fun p p1 _ => hm2'.out.1 p (.inr (by omega)))
              go_end0
              have fin := merged hcut'.out hL'.out hR'.out hs'.out (by omega) (by omega) hm2'.out hl2'.out (Moves.refl _ _ _) (right_done hR3.out hR4.out (by omega))
              exact ⟨rfl, E, hA2'.out, hO2'.out, fin.2, fin.1⟩
        · have hMt : ¬ M < t := by omega
          have hax : a < x := by omega
          by_cases hxM : x < M
          · skip
            go_upto_region 39 with (fail)
            rw [show ((M : Int) + (m : Int) - (x : Int)) = (t : Int) from by omega]
            go_wp2_with fail
            have hO1' := hO'
            have hA1' := Lib.hid (hT'.out.congr (D' := rotR D x m t) fun p _ => rot_id (by omega) p)
            refine (ih'.out g c n cap a x M xs (rotR D x m t) _ (by omega) hn hl (by omega) (by omega) (by omega) hA1'.out (hE'.out.on hO1'.out) ((cut_moves hcut'.out).rng hbn hr'.out) (cut_stab1 hcut'.out hL'.out hR'.out hs'.out) (cut_sorted1 hcut'.out hL'.out) (cut_sorted2 hcut'.out hR'.out)).mono ?_
            rintro e w2 ⟨rfl, E, hA2, hO2, hm2, hl2⟩
            have hO2' := Lib.hid (hO1'.out.trans hO2)
            have hA2' := Lib.hid hA2
            have hm2' := Lib.hid hm2
            have hl2' := Lib.hid hl2
            clear hA2 hO2 hm2 hl2
            go_wp2_with fail
            have hR3 := Lib.hid (show LS (kf xs) E M t from (cut_sorted3 hcut'.out hL'.out).congr fun p p1 _ => hm2'.out.1 p (.inr p1))
            have hR4 := Lib.hid (show LS (kf xs) E t b from (cut_sorted4 hcut'.out hR'.out).congr fun p p1 _ => hm2'.out.1 p (.inr (by omega)))
            go_end0
            have fin := merged hcut'.out hL'.out hR'.out hs'.out (by omega) (by omega) hm2'.out hl2'.out (Moves.refl _ _ _) (right_done hR3.out hR4.out (by omega))
            exact ⟨rfl, E, hA2'.out, hO2'.out, fin.2, fin.1⟩
          · skip
            go_upto_region 39 with (fail)
            rw [show ((M : Int) + (m : Int) - (x : Int)) = (t : Int) from by omega]
            go_wp2_with fail
            have hO1' := hO'
            have hA1' := Lib.hid (hT'.out.congr (D' := rotR D x m t) fun p _ => rot_id (by omega) p)
            have hO2' := hO1'
            obtain ⟨E, hEq⟩ : ∃ E, E = rotR D x m t := ⟨_, rfl⟩
            have hA2' := Lib.hid (show At g n E _ by rw [hEq]; exact hA1'.out)
            have hm2' := Lib.hid (show Moves a M (rotR D x m t) E by rw [hEq]; exact Moves.refl _ _ _)
            have hl2' := Lib.hid (show LS (kf xs) E a M by rw [hEq]; exact left_done hcut'.out hL'.out hR'.out (by omega))
            clear hEq
            have hR3 := Lib.hid (show LS (kf xs) E M t from (cut_sorted3 hcut'.out hL'.out).congr fun p p1 _ => hm2'.out.1 p (.inr p1))
            have hR4 := Lib.hid (show LS (kf xs) E t b from (cut_sorted4 hcut'.out hR'.out).congr fun p p1 _ => hm2'.out.1 p (.inr (by omega)))
            go_end0
            have fin := merged hcut'.out hL'.out hR'.out hs'.out (by omega) (by omega) hm2'.out hl2'.out (Moves.refl _ _ _) (right_done hR3.out hR4.out (by omega))
            exact ⟨rfl, E, hA2'.out, hO2'.out, fin.2, fin.1⟩
end Go.Proofs.YtdnemlanahlnpaaDoor
