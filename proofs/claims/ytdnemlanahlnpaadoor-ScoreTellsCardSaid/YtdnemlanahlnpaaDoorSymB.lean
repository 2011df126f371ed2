/-
  The stable sort of the library: the merge, where the right side is a single one.
-/
import Derived.Test.YtdnemlanahlnpaaDoorMerge
namespace Go.Proofs.YtdnemlanahlnpaaDoor
open Go.RowKit Fl

def LastRel (g n a m : Nat) (xs : List Nat) (D : Nat → Int) (w : World) (i j : Value) (wr : World) : Prop :=
  ∃ x y : Nat, a ≤ x ∧ x ≤ y ∧ y ≤ m ∧ i = .int .i64 x ∧ j = .int .i64 y ∧ At g n D wr ∧ Oth g w wr ∧ (∀ p, a ≤ p → p < x → kf xs (D p) ≤ kf xs (D m)) ∧ ∀ p, y ≤ p → p < m → kf xs (D m) < kf xs (D p)
def LastRel2 (g n m i : Nat) (D : Nat → Int) (w : World) (k : Value) (wr : World) : Prop :=
  ∃ x : Nat, i ≤ x ∧ x ≤ m ∧ k = .int .i64 x ∧ At g n (insAt D m x) wr ∧ Oth g w wr

set_option maxRecDepth 100000 in
set_option maxHeartbeats 2000000 in
theorem symMerge_last (g c n cap a m : Nat) (xs : List Nat) (D : Nat → Int) (w : World) (hn : n ≤ 1000) (hl : xs.length ≤ 1000) (ham : a + 1 < m) (hbn : m + 1 ≤ n) (hD : At g n D w) (hE : Env g c xs w) (hr : ∀ p, p < n → 0 ≤ D p ∧ D p < xs.length)
    (hs : Stab (kf xs) D a (m + 1)) (hL : LS (kf xs) D a m) :
    Calls Tryd.prog 41 #[.slice (some ⟨g, 0, none⟩) n cap, .int .i64 a, .int .i64 m, .int .i64 (m + 1 : Nat), .func (.func 30) #[] #[.pointer (some ⟨c, 0, none⟩)]] w (SortPost g n a (m + 1) xs D w) := by
  have hD' := Lib.hid hD
  have hE' := Lib.hid hE
  have hs' := Lib.hid hs
  have hL' := Lib.hid hL
  have hr' := Lib.hid hr
  obtain ⟨M, hM⟩ := Int.eq_ofNat_of_zero_le (hr m (by omega)).1
  have hMl : M < xs.length := by have := (hr m (by omega)).2; omega
  have hM' := Lib.hid hM
  have nine : (((m : Int) - (a : Int)) == 1) = false := by rw [beq_eq_false_iff_ne]; omega
  have one : ((((m + 1 : Nat) : Int) - (m : Int)) == 1) = true := by rw [beq_iff_eq]; omega
  have bm : (0 : Int) ≤ (m : Int) := by omega
  have bm2 : (m : Int) < (n : Int) := by omega
  obtain ⟨b, hb⟩ : ∃ b, b = m + 1 := ⟨_, rfl⟩
  rw [← hb] at one hbn
  rw [← hb]
  have hb' := Lib.hid hb
  have hmb : m < b := by omega
  clear hD hE hs hL hr hM hb
  go_enter Tryd.func41, Tryd.ntmps41
  go_wp2_with fail
  go_loopw [14, 15, 16] (fun i j _ wr => LastRel g n a m xs D w i j wr) (fun i j _ _ => (intOf j).toNat - (intOf i).toNat)
  case atStart => exact ⟨a, m, Nat.le_refl _, by omega, Nat.le_refl _, rfl, rfl, hD'.out, Oth.refl _ _, fun p _ _ => by omega, fun p _ _ => by omega⟩
  case round =>
    obtain ⟨x, y, h1, h2, h3, rfl, rfl, hT, hO, hlo, hhi⟩ := hrel
    have cm : wr.cell? ⟨g, m, none⟩ = some (.int .i64 (M : Int)) := by rw [(hT m (by omega)).1, hM'.out]
    have fm := (hT m (by omega)).2
    have hT' := Lib.hid hT
    have hO' := Lib.hid hO
    clear hT hO
    have hlo' := Lib.hid hlo
    have hhi' := Lib.hid hhi
    clear hlo hhi
    by_cases hxy : x < y
    · obtain ⟨h, hh⟩ : ∃ h : Nat, h = (x + y) / 2 := ⟨_, rfl⟩
      have hx1 : x ≤ h := by omega
      have hx2 : h < y := by omega
      obtain ⟨X, hX⟩ := Int.eq_ofNat_of_zero_le (hr'.out h (by omega)).1
      have hXl : X < xs.length := by have := (hr'.out h (by omega)).2; omega
      have cx : wr.cell? ⟨g, h, none⟩ = some (.int .i64 (X : Int)) := by rw [(hT'.out h (by omega)).1, ← hX]
      have hX' := Lib.hid hX
      have bh : (0 : Int) ≤ (h : Int) := by omega
      have bh2 : (h : Int) < (n : Int) := by omega
      have hh' := Lib.hid hh
      clear hX hh
      go_wp2_with fail
      rw [show (((x : Int) + (y : Int)) / 2) = (h : Int) from by have := hh'.out; omega]
      by_cases hk : kf xs M < kf xs X
      · have hc3 : decide (cmp3 (kf xs M) (kf xs X) < 0) = true := by rw [cmp3_lt]; simpa using hk
        have hk' := Lib.hid hk
        clear hk
        go_quiet ((go_at_call 30; refine Calls.quiet_of (cmpF_any g c xs M X _ (hE'.out.on hO'.out.drewN) hMl hXl hl)))
        go_wp2_with fail
        refine ⟨⟨x, h, h1, hx1, by omega, rfl, rfl, hT'.out.drewN, hO'.out.drewN, hlo'.out, fun p p1 p2 => ?_⟩, by simp [intOf]; omega⟩
        have u := hL'.out.le (by omega) p1 p2
        rw [hX'.out] at u
        have := hk'.out
        rw [hM'.out]
        omega
      · have hc3 : decide (cmp3 (kf xs M) (kf xs X) < 0) = false := by rw [cmp3_lt]; simpa using hk
        have hk' := Lib.hid hk
        clear hk
        go_quiet ((go_at_call 30; refine Calls.quiet_of (cmpF_any g c xs M X _ (hE'.out.on hO'.out.drewN) hMl hXl hl)))
        go_wp2_with fail
        refine ⟨⟨h + 1, y, by omega, by omega, h3, by go_num, rfl, hT'.out.drewN, hO'.out.drewN, fun p p1 p2 => ?_, hhi'.out⟩, by simp [intOf]; omega⟩
        have u := hL'.out.le (q := h) p1 (by omega) (by omega)
        rw [hX'.out] at u
        have := hk'.out
        rw [hM'.out]
        omega
    · have e : x = y := by omega
      subst e
      go_wp2_with fail
      obtain ⟨wo, hwo⟩ : ∃ wo : World, wo = wr := ⟨_, rfl⟩
      subst hwo
      go_loopw [17] (fun k wr => LastRel2 g n m x D w k wr) (fun k _ => (intOf k).toNat)
      case atStart => exact ⟨m, h3, Nat.le_refl _, rfl, hT'.out.congr fun p _ => by unfold insAt; repeat' split; all_goals first | rfl | omega | (congr 1; omega), hO'.out⟩
      case round =>
        obtain ⟨k, k1, k2, rfl, hB, hP⟩ := hrel
        have hB' := Lib.hid hB
        have hP' := Lib.hid hP
        clear hB hP
        by_cases hk : x < k
        · obtain ⟨Y, hY⟩ : ∃ Y, D (k - 1) = Y := ⟨_, rfl⟩
          have c1 : wr.cell? ⟨g, k, none⟩ = some (.int .i64 (M : Int)) := by
            rw [(hB'.out k (by omega)).1, ← hM'.out]; unfold insAt; rw [if_pos rfl]
          have f1 := (hB'.out k (by omega)).2
          have c2 : wr.cell? ⟨g, k - 1, none⟩ = some (.int .i64 Y) := by
            rw [(hB'.out (k - 1) (by omega)).1, ← hY]; unfold insAt; rw [if_neg (by omega), if_neg (by omega)]
          have f2 := (hB'.out (k - 1) (by omega)).2
          have hY' := Lib.hid hY
          have b1 : (0 : Int) ≤ (k : Int) := by omega
          have b2 : (k : Int) < (n : Int) := by omega
          have b3 : (0 : Int) ≤ (k : Int) - 1 := by omega
          have b4 : (k : Int) - 1 < (n : Int) := by omega
          have b5 : ((k : Int) - 1).toNat = k - 1 := by omega
          clear hY
          go_wp2_with fail
          go_region
          go_wp2_with fail
          refine ⟨⟨k - 1, by omega, by omega, by congr 1; omega, ?_, ((hP'.out.setCell _).setCell _).drew⟩, by simp [intOf]; omega⟩
          refine hB'.out.swap (by omega) (by omega) _ _ fun p hp => ?_
          rw [insAt_step (by omega) k2, hM'.out, hY'.out]
        · have e : k = x := by omega
          subst e
          go_wp2_with fail
          go_end0
          have eb := hb'.out
          refine ⟨rfl, _, hB'.out, hP'.out, by rw [eb]; exact insAt_moves h1 h3, ?_⟩
          rw [eb]
          refine insAt_sorted h1 h3 (Nat.lt_succ_self m) hL'.out hs'.out hhi'.out ?_
          by_cases e0 : k = a
          · exact .inl e0
          · right
            have := hlo'.out (k - 1) (by omega) (by omega)
            omega
end Go.Proofs.YtdnemlanahlnpaaDoor
