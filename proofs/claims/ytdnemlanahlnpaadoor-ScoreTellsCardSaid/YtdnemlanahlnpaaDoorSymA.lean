/-
  The stable sort of the library: the merge, where one side is a single one.
-/
import Derived.Test.YtdnemlanahlnpaaDoorMerge
namespace Go.Proofs.YtdnemlanahlnpaaDoor
open Go.RowKit Fl

def OneRel (g n a m b : Nat) (xs : List Nat) (D : Nat → Int) (w : World) (i j : Value) (wr : World) : Prop :=
  ∃ x y : Nat, m ≤ x ∧ x ≤ y ∧ y ≤ b ∧ i = .int .i64 x ∧ j = .int .i64 y ∧ At g n D wr ∧ Oth g w wr ∧ (∀ p, m ≤ p → p < x → kf xs (D p) < kf xs (D a)) ∧ ∀ p, y ≤ p → p < b → kf xs (D a) ≤ kf xs (D p)
def OneRel2 (g n a i : Nat) (D : Nat → Int) (w : World) (k : Value) (wr : World) : Prop :=
  ∃ x : Nat, a ≤ x ∧ x ≤ i - 1 ∧ k = .int .i64 x ∧ At g n (shL D a x) wr ∧ Oth g w wr

set_option maxRecDepth 100000 in
set_option maxHeartbeats 2000000 in
theorem symMerge_one (g c n cap a b : Nat) (xs : List Nat) (D : Nat → Int) (w : World) (hn : n ≤ 1000) (hl : xs.length ≤ 1000) (hab : a + 1 < b) (hbn : b ≤ n) (hD : At g n D w) (hE : Env g c xs w) (hr : ∀ p, p < n → 0 ≤ D p ∧ D p < xs.length)
    (hs : Stab (kf xs) D a b) (hR : LS (kf xs) D (a + 1) b) :
    Calls Tryd.prog 41 #[.slice (some ⟨g, 0, none⟩) n cap, .int .i64 a, .int .i64 (a + 1 : Nat), .int .i64 b, .func (.func 30) #[] #[.pointer (some ⟨c, 0, none⟩)]] w (SortPost g n a b xs D w) := by
  have hD' := Lib.hid hD
  have hE' := Lib.hid hE
  have hs' := Lib.hid hs
  have hR' := Lib.hid hR
  have hr' := Lib.hid hr
  obtain ⟨A, hA⟩ := Int.eq_ofNat_of_zero_le (hr a (by omega)).1
  have hAl : A < xs.length := by have := (hr a (by omega)).2; omega
  have hA' := Lib.hid hA
  have one : ((((a + 1 : Nat) : Int) - (a : Int)) == 1) = true := by rw [beq_iff_eq]; omega
  have ba : (0 : Int) ≤ (a : Int) := by omega
  have ba2 : (a : Int) < (n : Int) := by omega
  obtain ⟨m, hm⟩ : ∃ m, m = a + 1 := ⟨_, rfl⟩
  rw [← hm] at one
  rw [← hm]
  have hm' := Lib.hid hm
  have hmb : m < b := by omega
  have hma : a < m := by omega
  clear hD hE hs hR hr hA hm
  go_enter Tryd.func41, Tryd.ntmps41
  go_wp2_with fail
  go_loopw [10, 11, 12] (fun i j _ wr => OneRel g n a m b xs D w i j wr) (fun i j _ _ => (intOf j).toNat - (intOf i).toNat)
  case atStart => exact ⟨m, b, Nat.le_refl _, by omega, Nat.le_refl _, rfl, rfl, hD'.out, Oth.refl _ _, fun p _ _ => by omega, fun p _ _ => by omega⟩
  case round =>
    obtain ⟨x, y, h1, h2, h3, rfl, rfl, hT, hO, hlo, hhi⟩ := hrel
    have ca : wr.cell? ⟨g, a, none⟩ = some (.int .i64 (A : Int)) := by rw [(hT a (by omega)).1, hA'.out]
    have fa := (hT a (by omega)).2
    have hT' := Lib.hid hT
    have hO' := Lib.hid hO
    clear hT hO
    have hlo' := Lib.hid hlo
    have hhi' := Lib.hid hhi
    clear hlo hhi
    by_cases hxy : x < y
    · obtain ⟨h, hh⟩ : ∃ h : Nat, h = (x + y) / 2 := ⟨_, rfl⟩
      have hx1 : x ≤ h := by omega
      have hx2 : h < y := by omega
      obtain ⟨X, hX⟩ := Int.eq_ofNat_of_zero_le (hr'.out h (by omega)).1
      have hXl : X < xs.length := by have := (hr'.out h (by omega)).2; omega
      have cx : wr.cell? ⟨g, h, none⟩ = some (.int .i64 (X : Int)) := by rw [(hT'.out h (by omega)).1, ← hX]
      have hX' := Lib.hid hX
      have bh : (0 : Int) ≤ (h : Int) := by omega
      have bh2 : (h : Int) < (n : Int) := by omega
      have hsl : ∀ p r, m ≤ p → p ≤ r → r < b → kf xs (D p) ≤ kf xs (D r) := fun p r p1 p2 p3 => hR'.out.le (by rw [← hm'.out]; exact p1) p2 p3
      have hsl' := Lib.hid hsl
      have hh' := Lib.hid hh
      clear hX hsl hh
      go_wp2_with fail
      rw [show (((x : Int) + (y : Int)) / 2) = (h : Int) from by have := hh'.out; omega]
      by_cases hk : kf xs X < kf xs A
      · have hc3 : decide (cmp3 (kf xs X) (kf xs A) < 0) = true := by rw [cmp3_lt]; simpa using hk
        have hk' := Lib.hid hk
        clear hk
        go_quiet ((go_at_call 30; refine Calls.quiet_of (cmpF_any g c xs X A _ (hE'.out.on hO'.out.drewN) hXl hAl hl)))
        go_wp2_with fail
        refine ⟨⟨h + 1, y, by omega, by omega, h3, by go_num, rfl, hT'.out.drewN, hO'.out.drewN, fun p p1 p2 => ?_, hhi'.out⟩, by simp [intOf]; omega⟩
        have u := hsl'.out p h p1 (by omega) (by omega)
        rw [hX'.out] at u
        have := hk'.out
        rw [hA'.out]
        omega
      · have hc3 : decide (cmp3 (kf xs X) (kf xs A) < 0) = false := by rw [cmp3_lt]; simpa using hk
        have hk' := Lib.hid hk
        clear hk
        go_quiet ((go_at_call 30; refine Calls.quiet_of (cmpF_any g c xs X A _ (hE'.out.on hO'.out.drewN) hXl hAl hl)))
        go_wp2_with fail
        refine ⟨⟨x, h, h1, hx1, by omega, rfl, rfl, hT'.out.drewN, hO'.out.drewN, hlo'.out, fun p p1 p2 => ?_⟩, by simp [intOf]; omega⟩
        have u := hsl'.out h p (by omega) p1 p2
        rw [hX'.out] at u
        have := hk'.out
        rw [hA'.out]
        omega
    · have e : x = y := by omega
      subst e
      go_wp2_with fail
      obtain ⟨wo, hwo⟩ : ∃ wo : World, wo = wr := ⟨_, rfl⟩
      subst hwo
      go_loopw [13] (fun k wr => OneRel2 g n a x D w k wr) (fun k _ => x - (intOf k).toNat)
      case atStart => exact ⟨a, Nat.le_refl _, by omega, rfl, hT'.out.congr fun p _ => by unfold shL; repeat' split; all_goals first | rfl | omega | (congr 1; omega), hO'.out⟩
      case round =>
        obtain ⟨k, k1, k2, rfl, hB, hP⟩ := hrel
        have hB' := Lib.hid hB
        have hP' := Lib.hid hP
        clear hB hP
        by_cases hk : k < x - 1
        · obtain ⟨Y, hY⟩ : ∃ Y, D (k + 1) = Y := ⟨_, rfl⟩
          have c1 : wr.cell? ⟨g, k, none⟩ = some (.int .i64 (A : Int)) := by
            rw [(hB'.out k (by omega)).1, ← hA'.out]; unfold shL; rw [if_pos rfl]
          have f1 := (hB'.out k (by omega)).2
          have c2 : wr.cell? ⟨g, k + 1, none⟩ = some (.int .i64 Y) := by
            rw [(hB'.out (k + 1) (by omega)).1, ← hY]; unfold shL; rw [if_neg (by omega), if_neg (by omega)]
          have f2 := (hB'.out (k + 1) (by omega)).2
          have hY' := Lib.hid hY
          have b1 : (0 : Int) ≤ (k : Int) := by omega
          have b2 : (k : Int) < (n : Int) := by omega
          have b3 : (0 : Int) ≤ (k : Int) + 1 := by omega
          have b4 : (k : Int) + 1 < (n : Int) := by omega
          have hlt : (k : Int) < (x : Int) - 1 := by omega
          clear hY
          go_wp2_with fail
          go_region
          go_wp2_with fail
          refine ⟨⟨k + 1, by omega, by omega, by go_num, ?_, ((hP'.out.setCell _).setCell _).drew⟩, by simp [intOf]; omega⟩
          refine hB'.out.swap (by omega) (by omega) _ _ fun p hp => ?_
          rw [shL_step k1, hA'.out, hY'.out]
        · have e : k = x - 1 := by omega
          subst e
          have hlt : ¬ (((x - 1 : Nat) : Int) < (x : Int) - 1) := by omega
          go_wp2_with fail
          go_end0
          have ea := hm'.out
          exact ⟨rfl, _, hB'.out, hP'.out, shL_moves (by omega) (by omega), shL_sorted (by omega) h3 hR'.out hs'.out (fun q q1 q2 => hlo'.out q (by omega) q2) hhi'.out⟩
end Go.Proofs.YtdnemlanahlnpaaDoor
