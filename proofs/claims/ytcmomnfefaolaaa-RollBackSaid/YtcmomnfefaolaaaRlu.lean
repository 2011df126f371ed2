/-
  What every program answers that is one.
-/
import Derived.Test.YtcmomnfefaolaaaRlo
import Derived.Test.YtcmomnfefaolaaaRls
import Derived.Test.YtcmomnfefaolaaaSi
import Derived.Deep.DeepCutAuto
namespace Go.Proofs.Ytcmomnfefaolaaa
open Go.RowKit BigFrame
set_option maxRecDepth 100000
attribute [local go_sem ↓] ldO_of bdO_of
theorem dlist_alike (s : Int) (a b : List Nat) : ∀ (d i : Nat), 128 - i ≤ d → (∀ j, i ≤ j → bz a j = bz b j) → dlist s a b i = []
  | 0, i, h, _ => dlist_end (by omega)
  | d + 1, i, h, he => by
    by_cases hi : 128 ≤ i
    · exact dlist_end hi
    · rw [dlist_skip (by omega) ⟨by omega, fun j hj => by omega, .inr (he i (Nat.le_refl _))⟩]
      exact dlist_alike s a b d (i + 1) (by omega) fun j hj => he j (by omega)
theorem aw_diff : dlist 3 (sec [1, 2]) (sec [1, 5]) 0 = [⟨3, 1, [5]⟩] := by
  have e0 : bz (sec [1, 2]) 0 = bz (sec [1, 5]) 0 := by decide +kernel
  have e1 : bz (sec [1, 2]) 1 ≠ bz (sec [1, 5]) 1 := by decide +kernel
  have e2 : ∀ j, 2 ≤ j → bz (sec [1, 2]) j = bz (sec [1, 5]) j := fun j hj => by
    by_cases h : j < 128
    · have : ∀ k, k < 126 → bz (sec [1, 2]) (2 + k) = bz (sec [1, 5]) (2 + k) := by decide +kernel
      have := this (j - 2) (by omega)
      rwa [show 2 + (j - 2) = j by omega] at this
    · rw [bz_out (by rw [sec_length]; omega), bz_out (by rw [sec_length]; omega)]
  rw [dlist_skip (by omega) ⟨by omega, fun j hj => by omega, .inr e0⟩, dlist_some (n := 0) (by omega) ⟨by omega, fun j hj => by
    obtain rfl : j = 0 := by omega
    exact e1, .inr (e2 2 (Nat.le_refl _))⟩, dlist_alike 3 _ _ 128 _ (by omega) fun j hj => e2 j (by omega)]
  decide +kernel
theorem slb_row {w : World} {g : Nat} {l : List Nat} (h : Row w g l) : SlB w (.slice (some ⟨g, 0, none⟩) l.length l.length) l := ⟨_, _, rfl, Nat.le_refl _, h.bat, fun h => by cases h⟩
theorem slo_one {w : World} {g : Nat} {x : Ob} {v : Value} (h : Vw w 37 g (oc x v)) (hs : SlB w v x.b) : SlO w (.slice (some ⟨g, 0, none⟩) 1 1) [x] :=
  ⟨_, 1, rfl, Nat.le_refl _, .inr ⟨g, 0, rfl, fun k hk => ⟨v, by
    obtain rfl : k = 0 := by simpa using hk
    exact h.obat hs⟩⟩, fun h => by cases h⟩
/-- a row of bytes laid anew, and an object beside it -/
theorem aw_row (w : World) (l : List Nat) : Row (w.alloc (.cells (bv l).toArray 5)) w.heap.size l ∧ Below w.heap.size w (w.alloc (.cells (bv l).toArray 5)) := ⟨row_alloc w l, (Below.refl _ _).alloc (Nat.le_refl _) _⟩
theorem aw_over (w : World) : SlB (((w.alloc (.cells #[.int .u8 1, .int .u8 2] 5)).alloc (.cells #[.int .u8 9] 5)).alloc (.cells #[.int .i64 3, .int .i64 1, .slice (some ⟨w.heap.size + 1, 0, none⟩) 1 1] 37)) (.slice (some ⟨w.heap.size, 0, none⟩) 2 2) [1, 2] ∧
    SlO (((w.alloc (.cells #[.int .u8 1, .int .u8 2] 5)).alloc (.cells #[.int .u8 9] 5)).alloc (.cells #[.int .i64 3, .int .i64 1, .slice (some ⟨w.heap.size + 1, 0, none⟩) 1 1] 37)) (.slice (some ⟨w.heap.size + 1 + 1, 0, none⟩) 1 1) [⟨3, 1, [9]⟩] ∧
    Below w.heap.size w (((w.alloc (.cells #[.int .u8 1, .int .u8 2] 5)).alloc (.cells #[.int .u8 9] 5)).alloc (.cells #[.int .i64 3, .int .i64 1, .slice (some ⟨w.heap.size + 1, 0, none⟩) 1 1] 37)) := by
  obtain ⟨w1, hw1⟩ : ∃ w1, w.alloc (.cells #[.int .u8 1, .int .u8 2] 5) = w1 := ⟨_, rfl⟩
  obtain ⟨h1, k1⟩ := aw_row w [1, 2]
  have e1 : (bv [1, 2]).toArray = #[.int .u8 1, .int .u8 2] := rfl
  rw [e1, hw1] at h1 k1
  have s1 : w1.heap.size = w.heap.size + 1 := by rw [← hw1]; simp
  rw [hw1]
  obtain ⟨w2, hw2⟩ : ∃ w2, w1.alloc (.cells #[.int .u8 9] 5) = w2 := ⟨_, rfl⟩
  obtain ⟨h2, k2⟩ := aw_row w1 [9]
  have e2 : (bv [9]).toArray = #[.int .u8 9] := rfl
  rw [e2, hw2] at h2 k2
  have s2 : w2.heap.size = w.heap.size + 1 + 1 := by rw [← hw2]; simp [s1]
  rw [hw2]
  rw [s1] at h2
  have h3 := Vw.alloc w2 (oc ⟨3, 1, [9]⟩ (.slice (some ⟨w.heap.size + 1, 0, none⟩) 1 1)) 37
  have k3 := (Below.refl w2.heap.size w2).alloc (Nat.le_refl _) (.cells (oc ⟨3, 1, [9]⟩ (.slice (some ⟨w.heap.size + 1, 0, none⟩) 1 1)).toArray 37)
  rw [s2] at h3
  refine ⟨slb_row ((h1.on k2 h1.lt).on k3 (h1.on k2 h1.lt).lt), slo_one h3 (slb_row (h2.on k3 h2.lt)), ?_⟩
  exact (k1.trans (k2.mono (by omega))).trans (k3.mono (by omega))
theorem aw_two (w : World) : SlB ((w.alloc (.cells #[.int .u8 1, .int .u8 2] 5)).alloc (.cells #[.int .u8 1, .int .u8 5] 5)) (.slice (some ⟨w.heap.size, 0, none⟩) 2 2) [1, 2] ∧
    SlB ((w.alloc (.cells #[.int .u8 1, .int .u8 2] 5)).alloc (.cells #[.int .u8 1, .int .u8 5] 5)) (.slice (some ⟨w.heap.size + 1, 0, none⟩) 2 2) [1, 5] ∧
    Below w.heap.size w ((w.alloc (.cells #[.int .u8 1, .int .u8 2] 5)).alloc (.cells #[.int .u8 1, .int .u8 5] 5)) := by
  obtain ⟨w1, hw1⟩ : ∃ w1, w.alloc (.cells #[.int .u8 1, .int .u8 2] 5) = w1 := ⟨_, rfl⟩
  obtain ⟨h1, k1⟩ := aw_row w [1, 2]
  have e1 : (bv [1, 2]).toArray = #[.int .u8 1, .int .u8 2] := rfl
  rw [e1, hw1] at h1 k1
  have s1 : w1.heap.size = w.heap.size + 1 := by rw [← hw1]; simp
  rw [hw1]
  obtain ⟨h2, k2⟩ := aw_row w1 [1, 5]
  have e2 : (bv [1, 5]).toArray = #[.int .u8 1, .int .u8 5] := rfl
  rw [e2] at h2 k2
  rw [s1] at h2
  exact ⟨slb_row (h1.on k2 h1.lt), slb_row h2, k1.trans (k2.mono (by omega))⟩
set_option maxHeartbeats 4000000 in
theorem awake_any (w : World) : Calls Try.prog 7 #[] w (Tells (.bool true) w) := by
  have ko := Lib.hid (lays_length (s := 3) (xs := [⟨3, 1, [9]⟩]) (sec_length [1, 2]))
  have k0 := Lib.hid (show bz (lays 3 (sec [1, 2]) [⟨3, 1, [9]⟩]) 0 = 1 by decide +kernel)
  have k1 := Lib.hid (show bz (lays 3 (sec [1, 2]) [⟨3, 1, [9]⟩]) 1 = 9 by decide +kernel)
  have hms := Lib.hid (show msec [⟨3, 1, [5]⟩] = [3] by decide)
  have hu3 := Lib.hid (show Uniq [3] [3] from ⟨by simp, fun z => Iff.rfl⟩)
  have hb1 := fun (W : World) (s p : Int) a n c => run_bdO W s p a n c []
  have hb0 := fun (W : World) => run_bdO0 W
  have hm1 := Lib.hid (fun (W : World) (v : Value) (h : SlB W v [5]) => (by have k := may_c ⟨3, 1, [5]⟩ v W h (by simp); rw [show mayO ⟨3, 1, [5]⟩ = true by decide] at k; exact k : Calls Try.prog 18 #[ov ⟨3, 1, [5]⟩ v] W (Tells (.bool true) W)))
  have hm0 := Lib.hid (fun (W : World) => (by have k := may_c o0 (.slice none 0 0) W (SlB.nil W) (by simp [o0]); rw [show mayO o0 = false by decide] at k; exact k : Calls Try.prog 18 #[ov o0 (.slice none 0 0)] W (Tells (.bool false) W)))
  unfold ov oc at hb1 hb0 hm1 hm0
  simp only [o0] at hb0 hm0
  have tk : True := trivial
  have ho := Lib.hid (aw_over w)
  have ht := Lib.hid aw_two
  go_enter Try.func7, Try.ntmps7
  go_upto_region 3 with (first
    | (go_at_call 9; refine (over_c _ [1, 2] 3 _ [⟨3, 1, [9]⟩] _ ho.out.1 ho.out.2.1 (by simp) (by simp)).mono ?_; rintro e w1 ⟨g1, rfl, hg1, hr1, hb1⟩; have R1 := Lib.hid hr1; have B1 := Lib.hid (ho.out.2.2.trans (hb1.mono ho.out.2.2.size)); clear hb1 hr1 hg1)
    | (go_at_call 11; have ht1 := Lib.hid (ht.out w1); refine (diff_c 3 _ _ [1, 2] [1, 5] _ (by omega) ht1.out.1 ht1.out.2.1).mono ?_; rw [aw_diff]; rintro e w2 ⟨v2, rfl, ho2, hb2⟩; have hbb := ht1.out.2.2.trans (hb2.mono ht1.out.2.2.size); have O2 := Lib.hid ho2; have R2 := Lib.hid (R1.out.on hbb R1.out.lt); have B2 := Lib.hid (below_two B1.out hbb); clear hb2 ho2 hbb))
  obtain ⟨a2, cap2, hv2, hc2, hx2, -⟩ := O2.out
  subst hv2
  obtain ⟨b, off, u, had, hob⟩ := hx2.at (k := 0) (by simp)
  subst had
  have hob : ObAt w2 b off ⟨3, 1, [5]⟩ u := by simpa [ob] using hob
  obtain ⟨ua, ucap, hu, -⟩ := hob.2
  have hu : u = .slice ua 1 ucap := hu
  subst hu
  have OB := Lib.hid hob
  have q0 : w2.cell? ⟨g1, 0, none⟩ = some (.int .u8 1) := by have := R2.out.cell (k := 0) (by rw [ko.out]; omega); rw [k0.out] at this; exact this
  have q1 : w2.cell? ⟨g1, 1, none⟩ = some (.int .u8 9) := by have := R2.out.cell (k := 1) (by rw [ko.out]; omega); rw [k1.out] at this; exact this
  have q2 : w2.cell? ⟨b, off + 1, none⟩ = some (.int .i64 1) := hob.c1
  have hsec := Lib.hid (sectors_c (.slice (some ⟨b, off, none⟩) 1 cap2) [⟨3, 1, [5]⟩] w2 O2.out (by simp) (by simp))
  rw [hms.out] at hsec
  clear hob hx2 hc2 R2
  have tk3 : True := trivial
  go_wp2_with (first
    | (go_at_call 10; refine hsec.out.mono ?_; rintro e w3 ⟨v3, Z, rfl, ho3, hu3', hb3⟩; obtain rfl : Z = [3] := uniq_same hu3' hu3.out; obtain ⟨a3, cap3, hv3, -, hi3⟩ := ho3.ints; have hv3 : v3 = .slice a3 1 cap3 := hv3; subst hv3; have I3 := Lib.hid hi3; have B3 := Lib.hid (below_two B2.out hb3); have OB3 := Lib.hid (OB.out.on hb3); clear hb3 ho3 hi3)
    | (go_at_call 14; have hba := (Below.refl w3.heap.size w3).alloc (Nat.le_refl _) (.cells #[.int .i64 3] 3); refine (sameI_any _ _ _ _ 1 _ (fun _ => 3) _ (by omega) (I3.out.on' hba (Nat.le_refl _)) (int_new w3 3 3) (fun k hk => by (obtain rfl : k = 0 := (by omega)); rfl)).mono ?_; rintro e w4 ⟨rfl, hb4⟩; have hbb := hba.trans (hb4.mono (hba.size)); have B4 := Lib.hid (below_two B3.out hbb); have OB4 := Lib.hid (OB3.out.on hbb); have hld := run_ldO OB4.out.1; unfold ov oc at hld; clear hb4 hbb hba)
    | (clear tk3; go_at_call 18; refine (hm1.out _ _ OB4.out.2).mono ?_; rintro e w5 ⟨rfl, hb5⟩; have B5 := Lib.hid (below_two B4.out hb5); clear hb5)
    | (go_at_call 18; refine (hm0.out _).mono ?_; rintro e w6 ⟨rfl, hb6⟩; have B6 := Lib.hid (below_two B5.out hb6); clear hb6))
  go_ret
  exact ⟨rfl, B6.out⟩
end Go.Proofs.Ytcmomnfefaolaaa
