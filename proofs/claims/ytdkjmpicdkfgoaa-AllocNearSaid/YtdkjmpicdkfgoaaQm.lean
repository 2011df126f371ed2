/-
  While a group has as much that is free as another one, what is near goes there.
-/
import Derived.Test.YtdkjmpicdkfgoaaQl
import Derived.Test.YtdkjmpicdkfgoaaLo
import Derived.Deep.LoopGhost

namespace Go.Proofs.Ytdkjmpicdkfgoaa
open Go.RowKit BigFrame Fl

theorem BoxAt.turnF {F : List Nat} {w w' : World} {a : Nat} {g i b : Int} (h : BoxAt w a g i b) (hT : TurnF F w w') (hn : a ∉ F) : BoxAt w' a g i b := by
  obtain ⟨c0, c1, c2, hl⟩ := h
  have e := hT.block a hl hn
  exact ⟨by rw [World.cell?_of_block (w := w) (w' := w') (a := ⟨a, 0, none⟩) e]; exact c0, by rw [World.cell?_of_block (w := w) (w' := w') (a := ⟨a, 1, none⟩) e]; exact c1, by rw [World.cell?_of_block (w := w) (w' := w') (a := ⟨a, 2, none⟩) e]; exact c2, Nat.lt_of_lt_of_le hl hT.size⟩
/-- how many are there, if just the first i are -/
theorem count_first {l : List Nat} {i : Nat} : ∀ {n : Nat}, (∀ j, j < n → hasN l j = decide (j < i)) → countN l n = min i n
  | 0, _ => by simp [countN, allN]
  | n + 1, h => by
    rw [countN_succ l n (decide (n < i)) (h n (by omega)), count_first fun j hj => h j (by omega)]
    by_cases e : n < i
    · rw [decide_eq_true e, if_pos rfl]; omega
    · rw [decide_eq_false e, if_neg (by simp)]; omega
theorem count_zs (m n : Nat) : countN (zs m) n = 0 := by
  have h := count_first (l := zs m) (i := 0) (n := n) fun j _ => by rw [hasN_zs]; exact (decide_eq_false (by omega)).symm
  rw [h]; omega
/-- i blocks of group n are taken, and nothing else -/
structure OnlyIn (n i : Nat) (Y : Nat → List Nat) : Prop where
  off : ∀ c, c ≠ 23 + 2 * n → Y c = X0 8 16 c
  len : (Y (23 + 2 * n)).length = 2
  has : ∀ j, hasN (Y (23 + 2 * n)) j = decide (j < i)
theorem OnlyIn.start (n : Nat) : OnlyIn n 0 (X0 8 16) :=
  ⟨fun _ _ => rfl, by unfold X0; rw [zs_length, show wid 8 16 (23 + 2 * n) = 16 from if_neg (by omega)], fun j => by unfold X0; rw [hasN_zs]; exact (decide_eq_false (by omega)).symm⟩
theorem OnlyIn.next {n i : Nat} {Y : Nat → List Nat} (h : OnlyIn n i Y) (hi : i < 16) : OnlyIn n (i + 1) (markX Y (23 + 2 * n) i) ∧ markCode Y (23 + 2 * n) i = 0 := by
  have h0 : hasN (Y (23 + 2 * n)) i = false := by rw [h.has]; exact decide_eq_false (by omega)
  have e : ¬ hasN (Y (23 + 2 * n)) i = true := by rw [h0]; decide
  unfold markX markCode
  rw [if_neg e, if_neg e]
  refine ⟨⟨fun c hc => by rw [updX_off _ _ hc]; exact h.off c hc, by rw [updX_at, putN_length]; exact h.len, fun j => ?_⟩, rfl⟩
  rw [updX_at, hasN_put (by rw [h.len]; omega), h.has]
  by_cases e2 : j = i
  · rw [if_pos e2]; exact (decide_eq_true (by omega)).symm
  · rw [if_neg e2]
    rw [decide_eq_decide]; omega
theorem OnlyIn.free {n i k : Nat} {Y : Nat → List Nat} (h : OnlyIn n i Y) (hi : i ≤ 16) : freeN Y 21 16 k = if k = n then 16 - i else 16 := by
  unfold freeN
  by_cases e : k = n
  · subst e
    rw [if_pos rfl, count_first (i := i) fun j _ => h.has j]
    congr 1; omega
  · rw [if_neg e, h.off _ (by omega)]
    unfold X0
    rw [count_zs]
theorem OnlyIn.inodes {n i k : Nat} {Y : Nat → List Nat} (h : OnlyIn n i Y) (hk : k < 8) : freeN Y 3 8 k = 8 := by
  unfold freeN
  rw [h.off _ (by omega)]
  unfold X0
  rw [count_zs]
/-- what a group is worth, by the floats of whole numbers -/
def kZ (f e : Nat) (near : Bool) : Int :=
  if f = 0 then kN else
  match Ieee.double.div (floatOfInt .f64 f) (floatOfInt .f64 e) with
  | none => kN
  | some r => if near then (match Ieee.double.mul r twoF with | none => kN | some q => key q) else key r
theorem kS_Z (f e : Nat) (near : Bool) : kS f e near = kZ f e near := by 
  unfold kS kZ
  rw [floatOfInt_nat, floatOfInt_nat]
  generalize Ieee.double.div (ofN f) (ofN e) = d
  by_cases h : f = 0
  · rw [if_pos h, if_pos h]
  · rw [if_neg h, if_neg h]
    cases d with
    | none => rfl
    | some r =>
      dsimp only
      generalize Ieee.double.mul r twoF = m
      cases m <;> rfl
theorem kZ_near : ∀ t, t < 17 → (if t < 8 then kZ 16 16 false < kZ (16 - t) 16 true else if t = 8 then kZ 16 16 false = kZ (16 - t) 16 true else kZ (16 - t) 16 true < kZ 16 16 false) := by decide +kernel
theorem kZ_full : kN < kZ 16 16 false ∧ kN < kZ 8 8 false ∧ kZ 8 8 false < kZ 8 8 true := by decide +kernel
/-- where a block goes -/
def wantN (n t : Nat) : Nat := if t < 8 ∨ t = 8 ∧ n = 0 then n else if n = 0 then 1 else 0
theorem near_blocks {g n t : Nat} {Y : Nat → List Nat} (h : OnlyIn n t Y) (ht : t < 17) (hg : 2 ≤ g) (hn : n < g) : groupI g 8 16 Y (n : Int) false = (wantN n t : Int) := by
  have hK : ∀ k, kf Y 21 16 (n : Int) k = if k = n then kS (16 - t) 16 true else kS 16 16 false := fun k => by
    unfold kf
    rw [h.free (by omega)]
    by_cases e : k = n
    · rw [if_pos e, if_pos e, decide_eq_true (by omega)]
    · rw [if_neg e, if_neg e, decide_eq_false (by omega)]
  have hz := kZ_near t ht
  have hf := kZ_full.1
  rw [← kS_Z, ← kS_Z] at hz
  rw [← kS_Z] at hf
  show bestI (kf Y 21 16 (n : Int)) g = _
  have hb := fun j hj => bestI_is (K := kf Y 21 16 (n : Int)) (kf_ge _ _ _ _) (k := g) (j := j) hj
  unfold wantN
  generalize kS (16 - t) 16 true = A at *
  generalize kS 16 16 false = B at *
  by_cases h8 : t < 8
  · rw [if_pos h8] at hz
    rw [if_pos (by omega)]
    refine hb n hn (by rw [hK, if_pos rfl]; omega) (fun i hi => ?_) (fun i hi => ?_)
    · rw [hK, hK, if_pos rfl]; split <;> omega
    · rw [hK, hK, if_pos rfl, if_neg (by omega)]; exact hz
  · rw [if_neg h8] at hz
    by_cases h9 : t = 8
    · rw [if_pos h9] at hz
      by_cases h0 : n = 0
      · rw [if_pos (by omega)]
        refine hb n hn (by rw [hK, if_pos rfl]; omega) (fun i hi => ?_) (fun i hi => by omega)
        rw [hK, hK, if_pos rfl]; split <;> omega
      · rw [if_neg (by omega), if_neg h0]
        refine hb 0 (by omega) (by rw [hK, if_neg (by omega)]; omega) (fun i hi => ?_) (fun i hi => by omega)
        rw [hK, hK, if_neg (show ¬ 0 = n by omega)]; split <;> omega
    · rw [if_neg h9] at hz
      rw [if_neg (by omega)]
      by_cases h0 : n = 0
      · rw [if_pos h0]
        refine hb 1 (by omega) (by rw [hK, if_neg (by omega)]; omega) (fun i hi => ?_) (fun i hi => ?_)
        · rw [hK, hK, if_neg (show ¬ 1 = n by omega)]; split <;> omega
        · rw [hK, hK, if_neg (show ¬ 1 = n by omega), if_pos (by omega)]; exact hz
      · rw [if_neg h0]
        refine hb 0 (by omega) (by rw [hK, if_neg (by omega)]; omega) (fun i hi => ?_) (fun i hi => by omega)
        rw [hK, hK, if_neg (show ¬ 0 = n by omega)]; split <;> omega
theorem near_inodes {g n t : Nat} {Y : Nat → List Nat} (h : OnlyIn n t Y) (hg : g ≤ 8) (hn : n < g) : groupI g 8 16 Y (n : Int) true = (n : Int) := by
  have hK : ∀ k, k < g → kf Y 3 8 (n : Int) k = if k = n then kS 8 8 true else kS 8 8 false := fun k hk => by
    unfold kf
    rw [h.inodes (by omega)]
    by_cases e : k = n
    · rw [if_pos e, decide_eq_true (by omega)]
    · rw [if_neg e, decide_eq_false (by omega)]
  have hf := kZ_full
  rw [← kS_Z, ← kS_Z, ← kS_Z] at hf
  show bestI (kf Y 3 8 (n : Int)) g = _
  refine bestI_is (kf_ge _ _ _ _) hn (by rw [hK n hn, if_pos rfl]; omega) (fun i hi => ?_) (fun i hi => ?_)
  · rw [hK i hi, hK n hn, if_pos rfl]; split <;> omega
  · rw [hK i (by omega), hK n hn, if_pos rfl, if_neg (by omega)]; exact hf.2.2

def NearRel (w : World) (a s g n t : Nat) (I : Value) (wr : World) : Prop :=
  ∃ (i : Nat) (Y : Nat → List Nat), i ≤ t ∧ I = .int .i64 (i : Int) ∧ Lv w wr s g 8 16 Y ∧ OnlyIn n i Y ∧ BoxAt wr a g 8 16
set_option maxRecDepth 100000 in
set_option maxHeartbeats 1000000 in
theorem near_any (x0 x1 x2 : Int) (w : World) : Calls Try.prog 5 #[.int .i64 x0, .int .i64 x1, .int .i64 x2] w (Tells (.bool true) w) := by
  go_enter Try.func5, Try.ntmps5
  go_wp2_with fail
  refine (low_c x0 _ 7 _ (by omega) (by omega) (by omega)).mono ?_
  rintro e w1 ⟨k0, hk0, rfl, rfl⟩
  go_wp2_with fail
  obtain ⟨g, hg⟩ : ∃ g : Nat, g = 2 + k0 := ⟨_, rfl⟩
  rw [show (2 + (k0 : Int)) = (g : Int) by omega]
  have hg2 : 2 ≤ g := by omega
  have hg8 : g ≤ 8 := by omega
  have okG := Lib.hid (show Geom (g : Int) 8 16 g 8 16 from ⟨rfl, rfl, rfl, by constructor <;> omega⟩)
  have bx := boxAt_alloc w (g : Int) 8 16 23
  obtain ⟨a, ha⟩ : ∃ a, w.heap.size = a := ⟨_, rfl⟩
  have hb0 := (Below.refl w.heap.size w).alloc (Nat.le_refl _) (.cells #[.int .i64 (g : Int), .int .i64 8, .int .i64 16] 23)
  obtain ⟨wa', hwa⟩ : ∃ wa', w.alloc (.cells #[.int .i64 (g : Int), .int .i64 8, .int .i64 16] 23) = wa' := ⟨_, rfl⟩
  rw [hwa] at bx hb0 ⊢
  rw [ha] at bx ⊢
  obtain ⟨c0, c1, c2, hal⟩ := bx
  have bx' := Lib.hid (show BoxAt wa' a (g : Int) 8 16 from ⟨c0, c1, c2, hal⟩)
  have hb0' := Lib.hid hb0
  have hlow : a ≤ w.heap.size := by omega
  clear hg hk0 hwa hb0 ha
  refine (low_c x1 _ g _ rfl (by omega) (by omega)).mono ?_
  rintro e w1 ⟨n, hn, rfl, rfl⟩
  go_wp2_with fail
  refine (low_c x2 _ 17 _ (by omega) (by omega) (by omega)).mono ?_
  rintro e w1 ⟨t, ht, rfl, rfl⟩
  go_wp2_with fail
  refine (new_ok _ _ _ g 8 16 _ okG.out).mono ?_
  rintro e w1 ⟨s, rfl, hs, hS, hb⟩
  have L1 := Lib.hid (show Lv w w1 s g 8 16 (X0 8 16) from ⟨hS, Nat.le_trans hb0'.out.size hs, hb0'.out.trans (hb.mono hb0'.out.size)⟩)
  have bx1 := Lib.hid (box_on hb bx'.out)
  have has : a ≠ s := by have := bx'.out.2.2.2; omega
  clear hs hS hb c0 c1 c2 hal bx' hb0'
  go_wp2_with fail
  go_loopw [9] (fun I wr => NearRel w a s g n t I wr) (fun I _ => t - (intOf I).toNat)
  case atStart => exact ⟨0, _, by omega, rfl, L1.out, OnlyIn.start n, bx1.out⟩
  case round =>
    obtain ⟨i, Y, hi, rfl, hL, hY, hB⟩ := hrel
    clear L1 bx1
    have L2 := Lib.hid hL
    have Y2 := Lib.hid hY
    have B2 := Lib.hid hB
    obtain ⟨c0, c1, c2, hal⟩ := hB
    clear hL hY
    have hn8 : n < 8 := by omega
    have ok2 := L2.out.sp.ok
    have hsp := show spanN 8 16 = 19 from rfl
    obtain ⟨fs, hfs⟩ : ∃ fs, firstN 8 16 n = fs := ⟨_, rfl⟩
    have hfs' := Lib.hid (show ((fs : Nat) : Int) = ((firstN 8 16 n : Nat) : Int) by rw [hfs])
    have hfb : fs ≤ 1000 := by rw [← hfs]; unfold firstN; rw [hsp]; omega
    have hpos := Lib.hid (show ∀ j : Nat, ((fs : Nat) : Int) + (j : Int) = ((posN 8 16 21 n j : Nat) : Int) from fun j => by rw [← hfs]; unfold posN firstN; rw [if_neg (by decide)]; omega)
    clear ok2 hsp hfs
    by_cases hlt : i < t
    · have lt1 : (i : Int) < (t : Int) := by omega
      obtain ⟨hnx, hcode⟩ := Y2.out.next (show i < 16 by omega)
      have Y3 := Lib.hid hnx
      have hc' := Lib.hid hcode
      clear hnx hcode
      go_wp2_with (first
        | (go_at_call 29; refine (geoFirst_c n (n : Int) (fs : Int) _ okG.out rfl hn hfs'.out).mono ?_; rintro e w2 ⟨rfl, hb⟩; have L3 := Lib.hid (L2.out.below hb); have B3 := Lib.hid (box_on hb B2.out); clear hb)
        | (go_at_call 28; refine (mark_in (o := 21) (e := 16) n i 0 ((fs : Int) + (i : Int)) L3.out.sp (.inr ⟨rfl, rfl⟩) hn (by omega) (.inr ⟨rfl, rfl, hpos.out i⟩)).mono ?_; rw [show markCode Y (21 + 2 + 2 * n) i = 0 from hc'.out]; rintro e w3 ⟨rfl, hS, hT⟩; have L4 := Lib.hid (L3.out.turn hS hT); have B4 := Lib.hid (B3.out.turnF hT (by simpa using has)); clear hS hT))
      exact ⟨⟨i + 1, _, by omega, by go_num, L4.out, Y3.out, B4.out⟩, by simp [intOf]; omega⟩
    · have lt1 : decide ((i : Int) < (t : Int)) = false := decide_eq_false (by omega)
      have hit : i = t := by omega
      have Y4 : OnlyIn n t Y := by rw [← hit]; exact Y2.out
      have hG := near_blocks Y4 ht hg2 hn
      have hI := Lib.hid (near_inodes Y4 hg8 hn)
      clear Y2 Y4 hit hfs' hpos hfb hi
      have n0 : (0 : Int) ≤ (n : Int) := by omega
      unfold wantN at hG
      by_cases h8 : t < 8
      · rw [if_pos (by omega)] at hG
        have hG' := Lib.hid hG
        have d2 : decide (2 * (16 - (t : Int)) < 16) = false := decide_eq_false (by omega)
        have d3 : (2 * (16 - (t : Int)) == 16) = false := by rw [beq_eq_false_iff_ne]; omega
        clear hG
        by_cases h0 : n = 0
        · have d1 : ((n : Int) == 0) = true := by rw [beq_iff_eq]; omega
          clear h0
          go_wp2_with (first
            | (go_at_call_of 13 (Value.bool false); refine (group_c (n : Int) false (n : Int) L2.out.sp hG'.out).mono ?_; rintro e w2 ⟨rfl, hb⟩; have L3 := Lib.hid (L2.out.below hb); clear hb)
            | (go_at_call_of 13 (Value.bool true); refine (group_c (n : Int) true (n : Int) L3.out.sp hI.out).mono ?_; rintro e w3 ⟨rfl, hb⟩; have L4 := Lib.hid (L3.out.below hb); clear hb)
            | (go_at_call 7; refine (awake_any _).mono ?_; rintro e w4 ⟨rfl, hb⟩; have L5 := Lib.hid (L4.out.below hb); clear hb))
          go_ret
          exact ⟨rfl, L5.out.bl⟩
        · have d1 : ((n : Int) == 0) = false := by rw [beq_eq_false_iff_ne]; omega
          go_wp2_with (first
            | (go_at_call_of 13 (Value.bool false); refine (group_c (n : Int) false (n : Int) L2.out.sp hG'.out).mono ?_; rintro e w2 ⟨rfl, hb⟩; have L3 := Lib.hid (L2.out.below hb); clear hb)
            | (go_at_call_of 13 (Value.bool true); refine (group_c (n : Int) true (n : Int) L3.out.sp hI.out).mono ?_; rintro e w3 ⟨rfl, hb⟩; have L4 := Lib.hid (L3.out.below hb); clear hb)
            | (go_at_call 7; refine (awake_any _).mono ?_; rintro e w4 ⟨rfl, hb⟩; have L5 := Lib.hid (L4.out.below hb); clear hb))
          go_ret
          exact ⟨rfl, L5.out.bl⟩
      · by_cases h9 : t = 8
        · have d2 : decide (2 * (16 - (t : Int)) < 16) = false := decide_eq_false (by omega)
          have d3 : (2 * (16 - (t : Int)) == 16) = true := by rw [beq_iff_eq]; omega
          by_cases h0 : n = 0
          · rw [if_pos (by omega)] at hG
            have hG' := Lib.hid hG
            have d1 : ((n : Int) == 0) = true := by rw [beq_iff_eq]; omega
            have d4 : decide ((1 : Int) < (n : Int)) = false := decide_eq_false (by omega)
            clear hG h9 h0
            go_wp2_with (first
              | (go_at_call_of 13 (Value.bool false); refine (group_c (n : Int) false (n : Int) L2.out.sp hG'.out).mono ?_; rintro e w2 ⟨rfl, hb⟩; have L3 := Lib.hid (L2.out.below hb); clear hb)
              | (go_at_call_of 13 (Value.bool true); refine (group_c (n : Int) true (n : Int) L3.out.sp hI.out).mono ?_; rintro e w3 ⟨rfl, hb⟩; have L4 := Lib.hid (L3.out.below hb); clear hb)
              | (go_at_call 7; refine (awake_any _).mono ?_; rintro e w4 ⟨rfl, hb⟩; have L5 := Lib.hid (L4.out.below hb); clear hb))
            go_ret
            exact ⟨rfl, L5.out.bl⟩
          · rw [if_neg (by omega), if_neg h0] at hG
            have hG' := Lib.hid (show groupI g 8 16 Y (n : Int) false = 0 from hG)
            have d1 : ((n : Int) == 0) = false := by rw [beq_eq_false_iff_ne]; omega
            have d4 : decide ((0 : Int) < (n : Int)) = true := decide_eq_true (by omega)
            clear hG h9
            go_wp2_with (first
              | (go_at_call_of 13 (Value.bool false); refine (group_c (n : Int) false 0 L2.out.sp hG'.out).mono ?_; rintro e w2 ⟨rfl, hb⟩; have L3 := Lib.hid (L2.out.below hb); clear hb)
              | (go_at_call_of 13 (Value.bool true); refine (group_c (n : Int) true (n : Int) L3.out.sp hI.out).mono ?_; rintro e w3 ⟨rfl, hb⟩; have L4 := Lib.hid (L3.out.below hb); clear hb)
              | (go_at_call 7; refine (awake_any _).mono ?_; rintro e w4 ⟨rfl, hb⟩; have L5 := Lib.hid (L4.out.below hb); clear hb))
            go_ret
            exact ⟨rfl, L5.out.bl⟩
        · have d2 : decide (2 * (16 - (t : Int)) < 16) = true := decide_eq_true (by omega)
          by_cases h0 : n = 0
          · rw [if_neg (by omega), if_pos h0] at hG
            have hG' := Lib.hid (show groupI g 8 16 Y (n : Int) false = 1 from hG)
            have d1 : ((n : Int) == 0) = true := by rw [beq_iff_eq]; omega
            clear hG h9 h0
            go_wp2_with (first
              | (go_at_call_of 13 (Value.bool false); refine (group_c (n : Int) false 1 L2.out.sp hG'.out).mono ?_; rintro e w2 ⟨rfl, hb⟩; have L3 := Lib.hid (L2.out.below hb); clear hb)
              | (go_at_call_of 13 (Value.bool true); refine (group_c (n : Int) true (n : Int) L3.out.sp hI.out).mono ?_; rintro e w3 ⟨rfl, hb⟩; have L4 := Lib.hid (L3.out.below hb); clear hb)
              | (go_at_call 7; refine (awake_any _).mono ?_; rintro e w4 ⟨rfl, hb⟩; have L5 := Lib.hid (L4.out.below hb); clear hb))
            go_ret
            exact ⟨rfl, L5.out.bl⟩
          · rw [if_neg (by omega), if_neg h0] at hG
            have hG' := Lib.hid (show groupI g 8 16 Y (n : Int) false = 0 from hG)
            have d1 : ((n : Int) == 0) = false := by rw [beq_eq_false_iff_ne]; omega
            clear hG h9
            go_wp2_with (first
              | (go_at_call_of 13 (Value.bool false); refine (group_c (n : Int) false 0 L2.out.sp hG'.out).mono ?_; rintro e w2 ⟨rfl, hb⟩; have L3 := Lib.hid (L2.out.below hb); clear hb)
              | (go_at_call_of 13 (Value.bool true); refine (group_c (n : Int) true (n : Int) L3.out.sp hI.out).mono ?_; rintro e w3 ⟨rfl, hb⟩; have L4 := Lib.hid (L3.out.below hb); clear hb)
              | (go_at_call 7; refine (awake_any _).mono ?_; rintro e w4 ⟨rfl, hb⟩; have L5 := Lib.hid (L4.out.below hb); clear hb))
            go_ret
            exact ⟨rfl, L5.out.bl⟩
end Go.Proofs.Ytdkjmpicdkfgoaa
