/-
  Slots that may be, no two names of which are alike, are laid, and read again; a name that is there is found in its slot: the walk.
-/
import Derived.Test.YtpogaognobgfhaaEp
import Derived.Test.YtpogaognobgfhaaEq
import Derived.BigRegion
import Derived.Deep.RegionHeld3
namespace Go.Proofs.Ytpogaognobgfhaa
open Go.RowKit BigFrame

/-- may both stand in one block? -/
def pairP (L : List Slt) (j k : Nat) : Prop := (sl L k).ino = 0 ∨ (sl L j).ino = 0 ∨ (sl L j).name ≠ (sl L k).name
def goodP (L : List Slt) (n : Nat) : Prop := ∀ k, k < n → mayS (sl L k) = true ∧ ∀ j, j < k → pairP L j k
theorem find_own {L : List Slt} (hL : L.length = 4) {k : Nat} (hk : k < 4) (h0 : (sl L k).ino ≠ 0) : findS L (sl L k).name = (k : Int) ↔ ∀ j, j < k → pairP L j k := by
  constructor
  · intro h j hj
    rcases firstS_is (hasS (sl L k).name) L with ⟨h1, _⟩ | ⟨i, hi, h1, _, h2⟩
    · unfold findS at h; omega
    · unfold findS at h
      obtain rfl : i = k := by omega
      have := h2 j hj
      unfold hasS at this
      unfold pairP
      by_cases hj0 : (sl L j).ino = 0
      · exact .inr (.inl hj0)
      · rw [decide_eq_true (show (sl L j).ino ≠ 0 from hj0), Bool.true_and, decide_eq_false_iff_not] at this
        exact .inr (.inr this)
  · intro h
    refine firstS_at (by omega) (fun j hj => ?_) ?_
    · unfold hasS
      rcases h j hj with h1 | h1 | h1
      · exact absurd h1 h0
      · rw [decide_eq_false (fun e => e h1)]; rfl
      · rw [decide_eq_false h1, Bool.and_false]
    · unfold hasS
      rw [decide_eq_true h0, decide_eq_true rfl]; rfl
theorem okAt_iff {L : List Slt} (hL : L.length = 4) {k : Nat} (hk : k < 4) : okAt L k = true ↔ mayS (sl L k) = true ∧ ∀ j, j < k → pairP L j k := by
  cases hm : mayS (sl L k)
  · rw [okAt_no rfl hm]
    exact ⟨fun h => absurd h (by decide), fun h => absurd h.1 (by decide)⟩
  · by_cases h0 : (sl L k).ino = 0
    · rw [okAt_free rfl hm (decide_eq_false (fun h => h h0))]
      exact ⟨fun _ => ⟨rfl, fun j _ => .inl h0⟩, fun _ => rfl⟩
    · rw [okAt_taken rfl hm (decide_eq_true h0), decide_eq_true_eq, find_own hL hk h0]
      exact ⟨fun h => ⟨rfl, h⟩, fun h => h.2⟩
theorem good_stand {L : List Slt} (hL : L.length = 4) : goodP L 4 ↔ stand4 L = true := by
  rw [stand4_iff]
  exact ⟨fun h k hk => (okAt_iff hL hk).2 (h k hk), fun h k hk => (okAt_iff hL hk).1 (h k hk)⟩
/-- a name that is there is found in its slot -/
theorem stand_find {L : List Slt} (h : stand4 L = true) {k : Nat} (hk : k < 4) (h0 : (sl L k).ino ≠ 0) : findS L (sl L k).name = (k : Int) := by
  have h1 := stand4_iff.1 h k hk
  rw [okAt_taken rfl (okAt_may h1) (decide_eq_true h0), decide_eq_true_eq] at h1
  exact h1

def KpAt (L : List Slt) (B : Nat) (w wr : World) : Prop := Vw wr 24 B (fc L) ∧ Below w.heap.size w wr
theorem KpAt.on {L : List Slt} {B : Nat} {w wr wx : World} (h : KpAt L B w wr) (hb : Below wr.heap.size wr wx) : KpAt L B w wx := ⟨h.1.on' hb, below_two h.2 hb⟩
def OuRel (L : List Slt) (B : Nat) (w : World) (v i : Value) (wr : World) : Prop := ∃ k : Nat, k ≤ 4 ∧ i = .int .i64 k ∧ ∃ b : Bool, v = .bool b ∧ BoolIs b (goodP L k) ∧ KpAt L B w wr
def InP (L : List Slt) (k j : Nat) : Prop := goodP L k ∧ mayS (sl L k) = true ∧ ∀ i, i < j → pairP L i k
def InRel (L : List Slt) (k B : Nat) (w : World) (v i : Value) (wr : World) : Prop := ∃ j : Nat, j ≤ k ∧ i = .int .i64 j ∧ ∃ b : Bool, v = .bool b ∧ BoolIs b (InP L k j) ∧ KpAt L B w wr
theorem InP.all {L : List Slt} {k : Nat} : InP L k k ↔ goodP L (k + 1) := by
  constructor
  · rintro ⟨h1, h2, h3⟩ i hi
    by_cases e : i = k
    · subst e; exact ⟨h2, h3⟩
    · exact h1 i (by omega)
  · exact fun h => ⟨fun i hi => h i (by omega), (h k (by omega)).1, (h k (by omega)).2⟩
theorem InP.zero {L : List Slt} {k : Nat} : InP L k 0 ↔ goodP L k ∧ mayS (sl L k) = true := ⟨fun h => ⟨h.1, h.2.1⟩, fun h => ⟨h.1, h.2, fun i hi => by omega⟩⟩
theorem InP.succ {L : List Slt} {k j : Nat} : InP L k (j + 1) ↔ InP L k j ∧ pairP L j k := by
  constructor
  · rintro ⟨h1, h2, h3⟩
    exact ⟨⟨h1, h2, fun i hi => h3 i (by omega)⟩, h3 j (by omega)⟩
  · rintro ⟨⟨h1, h2, h3⟩, h4⟩
    refine ⟨h1, h2, fun i hi => ?_⟩
    by_cases e : i = j
    · subst e; exact h4
    · exact h3 i (by omega)

attribute [local go_sem ↓] ldL_of ldLs_of stL_of stLs_of eqLs_of
theorem dirBack_long (L : List Slt) (w : World) (hL : L.length = 4) (hg : bigS L = true) : Calls Try.prog 4 #[fv L] w (Tells (.bool true) w) := by
  have hV := Lib.hid (Vw.alloc w (fc L) 24)
  have hb0 := Lib.hid ((Below.refl w.heap.size w).alloc (Nat.le_refl _) (.cells (fc L).toArray 24))
  have hld := run_ldLs hV.out.whole hL
  have hG := Lib.hid (fun w => great_is L true w hL hg)
  unfold fv at hld hG ⊢
  clear hL hg
  go_enter Try.func4, Try.ntmps4
  go_wp2_with (first
    | (go_at_call 7; refine (hG.out _).mono ?_; rintro e w1 ⟨rfl, hb⟩; have B1 := Lib.hid (below_two hb0.out hb); clear hb)
    | (go_at_call 8; refine (dirAwake_any _).mono ?_; rintro e w2 ⟨rfl, hb⟩; have B2 := Lib.hid (below_two B1.out hb); clear hb))
  go_ret
  exact ⟨rfl, B2.out⟩

set_option maxRecDepth 100000 in
set_option maxHeartbeats 4000000 in
theorem dirBack_main (L : List Slt) (w : World) (hL : L.length = 4) (hg : bigS L = false) : Calls Try.prog 4 #[fv L] w (Tells (.bool true) w) := by
  have hL' := Lib.hid hL
  have hV := Lib.hid (Vw.alloc w (fc L) 24)
  have hb0 := Lib.hid ((Below.refl w.heap.size w).alloc (Nat.le_refl _) (.cells (fc L).toArray 24))
  have hld := run_ldLs hV.out.whole hL
  have hG := Lib.hid (fun w => great_is L false w hL hg)
  unfold fv at hld hG ⊢
  clear hL hg
  go_enter Try.func4, Try.ntmps4
  go_wp2_with (go_at_call 7; refine (hG.out _).mono ?_; rintro e w1 ⟨rfl, hb⟩; have K1 := Lib.hid (show KpAt L w.heap.size w w1 from ⟨hV.out.on' hb, below_two hb0.out hb⟩); clear hb)
  clear hld
  go_loopw [3, 4] (fun v i wr => OuRel L w.heap.size w v i wr) (fun _ i _ => 4 - (intOf i).toNat)
  case atStart => exact ⟨0, by omega, rfl, true, rfl, ⟨fun _ k hk => by omega, fun _ => rfl⟩, K1.out⟩
  case round =>
    obtain ⟨k, hk, rfl, b, rfl, hb, hK⟩ := hrel
    have hB := Lib.hid hb
    have K := Lib.hid hK
    clear hb hK
    by_cases hlt : k < 4
    · have hc := fc_cells (L := L) (k := k) (by rw [hL'.out]; exact hlt)
      have hld := run_ldL (show wr.rangeAt w.heap.size (k * 3) (sc (sl L k)) by rw [← fc_at (by rw [hL'.out]; exact hlt)]; exact K.out.1.range (k * 3) 3)
      obtain ⟨s, hs⟩ : ∃ s, sl L k = s := ⟨_, rfl⟩
      rw [hs] at hld hc
      unfold sv at hld
      have hs' := Lib.hid hs
      have hc' := Lib.hid hc
      clear hs hc
      have k0 : (0 : Int) ≤ (k : Int) := by omega
      have k4 : (k : Int) < 4 := by omega
      go_upto_region 7 with fail
      go_cut [3] (fun v wx => (∃ b, v = .bool b ∧ BoolIs b (InP L k 0)) ∧ KpAt L w.heap.size w wx)
      case first =>
        cases b
        · have hend := Lib.hid (show BoolIs false (InP L k 0) from ⟨fun h => absurd h (by decide), fun h => hB.out.2 h.1⟩)
          go_wp2_with fail
          go_meet
          exact ⟨⟨_, rfl, hend.out⟩, K.out⟩
        · cases hm0 : mayS s
          all_goals
            have hm := Lib.hid hm0
            have hend := Lib.hid (show BoolIs _ (InP L k 0) from ⟨fun h => InP.zero.2 ⟨hB.out.1 rfl, by rw [hs'.out]; exact h⟩, fun h => by rw [← hs'.out]; exact h.2.1⟩)
            rw [hm0] at hend
            clear hm0
            go_wp2_with (go_at_call 17; refine (slotMay_is s _ _ hm.out).mono ?_; rintro e w2 ⟨rfl, hb2⟩; have K2 := Lib.hid (K.out.on hb2); clear hb2)
            go_meet
            exact ⟨⟨_, rfl, hend.out⟩, K2.out⟩
      case rest =>
        obtain ⟨⟨b1, rfl, hb1⟩, hK1⟩ := hcut
        have hB1 := Lib.hid hb1
        have K1 := Lib.hid hK1
        clear hb1 hK1 hld
        go_wp2_with fail
        go_loopw [3, 5] (fun v i wr => InRel L k w.heap.size w v i wr) (fun _ i _ => k - (intOf i).toNat)
        case atStart => exact ⟨0, by omega, rfl, b1, rfl, hB1.out, K1.out⟩
        case round =>
          obtain ⟨j, hj, rfl, b2, rfl, hb2, hK2⟩ := hrel
          have hB2 := Lib.hid hb2
          have K2 := Lib.hid hK2
          clear hb2 hK2
          by_cases hjk : j < k
          · have hcj := fc_cells (L := L) (k := j) (by rw [hL'.out]; omega)
            obtain ⟨u, hu⟩ : ∃ u, sl L j = u := ⟨_, rfl⟩
            rw [hu] at hcj
            have hu' := Lib.hid hu
            clear hu
            have j0 : (0 : Int) ≤ (j : Int) := by omega
            have j4 : (j : Int) < 4 := by omega
            have d0 := K2.out.1.cell hcj.1
            have d2 := K2.out.1.cell hcj.2.2
            have c0 := K2.out.1.cell hc'.out.1
            have c2 := K2.out.1.cell hc'.out.2.2
            clear hcj
            cases b2
            · have hend := Lib.hid (show BoolIs false (InP L k (j + 1)) from ⟨fun h => absurd h (by decide), fun h => hB2.out.2 (InP.succ.1 h).1⟩)
              go_wp2_with fail
              go_region
              go_wp2_with fail
              exact ⟨⟨j + 1, by omega, by go_num, _, rfl, hend.out, K2.out.on ((Below.refl _ _).drew)⟩, by simp [intOf]; omega⟩
            · by_cases s0' : s.ino = 0
              · have t0 : (s.ino == 0) = true := by rw [s0']; rfl
                have hend := Lib.hid (show BoolIs true (InP L k (j + 1)) from ⟨fun h => InP.succ.2 ⟨hB2.out.1 h, .inl (by rw [hs'.out]; exact s0')⟩, fun _ => rfl⟩)
                clear s0'
                go_wp2_with fail
                go_region
                go_wp2_with fail
                exact ⟨⟨j + 1, by omega, by go_num, _, rfl, hend.out, K2.out.on ((Below.refl _ _).drew)⟩, by simp [intOf]; omega⟩
              · have t0 : (s.ino == 0) = false := by rw [beq_eq_false_iff_ne]; exact s0'
                by_cases u0 : u.ino = 0
                · have t1 : (u.ino == 0) = true := by rw [u0]; rfl
                  have hend := Lib.hid (show BoolIs true (InP L k (j + 1)) from ⟨fun h => InP.succ.2 ⟨hB2.out.1 h, .inr (.inl (by rw [hu'.out]; exact u0))⟩, fun _ => rfl⟩)
                  clear s0' u0
                  go_wp2_with fail
                  go_region
                  go_wp2_with fail
                  exact ⟨⟨j + 1, by omega, by go_num, _, rfl, hend.out, K2.out.on ((Below.refl _ _).drew)⟩, by simp [intOf]; omega⟩
                · have t1 : (u.ino == 0) = false := by rw [beq_eq_false_iff_ne]; exact u0
                  have t2 := toList_nb u.name s.name
                  by_cases hn : u.name = s.name
                  · rw [decide_eq_true hn] at t2
                    have hend := Lib.hid (show BoolIs false (InP L k (j + 1)) from ⟨fun h => absurd h (by decide), fun h => by
                      rcases (InP.succ.1 h).2 with h1 | h1 | h1
                      · rw [hs'.out] at h1; exact absurd h1 s0'
                      · rw [hu'.out] at h1; exact absurd h1 u0
                      · rw [hs'.out, hu'.out] at h1; exact absurd hn h1⟩)
                    clear s0' u0 hn
                    go_wp2_with fail
                    go_region
                    go_wp2_with fail
                    exact ⟨⟨j + 1, by omega, by go_num, _, rfl, hend.out, K2.out.on ((Below.refl _ _).drew)⟩, by simp [intOf]; omega⟩
                  · rw [decide_eq_false hn] at t2
                    have hend := Lib.hid (show BoolIs true (InP L k (j + 1)) from ⟨fun h => InP.succ.2 ⟨hB2.out.1 h, .inr (.inr (by rw [hs'.out, hu'.out]; exact hn))⟩, fun _ => rfl⟩)
                    clear s0' u0 hn
                    go_wp2_with fail
                    go_region
                    go_wp2_with fail
                    exact ⟨⟨j + 1, by omega, by go_num, _, rfl, hend.out, K2.out.on ((Below.refl _ _).drew)⟩, by simp [intOf]; omega⟩
          · obtain rfl : j = k := by omega
            have hend := Lib.hid (show BoolIs b2 (goodP L (j + 1)) from ⟨fun h => InP.all.1 (hB2.out.1 h), fun h => hB2.out.2 (InP.all.2 h)⟩)
            go_wp2_with fail
            exact ⟨⟨j + 1, by omega, by go_num, b2, rfl, hend.out, K2.out⟩, by simp [intOf]; omega⟩
    · obtain rfl : k = 4 := by omega
      have hbs := (good_stand hL'.out).symm.trans hB.out.symm
      have hld := run_ldLs K.out.1.whole hL'.out
      unfold fv at hld
      cases b
      · have hst : stand4 L = false := by
          cases h : stand4 L
          · rfl
          · exact absurd (hbs.1 h) (by decide)
        have hQ := Lib.hid (fun w => dirLay_no L w hL'.out hst)
        unfold fv at hQ
        clear hst hbs
        go_wp2_with (first
          | (go_at_call 10; refine (hQ.out _).mono ?_; unfold noDir; rintro e w2 ⟨rfl, hb2⟩; have K2 := Lib.hid (K.out.on hb2); clear hb2)
          | (go_at_call 8; refine (dirAwake_any _).mono ?_; rintro e w3 ⟨rfl, hb3⟩; have B3 := Lib.hid (below_two K2.out.2 hb3); clear hb3))
        go_ret
        exact ⟨rfl, B3.out⟩
      · have hst0 : stand4 L = true := hbs.2 rfl
        have hst := Lib.hid hst0
        have hQ := Lib.hid (fun w => dirLay_ok L w hL'.out hst0)
        unfold fv at hQ
        have hsl := Lib.hid (secD_length (standP_may (stand4_iff.1 hst0)))
        have hso := Lib.hid (secD_octs (standP_may (stand4_iff.1 hst0)))
        have hrd := Lib.hid (readDV_sec hL'.out hst0)
        have heq := fun w => run_eqLs L L w hL'.out hL'.out
        rw [show decide (L = L) = true from decide_eq_true rfl] at heq
        have hgd := Try.eqGuardLs
        unfold fv at heq
        clear hst0 hbs
        have tk0 : True := trivial
        go_wp2_with (first
          | (go_at_call 10; refine (hQ.out _).mono ?_; rintro e w2 ⟨g1, rfl, hg1, hr1, hb2⟩; have K2 := Lib.hid (K.out.on hb2); have R2 := Lib.hid (show Row w2 g1 (secD L) from hr1); clear hb2 hr1)
          | (go_at_call 12; refine (dirRead_any _ _ 128 (secD L) _ hsl.out hso.out (by omega) R2.out.bat).mono ?_; rw [hrd.out]; unfold fv; rintro e w3 ⟨rfl, hb3⟩; have K3 := Lib.hid (K2.out.on hb3); clear hb3)
          | (clear tk0; refine wpList_alloc_slots rfl rfl ?_; intro G w4 hv4 hG4 hb4; have hst4 := run_stLs (w := w4) hL'.out (hv4.out.there (o := 0) (n := 12) (by rw [fc_z4]; omega)); have V4 := Lib.hid (hv4.out.over (m := fc L) (by rw [fc_length, hL'.out, fc_z4])); have K4 := Lib.hid (K3.out.on ((Below.refl _ _).trans (below_setCells hb4 hG4 0 (fc L)))); unfold fv at hst4; clear hb4))
        go_loopw [10] (fun i wr => ∃ k : Nat, k ≤ 4 ∧ i = .int .i64 k ∧ KpAt L w.heap.size w wr ∧ Vw wr 24 G (fc L)) (fun i _ => 4 - (intOf i).toNat)
        case atStart => exact ⟨0, by omega, rfl, K4.out, V4.out⟩
        case round =>
          obtain ⟨k, hk, rfl, hK, hV⟩ := hrel
          have K5 := Lib.hid hK
          have V5 := Lib.hid hV
          clear hK hV
          by_cases hlt : k < 4
          · have hc := fc_cells (L := L) (k := k) (by rw [hL'.out]; exact hlt)
            have hfi := Lib.hid (fun h0 => stand_find (L := L) hst.out (k := k) hlt h0)
            obtain ⟨s, hs⟩ : ∃ s, sl L k = s := ⟨_, rfl⟩
            rw [hs] at hc hfi
            have hs' := Lib.hid hs
            have hc' := Lib.hid hc
            clear hs hc
            have k0 : (0 : Int) ≤ (k : Int) := by omega
            have k4 : (k : Int) < 4 := by omega
            by_cases h0 : s.ino = 0
            · have t0 : (s.ino != 0) = false := by rw [h0]; rfl
              have c0 := K5.out.1.cell hc'.out.1
              clear h0
              go_wp2_with fail
              go_region
              go_wp2_with fail
              exact ⟨⟨k + 1, by omega, by go_num, K5.out.on ((Below.refl _ _).drew), V5.out.drew1⟩, by simp [intOf]; omega⟩
            · have t0 : (s.ino != 0) = true := by rw [bne_iff_ne]; exact h0
              have hz := Lib.hid (hfi.out h0)
              have t1 : (((k : Nat) : Int) != (k : Int)) = false := by simp
              have hF := Lib.hid (fun w => dirFind_is L s.name (k : Int) w hL'.out hz.out)
              have hS := Lib.hid (fun (w' : World) (h : Vw w' 24 w.heap.size (fc L)) => (show w'.cell? ⟨w.heap.size, k * 3, none⟩ = some (.int .i64 s.ino) ∧ w'.cell? ⟨w.heap.size, k * 3 + 2, none⟩ = some (.string s.name) ∧ (ldA 24 (.pointer (some ⟨w.heap.size, 0, none⟩))).run Try.prog w' = .ok (.agg (fc L).toArray) w' from ⟨h.cell hc'.out.1, h.cell hc'.out.2.2, run_ldLs h.whole hL'.out⟩))
              unfold fv at hF
              obtain ⟨e0, e1, e2⟩ := hS.out wr.drew K5.out.1.drew1
              clear h0 hld
              go_wp2_with fail
              go_region_held3 (fun w' => w'.cell? ⟨w.heap.size, k * 3, none⟩ = some (.int .i64 s.ino) ∧ w'.cell? ⟨w.heap.size, k * 3 + 2, none⟩ = some (.string s.name) ∧ (ldA 24 (.pointer (some ⟨w.heap.size, 0, none⟩))).run Try.prog w' = .ok (.agg (fc L).toArray) w') (first | exact ⟨e0, e1, e2⟩ | exact ⟨f0, f1, f2⟩) (first
                | (go_at_call 19; refine (hF.out _).mono ?_; rintro e w6 ⟨rfl, hb6⟩; have K6 := Lib.hid (K5.out.on ((Below.refl _ _).drew.trans hb6)); have V6 := Lib.hid (V5.out.drew1.on' hb6); obtain ⟨f0, f1, f2⟩ := hS.out _ K6.out.1; clear hb6))
              go_wp2_with fail
              exact ⟨⟨k + 1, by omega, by go_num, K6.out, V6.out⟩, by simp [intOf]; omega⟩
          · have hld5 := run_ldLs V5.out.whole hL'.out
            have hld6 := run_ldLs K5.out.1.whole hL'.out
            unfold fv at hld5 hld6
            go_wp2_with (go_at_call 8; refine (dirAwake_any _).mono ?_; rintro e w7 ⟨rfl, hb7⟩; have B7 := Lib.hid (below_two K5.out.2 hb7); clear hb7)
            go_ret
            exact ⟨rfl, B7.out⟩
theorem dirBack_any (L : List Slt) (w : World) (hL : L.length = 4) : Calls Try.prog 4 #[fv L] w (Tells (.bool true) w) := by
  cases h : bigS L
  · exact dirBack_main L w hL h
  · exact dirBack_long L w hL h
end Go.Proofs.Ytpogaognobgfhaa
