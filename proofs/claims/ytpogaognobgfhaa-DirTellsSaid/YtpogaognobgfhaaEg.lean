/-
  May a slot be? Does an entry stand in it? The first slot of an entry of a name, and the first free one. May these slots stand in one block?
-/
import Derived.Test.YtpogaognobgfhaaEb
import Derived.Test.YtpogaognobgfhaaEc
import Derived.Test.YtpogaognobgfhaaPk
import Derived.Deep.LoopGhost
import Derived.Test.YtpogaognobgfhaaAv
namespace Go.Proofs.Ytpogaognobgfhaa
open Go.RowKit BigFrame

attribute [local go_sem ↓] ldL_of bdL_of eqL_of
theorem taken_is (s : Slt) (r : Bool) (w : World) (hr : decide (s.ino ≠ 0) = r) :
    Calls Try.prog 38 #[sv s] w (Tells (.bool r) w) := by
  have hV := Vw.alloc w (sc s) 23
  have hb := Lib.hid ((Below.refl w.heap.size w).alloc (Nat.le_refl _) (.cells (sc s).toArray 23))
  have c0 := hV.cell (k := 0) rfl
  have t0 : (s.ino != 0) = r := by
    rw [← hr]
    by_cases h : s.ino = 0
    · rw [h]; rfl
    · rw [decide_eq_true h]; exact bne_iff_ne.2 h
  unfold sv
  clear hr hV
  go_enter Try.func38, Try.ntmps38
  go_wp2_with fail
  go_ret
  exact ⟨rfl, hb.out⟩

set_option maxHeartbeats 1000000 in
theorem slotMay_any (s : Slt) (w : World) : Calls Try.prog 17 #[sv s] w (Tells (.bool (mayS s)) w) := by
  have hV := Lib.hid (Vw.alloc w (sc s) 23)
  have hb := Lib.hid ((Below.refl w.heap.size w).alloc (Nat.le_refl _) (.cells (sc s).toArray 23))
  have c0 := hV.out.cell (k := 0) rfl
  have c1 := hV.out.cell (k := 1) rfl
  have c2 := hV.out.cell (k := 2) rfl
  have hld := run_ldL hV.out.whole
  have hbd := run_bd0L
  have heq := fun w => run_eqL s s0 w
  have hgd := Try.eqGuardL
  by_cases h0 : s = s0
  · have hm := Lib.hid (show mayS s = true by unfold mayS; rw [decide_eq_true h0]; rfl)
    rw [decide_eq_true h0] at heq
    unfold sv at hld hbd heq ⊢
    clear h0
    go_enter Try.func17, Try.ntmps17
    go_wp2_with fail
    go_ret
    exact ⟨by rw [hm.out]; rfl, hb.out⟩
  · have hm := Lib.hid (show mayS s = _ by unfold mayS; rw [decide_eq_false h0, Bool.false_or])
    rw [decide_eq_false h0] at heq
    unfold sv at hld hbd heq ⊢
    clear h0
    obtain ⟨i, hi⟩ : ∃ i, s.ino = i := ⟨_, rfl⟩
    obtain ⟨k, hk⟩ : ∃ k, s.kind = k := ⟨_, rfl⟩
    obtain ⟨n, hn⟩ : ∃ n, s.name = n := ⟨_, rfl⟩
    rw [hi, hk, hn] at hm
    rw [hi] at c0
    rw [hk] at c1
    rw [hn] at c2
    clear hi hk hn
    by_cases h1 : 0 < i
    · rw [decide_eq_true h1, Bool.true_and] at hm
      obtain ⟨r2, h2⟩ : ∃ r, fitsN i 2 = r := ⟨_, rfl⟩
      obtain ⟨r3, h3⟩ : ∃ r, decide (1 ≤ k ∧ k ≤ 3) = r := ⟨_, rfl⟩
      obtain ⟨r4, h4⟩ : ∃ r, nameB (nb n) = r := ⟨_, rfl⟩
      rw [h2, h3, h4] at hm
      have k2 := Lib.hid h2
      have k3 := Lib.hid h3
      have k4 := Lib.hid h4
      clear h2 h3 h4
      cases r2
      · go_enter Try.func17, Try.ntmps17
        go_wp2_with (go_at_call 36; refine (fits_is i 2 2 false _ rfl (by omega) k2.out).mono ?_; rintro e w1 ⟨rfl, rfl⟩)
        go_ret
        exact ⟨by rw [hm.out]; rfl, hb.out⟩
      · cases r3
        · go_enter Try.func17, Try.ntmps17
          go_wp2_with (first | (go_at_call 36; refine (fits_is i 2 2 true _ rfl (by omega) k2.out).mono ?_; rintro e w1 ⟨rfl, rfl⟩) | (go_at_call 37; refine (isKind_is k false _ k3.out).mono ?_; rintro e w1 ⟨rfl, rfl⟩))
          go_ret
          exact ⟨by rw [hm.out]; rfl, hb.out⟩
        · go_enter Try.func17, Try.ntmps17
          go_wp2_with (first | (go_at_call 36; refine (fits_is i 2 2 true _ rfl (by omega) k2.out).mono ?_; rintro e w1 ⟨rfl, rfl⟩) | (go_at_call 37; refine (isKind_is k true _ k3.out).mono ?_; rintro e w1 ⟨rfl, rfl⟩) | (go_at_call 15; refine (name_is n r4 _ k4.out).mono ?_; rintro e w1 ⟨rfl, rfl⟩))
          go_ret
          exact ⟨by rw [hm.out]; rfl, hb.out⟩
    · rw [decide_eq_false h1] at hm
      go_enter Try.func17, Try.ntmps17
      go_wp2_with fail
      go_ret
      exact ⟨by rw [hm.out]; rfl, hb.out⟩
theorem slotMay_is (s : Slt) (r : Bool) (w : World) (hr : mayS s = r) : Calls Try.prog 17 #[sv s] w (Tells (.bool r) w) := by
  subst hr; exact slotMay_any s w
end Go.Proofs.Ytpogaognobgfhaa
namespace Go.Proofs.Ytpogaognobgfhaa
open Go.RowKit BigFrame

def FiRel (L : List Slt) (p : Slt → Bool) (w : World) (i : Value) (wr : World) : Prop := ∃ k : Nat, k ≤ 4 ∧ i = .int .i64 k ∧ (∀ j, j < k → p (sl L j) = false) ∧ Below w.heap.size w wr
theorem hasS_no {nm : ByteArray} {s : Slt} (h : decide (s.ino ≠ 0) = false) : hasS nm s = false := by unfold hasS; rw [h]; rfl
theorem hasS_name {nm : ByteArray} {s : Slt} (h : decide (s.ino ≠ 0) = true) : hasS nm s = decide (s.name = nm) := by unfold hasS; rw [h, Bool.true_and]

attribute [local go_sem ↓] ldL_of ldLs_of stL_of ixLs_of
set_option maxHeartbeats 1000000 in
theorem dirFind_any (L : List Slt) (nm : ByteArray) (w : World) (hL : L.length = 4) : Calls Try.prog 19 #[fv L, .string nm] w (Tells (.int .i64 (findS L nm)) w) := by
  have hL' := Lib.hid hL
  have hV := Vw.alloc w (fc L) 24
  have hb0 := Lib.hid ((Below.refl w.heap.size w).alloc (Nat.le_refl _) (.cells (fc L).toArray 24))
  have hld := run_ldLs hV.whole hL
  unfold fv at hld ⊢
  clear hV hL
  go_enter Try.func19, Try.ntmps19
  go_wp2_with fail
  clear hld
  go_loopw [8] (fun i wr => FiRel L (hasS nm) w i wr) (fun i _ => 4 - (intOf i).toNat)
  case atStart => exact ⟨0, by omega, rfl, fun k hk => by omega, hb0.out⟩
  case round =>
    obtain ⟨k, hk, rfl, hno0, hbel⟩ := hrel
    have hno := Lib.hid hno0
    have hB := Lib.hid hbel
    clear hno0 hbel
    by_cases hlt : k < 4
    · have hix := fun w => run_ixLs w L k hlt hL'.out
      obtain ⟨s, hs⟩ : ∃ s, sl L k = s := ⟨_, rfl⟩
      rw [hs] at hix
      have hs' := Lib.hid hs
      clear hs
      unfold fv sv at hix
      cases ht0 : decide (s.ino ≠ 0)
      · have ht := Lib.hid ht0
        have hp := Lib.hid (hasS_no (nm := nm) ht0)
        clear ht0
        go_wp2_with (first
          | (refine wpList_alloc_slot rfl rfl ?_; intro g2 w2 hv2 hg2 hb2; have hst := run_stL (s := s) (hv2.out.there (o := 0) (n := 3) (by rw [sc_length]; omega)); have V2 := Lib.hid (hv2.out.over (m := sc s) rfl); have hld := run_ldL V2.out.whole; have B2 := Lib.hid (below_setCells (below_two hB.out hb2) (Nat.le_trans hB.out.size hg2) 0 (sc s)); unfold sv at hst hld; clear hb2)
          | (go_at_call 38; refine (taken_is s false _ ht.out).mono ?_; rintro e w3 ⟨rfl, hb3⟩; have B3 := Lib.hid (below_two B2.out hb3); clear hb3))
        exact ⟨⟨k + 1, by omega, by go_num, fun j hj => by
          by_cases e : j = k
          · subst e; rw [hs'.out]; exact hp.out
          · exact hno.out j (by omega), B3.out⟩, by simp [intOf]; omega⟩
      · have ht := Lib.hid ht0
        have hp := hasS_name (nm := nm) ht0
        have hq := toList_nb s.name nm
        clear ht0
        cases hr0 : decide (s.name = nm)
        · rw [hr0] at hq hp
          have hp' := Lib.hid hp
          clear hr0 hp
          go_wp2_with (first
            | (refine wpList_alloc_slot rfl rfl ?_; intro g2 w2 hv2 hg2 hb2; have hst := run_stL (s := s) (hv2.out.there (o := 0) (n := 3) (by rw [sc_length]; omega)); have V2 := Lib.hid (hv2.out.over (m := sc s) rfl); have hld := run_ldL V2.out.whole; have B2 := Lib.hid (below_setCells (below_two hB.out hb2) (Nat.le_trans hB.out.size hg2) 0 (sc s)); unfold sv at hst hld; clear hb2)
            | (go_at_call 38; refine (taken_is s true _ ht.out).mono ?_; rintro e w3 ⟨rfl, hb3⟩; have B3 := Lib.hid (below_two B2.out hb3); have c2 := (V2.out.on' hb3).cell (k := 2) rfl; clear hb3))
          exact ⟨⟨k + 1, by omega, by go_num, fun j hj => by
            by_cases e : j = k
            · subst e; rw [hs'.out]; exact hp'.out
            · exact hno.out j (by omega), B3.out⟩, by simp [intOf]; omega⟩
        · rw [hr0] at hq hp
          have hend := Lib.hid (show findS L nm = (k : Int) from firstS_at (by rw [hL'.out]; exact hlt) hno.out (by rw [hs'.out]; exact hp))
          clear hr0 hp
          go_wp2_with (first
            | (refine wpList_alloc_slot rfl rfl ?_; intro g2 w2 hv2 hg2 hb2; have hst := run_stL (s := s) (hv2.out.there (o := 0) (n := 3) (by rw [sc_length]; omega)); have V2 := Lib.hid (hv2.out.over (m := sc s) rfl); have hld := run_ldL V2.out.whole; have B2 := Lib.hid (below_setCells (below_two hB.out hb2) (Nat.le_trans hB.out.size hg2) 0 (sc s)); unfold sv at hst hld; clear hb2)
            | (go_at_call 38; refine (taken_is s true _ ht.out).mono ?_; rintro e w3 ⟨rfl, hb3⟩; have B3 := Lib.hid (below_two B2.out hb3); have c2 := (V2.out.on' hb3).cell (k := 2) rfl; clear hb3))
          go_ret
          exact ⟨by rw [hend.out]; rfl, B3.out⟩
    · obtain rfl : k = 4 := by omega
      have hend := Lib.hid (show findS L nm = -1 from firstS_none (by rw [hL'.out]; exact hno.out))
      go_wp2_with fail
      go_ret
      exact ⟨by rw [hend.out]; rfl, hB.out⟩
theorem dirFind_is (L : List Slt) (nm : ByteArray) (z : Int) (w : World) (hL : L.length = 4) (hz : findS L nm = z) : Calls Try.prog 19 #[fv L, .string nm] w (Tells (.int .i64 z) w) := by
  subst hz; exact dirFind_any L nm w hL

set_option maxHeartbeats 1000000 in
theorem dirFree_any (L : List Slt) (w : World) (hL : L.length = 4) : Calls Try.prog 21 #[fv L] w (Tells (.int .i64 (freeS L)) w) := by
  have hL' := Lib.hid hL
  have hV := Vw.alloc w (fc L) 24
  have hb0 := Lib.hid ((Below.refl w.heap.size w).alloc (Nat.le_refl _) (.cells (fc L).toArray 24))
  have hld := run_ldLs hV.whole hL
  unfold fv at hld ⊢
  clear hV hL
  go_enter Try.func21, Try.ntmps21
  go_wp2_with fail
  clear hld
  go_loopw [6] (fun i wr => FiRel L (fun s => decide (s.ino = 0)) w i wr) (fun i _ => 4 - (intOf i).toNat)
  case atStart => exact ⟨0, by omega, rfl, fun k hk => by omega, hb0.out⟩
  case round =>
    obtain ⟨k, hk, rfl, hno0, hbel⟩ := hrel
    have hno := Lib.hid hno0
    have hB := Lib.hid hbel
    clear hno0 hbel
    by_cases hlt : k < 4
    · have hix := fun w => run_ixLs w L k hlt hL'.out
      obtain ⟨s, hs⟩ : ∃ s, sl L k = s := ⟨_, rfl⟩
      rw [hs] at hix
      have hs' := Lib.hid hs
      clear hs
      unfold fv sv at hix
      by_cases ht0 : s.ino = 0
      · have ht := Lib.hid (show decide (s.ino ≠ 0) = false from decide_eq_false (fun h => h ht0))
        have hend := Lib.hid (show freeS L = (k : Int) from firstS_at (by rw [hL'.out]; exact hlt) hno.out (by rw [hs'.out]; exact decide_eq_true ht0))
        clear ht0
        go_wp2_with (first
          | (refine wpList_alloc_slot rfl rfl ?_; intro g2 w2 hv2 hg2 hb2; have hst := run_stL (s := s) (hv2.out.there (o := 0) (n := 3) (by rw [sc_length]; omega)); have V2 := Lib.hid (hv2.out.over (m := sc s) rfl); have hld := run_ldL V2.out.whole; have B2 := Lib.hid (below_setCells (below_two hB.out hb2) (Nat.le_trans hB.out.size hg2) 0 (sc s)); unfold sv at hst hld; clear hb2)
          | (go_at_call 38; refine (taken_is s false _ ht.out).mono ?_; rintro e w3 ⟨rfl, hb3⟩; have B3 := Lib.hid (below_two B2.out hb3); clear hb3))
        go_ret
        exact ⟨by rw [hend.out]; rfl, B3.out⟩
      · have ht := Lib.hid (show decide (s.ino ≠ 0) = true from decide_eq_true ht0)
        have hp := Lib.hid (show decide (s.ino = 0) = false from decide_eq_false ht0)
        clear ht0
        go_wp2_with (first
          | (refine wpList_alloc_slot rfl rfl ?_; intro g2 w2 hv2 hg2 hb2; have hst := run_stL (s := s) (hv2.out.there (o := 0) (n := 3) (by rw [sc_length]; omega)); have V2 := Lib.hid (hv2.out.over (m := sc s) rfl); have hld := run_ldL V2.out.whole; have B2 := Lib.hid (below_setCells (below_two hB.out hb2) (Nat.le_trans hB.out.size hg2) 0 (sc s)); unfold sv at hst hld; clear hb2)
          | (go_at_call 38; refine (taken_is s true _ ht.out).mono ?_; rintro e w3 ⟨rfl, hb3⟩; have B3 := Lib.hid (below_two B2.out hb3); clear hb3))
        exact ⟨⟨k + 1, by omega, by go_num, fun j hj => by
          by_cases e : j = k
          · subst e; rw [hs'.out]; exact hp.out
          · exact hno.out j (by omega), B3.out⟩, by simp [intOf]; omega⟩
    · obtain rfl : k = 4 := by omega
      have hend := Lib.hid (show freeS L = -1 from firstS_none (by rw [hL'.out]; exact hno.out))
      go_wp2_with fail
      go_ret
      exact ⟨by rw [hend.out]; rfl, hB.out⟩
theorem dirFree_is (L : List Slt) (z : Int) (w : World) (hL : L.length = 4) (hz : freeS L = z) : Calls Try.prog 21 #[fv L] w (Tells (.int .i64 z) w) := by
  subst hz; exact dirFree_any L w hL
end Go.Proofs.Ytpogaognobgfhaa
namespace Go.Proofs.Ytpogaognobgfhaa
open Go.RowKit BigFrame

def MsRel (L : List Slt) (B : Nat) (w : World) (i : Value) (wr : World) : Prop := ∃ k : Nat, k ≤ 4 ∧ i = .int .i64 k ∧ standP L k ∧ Vw wr 24 B (fc L) ∧ Below w.heap.size w wr
theorem okAt_no {L : List Slt} {k : Nat} {s : Slt} (hs : sl L k = s) (h : mayS s = false) : okAt L k = false := by unfold okAt; rw [hs, h]; rfl
theorem okAt_free {L : List Slt} {k : Nat} {s : Slt} (hs : sl L k = s) (h : mayS s = true) (h2 : decide (s.ino ≠ 0) = false) : okAt L k = true := by unfold okAt; rw [hs, h, h2]; rfl
theorem okAt_taken {L : List Slt} {k : Nat} {s : Slt} (hs : sl L k = s) (h : mayS s = true) (h2 : decide (s.ino ≠ 0) = true) : okAt L k = decide (findS L s.name = (k : Int)) := by
  unfold okAt; rw [hs, h, h2, Bool.true_and, Bool.true_and]
  by_cases e : findS L s.name = (k : Int)
  · rw [decide_eq_true e, decide_eq_false (fun h => h e)]; rfl
  · rw [decide_eq_false e, decide_eq_true e]; rfl
theorem standP_succ {L : List Slt} {k : Nat} (h : standP L k) (h2 : okAt L k = true) : standP L (k + 1) := fun j hj => by
  by_cases e : j = k
  · subst e; exact h2
  · exact h j (by omega)

attribute [local go_sem ↓] ldL_of ldLs_of stL_of ixLs_of
set_option maxHeartbeats 1000000 in
theorem mayStand_any (L : List Slt) (w : World) (hL : L.length = 4) : Calls Try.prog 26 #[fv L] w (Tells (.bool (stand4 L)) w) := by
  have hL' := Lib.hid hL
  have hV := Lib.hid (Vw.alloc w (fc L) 24)
  have hb0 := Lib.hid ((Below.refl w.heap.size w).alloc (Nat.le_refl _) (.cells (fc L).toArray 24))
  have hld := run_ldLs hV.out.whole hL
  unfold fv at hld ⊢
  clear hL
  go_enter Try.func26, Try.ntmps26
  go_wp2_with fail
  clear hld
  go_loopw [6] (fun i wr => MsRel L w.heap.size w i wr) (fun i _ => 4 - (intOf i).toNat)
  case atStart => exact ⟨0, by omega, rfl, fun k hk => by omega, hV.out, hb0.out⟩
  case round =>
    obtain ⟨k, hk, rfl, hst0, hvr, hbel⟩ := hrel
    have hS := Lib.hid hst0
    have hB := Lib.hid hbel
    have hVr := Lib.hid hvr
    clear hst0 hbel hvr
    by_cases hlt : k < 4
    · have hix := fun w => run_ixLs w L k hlt hL'.out
      obtain ⟨s, hs⟩ : ∃ s, sl L k = s := ⟨_, rfl⟩
      rw [hs] at hix
      have hs' := Lib.hid hs
      clear hs
      unfold fv sv at hix
      cases hm0 : mayS s
      · have hm := Lib.hid hm0
        have hno := Lib.hid (stand4_no hlt (okAt_no hs'.out hm0))
        clear hm0
        have tk0 : True := trivial
        go_wp2_with (first
          | (go_at_call 17; refine (slotMay_is s false _ hm.out).mono ?_; rintro e w3 ⟨rfl, hb3⟩; have B3 := Lib.hid (below_two B2.out hb3); clear hb3)
          | (clear tk0; refine wpList_alloc_slot rfl rfl ?_; intro g2 w2 hv2 hg2 hb2; have hst := run_stL (s := s) (hv2.out.there (o := 0) (n := 3) (by rw [sc_length]; omega)); have V2 := Lib.hid (hv2.out.over (m := sc s) rfl); have hld := run_ldL V2.out.whole; have B2 := Lib.hid (below_setCells (below_two hB.out hb2) (Nat.le_trans hB.out.size hg2) 0 (sc s)); unfold sv at hst hld; clear hb2))
        go_ret
        exact ⟨by rw [hno.out]; rfl, B3.out⟩
      · have hm := Lib.hid hm0
        cases ht0 : decide (s.ino ≠ 0)
        · have ht := Lib.hid ht0
          have hnext := Lib.hid (standP_succ hS.out (okAt_free hs'.out hm0 ht0))
          clear ht0 hm0
          have tk0 : True := trivial
          go_wp2_with (first
            | (go_at_call 17; refine (slotMay_is s true _ hm.out).mono ?_; rintro e w3 ⟨rfl, hb3⟩; have B3 := Lib.hid (below_two B2.out hb3); have U3 := Lib.hid (U2.out.on' hb3); have V3 := Lib.hid (V2.out.on' hb3); have hld := run_ldL V3.out.whole; unfold sv at hld; clear hb3)
            | (go_at_call 38; refine (taken_is s false _ ht.out).mono ?_; rintro e w4 ⟨rfl, hb4⟩; have B4 := Lib.hid (below_two B3.out hb4); have U4 := Lib.hid (U3.out.on' hb4); clear hb4)
            | (clear tk0; refine wpList_alloc_slot rfl rfl ?_; intro g2 w2 hv2 hg2 hb2; have hst := run_stL (s := s) (hv2.out.there (o := 0) (n := 3) (by rw [sc_length]; omega)); have V2 := Lib.hid (hv2.out.over (m := sc s) rfl); have hld := run_ldL V2.out.whole; have B2 := Lib.hid (below_setCells (below_two hB.out hb2) (Nat.le_trans hB.out.size hg2) 0 (sc s)); have U2 := Lib.hid ((hVr.out.on' hb2).oth (Oth.setCells (Oth.refl g2 w2) 0 (sc s)) (by have := hVr.out.lt; omega)); unfold sv at hst hld; clear hb2))
          exact ⟨⟨k + 1, by omega, by go_num, hnext.out, U4.out, B4.out⟩, by simp [intOf]; omega⟩
        · have ht := Lib.hid ht0
          have hok := okAt_taken hs'.out hm0 ht0
          obtain ⟨n, hn⟩ : ∃ n, s.name = n := ⟨_, rfl⟩
          rw [hn] at hok
          obtain ⟨z, hz0⟩ : ∃ z, findS L n = z := ⟨_, rfl⟩
          rw [hz0] at hok
          have hz := Lib.hid hz0
          have hn' := Lib.hid hn
          clear ht0 hm0 hz0 hn
          by_cases hzk : z = (k : Int)
          · rw [decide_eq_true hzk] at hok
            have hnext := Lib.hid (standP_succ hS.out hok)
            have t1 : (z != (k : Int)) = false := by rw [hzk]; simp
            clear hok hzk
            have tk0 : True := trivial
            go_wp2_with (first
              | (go_at_call 17; refine (slotMay_is s true _ hm.out).mono ?_; rintro e w3 ⟨rfl, hb3⟩; have B3 := Lib.hid (below_two B2.out hb3); have U3 := Lib.hid (U2.out.on' hb3); have V3 := Lib.hid (V2.out.on' hb3); have hld := run_ldL V3.out.whole; unfold sv at hld; clear hb3)
              | (go_at_call 38; refine (taken_is s true _ ht.out).mono ?_; rintro e w4 ⟨rfl, hb4⟩; have B4 := Lib.hid (below_two B3.out hb4); have U4 := Lib.hid (U3.out.on' hb4); have c2 := (V3.out.on' hb4).cell (k := 2) rfl; have hld2 := run_ldLs U4.out.whole hL'.out; rw [hn'.out] at c2; unfold fv at hld2; clear hb4)
              | (go_at_call 19; refine (dirFind_is L n z _ hL'.out hz.out).mono ?_; rintro e w5 ⟨rfl, hb5⟩; have B5 := Lib.hid (below_two B4.out hb5); have U5 := Lib.hid (U4.out.on' hb5); clear hb5)
              | (clear tk0; refine wpList_alloc_slot rfl rfl ?_; intro g2 w2 hv2 hg2 hb2; have hst := run_stL (s := s) (hv2.out.there (o := 0) (n := 3) (by rw [sc_length]; omega)); have V2 := Lib.hid (hv2.out.over (m := sc s) rfl); have hld := run_ldL V2.out.whole; have B2 := Lib.hid (below_setCells (below_two hB.out hb2) (Nat.le_trans hB.out.size hg2) 0 (sc s)); have U2 := Lib.hid ((hVr.out.on' hb2).oth (Oth.setCells (Oth.refl g2 w2) 0 (sc s)) (by have := hVr.out.lt; omega)); unfold sv at hst hld; clear hb2))
            exact ⟨⟨k + 1, by omega, by go_num, hnext.out, U5.out, B5.out⟩, by simp [intOf]; omega⟩
          · rw [decide_eq_false hzk] at hok
            have hno := Lib.hid (stand4_no hlt hok)
            have t1 : (z != (k : Int)) = true := by rw [bne_iff_ne]; exact hzk
            clear hok hzk
            have tk0 : True := trivial
            go_wp2_with (first
              | (go_at_call 17; refine (slotMay_is s true _ hm.out).mono ?_; rintro e w3 ⟨rfl, hb3⟩; have B3 := Lib.hid (below_two B2.out hb3); have U3 := Lib.hid (U2.out.on' hb3); have V3 := Lib.hid (V2.out.on' hb3); have hld := run_ldL V3.out.whole; unfold sv at hld; clear hb3)
              | (go_at_call 38; refine (taken_is s true _ ht.out).mono ?_; rintro e w4 ⟨rfl, hb4⟩; have B4 := Lib.hid (below_two B3.out hb4); have U4 := Lib.hid (U3.out.on' hb4); have c2 := (V3.out.on' hb4).cell (k := 2) rfl; have hld2 := run_ldLs U4.out.whole hL'.out; rw [hn'.out] at c2; unfold fv at hld2; clear hb4)
              | (go_at_call 19; refine (dirFind_is L n z _ hL'.out hz.out).mono ?_; rintro e w5 ⟨rfl, hb5⟩; have B5 := Lib.hid (below_two B4.out hb5); clear hb5)
              | (clear tk0; refine wpList_alloc_slot rfl rfl ?_; intro g2 w2 hv2 hg2 hb2; have hst := run_stL (s := s) (hv2.out.there (o := 0) (n := 3) (by rw [sc_length]; omega)); have V2 := Lib.hid (hv2.out.over (m := sc s) rfl); have hld := run_ldL V2.out.whole; have B2 := Lib.hid (below_setCells (below_two hB.out hb2) (Nat.le_trans hB.out.size hg2) 0 (sc s)); have U2 := Lib.hid ((hVr.out.on' hb2).oth (Oth.setCells (Oth.refl g2 w2) 0 (sc s)) (by have := hVr.out.lt; omega)); unfold sv at hst hld; clear hb2))
            go_ret
            exact ⟨by rw [hno.out]; rfl, B5.out⟩
    · obtain rfl : k = 4 := by omega
      have hend := Lib.hid (stand4_iff.2 hS.out)
      go_wp2_with fail
      go_ret
      exact ⟨by rw [hend.out]; rfl, hB.out⟩
theorem mayStand_is (L : List Slt) (r : Bool) (w : World) (hL : L.length = 4) (hr : stand4 L = r) : Calls Try.prog 26 #[fv L] w (Tells (.bool r) w) := by
  subst hr; exact mayStand_any L w hL
end Go.Proofs.Ytpogaognobgfhaa
