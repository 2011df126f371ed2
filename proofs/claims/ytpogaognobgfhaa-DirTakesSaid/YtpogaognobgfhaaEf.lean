/-
  The first slot of an entry of a name, and the first free one.
-/
import Derived.Test.YtpogaognobgfhaaEd
import Derived.Deep.LoopGhost
namespace Go.Proofs.Ytpogaognobgfhaa
open Go.RowKit BigFrame

def FiRel (L : List Slt) (p : Slt → Bool) (w : World) (i : Value) (wr : World) : Prop := ∃ k : Nat, k ≤ 4 ∧ i = .int .i64 k ∧ (∀ j, j < k → p (sl L j) = false) ∧ Below w.heap.size w wr
theorem hasS_no {nm : ByteArray} {s : Slt} (h : decide (s.ino ≠ 0) = false) : hasS nm s = false := by unfold hasS; rw [h]; rfl
theorem hasS_name {nm : ByteArray} {s : Slt} (h : decide (s.ino ≠ 0) = true) : hasS nm s = decide (s.name = nm) := by unfold hasS; rw [h, Bool.true_and]

attribute [local go_sem ↓] ldL_of ldLs_of stL_of ixLs_of
set_option maxHeartbeats 1000000 in
theorem dirFind_any (L : List Slt) (nm : ByteArray) (w : World) (hL : L.length = 4) : Calls Try.prog 19 #[fv L, .string nm] w (Tells (.int .i64 (findS L nm)) w) := by
  have hL' := Lib.hid hL
  have hV := Vw.alloc w (fc L) 24
  have hb0 := Lib.hid ((Below.refl w.heap.size w).alloc (Nat.le_refl _) (.cells (fc L).toArray 24))
  have hld := run_ldLs hV.whole hL
  unfold fv at hld ⊢
  clear hV hL
  go_enter Try.func19, Try.ntmps19
  go_wp2_with fail
  clear hld
  go_loopw [8] (fun i wr => FiRel L (hasS nm) w i wr) (fun i _ => 4 - (intOf i).toNat)
  case atStart => exact ⟨0, by omega, rfl, fun k hk => by omega, hb0.out⟩
  case round =>
    obtain ⟨k, hk, rfl, hno0, hbel⟩ := hrel
    have hno := Lib.hid hno0
    have hB := Lib.hid hbel
    clear hno0 hbel
    by_cases hlt : k < 4
    · have hix := fun w => run_ixLs w L k hlt hL'.out
      obtain ⟨s, hs⟩ : ∃ s, sl L k = s := ⟨_, rfl⟩
      rw [hs] at hix
      have hs' := Lib.hid hs
      clear hs
      unfold fv sv at hix
      cases ht0 : decide (s.ino ≠ 0)
      · have ht := Lib.hid ht0
        have hp := Lib.hid (hasS_no (nm := nm) ht0)
        clear ht0
        go_wp2_with (first
          | (refine wpList_alloc_slot rfl rfl ?_; intro g2 w2 hv2 hg2 hb2; have hst := run_stL (s := s) (hv2.out.there (o := 0) (n := 3) (by rw [sc_length]; omega)); have V2 := Lib.hid (hv2.out.over (m := sc s) rfl); have hld := run_ldL V2.out.whole; have B2 := Lib.hid (below_setCells (below_two hB.out hb2) (Nat.le_trans hB.out.size hg2) 0 (sc s)); unfold sv at hst hld; clear hb2)
          | (go_at_call 38; refine (taken_is s false _ ht.out).mono ?_; rintro e w3 ⟨rfl, hb3⟩; have B3 := Lib.hid (below_two B2.out hb3); clear hb3))
        exact ⟨⟨k + 1, by omega, by go_num, fun j hj => by
          by_cases e : j = k
          · subst e; rw [hs'.out]; exact hp.out
          · exact hno.out j (by omega), B3.out⟩, by simp [intOf]; omega⟩
      · have ht := Lib.hid ht0
        have hp := hasS_name (nm := nm) ht0
        have hq := toList_nb s.name nm
        clear ht0
        cases hr0 : decide (s.name = nm)
        · rw [hr0] at hq hp
          have hp' := Lib.hid hp
          clear hr0 hp
          go_wp2_with (first
            | (refine wpList_alloc_slot rfl rfl ?_; intro g2 w2 hv2 hg2 hb2; have hst := run_stL (s := s) (hv2.out.there (o := 0) (n := 3) (by rw [sc_length]; omega)); have V2 := Lib.hid (hv2.out.over (m := sc s) rfl); have hld := run_ldL V2.out.whole; have B2 := Lib.hid (below_setCells (below_two hB.out hb2) (Nat.le_trans hB.out.size hg2) 0 (sc s)); unfold sv at hst hld; clear hb2)
            | (go_at_call 38; refine (taken_is s true _ ht.out).mono ?_; rintro e w3 ⟨rfl, hb3⟩; have B3 := Lib.hid (below_two B2.out hb3); have c2 := (V2.out.on' hb3).cell (k := 2) rfl; clear hb3))
          exact ⟨⟨k + 1, by omega, by go_num, fun j hj => by
            by_cases e : j = k
            · subst e; rw [hs'.out]; exact hp'.out
            · exact hno.out j (by omega), B3.out⟩, by simp [intOf]; omega⟩
        · rw [hr0] at hq hp
          have hend := Lib.hid (show findS L nm = (k : Int) from firstS_at (by rw [hL'.out]; exact hlt) hno.out (by rw [hs'.out]; exact hp))
          clear hr0 hp
          go_wp2_with (first
            | (refine wpList_alloc_slot rfl rfl ?_; intro g2 w2 hv2 hg2 hb2; have hst := run_stL (s := s) (hv2.out.there (o := 0) (n := 3) (by rw [sc_length]; omega)); have V2 := Lib.hid (hv2.out.over (m := sc s) rfl); have hld := run_ldL V2.out.whole; have B2 := Lib.hid (below_setCells (below_two hB.out hb2) (Nat.le_trans hB.out.size hg2) 0 (sc s)); unfold sv at hst hld; clear hb2)
            | (go_at_call 38; refine (taken_is s true _ ht.out).mono ?_; rintro e w3 ⟨rfl, hb3⟩; have B3 := Lib.hid (below_two B2.out hb3); have c2 := (V2.out.on' hb3).cell (k := 2) rfl; clear hb3))
          go_ret
          exact ⟨by rw [hend.out]; rfl, B3.out⟩
    · obtain rfl : k = 4 := by omega
      have hend := Lib.hid (show findS L nm = -1 from firstS_none (by rw [hL'.out]; exact hno.out))
      go_wp2_with fail
      go_ret
      exact ⟨by rw [hend.out]; rfl, hB.out⟩
theorem dirFind_is (L : List Slt) (nm : ByteArray) (z : Int) (w : World) (hL : L.length = 4) (hz : findS L nm = z) : Calls Try.prog 19 #[fv L, .string nm] w (Tells (.int .i64 z) w) := by
  subst hz; exact dirFind_any L nm w hL

set_option maxHeartbeats 1000000 in
theorem dirFree_any (L : List Slt) (w : World) (hL : L.length = 4) : Calls Try.prog 21 #[fv L] w (Tells (.int .i64 (freeS L)) w) := by
  have hL' := Lib.hid hL
  have hV := Vw.alloc w (fc L) 24
  have hb0 := Lib.hid ((Below.refl w.heap.size w).alloc (Nat.le_refl _) (.cells (fc L).toArray 24))
  have hld := run_ldLs hV.whole hL
  unfold fv at hld ⊢
  clear hV hL
  go_enter Try.func21, Try.ntmps21
  go_wp2_with fail
  clear hld
  go_loopw [6] (fun i wr => FiRel L (fun s => decide (s.ino = 0)) w i wr) (fun i _ => 4 - (intOf i).toNat)
  case atStart => exact ⟨0, by omega, rfl, fun k hk => by omega, hb0.out⟩
  case round =>
    obtain ⟨k, hk, rfl, hno0, hbel⟩ := hrel
    have hno := Lib.hid hno0
    have hB := Lib.hid hbel
    clear hno0 hbel
    by_cases hlt : k < 4
    · have hix := fun w => run_ixLs w L k hlt hL'.out
      obtain ⟨s, hs⟩ : ∃ s, sl L k = s := ⟨_, rfl⟩
      rw [hs] at hix
      have hs' := Lib.hid hs
      clear hs
      unfold fv sv at hix
      by_cases ht0 : s.ino = 0
      · have ht := Lib.hid (show decide (s.ino ≠ 0) = false from decide_eq_false (fun h => h ht0))
        have hend := Lib.hid (show freeS L = (k : Int) from firstS_at (by rw [hL'.out]; exact hlt) hno.out (by rw [hs'.out]; exact decide_eq_true ht0))
        clear ht0
        go_wp2_with (first
          | (refine wpList_alloc_slot rfl rfl ?_; intro g2 w2 hv2 hg2 hb2; have hst := run_stL (s := s) (hv2.out.there (o := 0) (n := 3) (by rw [sc_length]; omega)); have V2 := Lib.hid (hv2.out.over (m := sc s) rfl); have hld := run_ldL V2.out.whole; have B2 := Lib.hid (below_setCells (below_two hB.out hb2) (Nat.le_trans hB.out.size hg2) 0 (sc s)); unfold sv at hst hld; clear hb2)
          | (go_at_call 38; refine (taken_is s false _ ht.out).mono ?_; rintro e w3 ⟨rfl, hb3⟩; have B3 := Lib.hid (below_two B2.out hb3); clear hb3))
        go_ret
        exact ⟨by rw [hend.out]; rfl, B3.out⟩
      · have ht := Lib.hid (show decide (s.ino ≠ 0) = true from decide_eq_true ht0)
        have hp := Lib.hid (show decide (s.ino = 0) = false from decide_eq_false ht0)
        clear ht0
        go_wp2_with (first
          | (refine wpList_alloc_slot rfl rfl ?_; intro g2 w2 hv2 hg2 hb2; have hst := run_stL (s := s) (hv2.out.there (o := 0) (n := 3) (by rw [sc_length]; omega)); have V2 := Lib.hid (hv2.out.over (m := sc s) rfl); have hld := run_ldL V2.out.whole; have B2 := Lib.hid (below_setCells (below_two hB.out hb2) (Nat.le_trans hB.out.size hg2) 0 (sc s)); unfold sv at hst hld; clear hb2)
          | (go_at_call 38; refine (taken_is s true _ ht.out).mono ?_; rintro e w3 ⟨rfl, hb3⟩; have B3 := Lib.hid (below_two B2.out hb3); clear hb3))
        exact ⟨⟨k + 1, by omega, by go_num, fun j hj => by
          by_cases e : j = k
          · subst e; rw [hs'.out]; exact hp.out
          · exact hno.out j (by omega), B3.out⟩, by simp [intOf]; omega⟩
    · obtain rfl : k = 4 := by omega
      have hend := Lib.hid (show freeS L = -1 from firstS_none (by rw [hL'.out]; exact hno.out))
      go_wp2_with fail
      go_ret
      exact ⟨by rw [hend.out]; rfl, hB.out⟩
theorem dirFree_is (L : List Slt) (z : Int) (w : World) (hL : L.length = 4) (hz : freeS L = z) : Calls Try.prog 21 #[fv L] w (Tells (.int .i64 z) w) := by
  subst hz; exact dirFree_any L w hL
end Go.Proofs.Ytpogaognobgfhaa
