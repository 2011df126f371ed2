/-
  May these slots stand in one block?
-/
import Derived.Test.YtpogaognobgfhaaEf
import Derived.Test.YtpogaognobgfhaaAv
namespace Go.Proofs.Ytpogaognobgfhaa
open Go.RowKit BigFrame

def MsRel (L : List Slt) (B : Nat) (w : World) (i : Value) (wr : World) : Prop := ∃ k : Nat, k ≤ 4 ∧ i = .int .i64 k ∧ standP L k ∧ Vw wr 24 B (fc L) ∧ Below w.heap.size w wr
theorem okAt_no {L : List Slt} {k : Nat} {s : Slt} (hs : sl L k = s) (h : mayS s = false) : okAt L k = false := by unfold okAt; rw [hs, h]; rfl
theorem okAt_free {L : List Slt} {k : Nat} {s : Slt} (hs : sl L k = s) (h : mayS s = true) (h2 : decide (s.ino ≠ 0) = false) : okAt L k = true := by unfold okAt; rw [hs, h, h2]; rfl
theorem okAt_taken {L : List Slt} {k : Nat} {s : Slt} (hs : sl L k = s) (h : mayS s = true) (h2 : decide (s.ino ≠ 0) = true) : okAt L k = decide (findS L s.name = (k : Int)) := by
  unfold okAt; rw [hs, h, h2, Bool.true_and, Bool.true_and]
  by_cases e : findS L s.name = (k : Int)
  · rw [decide_eq_true e, decide_eq_false (fun h => h e)]; rfl
  · rw [decide_eq_false e, decide_eq_true e]; rfl
theorem standP_succ {L : List Slt} {k : Nat} (h : standP L k) (h2 : okAt L k = true) : standP L (k + 1) := fun j hj => by
  by_cases e : j = k
  · subst e; exact h2
  · exact h j (by omega)

attribute [local go_sem ↓] ldL_of ldLs_of stL_of ixLs_of
set_option maxHeartbeats 1000000 in
theorem mayStand_any (L : List Slt) (w : World) (hL : L.length = 4) : Calls Try.prog 26 #[fv L] w (Tells (.bool (stand4 L)) w) := by
  have hL' := Lib.hid hL
  have hV := Lib.hid (Vw.alloc w (fc L) 24)
  have hb0 := Lib.hid ((Below.refl w.heap.size w).alloc (Nat.le_refl _) (.cells (fc L).toArray 24))
  have hld := run_ldLs hV.out.whole hL
  unfold fv at hld ⊢
  clear hL
  go_enter Try.func26, Try.ntmps26
  go_wp2_with fail
  clear hld
  go_loopw [6] (fun i wr => MsRel L w.heap.size w i wr) (fun i _ => 4 - (intOf i).toNat)
  case atStart => exact ⟨0, by omega, rfl, fun k hk => by omega, hV.out, hb0.out⟩
  case round =>
    obtain ⟨k, hk, rfl, hst0, hvr, hbel⟩ := hrel
    have hS := Lib.hid hst0
    have hB := Lib.hid hbel
    have hVr := Lib.hid hvr
    clear hst0 hbel hvr
    by_cases hlt : k < 4
    · have hix := fun w => run_ixLs w L k hlt hL'.out
      obtain ⟨s, hs⟩ : ∃ s, sl L k = s := ⟨_, rfl⟩
      rw [hs] at hix
      have hs' := Lib.hid hs
      clear hs
      unfold fv sv at hix
      cases hm0 : mayS s
      · have hm := Lib.hid hm0
        have hno := Lib.hid (stand4_no hlt (okAt_no hs'.out hm0))
        clear hm0
        have tk0 : True := trivial
        go_wp2_with (first
          | (go_at_call 17; refine (slotMay_is s false _ hm.out).mono ?_; rintro e w3 ⟨rfl, hb3⟩; have B3 := Lib.hid (below_two B2.out hb3); clear hb3)
          | (clear tk0; refine wpList_alloc_slot rfl rfl ?_; intro g2 w2 hv2 hg2 hb2; have hst := run_stL (s := s) (hv2.out.there (o := 0) (n := 3) (by rw [sc_length]; omega)); have V2 := Lib.hid (hv2.out.over (m := sc s) rfl); have hld := run_ldL V2.out.whole; have B2 := Lib.hid (below_setCells (below_two hB.out hb2) (Nat.le_trans hB.out.size hg2) 0 (sc s)); unfold sv at hst hld; clear hb2))
        go_ret
        exact ⟨by rw [hno.out]; rfl, B3.out⟩
      · have hm := Lib.hid hm0
        cases ht0 : decide (s.ino ≠ 0)
        · have ht := Lib.hid ht0
          have hnext := Lib.hid (standP_succ hS.out (okAt_free hs'.out hm0 ht0))
          clear ht0 hm0
          have tk0 : True := trivial
          go_wp2_with (first
            | (go_at_call 17; refine (slotMay_is s true _ hm.out).mono ?_; rintro e w3 ⟨rfl, hb3⟩; have B3 := Lib.hid (below_two B2.out hb3); have U3 := Lib.hid (U2.out.on' hb3); have V3 := Lib.hid (V2.out.on' hb3); have hld := run_ldL V3.out.whole; unfold sv at hld; clear hb3)
            | (go_at_call 38; refine (taken_is s false _ ht.out).mono ?_; rintro e w4 ⟨rfl, hb4⟩; have B4 := Lib.hid (below_two B3.out hb4); have U4 := Lib.hid (U3.out.on' hb4); clear hb4)
            | (clear tk0; refine wpList_alloc_slot rfl rfl ?_; intro g2 w2 hv2 hg2 hb2; have hst := run_stL (s := s) (hv2.out.there (o := 0) (n := 3) (by rw [sc_length]; omega)); have V2 := Lib.hid (hv2.out.over (m := sc s) rfl); have hld := run_ldL V2.out.whole; have B2 := Lib.hid (below_setCells (below_two hB.out hb2) (Nat.le_trans hB.out.size hg2) 0 (sc s)); have U2 := Lib.hid ((hVr.out.on' hb2).oth (Oth.setCells (Oth.refl g2 w2) 0 (sc s)) (by have := hVr.out.lt; omega)); unfold sv at hst hld; clear hb2))
          exact ⟨⟨k + 1, by omega, by go_num, hnext.out, U4.out, B4.out⟩, by simp [intOf]; omega⟩
        · have ht := Lib.hid ht0
          have hok := okAt_taken hs'.out hm0 ht0
          obtain ⟨n, hn⟩ : ∃ n, s.name = n := ⟨_, rfl⟩
          rw [hn] at hok
          obtain ⟨z, hz0⟩ : ∃ z, findS L n = z := ⟨_, rfl⟩
          rw [hz0] at hok
          have hz := Lib.hid hz0
          have hn' := Lib.hid hn
          clear ht0 hm0 hz0 hn
          by_cases hzk : z = (k : Int)
          · rw [decide_eq_true hzk] at hok
            have hnext := Lib.hid (standP_succ hS.out hok)
            have t1 : (z != (k : Int)) = false := by rw [hzk]; simp
            clear hok hzk
            have tk0 : True := trivial
            go_wp2_with (first
              | (go_at_call 17; refine (slotMay_is s true _ hm.out).mono ?_; rintro e w3 ⟨rfl, hb3⟩; have B3 := Lib.hid (below_two B2.out hb3); have U3 := Lib.hid (U2.out.on' hb3); have V3 := Lib.hid (V2.out.on' hb3); have hld := run_ldL V3.out.whole; unfold sv at hld; clear hb3)
              | (go_at_call 38; refine (taken_is s true _ ht.out).mono ?_; rintro e w4 ⟨rfl, hb4⟩; have B4 := Lib.hid (below_two B3.out hb4); have U4 := Lib.hid (U3.out.on' hb4); have c2 := (V3.out.on' hb4).cell (k := 2) rfl; have hld2 := run_ldLs U4.out.whole hL'.out; rw [hn'.out] at c2; unfold fv at hld2; clear hb4)
              | (go_at_call 19; refine (dirFind_is L n z _ hL'.out hz.out).mono ?_; rintro e w5 ⟨rfl, hb5⟩; have B5 := Lib.hid (below_two B4.out hb5); have U5 := Lib.hid (U4.out.on' hb5); clear hb5)
              | (clear tk0; refine wpList_alloc_slot rfl rfl ?_; intro g2 w2 hv2 hg2 hb2; have hst := run_stL (s := s) (hv2.out.there (o := 0) (n := 3) (by rw [sc_length]; omega)); have V2 := Lib.hid (hv2.out.over (m := sc s) rfl); have hld := run_ldL V2.out.whole; have B2 := Lib.hid (below_setCells (below_two hB.out hb2) (Nat.le_trans hB.out.size hg2) 0 (sc s)); have U2 := Lib.hid ((hVr.out.on' hb2).oth (Oth.setCells (Oth.refl g2 w2) 0 (sc s)) (by have := hVr.out.lt; omega)); unfold sv at hst hld; clear hb2))
            exact ⟨⟨k + 1, by omega, by go_num, hnext.out, U5.out, B5.out⟩, by simp [intOf]; omega⟩
          · rw [decide_eq_false hzk] at hok
            have hno := Lib.hid (stand4_no hlt hok)
            have t1 : (z != (k : Int)) = true := by rw [bne_iff_ne]; exact hzk
            clear hok hzk
            have tk0 : True := trivial
            go_wp2_with (first
              | (go_at_call 17; refine (slotMay_is s true _ hm.out).mono ?_; rintro e w3 ⟨rfl, hb3⟩; have B3 := Lib.hid (below_two B2.out hb3); have U3 := Lib.hid (U2.out.on' hb3); have V3 := Lib.hid (V2.out.on' hb3); have hld := run_ldL V3.out.whole; unfold sv at hld; clear hb3)
              | (go_at_call 38; refine (taken_is s true _ ht.out).mono ?_; rintro e w4 ⟨rfl, hb4⟩; have B4 := Lib.hid (below_two B3.out hb4); have U4 := Lib.hid (U3.out.on' hb4); have c2 := (V3.out.on' hb4).cell (k := 2) rfl; have hld2 := run_ldLs U4.out.whole hL'.out; rw [hn'.out] at c2; unfold fv at hld2; clear hb4)
              | (go_at_call 19; refine (dirFind_is L n z _ hL'.out hz.out).mono ?_; rintro e w5 ⟨rfl, hb5⟩; have B5 := Lib.hid (below_two B4.out hb5); clear hb5)
              | (clear tk0; refine wpList_alloc_slot rfl rfl ?_; intro g2 w2 hv2 hg2 hb2; have hst := run_stL (s := s) (hv2.out.there (o := 0) (n := 3) (by rw [sc_length]; omega)); have V2 := Lib.hid (hv2.out.over (m := sc s) rfl); have hld := run_ldL V2.out.whole; have B2 := Lib.hid (below_setCells (below_two hB.out hb2) (Nat.le_trans hB.out.size hg2) 0 (sc s)); have U2 := Lib.hid ((hVr.out.on' hb2).oth (Oth.setCells (Oth.refl g2 w2) 0 (sc s)) (by have := hVr.out.lt; omega)); unfold sv at hst hld; clear hb2))
            go_ret
            exact ⟨by rw [hno.out]; rfl, B5.out⟩
    · obtain rfl : k = 4 := by omega
      have hend := Lib.hid (stand4_iff.2 hS.out)
      go_wp2_with fail
      go_ret
      exact ⟨by rw [hend.out]; rfl, hB.out⟩
theorem mayStand_is (L : List Slt) (r : Bool) (w : World) (hL : L.length = 4) (hr : stand4 L = r) : Calls Try.prog 26 #[fv L] w (Tells (.bool r) w) := by
  subst hr; exact mayStand_any L w hL
end Go.Proofs.Ytpogaognobgfhaa
