/-
  What Lay makes of four slots.
-/
import Derived.Test.YtpogaognobgfhaaEg
import Derived.Test.YtpogaognobgfhaaEh
import Derived.Test.YtpogaognobgfhaaZl
namespace Go.Proofs.Ytpogaognobgfhaa
open Go.RowKit BigFrame

theorem Try.infoBlk : (Try.prog.info? 44).map (fun i => (i.zero, i.size)) = some (some (.agg (bv (zs 112)).toArray), 112) := by kernel_rfl
def noDir : Value := .tuple #[.slice none 0 0, .int .i64 2]
def DlRel (L : List Slt) (w : World) (g : Nat) (i : Value) (wr : World) : Prop := ∃ k : Nat, k ≤ 4 ∧ i = .int .i64 k ∧ RowT wr 44 g (splice (zs 112) 0 (spD L k)) ∧ Below w.heap.size w wr

attribute [local go_sem ↓] ldL_of ldLs_of stL_of ixLs_of
set_option maxHeartbeats 1000000 in
theorem dirLay_no (L : List Slt) (w : World) (hL : L.length = 4) (hs : stand4 L = false) : Calls Try.prog 10 #[fv L] w (Tells noDir w) := by
  have hV := Lib.hid (Vw.alloc w (fc L) 24)
  have hb0 := Lib.hid ((Below.refl w.heap.size w).alloc (Nat.le_refl _) (.cells (fc L).toArray 24))
  have hld := run_ldLs hV.out.whole hL
  have hM := Lib.hid (fun w => mayStand_is L false w hL hs)
  unfold fv at hld hM ⊢
  clear hL hs
  go_enter Try.func10, Try.ntmps10
  go_wp2_with (go_at_call 26; refine (hM.out _).mono ?_; rintro e w1 ⟨rfl, hb1⟩; have hB1 := Lib.hid (below_two hb0.out hb1); clear hb1)
  go_ret2
  exact ⟨rfl, hB1.out⟩

set_option maxHeartbeats 2000000 in
theorem dirLay_ok (L : List Slt) (w : World) (hL : L.length = 4) (hs : stand4 L = true) : Calls Try.prog 10 #[fv L] w (SealPost 68 (spD L 4) w) := by
  have hL' := Lib.hid hL
  have hmay := Lib.hid (standP_may (stand4_iff.1 hs))
  have hV := Lib.hid (Vw.alloc w (fc L) 24)
  have hb0 := Lib.hid ((Below.refl w.heap.size w).alloc (Nat.le_refl _) (.cells (fc L).toArray 24))
  have hld := run_ldLs hV.out.whole hL
  have hM := Lib.hid (fun w => mayStand_is L true w hL hs)
  unfold fv at hld hM ⊢
  clear hL hs
  have tk0 : True := trivial
  go_enter Try.func10, Try.ntmps10
  go_wp2_with (first
    | (go_at_call 26; refine (hM.out _).mono ?_; rintro e w1 ⟨rfl, hb1⟩; have hB1 := Lib.hid (below_two hb0.out hb1); have hV1 := Lib.hid (hV.out.on' hb1); clear hb1)
    | (clear tk0; refine wpList_alloc_zeros Try.infoBlk rfl rfl ?_; intro g1 w2 hr2 hg2 hb2; have hld2 := run_ldLs (hV1.out.on' hb2).whole hL'.out; unfold fv at hld2; have hB2 := Lib.hid (below_two hB1.out hb2); have hg1' := Lib.hid (Nat.le_trans hB1.out.size hg2); clear hb2 hg2))
  clear hld hld2
  go_loopw [11] (fun i wr => DlRel L w g1 i wr) (fun i _ => 4 - (intOf i).toNat)
  case atStart => exact ⟨0, by omega, rfl, by rw [spD, splice_nil]; exact hr2.out, hB2.out⟩
  case round =>
    obtain ⟨k, hk, rfl, hrow, hbel⟩ := hrel
    have hR := Lib.hid hrow
    have hB := Lib.hid hbel
    have hgw := Lib.hid hrow.lt
    clear hrow hbel
    by_cases hlt : k < 4
    · have hix := fun w => run_ixLs w L k hlt hL'.out
      obtain ⟨s, hs⟩ : ∃ s, sl L k = s := ⟨_, rfl⟩
      have hms := Lib.hid (show mayS s = true by rw [← hs]; exact hmay.out k hlt)
      rw [hs] at hix
      have hs' := Lib.hid hs
      clear hs
      unfold fv sv at hix
      have tk1 : True := trivial
      go_wp2_with (clear tk1; refine wpList_alloc_slot rfl rfl ?_; intro g2 w3 hv3 hg3 hb3; have hst := run_stL (s := s) (hv3.out.there (o := 0) (n := 3) (by rw [sc_length]; omega)); have V3 := Lib.hid (hv3.out.over (m := sc s) rfl); have B3 := Lib.hid (below_setCells (below_two hB.out hb3) (Nat.le_trans hB.out.size hg3) 0 (sc s)); have R3 := Lib.hid ((hR.out.on hb3 hgw.out).oth (Oth.setCells (Oth.refl g2 w3) 0 (sc s)) (by have := hgw.out; omega)); unfold sv at hst; clear hb3)
      clear hst
      have hs1 := run_ldL (w := (w3.setCells g2 0 (sc s)).drew) V3.out.whole
      unfold sv at hs1
      have hLen := Lib.hid (show (splice (zs 112) 0 (spD L k)).length = 112 by rw [length_splice _ _ _ (by rw [spD_length (fun j hj => hmay.out j (by omega)), zs_length]; omega), zs_length])
      have hsplit := Lib.hid (show splice (splice (zs 112) 0 (spD L k)) (k * 28) (spS s) = splice (zs 112) 0 (spD L (k + 1)) by
        have := splice_splice (zs 112) (spD L k) (spS s) 0 (by rw [spD_length (fun j hj => hmay.out j (by omega)), zs_length]; omega)
        rw [spD_length (fun j hj => hmay.out j (by omega)), show 0 + 28 * k = k * 28 by omega] at this
        rw [this, spD, hs'.out])
      have hg12 := Lib.hid (show ¬ g2 = g1 by have := hgw.out; omega)
      go_region_held3 (fun w' => (ldA 23 (.pointer (some ⟨g2, 0, none⟩))).run Try.prog w' = .ok (.agg (sc s).toArray) w') (first | exact hs1 | exact q1) (first
        | (go_at_call 28; refine (slotPart_any g1 0 _ _ k _ (by omega) (by omega)).mono ?_; rintro e w4 ⟨⟨c, hc, rfl⟩, rfl⟩; rw [Nat.zero_add])
        | (go_at_call 27; refine (slotSpell_any 44 g1 (k * 28) _ (splice (zs 112) 0 (spD L k)) s _ hms.out (by assumption) R3.out.drew1 (by rw [hLen.out]; omega)).mono ?_; rintro e w5 ⟨rfl, hr5, hg5⟩; have hV5 := V3.out.drew1.grown hg5 (fun e => hg12.out (Option.some.inj e)); have q1 := run_ldL hV5.whole; unfold sv at q1; have hR5 := Lib.hid (hsplit.out ▸ hr5); have hB5 := Lib.hid (B3.out.drew.grown hg5 B3.out.size (fun k hk => by cases hk; exact hg1'.out)); clear hr5 hg5 hV5))
      go_wp2_with fail
      exact ⟨⟨k + 1, by omega, by go_num, hR5.out, hB5.out⟩, by simp [intOf]; omega⟩
    · obtain rfl : k = 4 := by omega
      have hlen := spD_length hmay.out
      have hsp : splice (zs 112) 0 (spD L 4) = spD L 4 := by simp [splice, hlen, zs]
      have hR4 := hR.out
      rw [hsp] at hR4
      have hR5 := Lib.hid hR4
      have hlen' := Lib.hid hlen
      clear hlen hsp hR4
      go_wp2_with (go_at_call 29; refine (seal_n (n := 112) 68 _ _ (spD L 4) _ hlen'.out (by decide) (by decide) (spD_octs hmay.out) (by decide) hR5.out.bat).mono ?_; rintro e w5 ⟨g5, rfl, hg5, hr5, hb5⟩; have hend := Lib.hid (show SealPost 68 (spD L 4) w _ w5 from ⟨g5, rfl, Nat.le_trans hB.out.size hg5, hr5, below_two hB.out hb5⟩); clear hr5 hb5)
      go_ret2
      exact hend.out
end Go.Proofs.Ytpogaognobgfhaa
