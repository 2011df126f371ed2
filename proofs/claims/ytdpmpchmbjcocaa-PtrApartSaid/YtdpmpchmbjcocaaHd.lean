/-
  What Lay makes of twelve pointers.
-/
import Derived.Test.YtdpmpchmbjcocaaHb
import Derived.Test.YtdpmpchmbjcocaaHc
import Derived.Test.YtdpmpchmbjcocaaPq
import Derived.Test.YtdpmpchmbjcocaaZl
import Derived.Deep.LoopGhost
namespace Go.Proofs.Ytdpmpchmbjcocaa
open Go.RowKit BigFrame

theorem Try.infoBody : (Try.prog.info? 37).map (fun i => (i.zero, i.size)) = some (some (.agg (bv (zs 24)).toArray), 24) := by kernel_rfl
def noPtr : Value := .tuple #[.slice none 0 0, .int .i64 2]
def PlRel (L : List Int) (w : World) (g : Nat) (i : Value) (wr : World) : Prop := ∃ k : Nat, k ≤ 12 ∧ i = .int .i64 k ∧ mayP L k ∧ RowT wr 37 g (splice (zs 24) 0 (spP L k)) ∧ Below w.heap.size w wr
def PlPost (L : List Int) (w : World) (e : Ending) (w' : World) : Prop := (may12 L = true ∧ SealPost 80 (spP L 12) w e w') ∨ (may12 L = false ∧ e = .returned noPtr ∧ Below w.heap.size w w')

attribute [local go_sem ↓] ldT_of ixT_of
set_option maxHeartbeats 1000000 in
theorem ptrLay_any (L : List Int) (w : World) (hL : L.length = 12) :
    Calls Try.prog 7 #[av L] w (PlPost L w) := by
  have hL' := Lib.hid hL
  have hV := Vi.alloc w L 22
  have hb0 := Lib.hid ((Below.refl w.heap.size w).alloc (Nat.le_refl _) (.cells (iv L).toArray 22))
  have hV' := Lib.hid hV
  clear hV hL
  unfold av
  go_enter Try.func7, Try.ntmps7
  go_wp2_with (refine wpList_alloc_zeros Try.infoBody rfl rfl ?_; intro g1 w1 hr1 hg1 hb1; have hld := run_ldT (hV'.out.on' hb1).whole hL'.out; unfold av at hld; have hB1 := Lib.hid (below_two hb0.out hb1); have hg1' := Lib.hid (Nat.le_trans hb0.out.size hg1); clear hb1 hg1)
  clear hld
  go_loopw [8] (fun i wr => PlRel L w g1 i wr) (fun i _ => 12 - (intOf i).toNat)
  case atStart => exact ⟨0, by omega, rfl, fun k hk => by omega, by rw [spP, splice_nil]; exact hr1.out, hB1.out⟩
  case round =>
    obtain ⟨k, hk, rfl, hmay, hrow, hbel⟩ := hrel
    have hM := Lib.hid hmay
    have hR := Lib.hid hrow
    have hB := Lib.hid hbel
    clear hmay hrow hbel
    by_cases hlt : k < 12
    · have hix := fun w => run_ixT w L k hlt hL'.out
      obtain ⟨x, hx⟩ : ∃ x, zi L k = x := ⟨_, rfl⟩
      rw [hx] at hix
      have hx' := Lib.hid hx
      clear hx
      unfold av at hix
      cases hm0 : fitsN x 2
      · have hm := Lib.hid hm0
        have hno := Lib.hid (may12_no hlt (by rw [hx'.out]; exact hm0))
        clear hm0
        go_wp2_with (go_at_call 16; refine (fits_any x 2 _ (by omega)).mono ?_; rw [hm.out]; rintro e w3 ⟨rfl, rfl⟩)
        go_ret2
        exact .inr ⟨hno.out, rfl, hB.out⟩
      · have hm := Lib.hid hm0
        obtain ⟨s, hs0, hs⟩ := fits2_nat hm0
        have hs' := Lib.hid hs0
        clear hm0 hs0
        have hLen := Lib.hid (show (splice (zs 24) 0 (spP L k)).length = 24 by rw [length_splice _ _ _ (by rw [spP_length, zs_length]; omega), zs_length])
        have hsplit := Lib.hid (show splice (splice (zs 24) 0 (spP L k)) (k * 2) (be 2 s) = splice (zs 24) 0 (spP L (k + 1)) by
          have := splice_splice (zs 24) (spP L k) (be 2 s) 0 (by rw [spP_length, zs_length]; omega)
          rw [spP_length, show 0 + 2 * k = k * 2 by omega] at this
          rw [this, spP, hx'.out, hs'.out, Int.toNat_natCast])
        go_wp2_with (first
          | (go_at_call 16; refine (fits_any x 2 _ (by omega)).mono ?_; rw [hm.out]; rintro e w3 ⟨rfl, rfl⟩)
          | (go_at_call 18; refine (pointer_any g1 0 _ _ k _ (by omega) (by omega)).mono ?_; rintro e w4 ⟨⟨c, hc, rfl⟩, rfl⟩)
          | (go_at_call 17; refine (put_tc 37 g1 _ 2 _ (splice (zs 24) 0 (spP L k)) _ s _ hs'.out (by omega) (by omega) hR.out (by rw [hLen.out]; omega)).mono ?_; rintro e w5 ⟨rfl, hr5, ho5⟩; have hR5 := Lib.hid (hsplit.out ▸ hr5); have hB5 := Lib.hid (below_oth hB.out ho5 hg1'.out); clear hr5 ho5))
        exact ⟨⟨k + 1, by omega, by go_num, fun j hj => by
          by_cases e : j = k
          · subst e; rw [hx'.out]; exact hm.out
          · exact hM.out j (by omega), hR5.out, hB5.out⟩, by simp [intOf]; omega⟩
    · obtain rfl : k = 12 := by omega
      have hlen := spP_length L 12
      have hsp : splice (zs 24) 0 (spP L 12) = spP L 12 := by simp [splice, hlen, zs]
      have hR4 := hR.out
      rw [hsp] at hR4
      have hR5 := Lib.hid hR4
      have hlen' := Lib.hid hlen
      clear hlen hsp hR4
      go_wp2_with (go_at_call 19; refine (seal_n (n := 24) 80 _ _ (spP L 12) _ hlen'.out (by decide) (by decide) (spP_octs L 12) (by decide) hR5.out.bat).mono ?_; rintro e w5 ⟨g5, rfl, hg5, hr5, hb5⟩; have hend := Lib.hid (show SealPost 80 (spP L 12) w _ w5 from ⟨g5, rfl, Nat.le_trans hB.out.size hg5, hr5, below_two hB.out hb5⟩); clear hr5 hb5)
      go_ret2
      exact .inl ⟨may12_iff.2 hM.out, hend.out⟩
theorem ptrLay_no (L : List Int) (w : World) (hL : L.length = 12) (h : may12 L = false) : Calls Try.prog 7 #[av L] w (Tells noPtr w) :=
  (ptrLay_any L w hL).mono fun _ _ h2 => h2.elim (fun h3 => absurd (h3.1.symm.trans h) (by decide)) (fun h3 => h3.2)
theorem ptrLay_ok (L : List Int) (w : World) (hL : L.length = 12) (h : may12 L = true) : Calls Try.prog 7 #[av L] w (SealPost 80 (spP L 12) w) :=
  (ptrLay_any L w hL).mono fun _ _ h2 => h2.elim (fun h3 => h3.2) (fun h3 => absurd (h3.1.symm.trans h) (by decide))
end Go.Proofs.Ytdpmpchmbjcocaa
