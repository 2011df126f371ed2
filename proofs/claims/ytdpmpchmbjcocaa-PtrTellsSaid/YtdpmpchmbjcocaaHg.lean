/-
  What the document's own Lay makes.
-/
import Derived.Test.YtdpmpchmbjcocaaHd
import Derived.Test.YtdpmpchmbjcocaaSe
import Derived.Test.YtdpmpchmbjcocaaYl
import Derived.Deep.RegionHeld3
import Derived.Deep.LoopGhost
namespace Go.Proofs.Ytdpmpchmbjcocaa
open Go.RowKit BigFrame

/-- the bytes so far, as a slice of the call's own; the twelve in their block -/
def RpAt (L : List Int) (B : Nat) (w : World) (v : Value) (P : List Nat) (wr : World) : Prop :=
  OwnB wr w.heap.size v P ∧ Vi wr 22 B L ∧ Below w.heap.size w wr
theorem RpAt.drew {L : List Int} {B : Nat} {w wr : World} {v : Value} {P : List Nat} (h : RpAt L B w v P wr) : RpAt L B w v P wr.drew := ⟨h.1, h.2.1, h.2.2.drew⟩
theorem RpAt.on {L : List Int} {B : Nat} {w wr wx : World} {v : Value} {P : List Nat} (h : RpAt L B w v P wr) (hb : Below wr.heap.size wr wx) : RpAt L B w v P wx :=
  ⟨h.1.on hb (Nat.le_refl _), h.2.1.on' hb, below_two h.2.2 hb⟩
theorem RpAt.grown {L : List Int} {B : Nat} {w wr wx : World} {v v' : Value} {P P' : List Nat} (h : RpAt L B w v P wr) (ho : OwnB wx w.heap.size v' P') (hg : wr.grownBy wx v.ownBlock) : RpAt L B w v' P' wx :=
  ⟨ho, h.2.1.grown hg (own_apart h.1 h.2.1 (by decide)), h.2.2.trans (h.1.grown hg h.2.2.size)⟩
theorem RpAt.cell {L : List Int} {B : Nat} {w wr : World} {v : Value} {P : List Nat} (h : RpAt L B w v P wr) {k : Nat} (hk : k < L.length) : wr.cell? ⟨B, k, none⟩ = some (.int .i64 (zi L k)) := h.2.1.cell hk
def RpRel (L : List Int) (B : Nat) (w : World) (v i : Value) (wr : World) : Prop := ∃ k : Nat, k ≤ 12 ∧ i = .int .i64 k ∧ mayP L k ∧ RpAt L B w v (spP L k) wr
def RefPlPost (L : List Int) (w : World) (e : Ending) (w' : World) : Prop := (may12 L = true ∧ RefSealPost 80 (spP L 12) w e w') ∨ (may12 L = false ∧ e = .returned noPtr ∧ Below w.heap.size w w')

attribute [local go_sem ↓] ldT_of
set_option maxHeartbeats 2000000 in
theorem refPtrLay_any (L : List Int) (w : World) (hL : L.length = 12) :
    Calls Try.prog 8 #[av L] w (RefPlPost L w) := by
  have hL' := Lib.hid hL
  have hV := Vi.alloc w L 22
  have hb0 := (Below.refl w.heap.size w).alloc (Nat.le_refl _) (.cells (iv L).toArray 22)
  have h0 := Lib.hid (show RpRel L w.heap.size w (.slice none 0 0) (.int .i64 0) (w.alloc (.cells (iv L).toArray 22)) from ⟨0, by omega, rfl, fun k hk => by omega, OwnB.nil _ _, hV, hb0⟩)
  clear hV hL hb0
  unfold av
  go_enter Try.func8, Try.ntmps8
  go_wp2_with fail
  go_loopw [4, 5] (fun v i wr => RpRel L w.heap.size w v i wr) (fun _ i _ => 12 - (intOf i).toNat)
  case atStart => exact h0.out
  case round =>
    obtain ⟨k, hk, rfl, hmay, hS⟩ := hrel
    have hM := Lib.hid hmay
    have S1 := Lib.hid hS
    clear hmay hS
    by_cases hlt : k < 12
    · have k0 : (0 : Int) ≤ (k : Int) := by omega
      have k12 : (k : Int) < 12 := by omega
      obtain ⟨x, hx⟩ : ∃ x, zi L k = x := ⟨_, rfl⟩
      have c0 := S1.out.cell (k := k) (by rw [hL'.out]; omega)
      rw [hx] at c0
      have hx' := Lib.hid hx
      clear hx
      cases hm0 : fitsN x 2
      · have hm := Lib.hid hm0
        have hno := Lib.hid (may12_no hlt (by rw [hx'.out]; exact hm0))
        have hxx : ¬ (0 ≤ x ∧ x < 65536) := fun h => by rw [fits2_iff.2 h] at hm0; cases hm0
        clear hm0
        by_cases hneg : x < 0
        · clear hxx
          go_wp2_with fail
          go_ret2
          exact .inr ⟨hno.out, rfl, S1.out.2.2⟩
        · have hbig : 65535 < x := by omega
          clear hxx
          go_wp2_with fail
          go_ret2
          exact .inr ⟨hno.out, rfl, S1.out.2.2⟩
      · have hm := Lib.hid hm0
        obtain ⟨s, hs0, hs⟩ := fits2_nat hm0
        have hs' := Lib.hid hs0
        rw [hs0] at c0
        clear hm0 hs0
        have e0 : (bv (be 2 s)).toArray = #[Value.int .u8 ((s : Int) / 256 % 256), .int .u8 ((s : Int) % 256)] := by simp [bv, be_two]
        have hbA := (Below.refl wr.heap.size wr).alloc (Nat.le_refl _) (.cells (bv (be 2 s)).toArray 5)
        have hr0 := (row_alloc wr (be 2 s)).bat
        have SA := S1.out.on hbA
        rw [e0] at hr0 SA
        have hr1 := Lib.hid (show BAt (wr.alloc (.cells #[.int .u8 ((s : Int) / 256 % 256), .int .u8 ((s : Int) % 256)] 5)).drew (some ⟨wr.heap.size, 0, none⟩) (be 2 s) from hr0)
        have SB := Lib.hid SA.drew
        have k1 := SA.drew.cell (k := k) (by rw [hL'.out]; omega)
        rw [hx'.out, hs'.out] at k1
        clear e0 hbA hr0 SA
        go_wp2_with fail
        go_region_held3 (fun w' => w'.cell? ⟨w.heap.size, k, none⟩ = some (.int .i64 (s : Int))) (first | exact c0 | exact k1 | exact q0) (first
          | (refine step_append_bytes (by rfl) (.tmp 20) (.tmp 30) (by rfl) w.heap.size _ (spP L k) (by rfl) SB.out.1 ⟨wr.heap.size, 0, none⟩ 2 2 (be 2 s) (by rfl) (be_length 2 s) hr1.out (by rw [spP_length]; omega) SB.out.2.2.size ?_; intro v4 w4 hv4 hg4; have S4 := Lib.hid (SB.out.grown hv4 hg4); have q0 := S4.out.cell (k := k) (by rw [hL'.out]; omega); rw [hx'.out, hs'.out] at q0; clear hv4 hg4))
        have S5 := Lib.hid (show RpAt L w.heap.size w v4 (spP L (k + 1)) w4 by
          have := S4.out
          rwa [show be 2 s = be 2 (zi L k).toNat by rw [hx'.out, hs'.out, Int.toNat_natCast]] at this)
        clear c0 k1 q0
        go_wp2_with fail
        exact ⟨⟨k + 1, by omega, by go_num, fun j hj => by
          by_cases e : j = k
          · subst e; rw [hx'.out]; exact hm.out
          · exact hM.out j (by omega), S5.out⟩, by simp [intOf]; omega⟩
    · obtain rfl : k = 12 := by omega
      obtain ⟨sa, sc, rfl, hbt, hnil, hcap⟩ := S1.out.1.slice
      have hlen := Lib.hid (spP_length L 12)
      have hbt' := Lib.hid hbt
      have hnil' := Lib.hid hnil
      clear hbt hnil hcap
      go_wp2_with (go_at_call 20; refine (refSeal_any 80 _ _ _ (spP L 12) _ rfl (by decide) (by decide) (spP_octs L 12) (by rw [hlen.out]; omega) hbt'.out hnil'.out).mono ?_; rintro e w5 ⟨g5, c5, rfl, hg5, hc5, hr5, hb5⟩; have hend := Lib.hid (show RefSealPost 80 (spP L 12) w _ w5 from ⟨g5, c5, rfl, Nat.le_trans S1.out.2.2.size hg5, hc5, hr5, below_two S1.out.2.2 hb5⟩); clear hr5 hb5)
      go_ret2
      exact .inl ⟨may12_iff.2 hM.out, hend.out⟩
theorem refPtrLay_no (L : List Int) (w : World) (hL : L.length = 12) (h : may12 L = false) : Calls Try.prog 8 #[av L] w (Tells noPtr w) :=
  (refPtrLay_any L w hL).mono fun _ _ h2 => h2.elim (fun h3 => absurd (h3.1.symm.trans h) (by decide)) (fun h3 => h3.2)
theorem refPtrLay_ok (L : List Int) (w : World) (hL : L.length = 12) (h : may12 L = true) : Calls Try.prog 8 #[av L] w (RefSealPost 80 (spP L 12) w) :=
  (refPtrLay_any L w hL).mono fun _ _ h2 => h2.elim (fun h3 => h3.2) (fun h3 => absurd (h3.1.symm.trans h) (by decide))
end Go.Proofs.Ytdpmpchmbjcocaa
