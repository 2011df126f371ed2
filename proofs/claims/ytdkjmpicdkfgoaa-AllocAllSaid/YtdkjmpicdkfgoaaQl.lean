/-
  What every program answers that is one.
-/
import Derived.Test.YtdkjmpicdkfgoaaQk

namespace Go.Proofs.Ytdkjmpicdkfgoaa
open Go.RowKit BigFrame Fl

theorem polE_pos {i b : Nat} (hi : 4 ≤ i) (hb : 16 ≤ b) (q : Bool) : polE i b q ≠ 0 := by cases q <;> simp [polE] <;> omega
theorem polE_le {i b : Nat} (hi : i ≤ 32) (hb : b ≤ 96) (q : Bool) : polE i b q ≤ 1000000 := by cases q <;> simp [polE] <;> omega
theorem kf_ge (X : Nat → List Nat) (o e : Nat) (near : Int) (k : Nat) : kN ≤ kf X o e near k := kS_ge _ _ _
theorem kf_pos {X : Nat → List Nat} {o e : Nat} (near : Int) {k : Nat} (h : 0 < freeN X o e k) (he : e ≤ 1000000) (e0 : e ≠ 0) : kN < kf X o e near k := kS_pos h (Nat.le_trans (freeN_le X o e k) he) he e0
theorem kf_zero {X : Nat → List Nat} {o e : Nat} (near : Int) {k : Nat} (h : freeN X o e k = 0) : kf X o e near k = kN := by unfold kf; rw [h, kS_zero]
/-- of one group that has one that is free -/
theorem group_one {i b : Nat} {X : Nat → List Nat} (near : Int) (q : Bool) (h : 0 < freeN X (polO q) (polE i b q) 0) (hi : 4 ≤ i) (hi2 : i ≤ 32) (hb : 16 ≤ b) (hb2 : b ≤ 96) : groupI 1 i b X near q = 0 := by
  unfold groupI
  rw [bestI_is (j := 0) (kf_ge _ _ _ _) (by omega) (kf_pos near h (polE_le hi2 hb2 q) (polE_pos hi hb q)) (fun i hi => by
    obtain rfl : i = 0 := by omega
    exact Int.le_refl _) (fun i hi => by omega)]
  rfl
def wa : Nat → List Nat := X0 4 16
def wb : Nat → List Nat := takeX wa true 0 0
def wc : Nat → List Nat := takeX wb true 0 1
def wd : Nat → List Nat := takeX wc false 0 0
def we : Nat → List Nat := deferX wd 5 0
theorem wa_at : FirstAt 1 4 16 wa 0 true 0 0 := ⟨group_one 0 true (by decide) (by decide) (by decide) (by decide) (by decide), by decide, .inl ⟨0, rfl, by decide, by decide, by decide, fun i _ h => by omega⟩, by decide, by decide⟩
theorem wb_at : FirstAt 1 4 16 wb 0 true 0 1 := ⟨group_one 0 true (by decide) (by decide) (by decide) (by decide) (by decide), by decide, .inl ⟨1, rfl, by decide, by decide, by decide, fun i _ h => by
  obtain rfl : i = 0 := by omega
  decide⟩, by decide, by decide⟩
theorem wc_at : FirstAt 1 4 16 wc 5 false 0 0 := ⟨group_one 5 false (by decide) (by decide) (by decide) (by decide) (by decide), by decide, .inl ⟨0, rfl, by decide, by decide, by decide, fun i _ h => by omega⟩, by decide, by decide⟩
theorem wd_left : leftN 1 4 16 wd true = 2 ∧ leftN 1 4 16 wd false = 15 := by decide
theorem wd_code : deferCode wd 5 0 = 0 ∧ deferCode we 5 0 = 5 ∧ deferX we 5 0 = we := by
  refine ⟨by decide, by decide, ?_⟩
  unfold deferX
  rw [if_neg (by decide)]
theorem we_firm : defTo we 3 4 1 + defTo we 21 16 1 = 1 := by decide
theorem ok1 : Geom 1 4 16 1 4 16 := ⟨rfl, rfl, rfl, by constructor <;> decide⟩
attribute [irreducible] wa wb wc wd we

/-- a space of a law's own -/
structure Lv (w0 w : World) (s g i b : Nat) (X : Nat → List Nat) : Prop where
  sp : Spc w [s] s g i b X
  lo : w0.heap.size ≤ s
  bl : Below w0.heap.size w0 w
variable {w0 w w' : World} {s g i b : Nat} {X Y : Nat → List Nat}
theorem Lv.below (h : Lv w0 w s g i b X) (hb : Below w.heap.size w w') : Lv w0 w' s g i b X := ⟨h.sp.below hb, h.lo, h.bl.trans (hb.mono h.bl.size)⟩
theorem Lv.turn (h : Lv w0 w s g i b X) (hS : Sp w' [s] s g i b Y) (hT : TurnF [s] w w') : Lv w0 w' s g i b Y := ⟨⟨hS, h.sp.ok⟩, h.lo, h.bl.trans (hT.below h.bl.size (fun k hk => by simp at hk; rw [hk]; exact h.lo))⟩
theorem Lv.drew (h : Lv w0 w s g i b X) (m : Nat) : Lv w0 (w.drewN m) s g i b X := h.below (below_drewN w m)
theorem Lv.told {e : Ending} {v : Value} (h : Lv w0 w s g i b X) (ht : Told v w e w') : Lv w0 w' s g i b X := by
  obtain ⟨_, m, rfl⟩ := ht
  exact h.drew m
set_option maxHeartbeats 2000000 in
theorem awake_any (w : World) : Calls Try.prog 7 #[] w (Tells (.bool true) w) := by
  go_enter Try.func7, Try.ntmps7
  go_wp2_with fail
  refine (new_ok 1 4 16 1 4 16 _ ok1).mono ?_
  rintro e w1 ⟨s, rfl, hs, hS, hb⟩
  have L1 := Lib.hid (show Lv w w1 s 1 4 16 wa from ⟨by unfold wa; exact hS, hs, hb⟩)
  clear hs hS hb
  go_wp2_with fail
  refine (inode_some 0 0 0 1 L1.out.sp wa_at rfl).mono ?_
  rintro e w2 ⟨rfl, hS, hT⟩
  have L2 := Lib.hid (show Lv w w2 s 1 4 16 wb from L1.out.turn (by unfold wb; exact hS) hT)
  clear hS hT L1
  go_wp2_with fail
  refine (inode_some 0 0 1 2 L2.out.sp wb_at rfl).mono ?_
  rintro e w3 ⟨rfl, hS, hT⟩
  have L3 := Lib.hid (show Lv w w3 s 1 4 16 wc from L2.out.turn (by unfold wc; exact hS) hT)
  clear hS hT L2
  go_wp2_with fail
  refine (block_some 5 0 0 4 L3.out.sp wc_at rfl).mono ?_
  rintro e w4 ⟨rfl, hS, hT⟩
  have L4 := Lib.hid (show Lv w w4 s 1 4 16 wd from L3.out.turn (by unfold wd; exact hS) hT)
  clear hS hT L3
  go_wp2_with fail
  refine (left_c 2 15 L4.out.sp (by rw [wd_left.1]; rfl) (by rw [wd_left.2]; rfl)).mono ?_
  rintro e w5 ⟨rfl, m5, rfl⟩
  have L5 := Lib.hid (L4.out.drew m5)
  clear L4
  go_wp2_with fail
  refine (defer_in (o := 3) (e := 4) 0 0 1 0 L5.out.sp (.inl ⟨rfl, rfl⟩) (by decide) (by decide) (.inl ⟨rfl, rfl, rfl⟩)).mono ?_
  rintro e w6 ⟨rfl, hS, hT⟩
  have L6 := Lib.hid (show Lv w w6 s 1 4 16 we from L5.out.turn (by unfold we; exact hS) hT)
  rw [show deferCode wd (3 + 2 + 2 * 0) 0 = 0 from wd_code.1]
  clear hS hT L5
  go_wp2_with fail
  refine (defer_in (o := 3) (e := 4) 0 0 1 0 L6.out.sp (.inl ⟨rfl, rfl⟩) (by decide) (by decide) (.inl ⟨rfl, rfl, rfl⟩)).mono ?_
  rintro e w7 ⟨rfl, hS, hT⟩
  have L7 := Lib.hid (show Lv w w7 s 1 4 16 we from L6.out.turn (by have h := hS; rw [show deferX we (3 + 2 + 2 * 0) 0 = we from wd_code.2.2] at h; exact h) hT)
  rw [show deferCode we (3 + 2 + 2 * 0) 0 = 5 from wd_code.2.1]
  clear hS hT L6
  go_wp2_with fail
  refine (firm_s 1 L7.out.sp (by rw [we_firm]; rfl)).mono ?_
  rintro e w8 ⟨rfl, hS, hT⟩
  have L8 := Lib.hid (L7.out.turn hS hT)
  clear hS hT L7
  go_wp2_with fail
  refine (new_no 0 0 0 _ (by decide)).mono ?_
  rintro e w9 ⟨rfl, hb⟩
  have B9 := Lib.hid (L8.out.bl.trans (hb.mono L8.out.bl.size))
  clear hb L8
  go_wp2_with fail
  go_ret
  exact ⟨rfl, B9.out⟩
end Go.Proofs.Ytdkjmpicdkfgoaa
