/-
  A new space: New.
-/
import Derived.Test.YtdkjmpicdkfgoaaQj
import Derived.Test.YtdkjmpicdkfgoaaG4
import Derived.Deep.RegionHeld3

namespace Go.Proofs.Ytdkjmpicdkfgoaa
open Go.RowKit BigFrame Fl

theorem eighteen {M : List Value} (h : M.length = 18) : ∃ a0 a1 a2 a3 a4 a5 a6 a7 a8 a9 a10 a11 a12 a13 a14 a15 a16 a17, M = [a0, a1, a2, a3, a4, a5, a6, a7, a8, a9, a10, a11, a12, a13, a14, a15, a16, a17] := by
  match M, h with
  | [a0, a1, a2, a3, a4, a5, a6, a7, a8, a9, a10, a11, a12, a13, a14, a15, a16, a17], _ => exact ⟨a0, a1, a2, a3, a4, a5, a6, a7, a8, a9, a10, a11, a12, a13, a14, a15, a16, a17, rfl⟩
theorem Try.sizeSpace : (Try.prog.info? 65).map (·.size) = some 39 := by kernel_rfl
theorem bdW_of (ps : Array (Nat × Value)) : Instr.build 65 ps = bdA 65 ps := rfl
def spc0 (g i b : Int) (M N : List Value) : List Value := [.int .i64 g, .int .i64 i, .int .i64 b] ++ M ++ N
theorem run_bdW (w : World) (g i b : Int) {M N : List Value} (hM : M.length = 18) (hN : N.length = 18) :
    (bdA 65 #[(0, .agg #[.int .i64 g, .int .i64 i, .int .i64 b]), (1, .agg M.toArray), (2, .agg N.toArray)]).run Try.prog w = .ok (.agg (spc0 g i b M N).toArray) w := by
  obtain ⟨a0, a1, a2, a3, a4, a5, a6, a7, a8, a9, a10, a11, a12, a13, a14, a15, a16, a17, rfl⟩ := eighteen hM
  obtain ⟨b0, b1, b2, b3, b4, b5, b6, b7, b8, b9, b10, b11, b12, b13, b14, b15, b16, b17, rfl⟩ := eighteen hN
  unfold bdA
  exact run_build w _ _ _ (by kernel_rfl)
/-- nothing is taken -/
def X0 (i b : Nat) (c : Nat) : List Nat := zs ((wid i b c + 7) / 8)
theorem spc0_sp {w w' : World} {B s g i b : Nat} {M N : List Value} (hM : EmptyIn w B g i g M) (hN : EmptyIn w B g b g N) (hg : g ≤ 8) (hT : Below w.heap.size w w') (hs : w.heap.size ≤ s) (hV : Vw w' 65 s (spc0 g i b M N)) :
    Sp w' [s] s g i b (X0 i b) := by
  have lM := hM.len
  have lN := hN.len
  have gM : ∀ j, j < 18 → (spc0 g i b M N)[3 + j]? = M[j]? := fun j hj => by
    unfold spc0
    rw [List.getElem?_append_left (by simp [lM]; omega), List.getElem?_append_right (by simp)]
    congr 1
    simp
  have gN : ∀ j, j < 18 → (spc0 g i b M N)[21 + j]? = N[j]? := fun j hj => by
    unfold spc0
    rw [List.getElem?_append_right (by simp [lM])]
    congr 1
    simp [lM]
  have hlt := hV.lt
  refine ⟨_, hV, by simp [spc0, lM, lN], rfl, rfl, rfl, ?_, ?_, ?_, ?_, by simp, fun f hf => by simp at hf; omega, fun c hc => ?_, fun c _ => Octs.rep _ 0 (by decide), fun c _ => zs_length _⟩
  · rw [gM 0 (by omega)]; exact hM.m0
  · rw [gM 1 (by omega)]; exact hM.m1
  · rw [gN 0 (by omega)]; exact hN.m0
  · rw [gN 1 (by omega)]; exact hN.m1
  · obtain ⟨k, d, hk, hd, rfl | rfl⟩ := hc
    · obtain ⟨q, e1, e2, e3, e4⟩ := hM.set (2 + 2 * k + d) (by omega) (by omega)
      rw [show 5 + 2 * k + d = 3 + (2 + 2 * k + d) by omega, gM _ (by omega), e1]
      have ew : wid i b (3 + (2 + 2 * k + d)) = i := if_pos (by omega)
      exact ⟨_, rfl, q, (i + 7) / 8, by unfold X0; rw [zs_length, ew], by unfold X0; rw [zs_length, ew]; exact Nat.le_refl _, Nat.lt_of_lt_of_le e3 hT.size, by simp; omega, by unfold X0; rw [ew]; exact e4.same (hT.block q e3)⟩
    · obtain ⟨q, e1, e2, e3, e4⟩ := hN.set (2 + 2 * k + d) (by omega) (by omega)
      rw [show 23 + 2 * k + d = 21 + (2 + 2 * k + d) by omega, gN _ (by omega), e1]
      have ew : wid i b (21 + (2 + 2 * k + d)) = b := if_neg (by omega)
      exact ⟨_, rfl, q, (b + 7) / 8, by unfold X0; rw [zs_length, ew], by unfold X0; rw [zs_length, ew]; exact Nat.le_refl _, Nat.lt_of_lt_of_le e3 hT.size, by simp; omega, by unfold X0; rw [ew]; exact e4.same (hT.block q e3)⟩

theorem new_no (G I B : Int) (w : World) (h : mayZ G I B = false) : Calls Try.prog 8 #[geo G I B] w (Tells (.pointer none) w) := by
  have h' := Lib.hid h
  clear h
  unfold geo
  go_enter Try.func8, Try.ntmps8
  go_wp2_with (go_at_call 30; refine (may_is G I B false _ h'.out).mono ?_; rintro e w1 ⟨rfl, hb⟩; have B1 := Lib.hid hb; clear hb)
  go_ret
  exact ⟨rfl, below_box B1.out⟩
def NewPost (g i b : Nat) (w : World) (e : Ending) (w' : World) : Prop := ∃ s, e = .returned (.pointer (some ⟨s, 0, none⟩)) ∧ w.heap.size ≤ s ∧ Spc w' [s] s g i b (X0 i b) ∧ Below w.heap.size w w'
attribute [local go_sem ↓] bdW_of
set_option maxHeartbeats 2000000 in
theorem new_ok (G I B : Int) (g i b : Nat) (w : World) (h : Geom G I B g i b) : Calls Try.prog 8 #[geo G I B] w (NewPost g i b w) := by
  obtain ⟨rfl, rfl, rfl, ok⟩ := h
  have ok' := Lib.hid ok
  have hg := ok.g2
  have hi := ok.i2
  have hb := ok.b2
  have hbox := boxAt_alloc w g i b 23
  clear ok
  unfold geo
  go_enter Try.func8, Try.ntmps8
  go_wp2_with (go_at_call 30; refine (may_is g i b true _ ok'.out.may).mono ?_; rintro e w1 ⟨rfl, hb⟩; have B1 := Lib.hid (below_box hb); have X1 := Lib.hid (box_on hb hbox); clear hb)
  clear hbox
  obtain ⟨a, ha⟩ : ∃ a, w.heap.size = a := ⟨_, rfl⟩
  rw [ha] at X1 ⊢
  obtain ⟨c0, c1, c2, hlt⟩ := X1.out
  have hbw := fun w M N => run_bdW w (g : Int) (i : Int) (b : Int) (M := M) (N := N)
  have tk0 : True := trivial
  go_region_held3 (fun w' => w'.cell? ⟨a, 0, none⟩ = some (.int .i64 (g : Int)) ∧ w'.cell? ⟨a, 1, none⟩ = some (.int .i64 (i : Int)) ∧ w'.cell? ⟨a, 2, none⟩ = some (.int .i64 (b : Int))) (first | exact ⟨c0, c1, c2⟩ | exact ⟨(((Below.refl w3.heap.size w3).alloc (Nat.le_refl _) _).cell (p := ⟨a, 0, none⟩) hlt).trans c0, (((Below.refl w3.heap.size w3).alloc (Nat.le_refl _) _).cell (p := ⟨a, 1, none⟩) hlt).trans c1, (((Below.refl w3.heap.size w3).alloc (Nat.le_refl _) _).cell (p := ⟨a, 2, none⟩) hlt).trans c2⟩) (first
    | (clear tk0; go_at_call 31; refine (empty_c _ _ _ rfl rfl hg (show i ≤ 96 by omega)).mono ?_; rintro e2 w2 ⟨M, rfl, hE, hb2⟩; have E2 := Lib.hid hE; have B2 := Lib.hid hb2; have X2 := Lib.hid (box_on hb2 X1.out); clear c0 c1 c2 hlt; obtain ⟨c0, c1, c2, hlt⟩ := X2.out; have hbM := fun w N => hbw w M N hE.len; clear hE hb2)
    | (go_at_call 31; refine (empty_c _ _ _ rfl rfl hg hb).mono ?_; rintro e3 w3 ⟨N, rfl, hE, hb3⟩; have E3 := Lib.hid hE; have B3 := Lib.hid hb3; have X3 := Lib.hid (box_on hb3 X2.out); clear c0 c1 c2 hlt; obtain ⟨c0, c1, c2, hlt⟩ := X3.out; have hbN := fun w => hbM w N hE.len; clear hE hb3))
  go_wp2_with fail
  have hA : Below w3.heap.size w3 (w3.alloc (.cells (spc0 (g : Int) (i : Int) (b : Int) M N).toArray 65)) := (Below.refl _ _).alloc (Nat.le_refl _) _
  have hS := spc0_sp (E2.out.below B3.out) (E3.out.lower B2.out.size) hg hA (Nat.le_refl _) (Vw.alloc w3 _ _)
  have hB3 := below_two (below_two B1.out ⟨B2.out.os, B2.out.tape, B2.out.output, B2.out.size, B2.out.block⟩) B3.out
  go_ret
  exact ⟨_, rfl, hB3.size, ⟨hS, ok'.out⟩, below_two hB3 hA⟩
end Go.Proofs.Ytdkjmpicdkfgoaa
