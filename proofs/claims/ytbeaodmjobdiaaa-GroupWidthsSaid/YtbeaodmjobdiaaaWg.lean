/-
  What every program answers that is one.
-/
import Derived.Test.YtbeaodmjobdiaaaWc
import Derived.Test.YtbeaodmjobdiaaaWl
import Derived.Test.YtbeaodmjobdiaaaBv
namespace Go.Proofs.Ytbeaodmjobdiaaa
open Go.RowKit BigFrame

theorem new_b (w : World) (l : List Nat) {arr : Array Value} (h : (bv l).toArray = arr) : BAt (w.alloc (.cells arr 5)) (some ⟨w.heap.size, 0, none⟩) l := by
  subst h; exact (row_alloc w l).bat
theorem wake_back : codeG (laidG [1] [0, 3]) 8 16 = 0 ∧ inoG (laidG [1] [0, 3]) 8 16 = [1] ∧ blkG (laidG [1] [0, 3]) 8 16 = [0, 3] :=
  laid_back (n := 8) (m := 16) (by decide) rfl rfl (by decide) (by decide)
theorem wake_arg : codeG (laidG [1] [0, 3]) 3 16 = 2 ∧ inoG (laidG [1] [0, 3]) 3 16 = [] ∧ blkG (laidG [1] [0, 3]) 3 16 = [] := code_arg (by decide)

set_option maxHeartbeats 1000000 in
theorem groupAwake_any (w : World) : Calls Try.prog 6 #[] w (Tells (.bool true) w) := by
  have o1 := Octs.cons (x := 1) (by decide) .nil
  have o2 := Octs.cons (x := 0) (by decide) (.cons (x := 3) (by decide) .nil)
  have hB0 := ((Below.refl w.heap.size w).alloc (Nat.le_refl _) (.cells (bv [1]).toArray 5))
  have x1 := (row_alloc w [1]).bat
  have hB1 := hB0.alloc hB0.size (.cells (bv [0, 3]).toArray 5)
  have x2 := (row_alloc (w.alloc (.cells (bv [1]).toArray 5)) [0, 3]).bat
  have x3 := x1.on ((Below.refl _ (w.alloc (.cells (bv [1]).toArray 5))).alloc (Nat.le_refl _) (.cells (bv [0, 3]).toArray 5)) (Nat.le_refl _)
  have n1 := fun w => new_b w [1] (arr := #[.int .u8 1]) rfl
  have n2 := fun w => new_b w [0, 3] (arr := #[.int .u8 0, .int .u8 3]) rfl
  have a1 : (bv [1]).toArray = #[Value.int .u8 1] := rfl
  have a2 : (bv [0, 3]).toArray = #[Value.int .u8 0, Value.int .u8 3] := rfl
  have hs : (w.alloc (.cells #[.int .u8 1] 5)).heap.size = w.heap.size + 1 := by simp
  rw [a1, a2] at hB1 x2 x3
  rw [hs] at x2
  have e1 := wake_back
  have e2 := wake_arg
  have l1 : [1].length = 1 := rfl
  have l2 : [0, 3].length = 2 := rfl
  have h1 : (laidG [1] [0, 3]).length = 128 := laid_length (by decide) (by decide)
  have h2 : Octs (laidG [1] [0, 3]) := laid_octs o1 o2
  obtain ⟨L, hL⟩ : ∃ L, laidG [1] [0, 3] = L := ⟨_, rfl⟩
  have hL0 : sealed 71 (bodyG [1] [0, 3]) = L := hL
  rw [hL] at e1 e2 h1 h2
  clear hL
  obtain ⟨P, hP⟩ : ∃ P, [1] = P := ⟨_, rfl⟩
  obtain ⟨Q, hQ⟩ : ∃ Q, [0, 3] = Q := ⟨_, rfl⟩
  rw [hP] at x3 n1 e1 hL0 o1 l1
  rw [hQ] at x2 n2 e1 hL0 o2 l2
  have H1 := Lib.hid hB1
  have X2 := Lib.hid x2
  have X3 := Lib.hid x3
  have E1 := Lib.hid e1
  have E2 := Lib.hid e2
  have HL := Lib.hid hL0
  have O1 := Lib.hid o1
  have O2 := Lib.hid o2
  have L1 := Lib.hid l1
  have L2 := Lib.hid l2
  have Ll := Lib.hid h1
  have Lo := Lib.hid h2
  have N1 := Lib.hid n1
  have N2 := Lib.hid n2
  clear hB0 hB1 x1 x2 x3 a1 a2 hs o1 o2 e1 e2 hL0 l1 l2 h1 h2 n1 n2 hP hQ
  have tk1 : True := trivial
  have tk2 : True := trivial
  go_enter Try.func6, Try.ntmps6
  go_wp2_with (first
    | (go_at_call 8; refine (groupLay_c _ _ _ _ 1 2 P Q L _ HL.out (by decide) L1.out L2.out O1.out O2.out X3.out X2.out).mono ?_; rintro e w1 ⟨g1, rfl, hg1, hr1, hb1⟩; have R1 := Lib.hid hr1; have B1 := Lib.hid (H1.out.trans (hb1.mono H1.out.size)); clear hr1 hb1)
    | (clear tk1; go_at_call 10; refine (groupRead_r _ _ 128 8 16 0 L P Q _ E1.out Ll.out Lo.out (by decide) R1.out.bat).mono ?_; rintro e w2 ⟨v1, v2, rfl, hv1, hv2, _, hb2⟩; have A1 := Lib.hid (show Ans w1 w2 v1 P from hv1); have A2 := Lib.hid (show Ans w1 w2 v2 Q from hv2); have R2 := Lib.hid (R1.out.on hb2 R1.out.lt); have B2 := Lib.hid (below_two B1.out hb2); clear hv1 hv2 hb2)
    | (clear tk2; go_at_call 10; refine (groupRead_r _ _ 128 3 16 2 L [] [] _ E2.out Ll.out Lo.out (by decide) R2.out.bat).mono ?_; rintro e w3 ⟨v3, v4, rfl, _, _, _, hb3⟩; have C1 := Lib.hid ((A1.out.bv).on hb3); have C2 := Lib.hid ((A2.out.bv).on hb3); have D3 := Lib.hid ((Below.refl w3.heap.size w3).alloc (Nat.le_refl _) (.cells #[.int .u8 1] 5)); have B3 := Lib.hid (below_two (below_two B2.out hb3) D3.out); have S1 := Lib.hid (show BV _ (.slice (some ⟨w3.heap.size, 0, none⟩) 1 1) P from ⟨_, 1, 1, rfl, L1.out, N1.out w3⟩); clear hb3)
    | (go_at_call_of 12 v1; refine (same_u v1 _ P _ (by rw [L1.out]; omega) (C1.out.on D3.out) S1.out).mono ?_; rintro e w4 ⟨rfl, hb4⟩; have D4 := Lib.hid ((Below.refl w4.heap.size w4).alloc (Nat.le_refl _) (.cells #[.int .u8 0, .int .u8 3] 5)); have B4 := Lib.hid (below_two (below_two B3.out hb4) D4.out); have C4 := Lib.hid (((C2.out.on D3.out).on hb4).on D4.out); have S2 := Lib.hid (show BV _ (.slice (some ⟨w4.heap.size, 0, none⟩) 2 2) Q from ⟨_, 2, 2, rfl, L2.out, N2.out w4⟩); clear hb4)
    | (go_at_call_of 12 v2; refine (same_u v2 _ Q _ (by rw [L2.out]; omega) C4.out S2.out).mono ?_; rintro e w5 ⟨rfl, hb5⟩; have hend := Lib.hid (below_two B4.out hb5); clear hb5))
  go_ret
  exact ⟨rfl, hend.out⟩
end Go.Proofs.Ytbeaodmjobdiaaa
