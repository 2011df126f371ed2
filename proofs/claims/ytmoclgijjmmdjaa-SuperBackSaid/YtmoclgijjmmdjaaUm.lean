/-
  What was laid is read again; with a byte another one it is not: the walk.
-/
import Derived.Test.YtmoclgijjmmdjaaUw
import Derived.Test.YtmoclgijjmmdjaaLo
namespace Go.Proofs.Ytmoclgijjmmdjaa
open Go.RowKit BigFrame

set_option maxHeartbeats 1000000 in
theorem back_any (z0 z1 z2 z4 : Int) (o : Bool) (y : Nat) (w : World) (hy : y < 256) :
    Calls Try.prog 4 #[.int .i64 z0, .int .i64 z1, .int .i64 z2, .bool o, .int .i64 z4, .int .u8 (y : Int)] w (Tells (.bool true) w) := by
  have tk0 : True := trivial
  have tk1 : True := trivial
  have tk2 : True := trivial
  have tk3 : True := trivial
  go_enter Try.func4, Try.ntmps4
  go_wp2_with (first
    | (clear tk0; go_at_call 15; refine (low_nat z0 8 _ (by decide) (by decide)).mono ?_; rintro e w1 ⟨k0, hk0, rfl, rfl⟩)
    | (clear tk1; go_at_call 15; refine (low_nat z1 8 _ (by decide) (by decide)).mono ?_; rintro e w1 ⟨k1, hk1, rfl, rfl⟩)
    | (clear tk2; go_at_call 15; refine (low_nat z2 81 _ (by decide) (by decide)).mono ?_; rintro e w1 ⟨k2, hk2, rfl, rfl⟩)
    | (go_at_call 8
       have ok : Ok (1 + k0) (4 + 4 * k1) (16 + k2) := by constructor <;> omega
       have hG0 := geoAt_alloc w (1 + (k0 : Int)) (4 + 4 * (k1 : Int)) (16 + (k2 : Int))
       have hb0 := (Below.refl w.heap.size w).alloc (Nat.le_refl _) (.cells #[.int .i64 (1 + (k0 : Int)), .int .i64 (4 + 4 * (k1 : Int)), .int .i64 (16 + (k2 : Int))] 23)
       obtain ⟨L, hL⟩ : ∃ L, L = superS (1 + k0) (4 + 4 * k1) (16 + k2) o := ⟨_, rfl⟩
       have hso := Lib.hid (show Octs L by rw [hL]; exact ok.sup o)
       have hsl := Lib.hid (show L.length = 128 by rw [hL]; exact superS_length _ _ _ o)
       have hsf := Lib.hid (show fitsB L = true by rw [hL]; exact superS_fits _ _ _ o)
       have hrd := Lib.hid (show readOf L = .tuple #[geo (1 + (k0 : Int)) (4 + 4 * (k1 : Int)) (16 + (k2 : Int)), .bool o, .int .i64 0] by rw [hL, readOf_super o ok, show ((1 + k0 : Nat) : Int) = 1 + (k0 : Int) by omega, show ((4 + 4 * k1 : Nat) : Int) = 4 + 4 * (k1 : Int) by omega, show ((16 + k2 : Nat) : Int) = 16 + (k2 : Int) by omega])
       refine (lay_c (1 + k0) (4 + 4 * k1) (16 + k2) o _ ok (by omega) (by omega) (by omega) hL).mono ?_
       rintro e w1 ⟨g1, rfl, hg1, hr1, hb1⟩
       have hR1 := Lib.hid hr1
       have hG1 := Lib.hid (hG0.on hb1 hG0.lt)
       have hB1 := Lib.hid (below_two hb0 hb1)
       have hg1' := Lib.hid hg1
       clear hr1 hb1 hG0 hb0 hL ok hg1)
    | (clear tk3; go_at_call 10; refine (read_any _ _ 128 L _ hsl.out hso.out (by omega) hR1.out.bat).mono ?_; rw [hrd.out]; unfold geo; rintro e w2 ⟨rfl, hb2⟩; have hG2 := Lib.hid (hG1.out.on hb2 hG1.out.lt); have hB2 := Lib.hid (below_two hB1.out hb2); have hR2 := Lib.hid (hR1.out.on hb2 hR1.out.lt); clear hb2)
    | (go_at_call_of 15 z4; refine (low_nat z4 128 _ (by decide) (by decide)).mono ?_; rintro e w3 ⟨k4, hk4, rfl, rfl⟩; have c4 := hR2.out.cell (k := k4) (by rw [hsl.out]; exact hk4); have f4 := hR2.out.frozen k4; have hlt2 := hR2.out.lt; have hne2 : ¬ g1 = w2.heap.size := Nat.ne_of_lt hR2.out.lt))
  have hbk := hso.out k4 (by rw [hsl.out]; exact hk4)
  have ev : bits .xor .u8 ((bz L k4 : Nat) : Int) (y : Int) = ((bz L k4 ^^^ y : Nat) : Int) := u8_xor_nat _ _ hbk hy
  have hv8 : bz L k4 ^^^ y < 256 := by
    have h := Nat.xor_lt_two_pow (n := 8) (x := bz L k4) (y := y) (by simpa using hbk) (by simpa using hy)
    simpa using h
  have hflip : 0 < y → kindOf (L.set k4 (bz L k4 ^^^ y)) = 0 := fun h0 => kindOf_flip hso.out hsl.out hsf.out hk4 h0 hy
  have hsame : y = 0 → L.set k4 (bz L k4 ^^^ y) = L := fun h0 => by
    subst h0
    rw [Nat.xor_zero, bz_get (by rw [hsl.out]; exact hk4)]
    exact List.set_getElem_self _
  rw [ev]
  obtain ⟨v8, hv8e⟩ : ∃ v8, v8 = bz L k4 ^^^ y := ⟨_, rfl⟩
  rw [← hv8e] at hv8 hflip hsame ⊢
  have hgg : w.heap.size + 1 ≤ g1 := by simpa using hg1'.out
  have hsz : (w2.setCell ⟨g1, k4, none⟩ (.int .u8 (v8 : Int))).heap.size = w2.heap.size := by simp [World.setCell]
  have hH := geoAt_alloc (w2.setCell ⟨g1, k4, none⟩ (.int .u8 (v8 : Int))) (1 + (k0 : Int)) (4 + 4 * (k1 : Int)) (16 + (k2 : Int))
  rw [hsz] at hH
  have hb3 : ∀ B, B ≤ g1 → B ≤ w2.heap.size → Below B w2 ((w2.setCell ⟨g1, k4, none⟩ (.int .u8 (v8 : Int))).alloc (.cells #[.int .i64 (1 + (k0 : Int)), .int .i64 (4 + 4 * (k1 : Int)), .int .i64 (16 + (k2 : Int))] 23)) := fun B h1 h2 =>
    ((Below.refl B w2).setCell (p := ⟨g1, k4, none⟩) h1 _).alloc (by rw [hsz]; exact h2) _
  have hRb := (hR2.out.set k4 v8).on ((Below.refl _ _).alloc (Nat.le_refl _) (.cells #[.int .i64 (1 + (k0 : Int)), .int .i64 (4 + 4 * (k1 : Int)), .int .i64 (16 + (k2 : Int))] 23)) (by rw [hsz]; exact hlt2)
  obtain ⟨w3, hw3⟩ : ∃ w3, w3 = (w2.setCell ⟨g1, k4, none⟩ (.int .u8 (v8 : Int))).alloc (.cells #[.int .i64 (1 + (k0 : Int)), .int .i64 (4 + 4 * (k1 : Int)), .int .i64 (16 + (k2 : Int))] 23) := ⟨_, rfl⟩
  rw [← hw3] at hH hb3 hRb ⊢
  have hzz := hG2.out.lt
  have hR3 := Lib.hid hRb
  have hH3 := Lib.hid hH
  have hG3 := Lib.hid (hG2.out.on (hb3 (w.heap.size + 1) hgg hzz) (Nat.lt_succ_self _))
  have hB3 := Lib.hid (hB2.out.trans (hb3 w.heap.size (by omega) (by omega)))
  have hl3 := Lib.hid (show (L.set k4 v8).length = 128 by rw [List.length_set]; exact hsl.out)
  have ho3 := Lib.hid (hso.out.set (k := k4) hv8)
  clear hw3 hH hb3 hRb hsz ev hv8e hbk c4 f4 hgg hlt2 hne2 hzz
  by_cases h0 : y = 0
  · have hrd3 := Lib.hid (show readOf (L.set k4 v8) = .tuple #[geo (1 + (k0 : Int)) (4 + 4 * (k1 : Int)) (16 + (k2 : Int)), .bool o, .int .i64 0] by rw [hsame h0]; exact hrd.out)
    clear hflip hsame hv8 hy
    subst h0
    go_wp2_with (first
      | (go_at_call 10; refine (read_any _ _ 128 (L.set k4 v8) w3 hl3.out ho3.out (by omega) hR3.out.bat).mono ?_; rw [hrd3.out]; unfold geo; rintro e w4 ⟨rfl, hb4⟩; have hG4 := Lib.hid (hG3.out.on hb4 hG3.out.lt); have hH4 := Lib.hid (hH3.out.on hb4 hH3.out.lt); have hB4 := Lib.hid (below_two hB3.out hb4); obtain ⟨x0, x1, x2, xlt⟩ := hG4.out.box; obtain ⟨y0, y1, y2, ylt⟩ := hH4.out.box; clear hb4)
      | (go_at_call 6; refine (awake_any _).mono ?_; rintro e w5 ⟨rfl, hb5⟩; have hend := Lib.hid (below_two (hB4.out.alloc hB4.out.size _) hb5); clear hb5))
    go_ret
    exact ⟨rfl, hend.out⟩
  · have hrd3 := Lib.hid (readOf_no (l := L.set k4 v8) (fun h => by have := hflip (by omega); omega))
    have t0 : ((y : Int) == 0) = false := by rw [beq_eq_false_iff_ne]; omega
    clear hflip hsame hv8 hy h0
    go_wp2_with (first
      | (go_at_call 10; refine (read_any _ _ 128 (L.set k4 v8) w3 hl3.out ho3.out (by omega) hR3.out.bat).mono ?_; rw [hrd3.out]; unfold geo; rintro e w4 ⟨rfl, hb4⟩; have hG4 := Lib.hid (hG3.out.on hb4 hG3.out.lt); have hH4 := Lib.hid (hH3.out.on hb4 hH3.out.lt); have hB4 := Lib.hid (below_two hB3.out hb4); obtain ⟨x0, x1, x2, xlt⟩ := hG4.out.box; obtain ⟨y0, y1, y2, ylt⟩ := hH4.out.box; clear hb4)
      | (go_at_call 6; refine (awake_any _).mono ?_; rintro e w5 ⟨rfl, hb5⟩; have hend := Lib.hid (below_two (hB4.out.alloc hB4.out.size _) hb5); clear hb5))
    go_ret
    exact ⟨rfl, hend.out⟩
end Go.Proofs.Ytmoclgijjmmdjaa
