/-
  What every program answers that is one.
-/
import Derived.Test.YtmoclgijjmmdjaaUf
namespace Go.Proofs.Ytmoclgijjmmdjaa
open Go.RowKit BigFrame

theorem ok_awake : Ok 1 4 16 := by constructor <;> omega
theorem readOf_nil : readOf [] = .tuple #[geo 0 0 0, .bool false, .int .i64 3] := readOf_no (fun h => by
  have h1 := kindOf_len (l := []) (by rw [h.1]; omega)
  simp at h1)

set_option maxHeartbeats 1000000 in
theorem awake_any (w : World) : Calls Try.prog 6 #[] w (Tells (.bool true) w) := by
  have ok := Lib.hid ok_awake
  have hG0 := Lib.hid (geoAt_alloc w 1 4 16)
  have hb0 := Lib.hid ((Below.refl w.heap.size w).alloc (Nat.le_refl _) (.cells #[.int .i64 1, .int .i64 4, .int .i64 16] 23))
  obtain ⟨L, hL⟩ : ∃ L, L = superS 1 4 16 true := ⟨_, rfl⟩
  have hso := Lib.hid (show Octs L by rw [hL]; exact ok.out.sup true)
  have hsl := Lib.hid (show L.length = 128 by rw [hL]; exact superS_length 1 4 16 true)
  have hrd := Lib.hid (show readOf L = .tuple #[geo 1 4 16, .bool true, .int .i64 0] by rw [hL]; exact readOf_super true ok.out)
  have hL' := Lib.hid hL
  clear hL
  go_enter Try.func6, Try.ntmps6
  go_wp2_with (first
    | (go_at_call 8; refine (lay_c 1 4 16 true _ ok.out rfl rfl rfl hL'.out).mono ?_; rintro e w1 ⟨g1, rfl, hg1, hr1, hb1⟩; have hR1 := Lib.hid hr1; have hG1 := Lib.hid (hG0.out.on hb1 hG0.out.lt); have hB1 := Lib.hid (below_two hb0.out hb1); clear hr1 hb1)
    | (go_at_call_of 10 g1; refine (read_any _ _ 128 _ _ hsl.out hso.out (by omega) hR1.out.bat).mono ?_; rw [hrd.out]; unfold geo; rintro e w2 ⟨rfl, hb2⟩; have hG2 := Lib.hid (hG1.out.on hb2 hG1.out.lt); have hB2 := Lib.hid (below_two hB1.out hb2); clear hb2)
    | (go_at_call 10; refine (read_any none 0 0 [] _ rfl .nil (by omega) (.inl rfl)).mono ?_; rw [readOf_nil]; unfold geo; rintro e w3 ⟨rfl, hb3⟩; have hA := (Below.refl w2.heap.size w2).alloc (Nat.le_refl _) (.cells #[.int .i64 1, .int .i64 4, .int .i64 16] 23); have hB3 := Lib.hid (below_two (below_two hB2.out hA) hb3); have hG3 := Lib.hid ((hG2.out.on hA hG2.out.lt).on hb3 (Nat.lt_of_lt_of_le hG2.out.lt hA.size)); have hG4 := Lib.hid ((geoAt_alloc w2 1 4 16).on hb3 (geoAt_alloc w2 1 4 16).lt); obtain ⟨z0, z1, z2, zlt⟩ := hG3.out.box; obtain ⟨y0, y1, y2, ylt⟩ := hG4.out.box; clear hA hb3))
  go_ret
  exact ⟨rfl, hB3.out.alloc hB3.out.size _⟩
end Go.Proofs.Ytmoclgijjmmdjaa
