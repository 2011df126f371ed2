/-
  What every program answers that is one.
-/
import Derived.Test.YtlhcfjkheifnpaaGc
namespace Go.Proofs.Ytlhcfjkheifnpaa
open Go.RowKit BigFrame

theorem ok_awake : Geom 2 4 16 2 4 16 := ⟨rfl, rfl, rfl, by constructor <;> omega⟩
set_option maxRecDepth 100000 in
set_option maxHeartbeats 1000000 in
theorem awake_any (w : World) : Calls Try.prog 24 #[] w (Tells (.bool true) w) := by
  have ok := Lib.hid ok_awake
  have hb' : Hid (Below w.heap.size w (w.alloc (.cells #[.int .i64 2, .int .i64 4, .int .i64 16] 23))) := Lib.hid ((Below.refl _ _).alloc (Nat.le_refl _) _)
  obtain ⟨c0, c1, c2, hlt⟩ := boxAt_alloc w 2 4 16 23
  go_enter Try.func24, Try.ntmps24
  go_wp2_with (first
    | (go_at_call 6; refine (geoInode_c 1 0 _ 21 0 _ ok.out (by omega) (by omega) (by omega) (by simp [nodeN, spanN]) (by omega)).mono ?_; rintro e w1 ⟨rfl, hd⟩; unfold two; have hx := box_on hd ⟨c0, c1, c2, hlt⟩; clear c0 c1 c2 hlt; obtain ⟨c0, c1, c2, hlt⟩ := hx; have hb' := Lib.hid (below_two hb'.out hd); clear hd)
    | (go_at_call 10; refine (geoOfBlock_c 1 0 _ 1 0 _ ok.out (by omega) (by omega) (by simp [spanN]) (by omega) (by omega)).mono ?_; rintro e w1 ⟨rfl, hd⟩; unfold two; have hx := box_on hd ⟨c0, c1, c2, hlt⟩; clear c0 c1 c2 hlt; obtain ⟨c0, c1, c2, hlt⟩ := hx; have hb' := Lib.hid (below_two hb'.out hd); clear hd)
    | (go_at_call 14; refine (geoSectors_c 38 _ ok.out (by simp [spanN])).mono ?_; rintro e w1 ⟨rfl, hd⟩; have hx := box_on hd ⟨c0, c1, c2, hlt⟩; clear c0 c1 c2 hlt; obtain ⟨c0, c1, c2, hlt⟩ := hx; have hb' := Lib.hid (below_two hb'.out hd); clear hd)
    | (go_at_call 12; refine (geoMay_c _ ok.out).mono ?_; rintro e w1 ⟨rfl, hd⟩; have hx := box_on hd ⟨c0, c1, c2, hlt⟩; clear c0 c1 c2 hlt; obtain ⟨c0, c1, c2, hlt⟩ := hx; have hb' := Lib.hid (below_two hb'.out hd); clear hd)
    | (go_at_call 20; refine (geoGroup_c 1 _ 20 _ ok.out (by omega) (by omega) (by simp [spanN])).mono ?_; rintro e w1 ⟨rfl, hd⟩; have hx := box_on hd ⟨c0, c1, c2, hlt⟩; clear c0 c1 c2 hlt; obtain ⟨c0, c1, c2, hlt⟩ := hx; have hb' := Lib.hid (below_two hb'.out hd); clear hd)
    | (go_at_call 22; refine (geoFirst_c 0 _ 4 _ ok.out (by omega) (by omega) (by simp [firstN, spanN])).mono ?_; rintro e w1 ⟨rfl, hd⟩; have hx := box_on hd ⟨c0, c1, c2, hlt⟩; clear c0 c1 c2 hlt; obtain ⟨c0, c1, c2, hlt⟩ := hx; have hb' := Lib.hid (below_two hb'.out hd); clear hd)
    | (go_at_call 16; refine (geoInodes_c 8 _ ok.out (by omega)).mono ?_; rintro e w1 ⟨rfl, hd⟩; have hx := box_on hd ⟨c0, c1, c2, hlt⟩; clear c0 c1 c2 hlt; obtain ⟨c0, c1, c2, hlt⟩ := hx; have hb' := Lib.hid (below_two hb'.out hd); clear hd)
    | (go_at_call 18; refine (geoBlocks_c 32 _ ok.out (by omega)).mono ?_; rintro e w1 ⟨rfl, hd⟩; have hx := box_on hd ⟨c0, c1, c2, hlt⟩; clear c0 c1 c2 hlt; obtain ⟨c0, c1, c2, hlt⟩ := hx; have hb' := Lib.hid (below_two hb'.out hd); clear hd))
  go_ret
  exact ⟨rfl, hb'.out⟩
end Go.Proofs.Ytlhcfjkheifnpaa
