/-
  What Read tells.
-/
import Derived.Test.YtmoclgijjmmdjaaUb
import Derived.Test.YtmoclgijjmmdjaaPb
import Derived.Test.YtmoclgijjmmdjaaUd
import Derived.Test.YtmoclgijjmmdjaaZo
import Derived.Test.YtmoclgijjmmdjaaGb
import Derived.RegionTactic
namespace Go.Proofs.Ytmoclgijjmmdjaa
open Go.RowKit BigFrame

theorem read_bad (a : Option Addr) (cap n : Nat) (l : List Nat) (w : World) (hn : l.length = n) (hk : kindOf l ≠ 83) (ho : Octs l) (hc : n ≤ cap) (hx : BAt w a l) :
    Calls Try.prog 10 #[.slice a n cap] w (Tells (readOf l) w) := by
  have hv := Lib.hid (readOf_no (l := l) (fun h => hk h.1))
  have hx' := Lib.hid hx
  have ho' := Lib.hid ho
  have hn' := Lib.hid hn
  have hk' := Lib.hid hk
  clear hx ho hn hk
  have hG0 := Lib.hid (geoAt_alloc w 0 0 0)
  have hb0 := Lib.hid ((Below.refl w.heap.size w).alloc (Nat.le_refl _) (.cells #[.int .i64 0, .int .i64 0, .int .i64 0] 23))
  go_enter Try.func10, Try.ntmps10
  go_wp2_with (go_at_call 20; refine (open_bad 83 (kindOf l) _ _ n l _ hn'.out rfl (.inr hk'.out) ho'.out hc (hx'.out.on hb0.out (Nat.le_refl _))).mono ?_; rintro e w1 ⟨rfl, m, rfl⟩)
  have hG := Lib.hid (GeoAt.put (w := (w.alloc (.cells #[.int .i64 0, .int .i64 0, .int .i64 0] 23)).drewN m) hG0.out 0 0 0)
  have hB := Lib.hid (below_put (below_two hb0.out (below_drewN _ m)) (Nat.le_refl _) (.int .i64 0) (.int .i64 0) (.int .i64 0))
  refine bodyPost_ret (geo_ret rfl rfl hG.out) rfl ⟨?_, hB.out⟩
  rw [hv.out]; rfl
set_option maxHeartbeats 1000000 in
theorem read_good (a : Option Addr) (cap n : Nat) (l : List Nat) (w : World) (hn : l.length = n) (hk : kindOf l = 83) (ho : Octs l) (hc : n ≤ cap) (hx : BAt w a l) :
    Calls Try.prog 10 #[.slice a n cap] w (Tells (readOf l) w) := by
  obtain ⟨m, hme⟩ : ∃ m, m = bodyOf l := ⟨_, rfl⟩
  have hml := Lib.hid (show m.length = 123 by rw [hme]; exact bodyOf_length (kindOf_len (by omega)))
  have hmo : Octs m := by rw [hme]; exact (ho.drop 1).take 123
  have hme' := Lib.hid hme
  clear hme
  have hx' := Lib.hid hx
  have ho' := Lib.hid ho
  have hn' := Lib.hid hn
  have hk' := Lib.hid hk
  have b4 := hmo 4 (by rw [hml.out]; omega)
  have b5 := hmo 5 (by rw [hml.out]; omega)
  have b6 := hmo 6 (by rw [hml.out]; omega)
  have b7 := hmo 7 (by rw [hml.out]; omega)
  clear hx ho hn hk hmo
  obtain ⟨x4, e4⟩ : ∃ x, bz m 4 = x := ⟨_, rfl⟩
  obtain ⟨x5, e5⟩ : ∃ x, bz m 5 = x := ⟨_, rfl⟩
  obtain ⟨x6, e6⟩ : ∃ x, bz m 6 = x := ⟨_, rfl⟩
  obtain ⟨x7, e7⟩ : ∃ x, bz m 7 = x := ⟨_, rfl⟩
  rw [e4] at b4
  rw [e5] at b5
  rw [e6] at b6
  rw [e7] at b7
  have e4' := Lib.hid e4
  have e5' := Lib.hid e5
  have e6' := Lib.hid e6
  have e7' := Lib.hid e7
  clear e4 e5 e6 e7
  have hG0 := Lib.hid (geoAt_alloc w 0 0 0)
  have hb0 := Lib.hid ((Below.refl w.heap.size w).alloc (Nat.le_refl _) (.cells #[.int .i64 0, .int .i64 0, .int .i64 0] 23))
  go_enter Try.func10, Try.ntmps10
  go_wp2_with (go_at_call 20; refine (open_good 83 _ _ n l _ hn'.out (by decide) hk'.out ho'.out hc (hx'.out.on hb0.out (Nat.le_refl _))).mono ?_; rintro e w1 ⟨g1, rfl, hg1, hr1, hb1⟩; rw [← hme'.out] at hr1; have hr1' := Lib.hid hr1; have hG1 := Lib.hid (hG0.out.on hb1 (hG0.out.lt)); have hb1' := Lib.hid (below_two hb0.out hb1); have hlt1 := hr1.lt; have hne1 : ¬ g1 = w1.heap.size := Nat.ne_of_lt hr1.lt; have c4 := hr1.cell (k := 4) (by rw [hml.out]; omega); have c5 := hr1.cell (k := 5) (by rw [hml.out]; omega); have c6 := hr1.cell (k := 6) (by rw [hml.out]; omega); rw [e4'.out] at c4; rw [e5'.out] at c5; rw [e6'.out] at c6; clear hr1 hb1)
  go_region
  have hX := Lib.hid (show GeoAt (w1.alloc (.cells #[.int .i64 (x4 : Int), .int .i64 (x5 : Int), .int .i64 (x6 : Int)] 23)).drew w1.heap.size x4 x5 x6 from geoAt_alloc w1 x4 x5 x6)
  have hbA : Below w1.heap.size w1 (w1.alloc (.cells #[.int .i64 (x4 : Int), .int .i64 (x5 : Int), .int .i64 (x6 : Int)] 23)).drew := ((Below.refl w1.heap.size w1).alloc (Nat.le_refl _) _).drew
  have hR := Lib.hid (hr1'.out.on hbA hr1'.out.lt)
  have hG := Lib.hid (hG1.out.on hbA hG1.out.lt)
  have hB := Lib.hid (below_two hb1'.out hbA)
  have hzlt := hG1.out.lt
  clear c4 c5 c6 hbA hr1' hb1'
  obtain ⟨w2, hw2⟩ : ∃ w2, w2 = (w1.alloc (.cells #[.int .i64 (x4 : Int), .int .i64 (x5 : Int), .int .i64 (x6 : Int)] 23)).drew := ⟨_, rfl⟩
  rw [← hw2] at hX hR hG hB ⊢
  clear hw2
  have hne2 : ¬ w.heap.size = w1.heap.size := by omega
  have hne3 : ¬ w1.heap.size = w.heap.size := by omega
  obtain ⟨z0, z1, z2, zlt⟩ := hG.out.box
  obtain ⟨y0, y1, y2, ylt⟩ := hX.out.box
  have f0 := hG.out.frozen 0
  have f1 := hG.out.frozen 1
  have f2 := hG.out.frozen 2
  by_cases hh0 : headed m = true
  · have hh := Lib.hid hh0
    by_cases hm0 : mayZ x4 x5 x6 = true
    · have hm := Lib.hid hm0
      clear hm0
      by_cases h7 : x7 ≤ 1
      · have t7 : (x7 : Int) ≤ 1 := by omega
        by_cases hb0 : blanked (m.drop 8) = true
        · have hbl := Lib.hid hb0
          have hf : fine (bodyOf l) = true := by
            rw [← hme'.out]
            unfold fine
            rw [e4'.out, e5'.out, e6'.out, e7'.out, hh.out, hm.out, hb0]
            simp [h7]
          have hv := Lib.hid (show readOf l = .tuple #[geo x4 x5 x6, .bool (decide (x7 = 1)), .int .i64 0] by
            unfold readOf
            rw [if_pos ⟨hk'.out, hf⟩, ← hme'.out, e4'.out, e5'.out, e6'.out, e7'.out])
          clear hb0 hf hh0
          have hx7 : x7 = 0 ∨ x7 = 1 := by omega
          clear h7 t7 b7
          rcases hx7 with rfl | rfl
          all_goals
            go_wp2_with (first
              | (go_at_call 21; refine (begins_any g1 0 123 123 m _ hml.out (by decide) hR.out.bat).mono ?_; rw [hh.out]; rintro e w3 ⟨rfl, q, rfl⟩)
              | (go_at_call 16; refine (may_is x4 x5 x6 true _ hm.out).mono ?_; rintro e w4 ⟨rfl, hb4⟩; have hR4 := Lib.hid ((hR.out.drew (m := q)).on hb4 hR.out.lt); have hX4 := Lib.hid ((show GeoAt (w2.drewN q) w1.heap.size x4 x5 x6 from hX.out).on hb4 hX.out.lt); have hG4 := Lib.hid ((show GeoAt (w2.drewN q) w.heap.size 0 0 0 from hG.out).on hb4 hG.out.lt); have hB4 := Lib.hid (below_two hB.out (below_two (below_drewN w2 q) hb4)); clear z0 z1 z2 y0 y1 y2 f0 f1 f2 zlt ylt; obtain ⟨z0, z1, z2, zlt⟩ := hG4.out.box; obtain ⟨y0, y1, y2, ylt⟩ := hX4.out.box; have f0 := hG4.out.frozen 0; have f1 := hG4.out.frozen 1; have f2 := hG4.out.frozen 2; have c7 := hR4.out.cell (k := 7) (by rw [hml.out]; omega); rw [e7'.out] at c7; clear hb4)
              | (go_at_call 22; refine (blank_any (some ⟨g1, 8, none⟩) 115 115 (m.drop 8) _ (by rw [List.length_drop, hml.out]) (by decide) (by have := hR4.out.bat.sub 8 115; rwa [List.take_of_length_le (by rw [List.length_drop, hml.out]; omega)] at this)).mono ?_; rw [hbl.out]; rintro e w5 ⟨rfl, rfl⟩))
            go_region
            go_wp2_with fail
            refine bodyPost_ret (geo_ret rfl rfl (hG4.out.put x4 x5 x6)) rfl ⟨?_, (below_put hB4.out (Nat.le_refl _) _ _ _).drew⟩
            rw [hv.out]; rfl
        · have hbl := Lib.hid (show blanked (m.drop 8) = false by simpa using hb0)
          have hv := Lib.hid (readOf_no (l := l) (fun h => by
            have h2 := h.2
            rw [← hme'.out] at h2
            unfold fine at h2
            rw [hbl.out] at h2
            simp at h2))
          clear hh0 hb0
          go_wp2_with (first
            | (go_at_call 21; refine (begins_any g1 0 123 123 m _ hml.out (by decide) hR.out.bat).mono ?_; rw [hh.out]; rintro e w3 ⟨rfl, q, rfl⟩)
            | (go_at_call 16; refine (may_is x4 x5 x6 true _ hm.out).mono ?_; rintro e w4 ⟨rfl, hb4⟩; have hR4 := Lib.hid ((hR.out.drew (m := q)).on hb4 hR.out.lt); have hX4 := Lib.hid ((show GeoAt (w2.drewN q) w1.heap.size x4 x5 x6 from hX.out).on hb4 hX.out.lt); have hG4 := Lib.hid ((show GeoAt (w2.drewN q) w.heap.size 0 0 0 from hG.out).on hb4 hG.out.lt); have hB4 := Lib.hid (below_two hB.out (below_two (below_drewN w2 q) hb4)); clear z0 z1 z2 y0 y1 y2 f0 f1 f2 zlt ylt; obtain ⟨z0, z1, z2, zlt⟩ := hG4.out.box; obtain ⟨y0, y1, y2, ylt⟩ := hX4.out.box; have f0 := hG4.out.frozen 0; have f1 := hG4.out.frozen 1; have f2 := hG4.out.frozen 2; have c7 := hR4.out.cell (k := 7) (by rw [hml.out]; omega); rw [e7'.out] at c7; clear hb4)
            | (go_at_call 22; refine (blank_any (some ⟨g1, 8, none⟩) 115 115 (m.drop 8) _ (by rw [List.length_drop, hml.out]) (by decide) (by have := hR4.out.bat.sub 8 115; rwa [List.take_of_length_le (by rw [List.length_drop, hml.out]; omega)] at this)).mono ?_; rw [hbl.out]; rintro e w5 ⟨rfl, rfl⟩))
          refine bodyPost_ret (geo_ret rfl rfl (hG4.out.put 0 0 0)) rfl ⟨?_, below_put hB4.out (Nat.le_refl _) _ _ _⟩
          rw [hv.out]; rfl
      · have t7 : ¬ (x7 : Int) ≤ 1 := by omega
        have hv := Lib.hid (readOf_no (l := l) (fun h => by
          have h2 := h.2
          rw [← hme'.out] at h2
          unfold fine at h2
          rw [e7'.out] at h2
          simp [h7] at h2))
        clear hh0
        go_wp2_with (first
          | (go_at_call 21; refine (begins_any g1 0 123 123 m _ hml.out (by decide) hR.out.bat).mono ?_; rw [hh.out]; rintro e w3 ⟨rfl, q, rfl⟩)
          | (go_at_call 16; refine (may_is x4 x5 x6 true _ hm.out).mono ?_; rintro e w4 ⟨rfl, hb4⟩; have hR4 := Lib.hid ((hR.out.drew (m := q)).on hb4 hR.out.lt); have hX4 := Lib.hid ((show GeoAt (w2.drewN q) w1.heap.size x4 x5 x6 from hX.out).on hb4 hX.out.lt); have hG4 := Lib.hid ((show GeoAt (w2.drewN q) w.heap.size 0 0 0 from hG.out).on hb4 hG.out.lt); have hB4 := Lib.hid (below_two hB.out (below_two (below_drewN w2 q) hb4)); clear z0 z1 z2 y0 y1 y2 f0 f1 f2 zlt ylt; obtain ⟨z0, z1, z2, zlt⟩ := hG4.out.box; obtain ⟨y0, y1, y2, ylt⟩ := hX4.out.box; have f0 := hG4.out.frozen 0; have f1 := hG4.out.frozen 1; have f2 := hG4.out.frozen 2; have c7 := hR4.out.cell (k := 7) (by rw [hml.out]; omega); rw [e7'.out] at c7; clear hb4))
        refine bodyPost_ret (geo_ret rfl rfl (hG4.out.put 0 0 0)) rfl ⟨?_, below_put hB4.out (Nat.le_refl _) _ _ _⟩
        rw [hv.out]; rfl
    · have hm := Lib.hid (show mayZ x4 x5 x6 = false by simpa using hm0)
      have hv := Lib.hid (readOf_no (l := l) (fun h => by
        have h2 := h.2
        rw [← hme'.out] at h2
        unfold fine at h2
        rw [e4'.out, e5'.out, e6'.out, hm.out] at h2
        simp at h2))
      clear hh0 hm0
      go_wp2_with (first
        | (go_at_call 21; refine (begins_any g1 0 123 123 m _ hml.out (by decide) hR.out.bat).mono ?_; rw [hh.out]; rintro e w3 ⟨rfl, q, rfl⟩)
        | (go_at_call 16; refine (may_is x4 x5 x6 false _ hm.out).mono ?_; rintro e w4 ⟨rfl, hb4⟩; have hR4 := Lib.hid ((hR.out.drew (m := q)).on hb4 hR.out.lt); have hX4 := Lib.hid ((show GeoAt (w2.drewN q) w1.heap.size x4 x5 x6 from hX.out).on hb4 hX.out.lt); have hG4 := Lib.hid ((show GeoAt (w2.drewN q) w.heap.size 0 0 0 from hG.out).on hb4 hG.out.lt); have hB4 := Lib.hid (below_two hB.out (below_two (below_drewN w2 q) hb4)); clear z0 z1 z2 y0 y1 y2 f0 f1 f2 zlt ylt; obtain ⟨z0, z1, z2, zlt⟩ := hG4.out.box; obtain ⟨y0, y1, y2, ylt⟩ := hX4.out.box; have f0 := hG4.out.frozen 0; have f1 := hG4.out.frozen 1; have f2 := hG4.out.frozen 2; have c7 := hR4.out.cell (k := 7) (by rw [hml.out]; omega); rw [e7'.out] at c7; clear hb4))
      refine bodyPost_ret (geo_ret rfl rfl (hG4.out.put 0 0 0)) rfl ⟨?_, below_put hB4.out (Nat.le_refl _) _ _ _⟩
      rw [hv.out]; rfl
  · have hh := Lib.hid (show headed m = false by simpa using hh0)
    have hv := Lib.hid (readOf_no (l := l) (fun h => by
      have h2 := h.2
      rw [← hme'.out] at h2
      unfold fine at h2
      rw [hh.out] at h2
      simp at h2))
    clear hh0
    go_wp2_with (go_at_call 21; refine (begins_any g1 0 123 123 m _ hml.out (by decide) hR.out.bat).mono ?_; rw [hh.out]; rintro e w3 ⟨rfl, q, rfl⟩)
    have hGd : GeoAt (w2.drewN q) w.heap.size 0 0 0 := hG.out
    refine bodyPost_ret (geo_ret rfl rfl (hGd.put 0 0 0)) rfl ⟨?_, below_put (below_two hB.out (below_drewN w2 q)) (Nat.le_refl _) _ _ _⟩
    rw [hv.out]; rfl
theorem read_any (a : Option Addr) (cap n : Nat) (l : List Nat) (w : World) (hn : l.length = n) (ho : Octs l) (hc : n ≤ cap) (hx : BAt w a l) :
    Calls Try.prog 10 #[.slice a n cap] w (Tells (readOf l) w) := by
  by_cases hk : kindOf l = 83
  · exact read_good a cap n l w hn hk ho hc hx
  · exact read_bad a cap n l w hn hk ho hc hx
end Go.Proofs.Ytmoclgijjmmdjaa
