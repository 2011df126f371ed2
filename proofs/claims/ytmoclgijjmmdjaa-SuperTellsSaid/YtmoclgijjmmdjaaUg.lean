/-
  What the document's own Read tells.
-/
import Derived.Test.YtmoclgijjmmdjaaUe
import Derived.Test.YtmoclgijjmmdjaaYo
import Derived.Test.YtmoclgijjmmdjaaGb
import Derived.RegionTactic
import Derived.BigRegion
namespace Go.Proofs.Ytmoclgijjmmdjaa
open Go.RowKit BigFrame

theorem refRead_bad (a : Option Addr) (cap n : Nat) (l : List Nat) (w : World) (hn : l.length = n) (hk : kindOf l ≠ 83) (ho : Octs l) (hc : n ≤ cap) (hx : BAt w a l) :
    Calls Try.prog 11 #[.slice a n cap] w (Tells (readOf l) w) := by
  have hv := Lib.hid (readOf_no (l := l) (fun h => hk h.1))
  have hx' := Lib.hid hx
  have ho' := Lib.hid ho
  have hn' := Lib.hid hn
  have hk' := Lib.hid hk
  clear hx ho hn hk
  have hG0 := Lib.hid (geoAt_alloc w 0 0 0)
  have hb0 := Lib.hid ((Below.refl w.heap.size w).alloc (Nat.le_refl _) (.cells #[.int .i64 0, .int .i64 0, .int .i64 0] 23))
  go_enter Try.func11, Try.ntmps11
  go_wp2_with (go_at_call 23; refine (refOpen_bad 83 (kindOf l) _ _ n l _ hn'.out rfl (.inr hk'.out) ho'.out hc (hx'.out.on hb0.out (Nat.le_refl _))).mono ?_; rintro e w1 ⟨rfl, hb1⟩; have hG1 := Lib.hid (hG0.out.on hb1 (hG0.out.lt)); have hb1' := Lib.hid (below_two hb0.out hb1); obtain ⟨z0, z1, z2, zlt⟩ := hG1.out.box; have f0 := hG1.out.frozen 0; have f1 := hG1.out.frozen 1; have f2 := hG1.out.frozen 2; clear hb1)
  refine bodyPost_ret (geo_ret rfl rfl (hG1.out.put 0 0 0)) rfl ⟨?_, below_put hb1'.out (Nat.le_refl _) _ _ _⟩
  rw [hv.out]; rfl
set_option maxHeartbeats 1000000 in
theorem refRead_good (a : Option Addr) (cap n : Nat) (l : List Nat) (w : World) (hn : l.length = n) (hk : kindOf l = 83) (ho : Octs l) (hc : n ≤ cap) (hx : BAt w a l) :
    Calls Try.prog 11 #[.slice a n cap] w (Tells (readOf l) w) := by
  have hfs := Lib.hid (fine_super ho hk)
  obtain ⟨m, hme⟩ : ∃ m, m = bodyOf l := ⟨_, rfl⟩
  have hml := Lib.hid (show m.length = 123 by rw [hme]; exact bodyOf_length (kindOf_len (by omega)))
  have hmo : Octs m := by rw [hme]; exact (ho.drop 1).take 123
  have hme' := Lib.hid hme
  clear hme
  have hx' := Lib.hid hx
  have ho' := Lib.hid ho
  have hn' := Lib.hid hn
  have hk' := Lib.hid hk
  have b4 := hmo 4 (by rw [hml.out]; omega)
  have b5 := hmo 5 (by rw [hml.out]; omega)
  have b6 := hmo 6 (by rw [hml.out]; omega)
  have b7 := hmo 7 (by rw [hml.out]; omega)
  clear hx ho hn hk hmo
  obtain ⟨x4, e4⟩ : ∃ x, bz m 4 = x := ⟨_, rfl⟩
  obtain ⟨x5, e5⟩ : ∃ x, bz m 5 = x := ⟨_, rfl⟩
  obtain ⟨x6, e6⟩ : ∃ x, bz m 6 = x := ⟨_, rfl⟩
  obtain ⟨x7, e7⟩ : ∃ x, bz m 7 = x := ⟨_, rfl⟩
  rw [e4] at b4
  rw [e5] at b5
  rw [e6] at b6
  rw [e7] at b7
  have e4' := Lib.hid e4
  have e5' := Lib.hid e5
  have e6' := Lib.hid e6
  have e7' := Lib.hid e7
  clear e4 e5 e6 e7
  obtain ⟨o, hoe⟩ : ∃ o, ((x7 : Int) == 1) = o := ⟨_, rfl⟩
  have hoe' := Lib.hid (show decide (x7 = 1) = o by rw [← hoe]; by_cases h : x7 = 1 <;> simp [h]; omega)
  have hG0 := Lib.hid (geoAt_alloc w 0 0 0)
  have hb0 := Lib.hid ((Below.refl w.heap.size w).alloc (Nat.le_refl _) (.cells #[.int .i64 0, .int .i64 0, .int .i64 0] 23))
  go_enter Try.func11, Try.ntmps11
  go_wp2_with (go_at_call 23; refine (refOpen_good 83 _ _ n l _ hn'.out (by decide) hk'.out ho'.out hc (hx'.out.on hb0.out (Nat.le_refl _))).mono ?_; rintro e w1 ⟨g1, cp1, rfl, hg1, hr1, hb1⟩; rw [← hme'.out] at hr1; have hr1' := Lib.hid hr1; have hG1 := Lib.hid (hG0.out.on hb1 (hG0.out.lt)); have hb1' := Lib.hid (below_two hb0.out hb1); have c4 := hr1.cell (k := 4) (by rw [hml.out]; omega); have c5 := hr1.cell (k := 5) (by rw [hml.out]; omega); have c6 := hr1.cell (k := 6) (by rw [hml.out]; omega); have c7 := hr1.cell (k := 7) (by rw [hml.out]; omega); rw [e4'.out] at c4; rw [e5'.out] at c5; rw [e6'.out] at c6; rw [e7'.out] at c7; have hlt1 : g1 < w1.heap.size := World.block_lt_of_cell? w1 _ c4; have hne1 : ¬ g1 = w1.heap.size := Nat.ne_of_lt hlt1; clear hr1 hb1)
  go_region
  have hX := Lib.hid (show GeoAt (w1.alloc (.cells #[.int .i64 (x4 : Int), .int .i64 (x5 : Int), .int .i64 (x6 : Int)] 23)).drew w1.heap.size x4 x5 x6 from geoAt_alloc w1 x4 x5 x6)
  have hbA : Below w1.heap.size w1 (w1.alloc (.cells #[.int .i64 (x4 : Int), .int .i64 (x5 : Int), .int .i64 (x6 : Int)] 23)).drew := ((Below.refl w1.heap.size w1).alloc (Nat.le_refl _) _).drew
  have hG := Lib.hid (hG1.out.on hbA hG1.out.lt)
  have hB := Lib.hid (below_two hb1'.out hbA)
  have hzlt := hG1.out.lt
  clear c4 c5 c6 c7 hbA hr1' hb1' hoe
  obtain ⟨w2, hw2⟩ : ∃ w2, w2 = (w1.alloc (.cells #[.int .i64 (x4 : Int), .int .i64 (x5 : Int), .int .i64 (x6 : Int)] 23)).drew := ⟨_, rfl⟩
  rw [← hw2] at hX hG hB ⊢
  clear hw2
  have hne2 : ¬ w.heap.size = w1.heap.size := by omega
  have hne3 : ¬ w1.heap.size = w.heap.size := by omega
  obtain ⟨y0, y1, y2, ylt⟩ := hX.out.box
  by_cases hm0 : mayZ x4 x5 x6 = true
  · have hOk := Lib.hid (show Ok x4 x5 x6 by
      obtain ⟨g, i, b, h1, h2, h3, hk⟩ := may_ok hm0
      obtain rfl : x4 = g := by omega
      obtain rfl : x5 = i := by omega
      obtain rfl : x6 = b := by omega
      exact hk)
    by_cases he : superS x4 x5 x6 o = l
    · have hv := Lib.hid (show readOf l = .tuple #[geo x4 x5 x6, .bool o, .int .i64 0] by rw [← he]; exact readOf_super o hOk.out)
      have he' := Lib.hid he
      clear he hm0
      go_wp2_with (go_at_call 9; refine (refLay_ok x4 x5 x6 o _ hOk.out).mono ?_; rintro e w4 ⟨g4, cp4, rfl, hg4, hc4, hr4, hb4⟩; clear y0 y1 y2 ylt; have hX4 := Lib.hid (hX.out.on hb4 hX.out.lt); have hG4 := Lib.hid (hG.out.on hb4 hG.out.lt); have hB4 := Lib.hid (below_two hB.out hb4); obtain ⟨z0, z1, z2, zlt⟩ := hG4.out.box; obtain ⟨y0, y1, y2, ylt⟩ := hX4.out.box; have f0 := hG4.out.frozen 0; have f1 := hG4.out.frozen 1; have f2 := hG4.out.frozen 2; have q1 := run_string (cap := cp4) (superS_length x4 x5 x6 o) (hOk.out.sup o) hr4; have q2 := run_string (cap := cap) hn'.out ho'.out (hx'.out.on hB4.out (Nat.le_refl _)); rw [he'.out] at q1; have hs0 : ((strOf l).toList == (strOf l).toList) = true := (beq_self_eq_true _); clear hb4 hr4)
      refine bodyPost_ret (geo_ret rfl rfl (hG4.out.put x4 x5 x6)) rfl ⟨?_, below_put hB4.out (Nat.le_refl _) _ _ _⟩
      rw [hv.out]; rfl
    · have hv := Lib.hid (readOf_no (l := l) (fun h => by
        have h2 := (hfs.out.1 h.2).2
        rw [← hme'.out, e4'.out, e5'.out, e6'.out, e7'.out, hoe'.out] at h2
        exact he h2))
      have he' := Lib.hid he
      clear he hm0
      go_wp2_with (go_at_call 9; refine (refLay_ok x4 x5 x6 o _ hOk.out).mono ?_; rintro e w4 ⟨g4, cp4, rfl, hg4, hc4, hr4, hb4⟩; clear y0 y1 y2 ylt; have hX4 := Lib.hid (hX.out.on hb4 hX.out.lt); have hG4 := Lib.hid (hG.out.on hb4 hG.out.lt); have hB4 := Lib.hid (below_two hB.out hb4); obtain ⟨z0, z1, z2, zlt⟩ := hG4.out.box; obtain ⟨y0, y1, y2, ylt⟩ := hX4.out.box; have f0 := hG4.out.frozen 0; have f1 := hG4.out.frozen 1; have f2 := hG4.out.frozen 2; have q1 := run_string (cap := cp4) (superS_length x4 x5 x6 o) (hOk.out.sup o) hr4; have q2 := run_string (cap := cap) hn'.out ho'.out (hx'.out.on hB4.out (Nat.le_refl _)); have hs0 := strOf_ne (hOk.out.sup o) ho'.out he'.out; clear hb4 hr4)
      refine bodyPost_ret (geo_ret rfl rfl (hG4.out.put 0 0 0)) rfl ⟨?_, below_put hB4.out (Nat.le_refl _) _ _ _⟩
      rw [hv.out]; rfl
  · have hm := Lib.hid (show mayZ x4 x5 x6 = false by simpa using hm0)
    have hv := Lib.hid (readOf_no (l := l) (fun h => by
      have h2 := (hfs.out.1 h.2).1
      rw [← hme'.out, e4'.out, e5'.out, e6'.out, hm.out] at h2
      exact absurd h2 (by decide)))
    clear hm0
    go_wp2_with (go_at_call 9; refine (refLay_no x4 x5 x6 o _ hm.out).mono ?_; rintro e w4 ⟨rfl, hb4⟩; clear y0 y1 y2 ylt; have hX4 := Lib.hid (hX.out.on hb4 hX.out.lt); have hG4 := Lib.hid (hG.out.on hb4 hG.out.lt); have hB4 := Lib.hid (below_two hB.out hb4); obtain ⟨z0, z1, z2, zlt⟩ := hG4.out.box; obtain ⟨y0, y1, y2, ylt⟩ := hX4.out.box; have f0 := hG4.out.frozen 0; have f1 := hG4.out.frozen 1; have f2 := hG4.out.frozen 2; clear hb4)
    refine bodyPost_ret (geo_ret rfl rfl (hG4.out.put 0 0 0)) rfl ⟨?_, below_put hB4.out (Nat.le_refl _) _ _ _⟩
    rw [hv.out]; rfl
theorem refRead_any (a : Option Addr) (cap n : Nat) (l : List Nat) (w : World) (hn : l.length = n) (ho : Octs l) (hc : n ≤ cap) (hx : BAt w a l) :
    Calls Try.prog 11 #[.slice a n cap] w (Tells (readOf l) w) := by
  by_cases hk : kindOf l = 83
  · exact refRead_good a cap n l w hn hk ho hc hx
  · exact refRead_bad a cap n l w hn hk ho hc hx
end Go.Proofs.Ytmoclgijjmmdjaa
