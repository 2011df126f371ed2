/-
  Superblocks are alike just if the geometries are, and whether they were left in order: the walk.
-/
import Derived.Test.YtmoclgijjmmdjaaUw
import Derived.Test.YtmoclgijjmmdjaaSb
namespace Go.Proofs.Ytmoclgijjmmdjaa
open Go.RowKit BigFrame

/-- the three numbers of a geometry that may be -/
structure GeoN (G I B : Int) (g i b : Nat) : Prop where
  eg : G = (g : Int)
  ei : I = (i : Int)
  eb : B = (b : Int)
  ok : Ok g i b
theorem may_geom {G I B : Int} (h : mayZ G I B = true) : ∃ g i b : Nat, GeoN G I B g i b := by
  obtain ⟨g, i, b, h1, h2, h3, hk⟩ := may_ok h
  exact ⟨g, i, b, h1, h2, h3, hk⟩

theorem alloc_size (w : World) (o : Obj) : (w.alloc o).heap.size = w.heap.size + 1 := by simp
theorem geo_second (w : World) (G I B G' I' B' : Int) : GeoAt ((w.alloc (.cells #[.int .i64 G, .int .i64 I, .int .i64 B] 23)).alloc (.cells #[.int .i64 G', .int .i64 I', .int .i64 B'] 23)) (w.heap.size + 1) G' I' B' := by
  have h := geoAt_alloc (w.alloc (.cells #[.int .i64 G, .int .i64 I, .int .i64 B] 23)) G' I' B'
  rwa [alloc_size] at h
theorem apart_ff (G I B G' I' B' : Int) (p q : Bool) (w : World) (m1 : mayZ G I B = false) (m2 : mayZ G' I' B' = false) :
    Calls Try.prog 5 #[geo G I B, geo G' I' B', .bool p, .bool q] w (Tells (.bool true) w) := by
  have h1 := Lib.hid m1
  have h2 := Lib.hid m2
  clear m1 m2
  have tk0 : True := trivial
  have tk1 : True := trivial
  have hH0 := Lib.hid (geo_second w G I B G' I' B')
  have hb0 := Lib.hid (((Below.refl w.heap.size w).alloc (Nat.le_refl _) (.cells #[.int .i64 G, .int .i64 I, .int .i64 B] 23)).alloc (by simp) (.cells #[.int .i64 G', .int .i64 I', .int .i64 B'] 23))
  unfold geo
  go_enter Try.func5, Try.ntmps5
  go_wp2_with (first
    | (clear tk0; go_at_call 8; refine (lay_no G I B p _ h1.out).mono ?_; unfold laidNo; rintro e w1 ⟨rfl, hb⟩; have hB1 := Lib.hid (below_two hb0.out hb); have hH1 := Lib.hid (hH0.out.on hb hH0.out.lt); obtain ⟨c0, c1, c2, clt⟩ := hH1.out.box; clear hb)
    | (clear tk1; go_at_call 8; refine (lay_no G' I' B' q _ h2.out).mono ?_; unfold laidNo; rintro e w2 ⟨rfl, hb⟩; have hB2 := Lib.hid (below_two hB1.out hb); clear hb)
    | (go_at_call 6; refine (awake_any _).mono ?_; rintro e w3 ⟨rfl, hb⟩; have hend := Lib.hid (below_two hB2.out hb); clear hb))
  go_ret
  exact ⟨rfl, hend.out⟩
theorem apart_ft (G I B G' I' B' : Int) (p q : Bool) (w : World) (m1 : mayZ G I B = false) (m2 : mayZ G' I' B' = true) :
    Calls Try.prog 5 #[geo G I B, geo G' I' B', .bool p, .bool q] w (Tells (.bool true) w) := by
  have h1 := Lib.hid m1
  obtain ⟨a2, b2, d2, oo2⟩ := may_geom m2
  have ok2 := Lib.hid oo2
  clear oo2
  clear m1 m2
  have tk0 : True := trivial
  have tk1 : True := trivial
  have hH0 := Lib.hid (geo_second w G I B G' I' B')
  have hb0 := Lib.hid (((Below.refl w.heap.size w).alloc (Nat.le_refl _) (.cells #[.int .i64 G, .int .i64 I, .int .i64 B] 23)).alloc (by simp) (.cells #[.int .i64 G', .int .i64 I', .int .i64 B'] 23))
  unfold geo
  go_enter Try.func5, Try.ntmps5
  go_wp2_with (first
    | (clear tk0; go_at_call 8; refine (lay_no G I B p _ h1.out).mono ?_; unfold laidNo; rintro e w1 ⟨rfl, hb⟩; have hB1 := Lib.hid (below_two hb0.out hb); have hH1 := Lib.hid (hH0.out.on hb hH0.out.lt); obtain ⟨c0, c1, c2, clt⟩ := hH1.out.box; clear hb)
    | (clear tk1; go_at_call 8; refine (lay_c _ _ _ q _ ok2.out.ok ok2.out.eg ok2.out.ei ok2.out.eb rfl).mono ?_; rintro e w2 ⟨g2, rfl, hg2, hr2, hb⟩; clear hg2 hr2; have hB2 := Lib.hid (below_two hB1.out hb); clear hb)
    | (go_at_call 6; refine (awake_any _).mono ?_; rintro e w3 ⟨rfl, hb⟩; have hend := Lib.hid (below_two hB2.out hb); clear hb))
  go_ret
  exact ⟨rfl, hend.out⟩
theorem apart_tf (G I B G' I' B' : Int) (p q : Bool) (w : World) (m1 : mayZ G I B = true) (m2 : mayZ G' I' B' = false) :
    Calls Try.prog 5 #[geo G I B, geo G' I' B', .bool p, .bool q] w (Tells (.bool true) w) := by
  obtain ⟨a1, b1, d1, oo1⟩ := may_geom m1
  have ok1 := Lib.hid oo1
  clear oo1
  have h2 := Lib.hid m2
  clear m1 m2
  have tk0 : True := trivial
  have tk1 : True := trivial
  have hH0 := Lib.hid (geo_second w G I B G' I' B')
  have hb0 := Lib.hid (((Below.refl w.heap.size w).alloc (Nat.le_refl _) (.cells #[.int .i64 G, .int .i64 I, .int .i64 B] 23)).alloc (by simp) (.cells #[.int .i64 G', .int .i64 I', .int .i64 B'] 23))
  unfold geo
  go_enter Try.func5, Try.ntmps5
  go_wp2_with (first
    | (clear tk0; go_at_call 8; refine (lay_c _ _ _ p _ ok1.out.ok ok1.out.eg ok1.out.ei ok1.out.eb rfl).mono ?_; rintro e w1 ⟨g1, rfl, hg1, hr1, hb⟩; clear hg1 hr1; have hB1 := Lib.hid (below_two hb0.out hb); have hH1 := Lib.hid (hH0.out.on hb hH0.out.lt); obtain ⟨c0, c1, c2, clt⟩ := hH1.out.box; clear hb)
    | (clear tk1; go_at_call 8; refine (lay_no G' I' B' q _ h2.out).mono ?_; unfold laidNo; rintro e w2 ⟨rfl, hb⟩; have hB2 := Lib.hid (below_two hB1.out hb); clear hb)
    | (go_at_call 6; refine (awake_any _).mono ?_; rintro e w3 ⟨rfl, hb⟩; have hend := Lib.hid (below_two hB2.out hb); clear hb))
  go_ret
  exact ⟨rfl, hend.out⟩
end Go.Proofs.Ytmoclgijjmmdjaa
