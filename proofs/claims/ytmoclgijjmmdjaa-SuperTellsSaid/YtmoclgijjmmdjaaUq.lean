/-
  The superblock of any geometry, and what any bytes are read as, is the document's: the walk.
-/
import Derived.Test.YtmoclgijjmmdjaaUw
import Derived.Test.YtmoclgijjmmdjaaUg
import Derived.Test.YtmoclgijjmmdjaaKb
import Derived.Test.YtmoclgijjmmdjaaBv
namespace Go.Proofs.Ytmoclgijjmmdjaa
open Go.RowKit BigFrame

theorem Bag.grown1 {w0 w w' : World} {g1 M : Nat} {L1 : List Nat} {r : Option Nat} (h : Bag w0 w [(g1, L1)]) (hg : w.grownBy w' r) (h1 : g1 < M) (hM : w0.heap.size ≤ M) (hr : ∀ k, r = some k → M ≤ k) : Bag w0 w' [(g1, L1)] :=
  ⟨⟨h.1.1, h.1.2.grown hg (fun e => by have := hr g1 e.symm; omega)⟩, h.below.trans (grownBy_below hg h.below.size (fun k hk => Nat.le_trans hM (hr k hk)))⟩

/-- what is laid of any geometry, and the code -/
def layB (G I B : Int) (o : Bool) : List Nat := if mayZ G I B = true then superS G.toNat I.toNat B.toNat o else []
def layC (G I B : Int) : Int := if mayZ G I B = true then 0 else 2
theorem layB_length (G I B : Int) (o : Bool) : (layB G I B o).length ≤ 100000 := by
  unfold layB
  split
  · rw [superS_length]; omega
  · simp
theorem lay_u (G I B : Int) (o : Bool) (w : World) :
    Calls Try.prog 8 #[geo G I B, .bool o] w fun e w' => ∃ v, e = .returned (.tuple #[v, .int .i64 (layC G I B)]) ∧ Ans w w' v (layB G I B o) ∧ Below w.heap.size w w' := by
  unfold layB layC
  cases h : mayZ G I B
  · exact (lay_no G I B o w h).mono fun e w' ⟨he, hb⟩ => ⟨_, he, .inl ⟨rfl, rfl⟩, hb⟩
  · obtain ⟨g, i, b, rfl, rfl, rfl, k⟩ := may_ok h
    exact (lay_c g i b o w k rfl rfl rfl rfl).mono fun e w' ⟨g1, he, hg, hr, hb⟩ => ⟨_, he, .inr ⟨g1, 128, rfl, superS_length _ _ _ o, hg, hr⟩, hb⟩
theorem refLay_u (G I B : Int) (o : Bool) (w : World) :
    Calls Try.prog 9 #[geo G I B, .bool o] w fun e w' => ∃ v, e = .returned (.tuple #[v, .int .i64 (layC G I B)]) ∧ BV w' v (layB G I B o) ∧ Below w.heap.size w w' := by
  unfold layB layC
  cases h : mayZ G I B
  · exact (refLay_no G I B o w h).mono fun e w' ⟨he, hb⟩ => ⟨_, he, ⟨none, 0, 0, rfl, rfl, .inl rfl⟩, hb⟩
  · obtain ⟨g, i, b, rfl, rfl, rfl, k⟩ := may_ok h
    exact (refLay_ok g i b o w k).mono fun e w' ⟨g1, cp, he, hg, hc, hr, hb⟩ => ⟨_, he, ⟨_, 128, cp, rfl, superS_length _ _ _ o, hr⟩, hb⟩
theorem readOf_form (l : List Nat) : ∃ a b c o d, readOf l = .tuple #[geo a b c, .bool o, .int .i64 d] := by
  unfold readOf
  split <;> exact ⟨_, _, _, _, _, rfl⟩

theorem tells_long (G I B : Int) (o : Bool) (a : Option Addr) (cap n : Nat) (w : World) (hn : 200 < n) :
    Calls Try.prog 3 #[geo G I B, .bool o, .slice a n cap] w (Tells (.bool true) w) := by
  unfold geo
  go_enter Try.func3, Try.ntmps3
  go_wp2_with (go_at_call 6; refine (awake_any _).mono ?_; rintro e w1 ⟨rfl, hb⟩; have hend := Lib.hid (below_box hb); clear hb)
  go_ret
  exact ⟨rfl, hend.out⟩

set_option maxHeartbeats 2000000 in
theorem tells_main (G I B : Int) (o : Bool) (a : Option Addr) (cap n : Nat) (l : List Nat) (w : World) (hn : l.length = n) (h200 : n ≤ 200) (ho : Octs l) (hc : n ≤ cap) (hx : BAt w a l) (hnil : a = none → cap = 0) :
    Calls Try.prog 3 #[geo G I B, .bool o, .slice a n cap] w (Tells (.bool true) w) := by
  obtain ⟨X, hX⟩ : ∃ X, layB G I B o = X := ⟨_, rfl⟩
  obtain ⟨cd, hcd⟩ : ∃ cd, layC G I B = cd := ⟨_, rfl⟩
  obtain ⟨ra, rb, rc, ro, rd, hrd⟩ := readOf_form l
  have hXl := Lib.hid (show X.length ≤ 100000 by rw [← hX]; exact layB_length G I B o)
  have q1 := Lib.hid (lay_u G I B o)
  have q2 := Lib.hid (refLay_u G I B o)
  rw [hX, hcd] at q1 q2
  have hrd' := Lib.hid hrd
  have hn' := Lib.hid hn
  have ho' := Lib.hid ho
  have hnil' := Lib.hid hnil
  have hG0 := Lib.hid (geoAt_alloc w G I B)
  have hA0 := (Below.refl w.heap.size w).alloc (Nat.le_refl _) (.cells #[.int .i64 G, .int .i64 I, .int .i64 B] 23)
  have hx' := Lib.hid (hx.on hA0 (Nat.le_refl _))
  have hb0 := Lib.hid hA0
  clear hX hcd hrd hn ho hnil hx hA0
  unfold geo at q1 q2 ⊢
  go_enter Try.func3, Try.ntmps3
  go_wp2_with (first
    | (go_at_call 7
       refine (lend_any a cap n l _ hn'.out (by omega) hx'.out hnil'.out).mono ?_
       rintro e w1 ⟨gl, rfl, hgl, hr, hb⟩
       have B1 := Lib.hid ((Bag.start _).add hb hgl hr)
       have G1 := Lib.hid (hG0.out.on hb hG0.out.lt)
       obtain ⟨c0, c1, c2, clt⟩ := G1.out.box
       have u1 := B1.out.r0.lt
       have u0 := B1.out.below.size
       clear hr hb hgl)
    | (go_at_call 8
       refine (q1.out _).mono ?_
       rintro e w2 ⟨v1, rfl, hA, hb⟩
       have B2 := Lib.hid (B1.out.on hb)
       have G2 := Lib.hid (G1.out.on hb G1.out.lt)
       have A2 := Lib.hid hA
       clear c0 c1 c2 clt
       obtain ⟨c0, c1, c2, clt⟩ := G2.out.box
       clear hA hb)
    | (go_at_call 9
       refine (q2.out _).mono ?_
       rintro e w3 ⟨v2, rfl, hV, hb⟩
       have B3 := Lib.hid (B2.out.on hb)
       have A3 := Lib.hid (A2.out.on hb)
       have V3 := Lib.hid hV
       clear c0 c1 c2 clt hV hb)
    | (go_at_call 10
       refine (read_any _ _ n l _ hn'.out ho'.out (by omega) B3.out.r0.bat_front).mono ?_
       rw [hrd'.out]
       unfold geo
       rintro e w4 ⟨rfl, hb⟩
       have B4 := Lib.hid (B3.out.on hb)
       have A4 := Lib.hid (A3.out.on hb)
       have V4 := Lib.hid (V3.out.on hb)
       clear hb)
    | (go_at_call 11
       have hA := (Below.refl w4.heap.size w4).alloc (Nat.le_refl _) (.cells #[.int .i64 ra, .int .i64 rb, .int .i64 rc] 23)
       refine (refRead_any a cap n l _ hn'.out ho'.out hc ((B4.out.on hA).arg hx'.out)).mono ?_
       rw [hrd'.out]
       unfold geo
       rintro e w5 ⟨rfl, hb⟩
       have H5 := Lib.hid ((geoAt_alloc w4 ra rb rc).on hb (geoAt_alloc w4 ra rb rc).lt)
       have B5 := Lib.hid (B4.out.on (below_two hA hb))
       have A5 := Lib.hid (A4.out.on (below_two hA hb))
       have V5 := Lib.hid (V4.out.on (below_two hA hb))
       clear hA hb)
    | (go_at_call_of 12 v1
       have hA := (Below.refl w5.heap.size w5).alloc (Nat.le_refl _) (.cells #[.int .i64 ra, .int .i64 rb, .int .i64 rc] 23)
       refine (same_u v1 v2 X _ hXl.out (A5.out.on hA).bv (V5.out.on hA)).mono ?_
       rintro e w6 ⟨rfl, hb⟩
       have H6 := Lib.hid ((H5.out.on hA H5.out.lt).on hb (Nat.lt_of_lt_of_le H5.out.lt hA.size))
       have I6 := Lib.hid ((geoAt_alloc w5 ra rb rc).on hb (geoAt_alloc w5 ra rb rc).lt)
       have B6 := Lib.hid (B5.out.on (below_two hA hb))
       have A6 := Lib.hid (A5.out.on (below_two hA hb))
       obtain ⟨z0, z1, z2, zlt⟩ := H6.out.box
       obtain ⟨y0, y1, y2, ylt⟩ := I6.out.box
       clear hA hb)
    | (go_at_call_of 13 v1
       refine (over_u v1 X w6 hXl.out A6.out).mono ?_
       rintro e w7 ⟨rfl, hg⟩
       have B7 := Lib.hid (B6.out.grown1 hg u1 u0 (fun k hk => (A6.out.block k hk).1))
       clear hg z0 z1 z2 zlt y0 y1 y2 ylt)
    | (go_at_call_of 14 gl
       refine (kept_b gl cap n a l w7 hn'.out (by omega) B7.out.r0 (B7.out.arg hx'.out)).mono ?_
       rintro e w8 ⟨rfl, hb⟩
       have B8 := Lib.hid (B7.out.on hb)
       clear hb)
    | (go_at_call 6
       refine (awake_any w8).mono ?_
       rintro e w9 ⟨rfl, hb⟩
       have hend := Lib.hid (below_two hb0.out (B8.out.low hb))
       clear hb))
  go_ret
  exact ⟨rfl, hend.out⟩
theorem tells_any (G I B : Int) (o : Bool) (a : Option Addr) (cap : Nat) (l : List Nat) (w : World) (ho : Octs l) (hc : l.length ≤ cap) (hx : BAt w a l) (hnil : a = none → cap = 0) :
    Calls Try.prog 3 #[geo G I B, .bool o, .slice a l.length cap] w (Tells (.bool true) w) := by
  by_cases h : 200 < l.length
  · exact tells_long G I B o a cap _ w h
  · exact tells_main G I B o a cap _ l w rfl (by omega) ho hc hx hnil
end Go.Proofs.Ytmoclgijjmmdjaa
