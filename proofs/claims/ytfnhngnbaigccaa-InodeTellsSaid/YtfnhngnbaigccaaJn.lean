/-
  What the document's own Read tells.
-/
import Derived.Test.YtfnhngnbaigccaaJi
import Derived.Test.YtfnhngnbaigccaaJm
import Derived.Test.YtfnhngnbaigccaaYo
namespace Go.Proofs.Ytfnhngnbaigccaa
open Go.RowKit BigFrame

attribute [local go_sem ↓] ldI_of ldF_of stI_of stF_of bdF_of bdI_of
set_option maxRecDepth 100000 in
set_option maxHeartbeats 1000000 in
theorem refInoRead_bad (a : Option Addr) (cap n : Nat) (l : List Nat) (w : World) (hn : l.length = n) (hk : kindOf l ≠ 73) (ho : Octs l) (hc : n ≤ cap) (hx : BAt w a l) :
    Calls Try.prog 13 #[.slice a n cap] w (Tells (readV l) w) := by
  have hv := Lib.hid (show readV l = .tuple #[av (zz 44), .int .i64 3] by unfold readV; rw [readN_no (l := l) (fun h => hk h.1)])
  have hx' := Lib.hid hx
  have ho' := Lib.hid ho
  have hn' := Lib.hid hn
  have hk' := Lib.hid hk
  obtain ⟨Z, hZ⟩ : ∃ Z, zz 44 = Z := ⟨_, rfl⟩
  have hZl := Lib.hid (show Z.length = 44 by rw [← hZ]; rfl)
  rw [hZ] at hv
  have hZ' := Lib.hid hZ
  clear hx ho hn hk hZ
  go_enter Try.func13, Try.ntmps13
  have tk0 : True := trivial
  go_wp2_with (first
    | (clear tk0; refine wpList_alloc_four rfl rfl ?_; intro g1 w1 hv1 hg1 hb1; rw [hZ'.out] at hv1; have hB1 := Lib.hid hb1; have hx1 := Lib.hid (hx'.out.on hb1 (Nat.le_refl _)); clear hb1)
    | (refine wpList_alloc_four rfl rfl ?_; intro g4 w2 hv4 hg4 hb2; rw [hZ'.out] at hv4; have hv1b := Lib.hid (hv1.out.on' hb2); have hB2 := Lib.hid (below_two hB1.out hb2); have hx2 := Lib.hid (hx1.out.on hb2 (Nat.le_refl _)); clear hb2)
    | (go_at_call 31; refine (refOpen_bad 73 (kindOf l) _ _ n l _ hn'.out rfl (.inr hk'.out) ho'.out hc hx2.out).mono ?_; rintro e w3 ⟨rfl, hb3⟩; have hv5 := Lib.hid (hv1b.out.on' hb3); have hv6 := Lib.hid (hv4.out.on' hb3); have hB3 := Lib.hid (below_two hB2.out hb3); have hld := run_ldF hv6.out.whole hZl.out; have hst := run_stF (w := w3) hZl.out (hv5.out.there (o := 0) (n := 44) (by rw [hZl.out]; omega)); unfold av at hst hld; clear hb3))
  refine bodyPost_ret (four_ret rfl rfl (hv5.out.over (m := Z) rfl) hZl.out) rfl ⟨by rw [hv.out]; rfl, below_setCells hB3.out hg1 0 _⟩

theorem gt_take {x : List Nat} {o n p : Nat} (h : o + n ≤ p) : gt (x.take p) o n = gt x o n := by
  unfold gt
  rw [List.drop_take, List.take_take, Nat.min_eq_left (by omega)]
theorem gt_one {x : List Nat} (h : 0 < x.length) : gt x 0 1 = ((bz x 0 : Nat) : Int) := by
  unfold gt
  rw [List.drop_zero, bz_get h]
  cases x with
  | nil => simp at h
  | cons a x => simp [rdN]
theorem gt_nat (x : List Nat) (o n : Nat) : ∃ r : Nat, gt x o n = (r : Int) := ⟨_, rfl⟩
theorem gt_lt {x : List Nat} (ho : Octs x) (o n : Nat) : gt x o n < ((256 ^ n : Nat) : Int) := by
  unfold gt
  have h := rdN_lt ((ho.drop o).take n)
  have h2 : 256 ^ ((x.drop o).take n).length ≤ 256 ^ n := Nat.pow_le_pow_right (by decide) (by rw [List.length_take]; omega)
  omega
/-- four bytes out of twice two -/
theorem gt_four {x : List Nat} (ho : Octs x) {o : Nat} (h : o + 4 ≤ x.length) : bits .or .i64 (gt x o 2 * 65536) (gt x (o + 2) 2) = gt x o 4 := by
  obtain ⟨a, ha⟩ := gt_nat x o 2
  obtain ⟨b, hb⟩ := gt_nat x (o + 2) 2
  have la := gt_lt ho o 2
  have lb := gt_lt ho (o + 2) 2
  have e2 : ((256 ^ 2 : Nat) : Int) = 65536 := rfl
  rw [ha, e2] at la
  rw [hb, e2] at lb
  have hj := i64_join 16 (a * 65536) b (by omega) (by omega) (by omega) (by omega)
  rw [ha, hb, show (a : Int) * 65536 = ((a * 65536 : Nat) : Int) by omega, hj]
  have e1 : (x.drop o).take 4 = (x.drop o).take 2 ++ (x.drop (o + 2)).take 2 := by
    rw [show 4 = 2 + 2 from rfl, List.take_add, List.drop_drop]
  have hl : ((x.drop (o + 2)).take 2).length = 2 := by rw [List.length_take, List.length_drop]; omega
  unfold gt at ha hb ⊢
  rw [e1]
  generalize (x.drop o).take 2 = p at *
  generalize (x.drop (o + 2)).take 2 = q at *
  match q, hl with
  | [c, d], _ =>
    have e3 : p ++ [c, d] = (p ++ [c]) ++ [d] := by simp
    rw [e3, rdN_snoc, rdN_snoc]
    have e4 : rdN [c, d] = c * 256 + d := by simp [rdN]
    rw [e4] at hb
    have ha2 : rdN p = a := Int.ofNat.inj ha
    have hb2 : c * 256 + d = b := Int.ofNat.inj hb
    rw [ha2, ← hb2]
    clear hj la lb ha hb ha2 hb2 e1 e2 e3 e4
    omega
/-- so far k inodes are told, and of the next one what T says -/
def rrL (m : List Nat) (k : Nat) (T : List Int) : List Int := toldN m k ++ (T ++ zz (44 - (k + 1) * 11))
theorem rrL_start (m : List Nat) {k : Nat} (hk : k < 4) {T : List Int} (hT : T.length = 11) : splice (toldN m k ++ zz (44 - k * 11)) (k * 11) T = rrL m k T := by
  have hl := toldN_length m k
  unfold splice rrL
  rw [List.take_append_of_le_length (by omega), List.take_of_length_le (by omega)]
  congr 2
  rw [List.drop_append, List.drop_of_length_le (by omega), List.nil_append, hT, hl]
  unfold zz
  rw [List.drop_replicate]
  congr 1
  omega
theorem rrL_set (m : List Nat) (k : Nat) {T : List Int} (hT : T.length = 11) {i : Nat} (hi : i < 11) (x : Int) : (rrL m k T).set (k * 11 + i) x = rrL m k (T.set i x) := by
  have hl := toldN_length m k
  unfold rrL
  rw [List.set_append_right _ _ (by omega), hl, Nat.add_sub_cancel_left, List.set_append_left _ _ (by omega)]
theorem rrL_end (m : List Nat) (k : Nat) {T : List Int} (hT : toldI ((m.drop (k * 23)).take 23) = T) : rrL m k T = toldN m (k + 1) ++ zz (44 - (k + 1) * 11) := by
  unfold rrL
  rw [toldN, hT, List.append_assoc]
theorem rrL_length (m : List Nat) {k : Nat} (hk : k < 4) {T : List Int} (hT : T.length = 11) : (rrL m k T).length = 44 := by
  unfold rrL
  rw [List.length_append, List.length_append, toldN_length, hT, zz_length]; omega
/-- what is told so far, in block G; the result's block; the body's bytes -/
def RrAt (X : List Int) (m : List Nat) (G g2 g1 : Nat) (w wr : World) : Prop :=
  Vi wr 25 G X ∧ Vi wr 25 g2 (zz 44) ∧ BAt wr (some ⟨g1, 0, none⟩) m ∧ Below w.heap.size w wr ∧ g2 < G ∧ G < g1 ∧ w.heap.size ≤ g2
theorem RrAt.on {X : List Int} {m : List Nat} {G g2 g1 : Nat} {w wr wx : World} (h : RrAt X m G g2 g1 w wr) (hb : Below wr.heap.size wr wx) : RrAt X m G g2 g1 w wx := by
  obtain ⟨h1, h2, h3, h4, h5⟩ := h
  exact ⟨h1.on' hb, h2.on' hb, h3.on hb (Nat.le_refl _), below_two h4 hb, h5⟩
theorem RrAt.put {m : List Nat} {k G g2 g1 : Nat} {w wr : World} (h : RrAt (toldN m k ++ zz (44 - k * 11)) m G g2 g1 w wr) (hk : k < 4) {T : List Int} (hT : T.length = 11) : RrAt (rrL m k T) m G g2 g1 w (wr.setCells G (k * 11) (iv T)) := by
  obtain ⟨h1, h2, h3, h4, h5, h6, h7⟩ := h
  have ho := Oth.setCells (Oth.refl G wr) (k * 11) (iv T)
  have hp := Vi.put T (k * 11) h1 (by rw [List.length_append, toldN_length, zz_length]; omega)
  rw [rrL_start m hk hT] at hp
  exact ⟨hp, h2.oth ho (by omega), h3.oth ho (by omega), below_setCells h4 (by omega) _ _, h5, h6, h7⟩
theorem RrAt.set {m : List Nat} {k G g2 g1 : Nat} {w wr : World} {T : List Int} (h : RrAt (rrL m k T) m G g2 g1 w wr) (hT : T.length = 11) {i : Nat} (hi : i < 11) (x : Int) : RrAt (rrL m k (T.set i x)) m G g2 g1 w (wr.setCell ⟨G, k * 11 + i, none⟩ (.int .i64 x)) := by
  obtain ⟨h1, h2, h3, h4, h5, h6, h7⟩ := h
  have ho := (Oth.refl G wr).setCell (p := k * 11 + i) (.int .i64 x)
  have hp := h1.set (k * 11 + i) x
  rw [rrL_set m k hT hi] at hp
  exact ⟨hp, h2.oth ho (by omega), h3.oth ho (by omega), h4.setCell (p := ⟨G, k * 11 + i, none⟩) (show w.heap.size ≤ G by omega) _, h5, h6, h7⟩
def RrRel (m : List Nat) (G g2 g1 : Nat) (w : World) (i : Value) (wr : World) : Prop := ∃ k : Nat, k ≤ 4 ∧ i = .int .i64 k ∧ RrAt (toldN m k ++ zz (44 - k * 11)) m G g2 g1 w wr
def RrIn (m x : List Nat) (k G g2 g1 : Nat) (w : World) (i : Value) (wr : World) : Prop := ∃ j : Nat, j ≤ 6 ∧ i = .int .i64 j ∧ ∃ T, tl x j = T ∧ RrAt (rrL m k T) m G g2 g1 w wr
theorem tl_take (x : List Nat) : ∀ j, j ≤ 6 → tl (x.take 23) j = tl x j
  | 0, _ => by simp only [tl]; rw [gt_take (by omega), gt_take (by omega), gt_take (by omega), gt_take (by omega), gt_take (by omega)]
  | j + 1, h => by rw [tl, tl, tl_take x j (by omega), gt_take (by omega)]
theorem tl_told (x : List Nat) : tl x 6 = toldI (x.take 23) := by rw [← tl_six, tl_take x 6 (by omega)]
/-- what stands in a cell, whatever it is -/
def vAt (w : World) (a : Addr) : Value := (w.cell? a).getD undef
theorem vAt_of {w : World} {a : Addr} {v : Value} (h : w.cell? a = some v) : w.cell? a = some (vAt w a) := by unfold vAt; rw [h]; rfl
theorem BAt.rest {w : World} {g : Nat} {m : List Nat} (h : BAt w (some ⟨g, 0, none⟩) m) (hm : m.length = 123) (q : Nat) : BAt w (some ⟨g, q, none⟩) (m.drop q) := by
  have := h.sub q (123 - q)
  rwa [Nat.zero_add, List.take_of_length_le (by rw [List.length_drop]; omega)] at this
theorem run_stAt {m : List Nat} {X : List Int} {G g2 g1 : Nat} {w wr : World} {o : Nat} (h : RrAt X m G g2 g1 w wr) (ho : o + 11 ≤ X.length) (a b c x y : Int) :
    (stA 24 (.pointer (some ⟨G, o, none⟩)) (.agg (iv [a, b, c, 0, 0, 0, 0, 0, 0, x, y]).toArray)).run Try.prog wr = .ok () (wr.setCells G o (iv [a, b, c, 0, 0, 0, 0, 0, 0, x, y])) :=
  run_stI (m := [a, b, c, 0, 0, 0, 0, 0, 0, x, y]) rfl (h.1.there (o := o) (n := 11) ho)
attribute [local irreducible] gt
set_option maxRecDepth 100000 in
set_option maxHeartbeats 4000000 in
theorem refInoRead_good (a : Option Addr) (cap n : Nat) (l : List Nat) (w : World) (hn : l.length = n) (hk : kindOf l = 73) (ho : Octs l) (hc : n ≤ cap) (hx : BAt w a l) :
    Calls Try.prog 13 #[.slice a n cap] w (Tells (readV l) w) := by
  have hfs := Lib.hid (fine4_sector ho hk)
  obtain ⟨m, hme⟩ : ∃ m, m = bodyOf l := ⟨_, rfl⟩
  have hml := Lib.hid (show m.length = 123 by rw [hme]; exact bodyOf_length (kindOf_len (by omega)))
  have hmo := Lib.hid (show Octs m by rw [hme]; exact (ho.drop 1).take 123)
  obtain ⟨Z, hZ⟩ : ∃ Z, zz 44 = Z := ⟨_, rfl⟩
  have hZl := Lib.hid (show Z.length = 44 by rw [← hZ]; rfl)
  have hno := Lib.hid (show ¬ fine4 m = true → readV l = .tuple #[av Z, .int .i64 3] from fun h => by unfold readV; rw [readN_no (l := l) (fun h2 => h (by rw [hme]; exact h2.2)), hZ])
  have hyes := Lib.hid (show fine4 m = true → readV l = .tuple #[av (four m), .int .i64 0] from fun h => by unfold readV; rw [readN_yes (l := l) hk (by rw [← hme]; exact h), ← hme])
  rw [← hme] at hfs
  have hme' := Lib.hid hme
  have hx' := Lib.hid hx
  have ho' := Lib.hid ho
  have hn' := Lib.hid hn
  have hk' := Lib.hid hk
  have hZ' := Lib.hid hZ
  have hbz := run_bd0F
  rw [hZ] at hbz
  unfold av at hbz
  have hbd := run_bdI
  obtain ⟨V, hV⟩ : ∃ V, readV l = V := ⟨_, rfl⟩
  rw [hV] at hno hyes ⊢
  clear hx ho hn hk hZ hme hV
  go_enter Try.func13, Try.ntmps13
  have tk0 : True := trivial
  go_wp2_with (first
    | (clear tk0; refine wpList_alloc_four rfl rfl ?_; intro g2 w1 hv1 hg2 hb1; have hB1 := Lib.hid hb1; have hx1 := Lib.hid (hx'.out.on hb1 (Nat.le_refl _)); clear hb1)
    | (refine wpList_alloc_four rfl rfl ?_; intro G w2 hv4 hg4 hb2; have hv1b := Lib.hid (hv1.out.on' hb2); have hB2 := Lib.hid (below_two hB1.out hb2); have hx2 := Lib.hid (hx1.out.on hb2 (Nat.le_refl _)); have h2G := Lib.hid (Nat.lt_of_lt_of_le hv1.out.lt hg4); clear hb2)
    | (go_at_call 31; refine (refOpen_room 73 _ _ n l _ hn'.out (by decide) hk'.out ho'.out hc hx2.out).mono ?_; rintro e w3 ⟨g1, cp1, rfl, hcp1, hg1, hr1, hb3⟩; rw [← hme'.out] at hr1; have S0 := Lib.hid (show RrAt (zz 44) m G g2 g1 w w3 from ⟨hv4.out.on' hb3, hv1b.out.on' hb3, hr1, below_two hB2.out hb3, h2G.out, Nat.lt_of_lt_of_le hv4.out.lt hg1, hg2⟩); clear hb3 hr1))
  go_loopw [7] (fun i wr => RrRel m G g2 g1 w i wr) (fun i _ => 4 - (intOf i).toNat)
  case atStart => exact ⟨0, by omega, rfl, S0.out⟩
  case round =>
    obtain ⟨k, hk4, rfl, hS0⟩ := hrel
    have S := Lib.hid hS0
    clear hS0
    by_cases hlt : k < 4
    · obtain ⟨q, hq⟩ : ∃ q, k * 23 = q := ⟨_, rfl⟩
      obtain ⟨x, hxx⟩ : ∃ x, m.drop q = x := ⟨_, rfl⟩
      obtain ⟨r, hr⟩ : ∃ r, 123 - q = r := ⟨_, rfl⟩
      have hxl := Lib.hid (show x.length = r by have := hml.out; rw [← hxx, List.length_drop]; omega)
      have hxo := Lib.hid (show Octs x by rw [← hxx]; exact hmo.out.drop q)
      have m1 : (23 : Int) * (k : Int) = (q : Int) := by omega
      have m4 : IntKind.i64.wrap (q : Int) = (q : Int) := wrap_in (by omega)
      have p1 : (0 : Int) ≤ (q : Int) := by omega
      have p2 : (q : Int) ≤ (123 : Int) := by omega
      have hr23 : 23 ≤ r := by omega
      have hr99 : r ≤ 123 := by omega
      have i0 : (0 : Int) < (r : Int) := by omega
      have i00 : 0 < r := by omega
      have k0 : (0 : Int) ≤ (k : Int) := by omega
      have k4 : (k : Int) < 4 := by omega
      have ncp : ¬ cp1 = q := by omega
      have hql := Lib.hid hq
      have hxd := Lib.hid hxx
      have hxB := Lib.hid (show BAt wr (some ⟨g1, q, none⟩) x by rw [← hxx]; exact S.out.2.2.1.rest hml.out q)
      have e4 : bits .or .i64 (gt x 3 2 * 65536) (gt x 5 2) = gt x 3 4 := gt_four hxo.out (o := 3) (by rw [hxl.out]; omega)
      have wg : IntKind.i64.wrap (gt x 3 2 * 65536) = gt x 3 2 * 65536 := wrap_in (by
        obtain ⟨y, hy⟩ := gt_nat x 3 2
        have := gt_lt hxo.out 3 2
        have e2 : ((256 ^ 2 : Nat) : Int) = 65536 := rfl
        rw [e2] at this
        omega)
      clear hq hxx
      go_wp2_with fail
      have b0 := hxB.out.cell (k := 0) (by rw [hxl.out]; omega)
      obtain ⟨z, hz⟩ : ∃ z, bz x 0 = z := ⟨_, rfl⟩
      have hbz0 := Lib.hid hz
      have hz' := Lib.hid ((gt_one (x := x) (by rw [hxl.out]; omega)).trans (by rw [hz]))
      rw [Nat.add_zero, hz] at b0
      have wz : IntKind.i64.wrap (z : Int) = (z : Int) := wrap_in (by have := hxo.out 0 (by rw [hxl.out]; omega); rw [hz] at this; omega)
      clear hz
      have hXl := Lib.hid (show k * 11 + 11 ≤ (toldN m k ++ zz (44 - k * 11)).length by rw [List.length_append, toldN_length, zz_length]; omega)
      have S1 := Lib.hid (show RrAt (toldN m k ++ zz (44 - k * 11)) m G g2 g1 w wr.drew from S.out.on ((Below.refl _ _).drew))
      have y1 := Lib.hid (show BAt wr.drew (some ⟨g1, q, none⟩) x from hxB.out)
      have st0 := run_stAt S1.out hXl.out
      have d0 := y1.out.cell (k := 0) (by rw [hxl.out]; omega)
      rw [Nat.add_zero, hbz0.out] at d0
      go_region_held3 (fun w' => w'.cell? ⟨g1, q, none⟩ = some (.int .u8 (z : Int)) ∧ ∀ a b c x y, (stA 24 (.pointer (some ⟨G, k * 11, none⟩)) (.agg (iv [a, b, c, 0, 0, 0, 0, 0, 0, x, y]).toArray)).run Try.prog w' = .ok () (w'.setCells G (k * 11) (iv [a, b, c, 0, 0, 0, 0, 0, 0, x, y]))) (first | exact ⟨kC _ rfl, kS _ rfl⟩ | exact ⟨d0, st0⟩ | exact ⟨d1, st1⟩ | exact ⟨d2, st2⟩ | exact ⟨d3, st3⟩ | exact ⟨d4, st4⟩ | exact ⟨d5, st5⟩) (first
        | (go_at_call 32; refine (at_any g1 q r _ 1 1 x _ rfl hxl.out hxo.out (by omega) (by omega) y1.out).mono ?_; rintro e v1 hT; obtain ⟨rfl, hb⟩ := hT.below; have S2 := Lib.hid (S1.out.on hb); have y2 := Lib.hid (y1.out.on hb (Nat.le_refl _)); have d1 := y2.out.cell (k := 0) (by rw [hxl.out]; omega); rw [Nat.add_zero, hbz0.out] at d1; have st1 := run_stAt S2.out hXl.out; clear hT hb S1 y1)
        | (go_at_call 32; refine (at_any g1 q r _ 3 3 x _ rfl hxl.out hxo.out (by omega) (by omega) y2.out).mono ?_; rintro e v2 hT; obtain ⟨rfl, hb⟩ := hT.below; have S3 := Lib.hid (S2.out.on hb); have y3 := Lib.hid (y2.out.on hb (Nat.le_refl _)); have d2 := y3.out.cell (k := 0) (by rw [hxl.out]; omega); rw [Nat.add_zero, hbz0.out] at d2; have st2 := run_stAt S3.out hXl.out; clear hT hb S2 y2)
        | (go_at_call 32; refine (at_any g1 q r _ 5 5 x _ rfl hxl.out hxo.out (by omega) (by omega) y3.out).mono ?_; rintro e v3 hT; obtain ⟨rfl, hb⟩ := hT.below; have S4 := Lib.hid (S3.out.on hb); have y4 := Lib.hid (y3.out.on hb (Nat.le_refl _)); have d3 := y4.out.cell (k := 0) (by rw [hxl.out]; omega); rw [Nat.add_zero, hbz0.out] at d3; have st3 := run_stAt S4.out hXl.out; clear hT hb S3 y3)
        | (go_at_call 32; refine (at_any g1 q r _ 19 19 x _ rfl hxl.out hxo.out (by omega) (by omega) y4.out).mono ?_; rintro e v4 hT; obtain ⟨rfl, hb⟩ := hT.below; have S5 := Lib.hid (S4.out.on hb); have y5 := Lib.hid (y4.out.on hb (Nat.le_refl _)); have d4 := y5.out.cell (k := 0) (by rw [hxl.out]; omega); rw [Nat.add_zero, hbz0.out] at d4; have st4 := run_stAt S5.out hXl.out; clear hT hb S4 y4)
        | (go_at_call 32; refine (at_any g1 q r _ 21 21 x _ rfl hxl.out hxo.out (by omega) (by omega) y5.out).mono ?_; rintro e v5 hT; obtain ⟨rfl, hb⟩ := hT.below; have S6 := Lib.hid (S5.out.on hb); have y6 := Lib.hid (y5.out.on hb (Nat.le_refl _)); have d5 := y6.out.cell (k := 0) (by rw [hxl.out]; omega); rw [Nat.add_zero, hbz0.out] at d5; have st5 := run_stAt S6.out hXl.out; have kC : ∀ T : List Int, T.length = 11 → (v5.setCells G (k * 11) (iv T)).cell? ⟨g1, q, none⟩ = some (.int .u8 (z : Int)) := (fun T hT => by have hc := ((S6.out.put hlt hT).2.2.1.rest hml.out q).cell (k := 0) (by rw [hxd.out, hxl.out]; omega); rwa [Nat.add_zero, hxd.out, hbz0.out] at hc); have kS := (fun (T : List Int) (hT : T.length = 11) => run_stAt (S6.out.put hlt hT) (o := k * 11) (by rw [rrL_length m hlt hT]; omega)); clear hT hb S5 y5))
      obtain ⟨w8, hw8⟩ : ∃ w8, v5.setCells G (k * 11) (iv [(z : Int), gt x 1 2, gt x 3 4, 0, 0, 0, 0, 0, 0, gt x 19 2, gt x 21 2]) = w8 := ⟨_, rfl⟩
      rw [hw8]
      have S7 := Lib.hid (show RrAt (rrL m k (tl x 0)) m G g2 g1 w w8 by
        have h7 := S6.out.put hlt (T := [(z : Int), gt x 1 2, gt x 3 4, 0, 0, 0, 0, 0, 0, gt x 19 2, gt x 21 2]) rfl
        have e7 : tl x 0 = [(z : Int), gt x 1 2, gt x 3 4, 0, 0, 0, 0, 0, 0, gt x 19 2, gt x 21 2] := by rw [tl, hz'.out]
        rwa [e7, ← hw8])
      rename_i hHeld
      clear hHeld hw8
      clear st0 d0 st1 d1 st2 d2 st3 d3 st4 d4 st5 d5 b0 kC kS S6 y6 e4 wg wz hbd
      go_wp2_with fail
      go_loopw [9] (fun i wx => RrIn m x k G g2 g1 w i wx) (fun i _ => 6 - (intOf i).toNat)
      case atStart => exact ⟨0, by omega, rfl, _, rfl, S7.out⟩
      case round =>
        obtain ⟨j, hj, rfl, T, hT0, hS⟩ := hrel
        have hT := Lib.hid hT0
        have hTl := Lib.hid (show T.length = 11 by rw [← hT0]; exact tl_length x j)
        have S9 := Lib.hid hS
        clear hT0 hS
        by_cases hj6 : j < 6
        · obtain ⟨j2, hj2⟩ : ∃ j2, 2 * j = j2 := ⟨_, rfl⟩
          obtain ⟨q7, hq7⟩ : ∃ q7, 7 + j2 = q7 := ⟨_, rfl⟩
          have n1 : (2 : Int) * (j : Int) = (j2 : Int) := by omega
          have n2 : (7 : Int) + (j2 : Int) = (q7 : Int) := by omega
          have n3 : IntKind.i64.wrap (j2 : Int) = (j2 : Int) := wrap_in (by omega)
          have n4 : IntKind.i64.wrap (q7 : Int) = (q7 : Int) := wrap_in (by omega)
          have j0 : (0 : Int) ≤ (j : Int) := by omega
          have j6 : (j : Int) < 6 := by omega
          have hq7l : q7 + 1 < r := by omega
          have hq7' := Lib.hid (show 7 + 2 * j = q7 by omega)
          clear hj2 hq7
          have hLl := Lib.hid (rrL_length m hlt hTl.out)
          have y9 := Lib.hid (show BAt wr (some ⟨g1, q, none⟩) x by have := S9.out.2.2.1.rest hml.out q; rwa [hxd.out] at this)
          have c1 := vAt_of (show wr.drew.cell? ⟨G, k * 11 + 3 + j, none⟩ = some _ from S9.out.1.cell (k := k * 11 + 3 + j) (by rw [hLl.out]; omega))
          have f1 : wr.drew.frozen? ⟨G, k * 11 + 3 + j, none⟩ = false := S9.out.1.frozen (k * 11 + 3 + j)
          go_wp2_with fail
          go_region_held3 (fun w' => w'.cell? ⟨G, k * 11 + 3 + j, none⟩ = some (vAt w' ⟨G, k * 11 + 3 + j, none⟩) ∧ w'.frozen? ⟨G, k * 11 + 3 + j, none⟩ = false) (first | exact ⟨vAt_of ((hS11 _).1.cell (k := k * 11 + 3 + j) (by rw [hll]; omega)), (hS11 _).1.frozen (k * 11 + 3 + j)⟩ | exact ⟨c2, f2⟩ | exact ⟨c1, f1⟩) (first
            | (go_at_call 32; refine (at_any g1 q r _ q7 _ x _ rfl hxl.out hxo.out hq7l (by omega) (show BAt wr.drew (some ⟨g1, q, none⟩) x from y9.out)).mono ?_; rintro e v6 hT; obtain ⟨rfl, hb⟩ := hT.below; have S10 := Lib.hid (S9.out.on (below_two ((Below.refl _ wr).drew) hb)); have c2 := vAt_of (S10.out.1.cell (k := k * 11 + 3 + j) (by rw [hLl.out]; omega)); have f2 := S10.out.1.frozen (k * 11 + 3 + j); have hS11 : ∀ y : Int, RrAt (rrL m k (T.set (3 + j) y)) m G g2 g1 w (v6.setCell ⟨G, k * 11 + 3 + j, none⟩ (.int .i64 y)) := (fun y => by rw [Nat.add_assoc]; exact S10.out.set hTl.out (i := 3 + j) (by omega) y); have hll := (fun x => rrL_length m hlt (T := T.set (3 + j) x) (by rw [List.length_set]; exact hTl.out)); clear hT hb))
          have hend := Lib.hid (hS11 (gt x q7 2))
          clear c1 f1 c2 f2 hS11 hll S10
          go_wp2_with fail
          exact ⟨⟨j + 1, by omega, by go_num, _, rfl, by rw [tl, hT.out, hq7'.out]; exact hend.out⟩, by simp [intOf]; omega⟩
        · obtain rfl : j = 6 := by omega
          have hend := Lib.hid (show RrAt (toldN m (k + 1) ++ zz (44 - (k + 1) * 11)) m G g2 g1 w wr by
            have h9 := S9.out
            rw [rrL_end m k (by rw [hql.out, hxd.out, ← tl_told, hT.out])] at h9
            exact h9)
          go_wp2_with fail
          exact ⟨⟨k + 1, by omega, by go_num, hend.out⟩, by simp [intOf]; omega⟩
    · obtain rfl : k = 4 := by omega
      obtain ⟨F, hF⟩ : ∃ F, four m = F := ⟨_, rfl⟩
      have hFl := Lib.hid (show F.length = 44 by rw [← hF]; exact four_length m)
      have e4 : toldN m 4 ++ zz (44 - 4 * 11) = F := by rw [← hF]; exact List.append_nil _
      have hS := S.out
      rw [e4] at hS
      have S5 := Lib.hid hS
      clear hS e4
      rw [hF] at hfs hyes
      clear hF
      have hld := run_ldF S5.out.1.whole hFl.out
      have hQn := refInoLay_no F wr hFl.out
      have hQy := refInoLay_ok F wr hFl.out
      unfold av at hld hQn hQy
      cases hm0 : may4 F
      · have hQ2 := Lib.hid (hQn hm0)
        have hv := Lib.hid (hno.out (fun h => by have h2 := (hfs.out.1 h).1; rw [hm0] at h2; cases h2))
        clear hQn hQy hm0
        go_wp2_with (go_at_call 11; refine hQ2.out.mono ?_; unfold laidNo; rintro e w10 ⟨rfl, hb⟩; have S6 := Lib.hid (S5.out.on hb); have hst := run_stF (w := w10) hZl.out (S6.out.2.1.there (o := 0) (n := 44) (by rw [zz_length]; omega)); unfold av at hst; clear hb)
        refine bodyPost_ret (four_ret rfl rfl (S6.out.2.1.over (m := Z) (by rw [hZl.out, zz_length])) hZl.out) rfl ⟨by rw [hv.out]; rfl, below_setCells S6.out.2.2.2.1 S6.out.2.2.2.2.2.2 0 _⟩
      · have hQ2 := Lib.hid (hQy hm0)
        have hsl := Lib.hid (sector4_length hFl.out)
        have hso := Lib.hid (sector4_octs F)
        by_cases he : sector4 F = l
        · have hv := Lib.hid (hyes.out (hfs.out.2 ⟨hm0, he⟩))
          have he' := Lib.hid he
          clear hQn hQy hm0 he
          go_wp2_with (go_at_call 11; refine hQ2.out.mono ?_; rintro e w10 ⟨g5, cp5, rfl, hg5, hcp5, hr5, hb⟩; have S6 := Lib.hid (S5.out.on hb); have hst := run_stF (w := w10) hFl.out (S6.out.2.1.there (o := 0) (n := 44) (by rw [zz_length]; omega)); have hld2 := run_ldF S6.out.1.whole hFl.out; unfold av at hst hld2; have q1 := run_string (cap := cp5) hsl.out hso.out hr5; have q2 := run_string (cap := cap) hn'.out ho'.out (hx'.out.on S6.out.2.2.2.1 (Nat.le_refl _)); rw [he'.out] at q1; have hs0 : ((strOf l).toList == (strOf l).toList) = true := (beq_self_eq_true _); clear hb hr5)
          refine bodyPost_ret (four_ret rfl rfl (S6.out.2.1.over (m := F) (by rw [hFl.out, zz_length])) hFl.out) rfl ⟨by rw [hv.out]; rfl, below_setCells S6.out.2.2.2.1 S6.out.2.2.2.2.2.2 0 _⟩
        · have hv := Lib.hid (hno.out (fun h => he (hfs.out.1 h).2))
          have hs0 := strOf_ne hso.out ho'.out he
          clear hQn hQy hm0 he
          go_wp2_with (go_at_call 11; refine hQ2.out.mono ?_; rintro e w10 ⟨g5, cp5, rfl, hg5, hcp5, hr5, hb⟩; have S6 := Lib.hid (S5.out.on hb); have hst := run_stF (w := w10) hZl.out (S6.out.2.1.there (o := 0) (n := 44) (by rw [zz_length]; omega)); unfold av at hst; have q1 := run_string (cap := cp5) hsl.out hso.out hr5; have q2 := run_string (cap := cap) hn'.out ho'.out (hx'.out.on S6.out.2.2.2.1 (Nat.le_refl _)); clear hb hr5)
          refine bodyPost_ret (four_ret rfl rfl (S6.out.2.1.over (m := Z) (by rw [hZl.out, zz_length])) hZl.out) rfl ⟨by rw [hv.out]; rfl, below_setCells S6.out.2.2.2.1 S6.out.2.2.2.2.2.2 0 _⟩
theorem refInoRead_any (a : Option Addr) (cap n : Nat) (l : List Nat) (w : World) (hn : l.length = n) (ho : Octs l) (hc : n ≤ cap) (hx : BAt w a l) :
    Calls Try.prog 13 #[.slice a n cap] w (Tells (readV l) w) := by
  by_cases hk : kindOf l = 73
  · exact refInoRead_good a cap n l w hn hk ho hc hx
  · exact refInoRead_bad a cap n l w hn hk ho hc hx
end Go.Proofs.Ytfnhngnbaigccaa
