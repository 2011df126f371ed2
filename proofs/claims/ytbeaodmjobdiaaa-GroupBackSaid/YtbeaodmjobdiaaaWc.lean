/-
  What Lay makes of bits.
-/
import Derived.Test.YtbeaodmjobdiaaaWb
import Derived.Test.YtbeaodmjobdiaaaCb
import Derived.Test.YtbeaodmjobdiaaaBg
namespace Go.Proofs.Ytbeaodmjobdiaaa
open Go.RowKit BigFrame

theorem Try.infoBody : (Try.prog.info? 42).map (fun i => (i.zero, i.size)) = some (some (.agg (bv (zs 16)).toArray), 16) := by kernel_rfl
def noLay : Value := .tuple #[.slice none 0 0, .int .i64 2]

set_option maxHeartbeats 1000000 in
theorem groupLay_no (a b : Option Addr) (ca cb n m : Nat) (w : World) (h : layMay n m = false) :
    Calls Try.prog 8 #[.slice a n ca, .slice b m cb] w fun e w' => e = .returned noLay ∧ w = w' := by
  unfold layMay at h
  rw [decide_eq_false_iff_not] at h
  by_cases h1 : 1 ≤ n ∧ n ≤ 4
  · have d1 := Lib.hid (show decide ((1 : Int) ≤ (n : Int) ∧ (n : Int) ≤ 4) = true by rw [decide_eq_true_eq]; omega)
    have d2 := Lib.hid (show decide ((2 : Int) ≤ (m : Int) ∧ (m : Int) ≤ 12) = false by rw [decide_eq_false_iff_not]; omega)
    clear h h1
    go_enter Try.func8, Try.ntmps8
    go_wp2_with (first
      | (go_at_call_of 20 n; refine (within_any _ 1 4 true _ d1.out).mono ?_; rintro e w1 ⟨rfl, rfl⟩)
      | (go_at_call_of 20 m; refine (within_any _ 2 12 false _ d2.out).mono ?_; rintro e w1 ⟨rfl, rfl⟩))
    go_ret2
    exact ⟨rfl, rfl⟩
  · have d1 := Lib.hid (show decide ((1 : Int) ≤ (n : Int) ∧ (n : Int) ≤ 4) = false by rw [decide_eq_false_iff_not]; omega)
    clear h h1
    go_enter Try.func8, Try.ntmps8
    go_wp2_with (go_at_call 20; refine (within_any _ 1 4 false _ d1.out).mono ?_; rintro e w1 ⟨rfl, rfl⟩)
    go_ret2
    exact ⟨rfl, rfl⟩

set_option maxHeartbeats 1000000 in
theorem groupLay_ok (a b : Option Addr) (ca cb n m : Nat) (p q : List Nat) (w : World) (h : layMay n m = true) (hp : p.length = n) (hq : q.length = m) (op : Octs p) (oq : Octs q) (xp : BAt w a p) (xq : BAt w b q) :
    Calls Try.prog 8 #[.slice a n ca, .slice b m cb] w (SealPost 71 (bodyG p q) w) := by
  unfold layMay at h
  rw [decide_eq_true_eq] at h
  have d1 := Lib.hid (show decide ((1 : Int) ≤ (n : Int) ∧ (n : Int) ≤ 4) = true by rw [decide_eq_true_eq]; omega)
  have d2 := Lib.hid (show decide ((2 : Int) ≤ (m : Int) ∧ (m : Int) ≤ 12) = true by rw [decide_eq_true_eq]; omega)
  have hs := Lib.hid (show sealed 71 (splice (splice (zs 16) 0 p) 4 q) = sealed 71 (bodyG p q) from sealed_bodyG (by omega) (by omega))
  have hl := Lib.hid (show (splice (splice (zs 16) 0 p) 4 q).length = 16 by rw [bodyG_splice (by omega) (by omega), List.length_append, bodyG_length (by omega), zs_length]; omega)
  have ho := Lib.hid (show Octs (splice (splice (zs 16) 0 p) 4 q) from (Octs.splice (Octs.rep _ _ (by decide)) op _).splice oq _)
  have tp := Lib.hid (show p.take 4 = p from List.take_of_length_le (by omega))
  have tq := Lib.hid (show q.take 12 = q from List.take_of_length_le (by omega))
  have hl16 := Lib.hid (show (splice (zs 16) 0 p).length = 16 by rw [length_splice _ _ _ (by rw [zs_length]; omega), zs_length])
  have hp' := Lib.hid hp
  have hq' := Lib.hid hq
  have xp' := Lib.hid xp
  have xq' := Lib.hid xq
  clear h hp hq xp xq op oq
  go_enter Try.func8, Try.ntmps8
  go_wp2_with (first
    | (go_at_call_of 20 n; refine (within_any _ 1 4 true _ d1.out).mono ?_; rintro e w1 ⟨rfl, rfl⟩)
    | (go_at_call_of 20 m; refine (within_any _ 2 12 true _ d2.out).mono ?_; rintro e w1 ⟨rfl, rfl⟩)
    | (refine wpList_alloc_zeros Try.infoBody rfl rfl ?_; intro g1 w1 hr1 hg1 hb1; have B1 := Lib.hid hb1; have P1 := Lib.hid (xp'.out.on hb1 (Nat.le_refl _)); clear hb1)
    | (refine wpList_copy_bytesT 42 rfl (.tmp 17) (.tmp 18) rfl g1 0 4 16 a n ca (zs 16) p rfl rfl hp'.out hr1.out P1.out (by rw [zs_length]; omega) w.heap.size w B1.out hg1 ?_; rw [tp.out]; intro w2 hr2 hb2; have B2 := Lib.hid hb2; have Q2 := Lib.hid (xq'.out.on hb2 (Nat.le_refl _)); clear hb2)
    | (refine wpList_copy_bytesT 42 rfl (.tmp 20) (.tmp 21) rfl g1 4 12 12 b m cb (splice (zs 16) 0 p) q rfl rfl hq'.out hr2.out Q2.out (by rw [hl16.out]; omega) w.heap.size w B2.out hg1 ?_; rw [tq.out]; intro w3 hr3 hb3; have B3 := Lib.hid hb3; clear hb3)
    | (go_at_call 21; refine (seal_n (n := 16) 71 _ _ (splice (splice (zs 16) 0 p) 4 q) _ hl.out (by decide) (by decide) ho.out (by decide) hr3.out.bat).mono ?_; rintro e w5 ⟨g5, rfl, hg5, hr5, hb5⟩; have hend := Lib.hid (show SealPost 71 (bodyG p q) w _ w5 from ⟨g5, rfl, Nat.le_trans B3.out.size hg5, hs.out ▸ hr5, below_two B3.out hb5⟩); clear hr5 hb5))
  go_ret2
  exact hend.out
/-- a sector, in a row of the call's own -/
def LaidPost (L : List Nat) (w : World) (e : Ending) (w' : World) : Prop :=
  ∃ g, e = .returned (.tuple #[.slice (some ⟨g, 0, none⟩) 128 128, .int .i64 0]) ∧ w.heap.size ≤ g ∧ Row w' g L ∧ Below w.heap.size w w'
theorem groupLay_c (a b : Option Addr) (ca cb n m : Nat) (p q L : List Nat) (w : World) (hL : sealed 71 (bodyG p q) = L) (h : layMay n m = true) (hp : p.length = n) (hq : q.length = m) (op : Octs p) (oq : Octs q) (xp : BAt w a p) (xq : BAt w b q) :
    Calls Try.prog 8 #[.slice a n ca, .slice b m cb] w (LaidPost L w) := by
  subst hL; exact groupLay_ok a b ca cb n m p q w h hp hq op oq xp xq
end Go.Proofs.Ytbeaodmjobdiaaa
