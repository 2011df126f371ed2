/-
  What the document's own Lay makes.
-/
import Derived.Test.YtbeaodmjobdiaaaWc
import Derived.Test.YtbeaodmjobdiaaaYl
namespace Go.Proofs.Ytbeaodmjobdiaaa
open Go.RowKit BigFrame

set_option maxHeartbeats 1000000 in
theorem refGroupLay_no (a b : Option Addr) (ca cb n m : Nat) (w : World) (h : layMay n m = false) :
    Calls Try.prog 9 #[.slice a n ca, .slice b m cb] w fun e w' => e = .returned noLay ∧ w = w' := by
  unfold layMay at h
  rw [decide_eq_false_iff_not] at h
  by_cases h1 : n < 1
  · clear h
    go_enter Try.func9, Try.ntmps9
    go_wp2_with fail
    go_ret2
    exact ⟨rfl, rfl⟩
  · by_cases h2 : 4 < n
    · clear h
      go_enter Try.func9, Try.ntmps9
      go_wp2_with fail
      go_ret2
      exact ⟨rfl, rfl⟩
    · by_cases h3 : m < 2
      · clear h
        go_enter Try.func9, Try.ntmps9
        go_wp2_with fail
        go_ret2
        exact ⟨rfl, rfl⟩
      · have h4 : 12 < m := by omega
        clear h
        go_enter Try.func9, Try.ntmps9
        go_wp2_with fail
        go_ret2
        exact ⟨rfl, rfl⟩

set_option maxHeartbeats 1000000 in
theorem refGroupLay_ok (a b : Option Addr) (ca cb n m : Nat) (p q : List Nat) (w : World) (h : layMay n m = true) (hp : p.length = n) (hq : q.length = m) (op : Octs p) (oq : Octs q) (xp : BAt w a p) (xq : BAt w b q) (np : a = none → ca = 0) (nq : b = none → cb = 0) :
    Calls Try.prog 9 #[.slice a n ca, .slice b m cb] w (RefSealPost 71 (bodyG p q) w) := by
  unfold layMay at h
  rw [decide_eq_true_eq] at h
  obtain ⟨⟨g1, g2⟩, g3, g4⟩ := h
  obtain ⟨k, hk⟩ : ∃ k, 4 - n = k := ⟨_, rfl⟩
  have t2 : (4 : Int) - (n : Int) = (k : Int) := by omega
  have hb1 := Lib.hid (show ([] ++ p ++ zs k) ++ q = bodyG p q by unfold bodyG; rw [hp, hk, List.nil_append])
  have hl1 := Lib.hid (show (bodyG p q).length = 4 + m by rw [bodyG_length (by omega), hq])
  have ho1 := Lib.hid (bodyG_octs op oq)
  have lk := Lib.hid (show (([] : List Nat) ++ p ++ zs k).length = 4 by rw [List.length_append, List.length_append, zs_length, hp, List.length_nil]; omega)
  have lp := Lib.hid (show (([] : List Nat) ++ p).length = n by rw [List.nil_append, hp])
  have k4 : k ≤ 3 := by omega
  have hp' := Lib.hid hp
  have hq' := Lib.hid hq
  have xp' := Lib.hid xp
  have xq' := Lib.hid xq
  have np' := Lib.hid np
  have nq' := Lib.hid nq
  clear hp hq xp xq op oq np nq hk
  go_enter Try.func9, Try.ntmps9
  go_wp2_with (first
    | (at_builtin; refine wpList_append_bytes rfl (.const (.slice none 0 0)) (.tmp 25) rfl w.heap.size _ [] rfl (OwnB.nil _ _) a n ca p rfl hp'.out xp'.out np'.out (by simp; omega) (Nat.le_refl _) ?_; intro v1 w1 ho1 hg1 hb1; have O1 := Lib.hid ho1.out; have B1 := Lib.hid hb1; clear ho1 hg1 hb1)
    | (at_builtin; refine wpList_append_zeros_any rfl (.tmp 26) (.tmp 29) rfl w.heap.size k v1 ([] ++ p) rfl O1.out rfl (by rw [lp.out]; omega) B1.out.size ?_; intro v2 w2 ho2 hg2 hb2; have O2 := Lib.hid ho2.out; have B2 := Lib.hid (B1.out.trans hb2); have Q2 := Lib.hid (xq'.out.on B2.out (Nat.le_refl _)); clear ho2 hg2 hb2)
    | (at_builtin; refine wpList_append_bytes rfl (.tmp 31) (.tmp 32) rfl w.heap.size v2 ([] ++ p ++ zs k) rfl O2.out b m cb q rfl hq'.out Q2.out nq'.out (by rw [lk.out]; omega) B2.out.size ?_; intro v3 w3 ho3 hg3 hb3; rw [hb1.out] at ho3; obtain ⟨a3, c3, rfl, hx3, hn3, _⟩ := ho3.out.slice; rw [hl1.out]; have X3 := Lib.hid hx3; have N3 := Lib.hid hn3; have B3 := Lib.hid (B2.out.trans hb3); clear ho3 hg3 hb3 hx3 hn3)
    | (go_at_call 22; refine (refSeal_any 71 _ _ (4 + m) (bodyG p q) _ hl1.out (by decide) (by decide) ho1.out (by omega) X3.out N3.out).mono ?_; rintro e w5 ⟨g5, c5, rfl, hg5, hc5, hr5, hb5⟩; have hend := Lib.hid (show RefSealPost 71 (bodyG p q) w _ w5 from ⟨g5, c5, rfl, Nat.le_trans B3.out.size hg5, hc5, hr5, below_two B3.out hb5⟩); clear hr5 hb5))
  go_ret2
  exact hend.out
end Go.Proofs.Ytbeaodmjobdiaaa
