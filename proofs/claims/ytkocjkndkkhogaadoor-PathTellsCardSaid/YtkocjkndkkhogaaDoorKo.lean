/-
  What any text is taken apart to is the document's: the walk.
-/
import Derived.Test.YtkocjkndkkhogaaDoorKm
import Derived.Test.YtkocjkndkkhogaaDoorKn
import Derived.Test.YtkocjkndkkhogaaDoorTh
import Derived.Test.YtkocjkndkkhogaaDoorTv
namespace Go.Proofs.YtkocjkndkkhogaaDoor
open Go.RowKit BigFrame

theorem rSplit_is (s : ByteArray) (w : World) (hs : s.size ≤ 2000) (L : List (List Nat)) (c : Int) (hc : codeP (nb s) = c) (hL : psOf c (nb s) = L) :
    Calls Tryd.prog 10 #[.string s] w (At2 L c w) := by
  subst hc; subst hL
  exact (refSplit_any s w hs).mono fun _ _ h => h.at
theorem rTarget_is (s : ByteArray) (w : World) (hs : s.size ≤ 2000) (L : List (List Nat)) (r : Bool) (c : Int) (hc : codeS 100 (nb s) = c) (hr : rootT (nb s) = r) (hL : psOf c (nb s) = L) :
    Calls Tryd.prog 16 #[.string s] w (At3 L r c w) := by
  subst hc; subst hr; subst hL
  exact (refTarget_any s w hs).mono fun _ _ h => h.at
theorem rClean_is (s x : ByteArray) (w : World) (hs : s.size ≤ 2000) (c : Int) (hc : codeP (nb s) = c) (hx : strOf (cleanL (nb s)) = x) :
    Calls Tryd.prog 12 #[.string s] w (Tells (.tuple #[.string x, .int .i64 c]) w) := by
  subst hc; subst hx
  exact refClean_any s w hs
theorem rLast_is (s x y : ByteArray) (w : World) (hs : s.size ≤ 2000) (c : Int) (hc : codeL (nb s) = c) (hx : strOf (headL (nb s)) = x) (hy : strOf (lastL (nb s)) = y) :
    Calls Tryd.prog 14 #[.string s] w (Tells (.tuple #[.string x, .string y, .int .i64 c]) w) := by
  subst hc; subst hx; subst hy
  exact refLast_any s w hs

set_option maxRecDepth 100000 in
set_option maxHeartbeats 2000000 in
theorem pathTells_any (s : ByteArray) (w : World) : Calls Tryd.prog 3 #[.string s] w (Tells (.bool true) w) := by
  by_cases h400 : 400 < s.size
  · go_enter Tryd.func3, Tryd.ntmps3
    go_wp2_with (go_at_call 8; refine (pAwake_any _).mono ?_; rintro e w1 ⟨rfl, hb⟩; have hend := Lib.hid hb; clear hb)
    go_ret
    exact ⟨rfl, hend.out⟩
  · obtain ⟨c, hc⟩ : ∃ c, codeP (nb s) = c := ⟨_, rfl⟩
    obtain ⟨L, hL⟩ : ∃ L, psOf c (nb s) = L := ⟨_, rfl⟩
    obtain ⟨x, hx⟩ : ∃ x, strOf (cleanL (nb s)) = x := ⟨_, rfl⟩
    obtain ⟨d, hd⟩ : ∃ d, codeL (nb s) = d := ⟨_, rfl⟩
    obtain ⟨u, hu⟩ : ∃ u, strOf (headL (nb s)) = u := ⟨_, rfl⟩
    obtain ⟨v, hv⟩ : ∃ v, strOf (lastL (nb s)) = v := ⟨_, rfl⟩
    obtain ⟨t, ht⟩ : ∃ t, codeS 100 (nb s) = t := ⟨_, rfl⟩
    obtain ⟨r, hr⟩ : ∃ r, rootT (nb s) = r := ⟨_, rfl⟩
    obtain ⟨M, hM⟩ : ∃ M, psOf t (nb s) = M := ⟨_, rfl⟩
    have hl1 := Lib.hid (show L.length ≤ 1000 by rw [← hL]; have := (psOf_le c (l := nb s) (n := 400) (by rw [nb_length]; omega)).1; omega)
    have hl2 := Lib.hid (show M.length ≤ 1000 by rw [← hM]; have := (psOf_le t (l := nb s) (n := 400) (by rw [nb_length]; omega)).1; omega)
    have hc' := Lib.hid hc
    have hL' := Lib.hid hL
    have hx' := Lib.hid hx
    have hd' := Lib.hid hd
    have hu' := Lib.hid hu
    have hv' := Lib.hid hv
    have ht' := Lib.hid ht
    have hr' := Lib.hid hr
    have hM' := Lib.hid hM
    clear hc hL hx hd hu hv ht hr hM
    have tk : True := trivial
    have tk2 : True := trivial
    go_enter Tryd.func3, Tryd.ntmps3
    go_wp2_with (first
      | (go_at_call 9; refine (pSplit_is s _ L c hc'.out hL'.out).mono ?_; rintro e w1 ⟨a1, c1, rfl, o1, _, _, b1⟩; have H1 := Lib.hid ((Held.start w).add o1.out b1.out); clear o1 b1)
      | (go_at_call 10; refine (rSplit_is s _ (by omega) L c hc'.out hL'.out).mono ?_; rintro e w2 ⟨a2, c2, rfl, o1, _, _, b1⟩; have H2 := Lib.hid (H1.out.add o1.out b1.out); clear o1 b1)
      | (go_at_call 11; refine (pClean_is s x _ c hc'.out hx'.out).mono ?_; rintro e w3 ⟨rfl, hb⟩; have H3 := Lib.hid (H2.out.on hb); clear hb)
      | (go_at_call 12; refine (rClean_is s x _ (by omega) c hc'.out hx'.out).mono ?_; rintro e w4 ⟨rfl, hb⟩; have H4 := Lib.hid (H3.out.on hb); clear hb)
      | (go_at_call 13; refine (pLast_is s u v _ d hd'.out hu'.out hv'.out).mono ?_; rintro e w5 ⟨rfl, hb⟩; have H5 := Lib.hid (H4.out.on hb); clear hb)
      | (go_at_call 14; refine (rLast_is s u v _ (by omega) d hd'.out hu'.out hv'.out).mono ?_; rintro e w6 ⟨rfl, hb⟩; have H6 := Lib.hid (H5.out.on hb); clear hb)
      | (go_at_call 15; refine (pTarget_is s _ M r t ht'.out hr'.out hM'.out).mono ?_; rintro e w7 ⟨a7, c7, rfl, o1, _, _, b1⟩; have H7 := Lib.hid (H6.out.add o1.out b1.out); clear o1 b1)
      | (go_at_call 16; refine (rTarget_is s _ (by omega) M r t ht'.out hr'.out hM'.out).mono ?_; rintro e w8 ⟨a8, c8, rfl, o1, _, _, b1⟩; have H8 := Lib.hid (H7.out.add o1.out b1.out); clear o1 b1)
      | (go_at_call 17; clear tk; refine (sameT_any a1 a2 c1 c2 _ L _ rfl hl1.out (H8.out.texts (n := L.length) (c := c1) (by simp)) (H8.out.texts (n := L.length) (c := c2) (by simp))).mono ?_; rintro e w9 ⟨rfl, hb⟩; have H9 := Lib.hid (H8.out.on hb); clear hb)
      | (go_at_call 17; refine (sameT_any a7 a8 c7 c8 _ M _ rfl hl2.out (H9.out.texts (n := M.length) (c := c7) (by simp)) (H9.out.texts (n := M.length) (c := c8) (by simp))).mono ?_; rintro e w10 ⟨rfl, hb⟩; have H10 := Lib.hid (H9.out.on hb); clear hb)
      | (go_at_call 18; clear tk2; refine (overT_own w.heap.size _ L _ (Nat.le_trans hl1.out (by omega)) (H10.out.own (v := .slice a1 L.length c1) (by simp)) H10.out.1.size).mono ?_; rintro e w11 ⟨rfl, hg⟩; have O11 := Lib.hid ((H10.out.own (v := .slice a7 M.length c7) (L := M) (by simp)).kept hg ((List.pairwise_cons.1 (List.pairwise_cons.1 H10.out.2.2).2).1 (.slice a1 L.length c1, L) (by simp))); have B11 := Lib.hid (H10.out.1.trans (below_ownT (H10.out.own (v := .slice a1 L.length c1) (L := L) (by simp)) hg H10.out.1.size)); clear hg)
      | (go_at_call 18; refine (overT_own w.heap.size _ M _ (Nat.le_trans hl2.out (by omega)) O11.out B11.out.size).mono ?_; rintro e w12 ⟨rfl, hg⟩; have B12 := Lib.hid (B11.out.trans (below_ownT O11.out hg B11.out.size)); clear hg)
      | (go_at_call 8; refine (pAwake_any _).mono ?_; rintro e w13 ⟨rfl, hb⟩; have hend := Lib.hid (B12.out.trans (hb.mono B12.out.size)); clear hb))
    go_ret
    exact ⟨rfl, hend.out⟩
end Go.Proofs.YtkocjkndkkhogaaDoor
