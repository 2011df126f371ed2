/-
  The document's own: Split, Join.
-/
import Derived.Test.YtkocjkndkkhogaaDoorKi
import Derived.Test.YtkocjkndkkhogaaDoorKe
import Derived.Test.YtkocjkndkkhogaaDoorKg
namespace Go.Proofs.YtkocjkndkkhogaaDoor
open Go.RowKit BigFrame

/-- the parts that were told, handed on -/
theorem rParts_u (s : ByteArray) (w : World) (hs : s.size ≤ 2000) :
    Calls Tryd.prog 25 #[.string s] w fun e w' => ∃ a cap, e = .returned (.slice a (partsL (nb s)).length cap) ∧ Hid (OwnT w' w.heap.size (.slice a (partsL (nb s)).length cap) (partsL (nb s))) ∧ Hid (TAt w' a (partsL (nb s))) ∧ Hid (Below w.heap.size w w') := by
  refine (refParts_any s w hs).mono ?_
  rintro e w' ⟨v, rfl, h1, h2⟩
  obtain ⟨a, cap, rfl, h3, _⟩ := h1.slice
  exact ⟨a, cap, rfl, h1, h3, h2⟩
theorem parts_len (s : ByteArray) (hs : s.size ≤ 2000) : (partsL (nb s)).length ≤ 100000 ∧ sizeL (partsL (nb s)) ≤ 100000 := by
  have h1 := partsL_size (nb s)
  have h2 := sizeL_len (partsL (nb s))
  rw [nb_length] at h1
  omega
theorem rLong_u (s : ByteArray) (a : Option Addr) (c : Nat) (w : World) (r : Bool) (hs : s.size ≤ 2000) (hr : longL (partsL (nb s)) = r) (hx : TAt w a (partsL (nb s))) :
    Calls Tryd.prog 24 #[.slice a (partsL (nb s)).length c] w fun e w' => e = .returned (.bool r) ∧ w = w' :=
  refLong_any a _ c (partsL (nb s)) w r hr rfl (parts_len s hs).1 hx (parts_len s hs).2

set_option maxHeartbeats 1000000 in
theorem refSplit_any (s : ByteArray) (w : World) (hs : s.size ≤ 2000) :
    Calls Tryd.prog 10 #[.string s] w (Gives2 (psOf (codeP (nb s)) (nb s)) (codeP (nb s)) w) := by
  have hnl := nb_length s
  by_cases h1 : nb s = []
  · have hc := Lib.hid (show codeP (nb s) = 2 by rw [h1]; rfl)
    have t1 : s.toList = [] := by simpa [h1] using empty_is s
    clear h1 hnl
    go_enter Tryd.func10, Tryd.ntmps10
    go_wp2_with fail
    go_ret2
    rw [hc.out]
    exact ⟨_, rfl, .nil _ _, Below.refl _ _⟩
  · have t1 : s.toList.isEmpty = false := by rw [empty_is, decide_eq_false h1]
    have h0 : 0 < s.size := by
      rw [← hnl]
      exact Nat.pos_of_ne_zero fun h => h1 (List.eq_nil_of_length_eq_zero h)
    have hat := nb_at2 h0
    have hhd : (nb s).head? = some (bz (nb s) 0) := by
      rw [bz_get (by rw [hnl]; exact h0), List.head?_eq_getElem?, List.getElem?_eq_getElem]
    by_cases h2 : bz (nb s) 0 = 47
    · rw [h2] at hat hhd
      have t2 : (((s[0]'h0).toNat : Int) != 47) = false := by rw [hat]; rfl
      have hcp := Lib.hid (show codeP (nb s) = codeS 200 (nb s) from if_pos hhd)
      obtain ⟨r, hr⟩ : ∃ r, decide (0 ∈ nb s) = r := ⟨_, rfl⟩
      have hr' := Lib.hid hr
      clear h2 hat hhd
      cases r
      · have h3 := of_decide_eq_false hr
        clear hr
        by_cases h4 : 200 < s.size
        · have hc := Lib.hid (show codeP (nb s) = 11 by rw [hcp.out, codeS, if_neg (not_or.2 ⟨h1, h3⟩), if_pos (.inl (by rw [hnl]; exact h4))])
          clear h1 h3 hnl
          go_enter Tryd.func10, Tryd.ntmps10
          go_wp2_with (go_at_call 23; refine (refZero_any s _ (by omega) false hr'.out).mono ?_; rintro e w1 ⟨rfl, rfl⟩)
          go_ret2
          rw [hc.out]
          exact ⟨_, rfl, .nil _ _, Below.refl _ _⟩
        · obtain ⟨q, hq⟩ : ∃ q, longL (partsL (nb s)) = q := ⟨_, rfl⟩
          have hq' := Lib.hid hq
          cases q
          · have hc := Lib.hid (show codeP (nb s) = 0 by rw [hcp.out, codeS, if_neg (not_or.2 ⟨h1, h3⟩), if_neg (by rw [hq, hnl]; simp; omega)])
            clear h1 h3 hnl hq
            have tk : True := trivial
            go_enter Tryd.func10, Tryd.ntmps10
            go_wp2_with (first
              | (go_at_call 23; refine (refZero_any s _ (by omega) false hr'.out).mono ?_; rintro e w1 ⟨rfl, rfl⟩)
              | (go_at_call 25; clear tk; refine (rParts_u s _ hs).mono ?_; rintro e w2 ⟨a, cap, rfl, hO, hT, hB⟩)
              | (go_at_call 24; refine (rLong_u s a cap _ false hs hq'.out hT.out).mono ?_; rintro e w3 ⟨rfl, rfl⟩; clear hT hO)
              | (go_at_call 25; refine (rParts_u s _ hs).mono ?_; rintro e w4 ⟨a2, cap2, rfl, hO2, hT2, hB2⟩))
            go_ret2
            rw [hc.out]
            exact ⟨_, rfl, hO2.out.lower hB.out.size, hB.out.trans (hB2.out.mono hB.out.size)⟩
          · have hc := Lib.hid (show codeP (nb s) = 11 by rw [hcp.out, codeS, if_neg (not_or.2 ⟨h1, h3⟩), if_pos (.inr hq)])
            clear h1 h3 hnl hq
            go_enter Tryd.func10, Tryd.ntmps10
            go_wp2_with (first
              | (go_at_call 23; refine (refZero_any s _ (by omega) false hr'.out).mono ?_; rintro e w1 ⟨rfl, rfl⟩)
              | (go_at_call 25; refine (rParts_u s _ hs).mono ?_; rintro e w2 ⟨a, cap, rfl, hO, hT, hB⟩)
              | (go_at_call 24; refine (rLong_u s a cap _ true hs hq'.out hT.out).mono ?_; rintro e w3 ⟨rfl, rfl⟩; clear hT hO))
            go_ret2
            rw [hc.out]
            exact ⟨_, rfl, .nil _ _, hB.out⟩
      · have h3 := of_decide_eq_true hr
        have hc := Lib.hid (show codeP (nb s) = 2 by rw [hcp.out, codeS, if_pos (.inr h3)])
        clear h1 h3 hr hnl
        go_enter Tryd.func10, Tryd.ntmps10
        go_wp2_with (go_at_call 23; refine (refZero_any s _ (by omega) true hr'.out).mono ?_; rintro e w1 ⟨rfl, rfl⟩)
        go_ret2
        rw [hc.out]
        exact ⟨_, rfl, .nil _ _, Below.refl _ _⟩
    · have t2 : (((s[0]'h0).toNat : Int) != 47) = true := by rw [bne_iff_ne, hat]; omega
      have hc := Lib.hid (show codeP (nb s) = 2 from if_neg (by rw [hhd]; exact fun h => h2 (Option.some.inj h)))
      clear h1 h2 hnl hat hhd
      go_enter Tryd.func10, Tryd.ntmps10
      go_wp2_with fail
      go_ret2
      rw [hc.out]
      exact ⟨_, rfl, .nil _ _, Below.refl _ _⟩
end Go.Proofs.YtkocjkndkkhogaaDoor
