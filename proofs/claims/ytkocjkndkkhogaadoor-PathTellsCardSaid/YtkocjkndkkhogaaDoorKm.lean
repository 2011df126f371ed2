/-
  The document's own: Last, Target.
-/
import Derived.Test.YtkocjkndkkhogaaDoorKl
namespace Go.Proofs.YtkocjkndkkhogaaDoor
open Go.RowKit BigFrame

theorem wrap_n {n : Int} (h : -9223372036854775808 ≤ n ∧ n ≤ 9223372036854775807) : IntKind.i64.wrap n = n := by rw [IntKind.wrap_i64]; omega
set_option maxHeartbeats 1000000 in
theorem refLast_any (s : ByteArray) (w : World) (hs0 : s.size ≤ 2000) :
    Calls Tryd.prog 14 #[.string s] w (GivesSS (headL (nb s)) (lastL (nb s)) (codeL (nb s)) w) := by
  have ho := Lib.hid (nb_octs s)
  obtain ⟨c, hc⟩ : ∃ c, codeP (nb s) = c := ⟨_, rfl⟩
  have hc' := Lib.hid hc
  by_cases h : c = 0
  · subst h
    have hp := Lib.hid (show psOf 0 (nb s) = partsL (nb s) from rfl)
    have hcl := Lib.hid (show codeL (nb s) = if partsL (nb s) = [] ∨ (partsL (nb s)).getLast? = some dots then 2 else 0 from if_pos hc)
    have hl := codeP_len hc
    have hsz := Lib.hid (psOf_le 0 hl)
    rw [hp.out] at hsz
    have hoc := Lib.hid (OctsL.parts ho.out)
    have hhd := Lib.hid (fun h : codeL (nb s) = 0 => show headL (nb s) = joinL (partsL (nb s)).dropLast ∧ lastL (nb s) = (partsL (nb s)).getLast?.getD [] from ⟨if_pos h, if_pos h⟩)
    have hno := Lib.hid (fun h : codeL (nb s) = 2 => show headL (nb s) = [] ∧ lastL (nb s) = [] from ⟨if_neg (by rw [h]; decide), if_neg (by rw [h]; decide)⟩)
    obtain ⟨L, hL⟩ : ∃ L, partsL (nb s) = L := ⟨_, rfl⟩
    have hL' := Lib.hid hL
    rw [hL] at hp hcl hsz hoc hhd
    clear hc hl hL
    by_cases h0 : L.length = 0
    · have h2 := Lib.hid (show codeL (nb s) = 2 by rw [hcl.out, if_pos (.inl (List.eq_nil_of_length_eq_zero h0))])
      go_enter Tryd.func14, Tryd.ntmps14
      go_wp2_with (go_at_call 10; refine (refSplit_any s _ hs0).mono ?_; rw [hc'.out, hp.out]; rintro e w1 ⟨v, rfl, ho1, hb⟩; have hb1 := Lib.hid hb; obtain ⟨a, cap, rfl, hT, _, hcap, hmx, _⟩ := ho1.slice; have hT1 := Lib.hid hT; rw [h0]; clear hb ho1 hT)
      go_ret3
      rw [h2.out, (hno.out h2.out).1, (hno.out h2.out).2]
      exact ⟨rfl, hb1.out⟩
    · obtain ⟨n, hn⟩ : ∃ n, L.length = n + 1 := ⟨L.length - 1, by omega⟩
      have hn' := Lib.hid hn
      have hl2 := hsz.out.1
      rw [hn] at hl2
      have hla := Lib.hid (last_is hn)
      have hs := dots_str (hoc.out _ (tz_mem (show n < L.length by omega)))
      obtain ⟨x, hx⟩ : ∃ x, strOf (tz L n) = x := ⟨_, rfl⟩
      rw [hx] at hs
      have hx' := Lib.hid hx
      clear h0 hn hx
      by_cases hd : tz L n = dots
      · rw [decide_eq_true hd] at hs
        have h2 := Lib.hid (show codeL (nb s) = 2 by rw [hcl.out, if_pos (.inr (by rw [hla.out, hd]))])
        clear hd
        go_enter Tryd.func14, Tryd.ntmps14
        go_wp2_with (go_at_call 10; refine (refSplit_any s _ hs0).mono ?_; rw [hc'.out, hp.out]; rintro e w1 ⟨v, rfl, ho1, hb⟩; have hb1 := Lib.hid hb; obtain ⟨a, cap, rfl, hT, _, hcap, hmx, _⟩ := ho1.slice; obtain ⟨b, off, rfl⟩ := hT.addr (by rw [hn'.out]; omega); have hT1 := Lib.hid hT; have c1 := hT.cell (k := n) (by rw [hn'.out]; omega); rw [hx'.out] at c1; rw [hn'.out] at hcap ⊢; clear hb ho1 hT)
        all_goals (
          go_ret3
          rw [h2.out, (hno.out h2.out).1, (hno.out h2.out).2]
          exact ⟨rfl, hb1.out⟩)
      · rw [decide_eq_false hd] at hs
        have h2 := Lib.hid (show codeL (nb s) = 0 by rw [hcl.out, if_neg (not_or.2 ⟨fun h => by have := hn'.out; rw [h] at this; simp at this, fun h => hd (by rw [hla.out] at h; exact Option.some.inj h)⟩)])
        have hhd2 := Lib.hid (hhd.out h2.out)
        have htk := Lib.hid (show L.dropLast = L.take n by rw [List.dropLast_eq_take, hn'.out]; rfl)
        have htz := Lib.hid (Nat.le_trans (sizeL_sub (List.take_sublist n L)) hsz.out.2)
        have htl := Lib.hid (show n = (L.take n).length by rw [List.length_take, hn'.out]; omega)
        clear hd
        go_enter Tryd.func14, Tryd.ntmps14
        go_wp2_with (go_at_call 10; refine (refSplit_any s _ hs0).mono ?_; rw [hc'.out, hp.out]; rintro e w1 ⟨v, rfl, ho1, hb⟩; have hb1 := Lib.hid hb; obtain ⟨a, cap, rfl, hT, hj1, hcap, hmx, hj2⟩ := ho1.slice; clear hj1 hj2; obtain ⟨b, off, rfl⟩ := hT.addr (by rw [hn'.out]; omega); have hT1 := Lib.hid hT; have c1 := hT.cell (k := n) (by rw [hn'.out]; omega); rw [hx'.out] at c1; rw [hn'.out] at hcap ⊢; clear hb ho1 hT)
        all_goals (
          have hblt := Lib.hid (World.block_lt_of_cell? _ _ c1)
          have hcap2 : n ≤ cap := by omega
          have hwr1 : IntKind.i64.wrap ((n : Int) + 1 - 1) = (n : Int) := by rw [Int.add_sub_cancel]; exact wrap_n (by omega)
          have hwr2 : IntKind.i64.wrap (n : Int) = (n : Int) := wrap_n (by omega)
          have hcap3 : (n : Int) ≤ (cap : Int) := by omega
          unfold maxLen at hmx)
        all_goals (
          go_region_held3 (fun w' => w'.cell? ⟨b, off + n, none⟩ = some (.string x)) (exact c1) (first | (go_at_call 27; refine (refJoin_any (some ⟨b, off, none⟩) n cap (L.take n) _ htl.out (by omega) (by first | exact (hT1.out.take n).drew1 | exact hT1.out.take n) (Nat.le_trans htz.out (by omega))).mono ?_; rintro e w2 ⟨rfl, rfl⟩)))
        all_goals (
          go_wp2_with fail
          go_ret3
          rw [h2.out, hhd2.out.1, hhd2.out.2, htk.out, hla.out]
          exact ⟨by rw [← hx'.out]; rfl, hb1.out.drew⟩)
  · have h2 := Lib.hid (show codeL (nb s) = c by unfold codeL; rw [hc, if_neg h])
    have hno := Lib.hid (show headL (nb s) = [] ∧ lastL (nb s) = [] from ⟨if_neg (by rw [h2.out]; exact h), if_neg (by rw [h2.out]; exact h)⟩)
    have t1 : (c != 0) = true := by rw [bne_iff_ne]; exact h
    clear hc h
    go_enter Tryd.func14, Tryd.ntmps14
    go_wp2_with (go_at_call 10; refine (refSplit_any s _ hs0).mono ?_; rw [hc'.out]; rintro e w1 ⟨v, rfl, ho1, hb⟩; have hb1 := Lib.hid hb; clear hb ho1)
    go_ret3
    rw [h2.out, hno.out.1, hno.out.2]
    exact ⟨rfl, hb1.out⟩
set_option maxHeartbeats 1000000 in
theorem refTarget_any (s : ByteArray) (w : World) (hs : s.size ≤ 2000) :
    Calls Tryd.prog 16 #[.string s] w (Gives3 (psOf (codeS 100 (nb s)) (nb s)) (rootT (nb s)) (codeS 100 (nb s)) w) := by
  have hnl := nb_length s
  have hroot := Lib.hid (fun h : codeS 100 (nb s) ≠ 0 => show rootT (nb s) = false by unfold rootT; rw [decide_eq_false h, Bool.false_and])
  by_cases h1 : nb s = []
  · have hc := Lib.hid (show codeS 100 (nb s) = 2 from if_pos (.inl h1))
    have t1 : s.toList = [] := by simpa [h1] using empty_is s
    clear h1 hnl
    go_enter Tryd.func16, Tryd.ntmps16
    go_wp2_with fail
    go_ret3
    rw [hroot.out (by rw [hc.out]; decide), hc.out]
    exact ⟨_, rfl, .nil _ _, Below.refl _ _⟩
  · have t1 : s.toList.isEmpty = false := by rw [empty_is, decide_eq_false h1]
    have h0 : 0 < s.size := by
      rw [← hnl]
      exact Nat.pos_of_ne_zero fun h => h1 (List.eq_nil_of_length_eq_zero h)
    have hat := nb_at2 h0
    have hhd : (nb s).head? = some (bz (nb s) 0) := by
      rw [bz_get (by rw [hnl]; exact h0), List.head?_eq_getElem?, List.getElem?_eq_getElem]
    obtain ⟨r, hr⟩ : ∃ r, decide (0 ∈ nb s) = r := ⟨_, rfl⟩
    have hr' := Lib.hid hr
    cases r
    · have h3 := of_decide_eq_false hr
      clear hr
      by_cases h4 : 100 < s.size
      · have hc := Lib.hid (show codeS 100 (nb s) = 11 by rw [codeS, if_neg (not_or.2 ⟨h1, h3⟩), if_pos (.inl (by rw [hnl]; exact h4))])
        clear h1 h3 hnl hat hhd
        go_enter Tryd.func16, Tryd.ntmps16
        go_wp2_with (go_at_call 23; refine (refZero_any s _ (by omega) false hr'.out).mono ?_; rintro e w1 ⟨rfl, rfl⟩)
        go_ret3
        rw [hroot.out (by rw [hc.out]; decide), hc.out]
        exact ⟨_, rfl, .nil _ _, Below.refl _ _⟩
      · obtain ⟨q, hq⟩ : ∃ q, longL (partsL (nb s)) = q := ⟨_, rfl⟩
        have hq' := Lib.hid hq
        cases q
        · have hc := Lib.hid (show codeS 100 (nb s) = 0 by rw [codeS, if_neg (not_or.2 ⟨h1, h3⟩), if_neg (by rw [hq, hnl]; simp; omega)])
          have hrt := Lib.hid (show rootT (nb s) = (((s[0]'h0).toNat : Int) == 47) by
            unfold rootT
            rw [hc.out, hhd, hat, decide_eq_true rfl, Bool.true_and]
            by_cases h : bz (nb s) 0 = 47
            · rw [h]; rfl
            · rw [decide_eq_false (fun e => h (Option.some.inj e))]
              symm
              rw [beq_eq_false_iff_ne]
              omega)
          clear h1 h3 hnl hq hat hhd
          have tk : True := trivial
          go_enter Tryd.func16, Tryd.ntmps16
          go_wp2_with (first
            | (go_at_call 23; refine (refZero_any s _ (by omega) false hr'.out).mono ?_; rintro e w1 ⟨rfl, rfl⟩)
            | (go_at_call 25; clear tk; refine (rParts_u s _ hs).mono ?_; rintro e w2 ⟨a, cap, rfl, hO, hT, hB⟩)
            | (go_at_call 24; refine (rLong_u s a cap _ false hs hq'.out hT.out).mono ?_; rintro e w3 ⟨rfl, rfl⟩; clear hT hO))
          go_region_held3 (fun _ => True) (exact trivial) (first | (go_at_call 25; refine (rParts_u s _ hs).mono ?_; rintro e w4 ⟨a2, cap2, rfl, hO2, hT2, hB2⟩))
          all_goals (
            go_wp2_with fail
            go_ret3
            rw [hrt.out, hc.out]
            exact ⟨_, rfl, hO2.out.lower hB.out.size, hB.out.trans ((blT_undrew hB2.out).mono hB.out.size)⟩)
        · have hc := Lib.hid (show codeS 100 (nb s) = 11 by rw [codeS, if_neg (not_or.2 ⟨h1, h3⟩), if_pos (.inr hq)])
          clear h1 h3 hnl hq hat hhd
          go_enter Tryd.func16, Tryd.ntmps16
          go_wp2_with (first
            | (go_at_call 23; refine (refZero_any s _ (by omega) false hr'.out).mono ?_; rintro e w1 ⟨rfl, rfl⟩)
            | (go_at_call 25; refine (rParts_u s _ hs).mono ?_; rintro e w2 ⟨a, cap, rfl, hO, hT, hB⟩)
            | (go_at_call 24; refine (rLong_u s a cap _ true hs hq'.out hT.out).mono ?_; rintro e w3 ⟨rfl, rfl⟩; clear hT hO))
          go_ret3
          rw [hroot.out (by rw [hc.out]; decide), hc.out]
          exact ⟨_, rfl, .nil _ _, hB.out⟩
    · have h3 := of_decide_eq_true hr
      have hc := Lib.hid (show codeS 100 (nb s) = 2 from if_pos (.inr h3))
      clear h1 h3 hr hnl hat hhd
      go_enter Tryd.func16, Tryd.ntmps16
      go_wp2_with (go_at_call 23; refine (refZero_any s _ (by omega) true hr'.out).mono ?_; rintro e w1 ⟨rfl, rfl⟩)
      go_ret3
      rw [hroot.out (by rw [hc.out]; decide), hc.out]
      exact ⟨_, rfl, .nil _ _, Below.refl _ _⟩
end Go.Proofs.YtkocjkndkkhogaaDoor
