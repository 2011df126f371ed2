/-
  Clean and Last.
-/
import Derived.Test.YtkocjkndkkhogaaDoorKe
import Derived.Test.YtkocjkndkkhogaaDoorKf
import Derived.Deep.DeepCutAuto
import Derived.BigRegion
import Derived.Deep.RegionHeld3
namespace Go.Proofs.YtkocjkndkkhogaaDoor
open Go.RowKit BigFrame

theorem blT_undrew {B : Nat} {a w : World} (h : Below B a.drew w) : Below B a w := ⟨h.os, h.tape, h.output, h.size, h.block⟩
theorem psOf_le (c : Int) {l : List Nat} {n : Nat} (hl : l.length ≤ n) : (psOf c l).length ≤ n + 1 ∧ sizeL (psOf c l) ≤ n + 1 := by
  unfold psOf
  split
  · have h1 := partsL_size l
    have h2 := sizeL_len (partsL l)
    omega
  · simp [sizeL]
theorem codeP_len {l : List Nat} (h : codeP l = 0) : l.length ≤ 200 := (codeP_zero.1 h).2.2.1
/-- a text and a code are told -/
def GivesS (l : List Nat) (c : Int) (w : World) (e : Ending) (w' : World) : Prop := e = .returned (.tuple #[.string (strOf l), .int .i64 c]) ∧ Below w.heap.size w w'
theorem pClean_any (s : ByteArray) (w : World) :
    Calls Tryd.prog 11 #[.string s] w (GivesS (cleanL (nb s)) (codeP (nb s)) w) := by
  have ho := Lib.hid (nb_octs s)
  obtain ⟨c, hc⟩ : ∃ c, codeP (nb s) = c := ⟨_, rfl⟩
  have hc' := Lib.hid hc
  rw [hc]
  by_cases h : c = 0
  · subst h
    have hp := Lib.hid (show psOf 0 (nb s) = partsL (nb s) from rfl)
    have hcl := Lib.hid (show cleanL (nb s) = joinL (lasts (partsL (nb s))) from if_pos hc)
    have hl := codeP_len hc
    have hsz := Lib.hid (psOf_le 0 hl)
    rw [hp.out] at hsz
    have hoc := Lib.hid (OctsL.parts ho.out)
    have hz2 := Lib.hid (Nat.le_trans (sizeL_sub (lasts_sub (partsL (nb s)))) hsz.out.2)
    obtain ⟨L, hL⟩ : ∃ L, partsL (nb s) = L := ⟨_, rfl⟩
    have hL' := Lib.hid hL
    rw [hL] at hp hcl hsz hoc hz2
    clear hc hl hL
    go_enter Tryd.func11, Tryd.ntmps11
    go_wp2_with (first
      | (go_at_call 9; refine (pSplit_any s _).mono ?_; rw [hc'.out, hp.out]; rintro e w1 ⟨v, rfl, ho1, hb⟩; have hb1 := Lib.hid hb; obtain ⟨a, cap, rfl, hT, _, hcap, hmx, _⟩ := ho1.slice; have hT1 := Lib.hid hT; have hl2 := Lib.hid hsz.out.1; clear hb ho1 hT)
      | (go_at_call 26; refine (lasting_any a _ cap L _ hoc.out rfl hcap (by have := hl2.out; omega) hT1.out).mono ?_; rintro e w2 ⟨v, rfl, ho2, hb⟩; have hb2 := Lib.hid (hb1.out.trans (hb.mono hb1.out.size)); obtain ⟨a3, cap3, rfl, hT, _, hcap3, _⟩ := ho2.slice; have hT2 := Lib.hid hT; clear hb ho2 hT hcap)
      | (go_at_call 19; refine (pJoin_any a3 _ cap3 (lasts L) _ rfl hcap3 hT2.out (Nat.le_trans hz2.out (by omega))).mono ?_; rintro e w3 ⟨rfl, hb⟩; have hb3 := Lib.hid (hb2.out.trans (hb.mono hb2.out.size)); clear hb))
    go_ret2
    rw [hcl.out]
    exact ⟨rfl, hb3.out⟩
  · have hcl := Lib.hid (show cleanL (nb s) = [] from if_neg (by rw [hc]; exact h))
    have t1 : (c != 0) = true := by rw [bne_iff_ne]; exact h
    clear hc h
    go_enter Tryd.func11, Tryd.ntmps11
    go_wp2_with (go_at_call 9; refine (pSplit_any s _).mono ?_; rw [hc'.out]; rintro e w1 ⟨v, rfl, ho1, hb⟩; have hb1 := Lib.hid hb; clear hb ho1)
    go_ret2
    rw [hcl.out]
    exact ⟨rfl, hb1.out⟩
/-- two texts and a code are told -/
def GivesSS (l m : List Nat) (c : Int) (w : World) (e : Ending) (w' : World) : Prop := e = .returned (.tuple #[.string (strOf l), .string (strOf m), .int .i64 c]) ∧ Below w.heap.size w w'
theorem last_is {L : List (List Nat)} {n : Nat} (h : L.length = n + 1) : L.getLast? = some (tz L n) := by
  rw [List.getLast?_eq_getElem?, h, tz_get (by omega)]
  simp
set_option maxHeartbeats 1000000 in
theorem pLast_any (s : ByteArray) (w : World) :
    Calls Tryd.prog 13 #[.string s] w (GivesSS (headL (nb s)) (lastL (nb s)) (codeL (nb s)) w) := by
  have ho := Lib.hid (nb_octs s)
  obtain ⟨c, hc⟩ : ∃ c, codeP (nb s) = c := ⟨_, rfl⟩
  have hc' := Lib.hid hc
  by_cases h : c = 0
  · subst h
    have hp := Lib.hid (show psOf 0 (nb s) = partsL (nb s) from rfl)
    have hcl := Lib.hid (show codeL (nb s) = if partsL (nb s) = [] ∨ (partsL (nb s)).getLast? = some dots then 2 else 0 from if_pos hc)
    have hl := codeP_len hc
    have hsz := Lib.hid (psOf_le 0 hl)
    rw [hp.out] at hsz
    have hoc := Lib.hid (OctsL.parts ho.out)
    have hhd := Lib.hid (fun h : codeL (nb s) = 0 => show headL (nb s) = joinL (partsL (nb s)).dropLast ∧ lastL (nb s) = (partsL (nb s)).getLast?.getD [] from ⟨if_pos h, if_pos h⟩)
    have hno := Lib.hid (fun h : codeL (nb s) = 2 => show headL (nb s) = [] ∧ lastL (nb s) = [] from ⟨if_neg (by rw [h]; decide), if_neg (by rw [h]; decide)⟩)
    obtain ⟨L, hL⟩ : ∃ L, partsL (nb s) = L := ⟨_, rfl⟩
    have hL' := Lib.hid hL
    rw [hL] at hp hcl hsz hoc hhd
    clear hc hl hL
    by_cases h0 : L.length = 0
    · have h2 := Lib.hid (show codeL (nb s) = 2 by rw [hcl.out, if_pos (.inl (List.eq_nil_of_length_eq_zero h0))])
      go_enter Tryd.func13, Tryd.ntmps13
      go_wp2_with (go_at_call 9; refine (pSplit_any s _).mono ?_; rw [hc'.out, hp.out]; rintro e w1 ⟨v, rfl, ho1, hb⟩; have hb1 := Lib.hid hb; obtain ⟨a, cap, rfl, hT, _, hcap, hmx, _⟩ := ho1.slice; have hT1 := Lib.hid hT; rw [h0]; clear hb ho1 hT)
      go_ret3
      rw [h2.out, (hno.out h2.out).1, (hno.out h2.out).2]
      exact ⟨rfl, hb1.out⟩
    · obtain ⟨n, hn⟩ : ∃ n, L.length = n + 1 := ⟨L.length - 1, by omega⟩
      have hn' := Lib.hid hn
      have hl2 := hsz.out.1
      rw [hn] at hl2
      have hla := Lib.hid (last_is hn)
      have hs := dots_str (hoc.out _ (tz_mem (show n < L.length by omega)))
      obtain ⟨x, hx⟩ : ∃ x, strOf (tz L n) = x := ⟨_, rfl⟩
      rw [hx] at hs
      have hx' := Lib.hid hx
      clear h0 hn hx
      by_cases hd : tz L n = dots
      · rw [decide_eq_true hd] at hs
        have h2 := Lib.hid (show codeL (nb s) = 2 by rw [hcl.out, if_pos (.inr (by rw [hla.out, hd]))])
        clear hd
        go_enter Tryd.func13, Tryd.ntmps13
        go_wp2_with (go_at_call 9; refine (pSplit_any s _).mono ?_; rw [hc'.out, hp.out]; rintro e w1 ⟨v, rfl, ho1, hb⟩; have hb1 := Lib.hid hb; obtain ⟨a, cap, rfl, hT, _, hcap, hmx, _⟩ := ho1.slice; obtain ⟨b, off, rfl⟩ := hT.addr (by rw [hn'.out]; omega); have hT1 := Lib.hid hT; have c1 := hT.cell (k := n) (by rw [hn'.out]; omega); rw [hx'.out] at c1; rw [hn'.out] at hcap ⊢; clear hb ho1 hT)
        all_goals (
          go_ret3
          rw [h2.out, (hno.out h2.out).1, (hno.out h2.out).2]
          exact ⟨rfl, hb1.out⟩)
      · rw [decide_eq_false hd] at hs
        have h2 := Lib.hid (show codeL (nb s) = 0 by rw [hcl.out, if_neg (not_or.2 ⟨fun h => by have := hn'.out; rw [h] at this; simp at this, fun h => hd (by rw [hla.out] at h; exact Option.some.inj h)⟩)])
        have hhd2 := Lib.hid (hhd.out h2.out)
        have htk := Lib.hid (show L.dropLast = L.take n by rw [List.dropLast_eq_take, hn'.out]; rfl)
        have htz := Lib.hid (Nat.le_trans (sizeL_sub (List.take_sublist n L)) hsz.out.2)
        have htl := Lib.hid (show n = (L.take n).length by rw [List.length_take, hn'.out]; omega)
        clear hd
        go_enter Tryd.func13, Tryd.ntmps13
        go_wp2_with (go_at_call 9; refine (pSplit_any s _).mono ?_; rw [hc'.out, hp.out]; rintro e w1 ⟨v, rfl, ho1, hb⟩; have hb1 := Lib.hid hb; obtain ⟨a, cap, rfl, hT, hj1, hcap, hmx, hj2⟩ := ho1.slice; clear hj1 hj2; obtain ⟨b, off, rfl⟩ := hT.addr (by rw [hn'.out]; omega); have hT1 := Lib.hid hT; have c1 := hT.cell (k := n) (by rw [hn'.out]; omega); rw [hx'.out] at c1; rw [hn'.out] at hcap ⊢; clear hb ho1 hT)
        all_goals (
          have hblt := Lib.hid (World.block_lt_of_cell? _ _ c1)
          have hcap2 : n ≤ cap := by omega
          have hcap3 : (n : Int) ≤ (cap : Int) := by omega
          unfold maxLen at hmx)
        all_goals (
          go_region_held3 (fun w' => w'.cell? ⟨b, off + n, none⟩ = some (.string x)) (first | exact c1 | exact q1) (first | (go_at_call 19; refine (pJoin_any (some ⟨b, off, none⟩) n cap (L.take n) _ htl.out (by omega) (by first | exact (hT1.out.take n).drew1 | exact hT1.out.take n) (Nat.le_trans htz.out (by omega))).mono ?_; rintro e w2 ⟨rfl, hb⟩; have q1 := (hb.cell (p := ⟨b, off + n, none⟩) hblt.out).trans c1; have hb2 := Lib.hid hb; clear hb)))
        all_goals (
          go_wp2_with fail
          go_ret3
          rw [h2.out, hhd2.out.1, hhd2.out.2, htk.out, hla.out]
          exact ⟨by rw [← hx'.out]; rfl, hb1.out.trans ((blT_undrew hb2.out).mono hb1.out.size)⟩)
  · have h2 := Lib.hid (show codeL (nb s) = c by unfold codeL; rw [hc, if_neg h])
    have hno := Lib.hid (show headL (nb s) = [] ∧ lastL (nb s) = [] from ⟨if_neg (by rw [h2.out]; exact h), if_neg (by rw [h2.out]; exact h)⟩)
    have t1 : (c != 0) = true := by rw [bne_iff_ne]; exact h
    clear hc h
    go_enter Tryd.func13, Tryd.ntmps13
    go_wp2_with (go_at_call 9; refine (pSplit_any s _).mono ?_; rw [hc'.out]; rintro e w1 ⟨v, rfl, ho1, hb⟩; have hb1 := Lib.hid hb; clear hb ho1)
    go_ret3
    rw [h2.out, hno.out.1, hno.out.2]
    exact ⟨rfl, hb1.out⟩
end Go.Proofs.YtkocjkndkkhogaaDoor
