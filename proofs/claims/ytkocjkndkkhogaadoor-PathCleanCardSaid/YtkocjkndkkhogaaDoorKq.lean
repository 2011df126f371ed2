/-
  A clean path is clean: the walk.
-/
import Derived.Test.YtkocjkndkkhogaaDoorKn
import Derived.Test.YtkocjkndkkhogaaDoorTh
namespace Go.Proofs.YtkocjkndkkhogaaDoor
open Go.RowKit BigFrame

def IxRel (n : Nat) (i : Value) : Prop := ∃ k : Nat, k ≤ n ∧ i = .int .i64 k
set_option maxRecDepth 100000 in
set_option maxHeartbeats 2000000 in
theorem pathClean_any (s : ByteArray) (w : World) : Calls Tryd.prog 4 #[.string s] w (Tells (.bool true) w) := by
  by_cases h250 : 250 < s.size
  · go_enter Tryd.func4, Tryd.ntmps4
    go_wp2_with (go_at_call 8; refine (pAwake_any _).mono ?_; rintro e w1 ⟨rfl, hb⟩; have hend := Lib.hid hb; clear hb)
    go_ret
    exact ⟨rfl, hend.out⟩
  · obtain ⟨c, hc⟩ : ∃ c, codeP (nb s) = c := ⟨_, rfl⟩
    have hc' := Lib.hid hc
    by_cases h : c = 0
    · subst h
      obtain ⟨P, hP⟩ : ∃ P, partsL (nb s) = P := ⟨_, rfl⟩
      obtain ⟨Q, hQ⟩ : ∃ Q, lasts P = Q := ⟨_, rfl⟩
      obtain ⟨x, hx⟩ : ∃ x, strOf (joinL Q) = x := ⟨_, rfl⟩
      have hP0 := Lib.hid (show psOf 0 (nb s) = P by rw [psOf, if_pos rfl, hP])
      have hcl := Lib.hid (show strOf (cleanL (nb s)) = x by rw [cleanL, if_pos hc, hP, hQ, hx])
      have hok := clean_ok hc
      rw [hP, hQ] at hok
      have hoQ : OctsL Q := by rw [← hQ, ← hP]; exact (OctsL.parts (nb_octs s)).sub (lasts_sub _)
      have hnx : nb x = joinL Q := by rw [← hx, nb_strOf hoQ.join]
      have hq1 := Lib.hid (show codeP (nb x) = 0 by rw [hnx]; exact hok.1)
      have hq2 := Lib.hid (show psOf 0 (nb x) = Q by rw [hnx, psOf, if_pos rfl]; exact hok.2)
      have hq3 := Lib.hid (show strOf (cleanL (nb x)) = x by rw [hnx, cleanL, if_pos hok.1, hok.2, show lasts Q = Q by rw [← hQ, lasts_twice], hx])
      have hlong : longL P = false := by rw [← hP]; exact (codeP_zero.1 hc).2.2.2
      have hPl := (longL_no.1 hlong).2
      have hQP : Q.length ≤ P.length := by rw [← hQ]; exact (lasts_sub P).length_le
      have hfine := Lib.hid (fun k (hk : k < Q.length) => show tz Q k ≠ [] ∧ tz Q k ≠ dot ∧ tz Q k ≠ dots ∧ (tz Q k).length ≤ 24 from by
        have hm := tz_mem hk
        have hm2 : tz Q k ∈ P := by
          rw [← hQ] at hm ⊢
          exact (lasts_sub P).subset hm
        have hr := realB_iff.1 ((Parts.of (nb s)) _ (by rw [hP]; exact hm2)).2
        exact ⟨hr.1, hr.2, fun e => by
          rw [e, ← hQ] at hm
          exact lasts_dots P hm, (longL_no.1 hlong).1 _ hm2⟩)
      have hoQ' := Lib.hid hoQ
      have hsz := Lib.hid (show sizeL Q ≤ 1000000 by
        have h1 := (psOf_le 0 (l := nb s) (n := 250) (by rw [nb_length]; omega)).2
        rw [psOf, if_pos rfl, hP] at h1
        have h2 := sizeL_sub (lasts_sub P)
        rw [hQ] at h2
        omega)
      have hx' := Lib.hid hx
      obtain ⟨n, hn⟩ : ∃ n, Q.length = n := ⟨_, rfl⟩
      obtain ⟨m, hm⟩ : ∃ m, P.length = m := ⟨_, rfl⟩
      rw [hn, hm] at hQP
      rw [hm] at hPl
      have hn' := Lib.hid hn
      have hm' := Lib.hid hm
      clear hc hP hQ hx hok hoQ hnx hlong hn hm
      have tk : True := trivial
      have tk2 : True := trivial
      go_enter Tryd.func4, Tryd.ntmps4
      go_wp2_with (first
        | (go_at_call 11; clear tk; refine (pClean_is s x _ 0 hc'.out hcl.out).mono ?_; rintro e w1 ⟨rfl, hb⟩; have H1 := Lib.hid ((Held.start w).on hb); clear hb)
        | (go_at_call 9; clear tk2; refine (pSplit_is s _ P 0 hc'.out hP0.out).mono ?_; rintro e w2 ⟨a1, c1, rfl, o1, _, _, b1⟩; have H2 := Lib.hid (H1.out.add o1.out b1.out); clear o1 b1; rw [hm'.out] at H2 ⊢)
        | (go_at_call 9; refine (pSplit_is x _ Q 0 hq1.out hq2.out).mono ?_; rintro e w3 ⟨a2, c2, rfl, o1, _, hcap, b1⟩; have H3 := Lib.hid (H2.out.add o1.out b1.out); clear o1 b1; rw [hn'.out] at H3 hcap ⊢)
        | (go_at_call 11; refine (pClean_is x x _ 0 hq1.out hq3.out).mono ?_; rintro e w4 ⟨rfl, hb⟩; have H4 := Lib.hid (H3.out.on hb); clear hb))
      have hT := Lib.hid (H4.out.texts (a := a2) (n := n) (c := c2) (L := Q) (by simp))
      go_loop [11] (fun i => IxRel n i) (fun i => n - (intOf i).toNat)
      case atStart => exact ⟨0, by omega, rfl⟩
      case round =>
        obtain ⟨k, hk, rfl⟩ := hrel
        by_cases hlt : k < n
        · obtain ⟨b, off, rfl⟩ := hT.out.addr (by rw [hn'.out]; omega)
          have c1' := hT.out.cell (k := k) (by rw [hn'.out]; exact hlt)
          obtain ⟨f1, f2, f3, f4⟩ := hfine.out k (by rw [hn'.out]; exact hlt)
          have hoc := hoQ'.out _ (tz_mem (show k < Q.length by rw [hn'.out]; exact hlt))
          have e1 := empty_str (tz Q k)
          have e2 := dot_str hoc
          have e3 := dots_str hoc
          have e4 := strOf_size (tz Q k)
          rw [decide_eq_false f1] at e1
          rw [decide_eq_false f2] at e2
          rw [decide_eq_false f3] at e3
          obtain ⟨y, hy⟩ : ∃ y, strOf (tz Q k) = y := ⟨_, rfl⟩
          rw [hy] at c1' e1 e2 e3 e4
          have e5 : y.size ≤ 24 := by rw [e4]; exact f4
          clear f1 f2 f3 f4 e4 hoc hy
          go_wp2_with fail
          exact ⟨⟨k + 1, by omega, by go_num⟩, by simp [intOf]; omega⟩
        · obtain rfl : k = n := by omega
          go_wp2_with (first
            | (go_at_call 19; refine (pJoin_is a2 _ c2 Q x _ hn'.out.symm hcap.out hT.out hsz.out hx'.out).mono ?_; rintro e w5 ⟨rfl, hb⟩; have H5 := Lib.hid (H4.out.on hb); clear hb)
            | (go_at_call 8; refine (pAwake_any _).mono ?_; rintro e w6 ⟨rfl, hb⟩; have hend := Lib.hid (H5.out.on hb).1; clear hb))
          go_ret
          exact ⟨rfl, hend.out⟩
    · have hL := Lib.hid (show psOf c (nb s) = [] from if_neg h)
      have hx := Lib.hid (show strOf (cleanL (nb s)) = ⟨#[]⟩ by rw [cleanL, if_neg (by rw [hc]; exact h)]; rfl)
      have t1 : (c != 0) = true := by rw [bne_iff_ne]; exact h
      clear hc h
      go_enter Tryd.func4, Tryd.ntmps4
      go_wp2_with (first
        | (go_at_call 11; refine (pClean_is s ⟨#[]⟩ _ c hc'.out hx.out).mono ?_; rintro e w1 ⟨rfl, hb⟩; have b1 := Lib.hid hb; clear hb)
        | (go_at_call 9; refine (pSplit_is s _ [] c hc'.out hL.out).mono ?_; rintro e w2 ⟨a1, c1, rfl, o1, _, _, hb⟩; have b2 := Lib.hid (b1.out.trans (hb.out.mono b1.out.size)); clear hb o1)
        | (go_at_call 8; refine (pAwake_any _).mono ?_; rintro e w3 ⟨rfl, hb⟩; have hend := Lib.hid (b2.out.trans (hb.mono b2.out.size)); clear hb))
      all_goals (
        go_ret
        exact ⟨rfl, hend.out⟩)
end Go.Proofs.YtkocjkndkkhogaaDoor
