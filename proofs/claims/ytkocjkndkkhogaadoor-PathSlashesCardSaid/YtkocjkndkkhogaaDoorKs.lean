/-
  PathSlashes: the walk.
-/
import Derived.Test.YtkocjkndkkhogaaDoorKr
import Derived.Test.YtkocjkndkkhogaaDoorKi
namespace Go.Proofs.YtkocjkndkkhogaaDoor
open Go.RowKit BigFrame

theorem nb_mid4 (s : ByteArray) (k : Nat) : nb (s.extract 0 k ++ ⟨#[47, 46, 47]⟩ ++ s.extract k s.size) = mid4 (nb s) k := by
  rw [nb_append, nb_append, nb_extract, nb_extract, List.drop_zero, List.take_of_length_le (l := nb s) (i := s.size) (by rw [nb_length]; exact Nat.le_refl _)]
  rfl
theorem nb_more6 (s : ByteArray) : nb (s ++ ⟨#[47, 122, 122, 47, 46, 46]⟩) = more6 (nb s) := by rw [nb_append]; rfl
def CuRel (s : ByteArray) (w0 : World) (v i : Value) (wr : World) : Prop :=
  ∃ k : Nat, k ≤ s.size ∧ i = .int .i64 k ∧ OwnI wr w0.heap.size v (cutsL (nb s) k).length (cutD (nb s) k) ∧ Below w0.heap.size w0 wr
set_option maxRecDepth 100000 in
set_option maxHeartbeats 2000000 in
theorem pathSlashes_any (s : ByteArray) (z : Int) (w : World) : Calls Tryd.prog 7 #[.string s, .int .i64 z] w (Tells (.bool true) w) := by
  by_cases h60 : 60 < s.size
  · go_enter Tryd.func7, Tryd.ntmps7
    go_wp2_with (go_at_call 8; refine (pAwake_any _).mono ?_; rintro e w1 ⟨rfl, hb⟩; have hend := Lib.hid hb; clear hb)
    go_ret
    exact ⟨rfl, hend.out⟩
  · obtain ⟨c, hc⟩ : ∃ c, codeP (nb s) = c := ⟨_, rfl⟩
    have hc' := Lib.hid hc
    by_cases h : c = 0
    · subst h
      have hnl := Lib.hid (nb_length s)
      obtain ⟨P, hP⟩ : ∃ P, partsL (nb s) = P := ⟨_, rfl⟩
      obtain ⟨x, hx⟩ : ∃ x, strOf (cleanL (nb s)) = x := ⟨_, rfl⟩
      have hP' := Lib.hid hP
      have hP0 := Lib.hid (show psOf 0 (nb s) = P by rw [psOf, if_pos rfl, hP])
      have hx' := Lib.hid hx
      have hPl := (longL_no.1 (codeP_zero.1 hc).2.2.2).2
      rw [hP] at hPl
      have h0 : 0 < s.size ∧ bz (nb s) 0 = 47 := by
        obtain ⟨⟨b, hb⟩, _⟩ := codeP_zero.1 hc
        have h1 := nb_length s
        rw [hb] at h1 ⊢
        exact ⟨by rw [← h1]; simp, rfl⟩
      obtain ⟨m, hm⟩ : ∃ m, P.length = m := ⟨_, rfl⟩
      rw [hm] at hPl
      have hm' := Lib.hid hm
      have h01 := Lib.hid h0
      clear hc hP hx hm h0
      have tk : True := trivial
      have tk2 : True := trivial
      go_enter Tryd.func7, Tryd.ntmps7
      go_wp2_with (first
        | (go_at_call 9; refine (pSplit_is s _ P 0 hc'.out hP0.out).mono ?_; rintro e w1 ⟨a1, c1, rfl, o1, _, _, b1⟩; have H1 := Lib.hid ((Held.start w).add o1.out b1.out); clear o1 b1; rw [hm'.out] at H1 ⊢)
        | (go_at_call 11; refine (pClean_is s x _ 0 hc'.out hx'.out).mono ?_; rintro e w2 ⟨rfl, hb⟩; have H2 := Lib.hid (H1.out.on hb); clear hb))
      go_loopw [9, 10] (fun v i wr => CuRel s w2 v i wr) (fun _ i _ => s.size - (intOf i).toNat)
      case atStart => exact ⟨0, by omega, rfl, .nil _ _ _, Below.refl _ _⟩
      case round =>
        obtain ⟨k, hk, rfl, hO, hB⟩ := hrel
        obtain ⟨a, cap, rfl, hI, hj⟩ := hO.slice
        have hO' := Lib.hid hO
        have hB' := Lib.hid hB
        have hI' := Lib.hid hI
        have hcl := cuts_len (nb s) k
        obtain ⟨n, hn⟩ : ∃ n, (cutsL (nb s) k).length = n := ⟨_, rfl⟩
        have hn' := Lib.hid hn
        rw [hn] at hcl hO' hI' ⊢
        clear hO hB hI hj hn
        by_cases hlt : k < s.size
        · have hat := nb_at2 hlt
          by_cases h47 : bz (nb s) k = 47
          · rw [h47] at hat
            have t1 : (((s[k]'hlt).toNat : Int) == 47) = true := by rw [hat]; rfl
            have h47' := Lib.hid h47
            have hOa := Lib.hid (hO'.out.alloc (.cells #[.int .i64 (k : Int)] 3))
            have hNa := Lib.hid (int_new wr (k : Int) 3)
            have hBa := Lib.hid (hB'.out.alloc hB'.out.size (.cells #[.int .i64 (k : Int)] 3))
            have hza := Lib.hid hBa.out.size
            clear h47 hat
            go_wp2_with (at_builtin; refine wpList_append_ints rfl (.tmp 60) (.tmp 62) rfl w2.heap.size n _ (cutD (nb s) k) rfl hOa.out (some ⟨wr.heap.size, 0, none⟩) 1 1 (fun _ => (k : Int)) rfl hNa.out (by intro h; cases h) (by omega) hza.out ?_)
            intro v' w' hov hg3 hbl
            have hfin := Lib.hid (show CuRel s w2 v' (.int .i64 ((k : Int) + 1)) w' from ⟨k + 1, by omega, by go_num, by
              have h1 := hov.out
              rw [← hn'.out] at h1
              have h2 := h1.congr (cutD_join h47'.out)
              have h3 : (cutsL (nb s) (k + 1)).length = (cutsL (nb s) k).length + 1 := by rw [cuts_yes h47'.out]; simp
              rw [h3]; exact h2, hBa.out.trans hbl⟩)
            clear hg3 hbl
            go_wp2_with fail
            exact ⟨hfin.out, by simp [intOf]; omega⟩
          · have t1 : (((s[k]'hlt).toNat : Int) == 47) = false := by rw [beq_eq_false_iff_ne, hat]; omega
            have hfin := Lib.hid (show CuRel s w2 (.slice a n cap) (.int .i64 ((k : Int) + 1)) wr from ⟨k + 1, by omega, by go_num, by
              have h1 := hO'.out
              have h4 : cutD (nb s) (k + 1) = cutD (nb s) k := by unfold cutD; rw [cuts_no h47]
              rw [cuts_no h47, hn'.out, h4]; exact h1, hB'.out⟩)
            clear h47 hat
            go_wp2_with fail
            exact ⟨hfin.out, by simp [intOf]; omega⟩
        · have hks : k = s.size := by omega
          have hpos : 0 < n := by rw [← hn'.out, hks]; exact cuts_some h01.out.1 h01.out.2
          have H3 := Lib.hid (H2.out.on hB'.out)
          have hcs := Lib.hid (fun j (hj : j < n) => show (cutsL (nb s) k).getD j 0 < s.size ∧ bz (nb s) ((cutsL (nb s) k).getD j 0) = 47 from by
            have h1 := cuts_at (l := nb s) (n := k) (j := j) (by rw [hn'.out]; exact hj)
            exact ⟨by omega, h1.2⟩)
          obtain ⟨b, off, rfl, hI2⟩ : ∃ b off, a = some ⟨b, off, none⟩ ∧ ∀ j, j < n → wr.cell? ⟨b, off + j, none⟩ = some (.int .i64 (cutD (nb s) k j)) := by
            rcases hI'.out with h | ⟨b, off, rfl, h⟩
            · omega
            · exact ⟨b, off, rfl, h⟩
          have hI3 := Lib.hid hI2
          clear hI2
          go_wp2_with (first
            | (go_at_call 20; refine (low_c z _ n _ rfl hpos (by omega)).mono ?_; rintro e w3 ⟨j, hj, rfl, rfl⟩; have c5 := hI3.out j hj; obtain ⟨hq1, hq2⟩ := hcs.out j hj; unfold cutD at c5; obtain ⟨q, hq⟩ : ∃ q, (cutsL (nb s) k).getD j 0 = q := ⟨_, rfl⟩; rw [hq] at c5 hq1 hq2; have hq3 := Lib.hid hq2; clear hq hq2))
          have hqc := Lib.hid (show codeP (nb (s.extract 0 q ++ ⟨#[47, 46, 47]⟩ ++ s.extract q s.size)) = 0 by rw [nb_mid4]; exact mid4_code (by rw [hnl.out]; exact hq1) hq3.out (by rw [hnl.out]; omega) hc'.out)
          have hqp := Lib.hid (show partsL (nb (s.extract 0 q ++ ⟨#[47, 46, 47]⟩ ++ s.extract q s.size)) = P by rw [nb_mid4, mid4_parts (by rw [hnl.out]; exact hq1) hq3.out]; exact hP'.out)
          have hqx := Lib.hid (show strOf (cleanL (nb (s.extract 0 q ++ ⟨#[47, 46, 47]⟩ ++ s.extract q s.size))) = x by rw [cleanL, if_pos hqc.out, hqp.out, ← hx'.out, cleanL, if_pos hc'.out, hP'.out])
          have hqp0 := Lib.hid (show psOf 0 (nb (s.extract 0 q ++ ⟨#[47, 46, 47]⟩ ++ s.extract q s.size)) = P by rw [psOf, if_pos rfl]; exact hqp.out)
          obtain ⟨d, hd⟩ : ∃ d, codeP (nb (s ++ ⟨#[47, 122, 122, 47, 46, 46]⟩)) = d := ⟨_, rfl⟩
          obtain ⟨y, hy⟩ : ∃ y, strOf (cleanL (nb (s ++ ⟨#[47, 122, 122, 47, 46, 46]⟩))) = y := ⟨_, rfl⟩
          have hd' := Lib.hid hd
          have hy' := Lib.hid hy
          by_cases h18 : m + 2 ≤ 20
          · have hmore := more6_code (l := nb s) (by rw [hnl.out]; omega) hc'.out (by rw [hP'.out, hm'.out]; exact h18)
            obtain rfl : d = 0 := by rw [← hd, nb_more6]; exact hmore.1
            obtain rfl : y = x := by rw [← hy, nb_more6, hmore.2]; exact hx'.out
            clear hd hy hmore
            go_big_quiet (fail)
            go_wp2_with (first
              | (go_at_call 9; refine (pSplit_is _ _ P 0 hqc.out hqp0.out).mono ?_; rintro e w5 ⟨a5, c5', rfl, o1, _, _, b1⟩; have H5 := Lib.hid (H3.out.drew.add o1.out b1.out); clear o1 b1; rw [hm'.out] at H5 ⊢)
              | (go_at_call 11; clear tk; refine (pClean_is _ y _ 0 hqc.out hqx.out).mono ?_; rintro e w6 ⟨rfl, hb⟩; have H6 := Lib.hid (H5.out.on hb); clear hb)
              | (go_at_call 11; refine (pClean_is _ y _ 0 hd'.out hy'.out).mono ?_; rintro e w7 ⟨rfl, hb⟩; have H7 := Lib.hid (H6.out.on hb); clear hb)
              | (go_at_call 17; refine (sameT_any a1 a5 c1 c5' m P _ hm'.out.symm (by omega) (H7.out.texts (n := m) (c := c1) (by simp)) (H7.out.texts (n := m) (c := c5') (by simp))).mono ?_; rintro e w8 ⟨rfl, hb⟩; have H8 := Lib.hid (H7.out.on hb); clear hb)
              | (go_at_call 8; refine (pAwake_any _).mono ?_; rintro e w9 ⟨rfl, hb⟩; have hend := Lib.hid (H8.out.on hb).1; clear hb))
            go_ret
            exact ⟨rfl, hend.out⟩
          · go_big_quiet (fail)
            clear hd hy
            go_wp2_with (first
              | (go_at_call 9; refine (pSplit_is _ _ P 0 hqc.out hqp0.out).mono ?_; rintro e w5 ⟨a5, c5', rfl, o1, _, _, b1⟩; have H5 := Lib.hid (H3.out.drew.add o1.out b1.out); clear o1 b1; rw [hm'.out] at H5 ⊢)
              | (go_at_call 11; clear tk; refine (pClean_is _ x _ 0 hqc.out hqx.out).mono ?_; rintro e w6 ⟨rfl, hb⟩; have H6 := Lib.hid (H5.out.on hb); clear hb)
              | (go_at_call 11; refine (pClean_is _ y _ d hd'.out hy'.out).mono ?_; rintro e w7 ⟨rfl, hb⟩; have H7 := Lib.hid (H6.out.on hb); clear hb)
              | (go_at_call 17; refine (sameT_any a1 a5 c1 c5' m P _ hm'.out.symm (by omega) (H7.out.texts (n := m) (c := c1) (by simp)) (H7.out.texts (n := m) (c := c5') (by simp))).mono ?_; rintro e w8 ⟨rfl, hb⟩; have H8 := Lib.hid (H7.out.on hb); clear hb)
              | (go_at_call 8; refine (pAwake_any _).mono ?_; rintro e w9 ⟨rfl, hb⟩; have hend := Lib.hid (H8.out.on hb).1; clear hb))
            go_ret
            exact ⟨rfl, hend.out⟩
    · have hL := Lib.hid (show psOf c (nb s) = [] from if_neg h)
      have hx := Lib.hid (show strOf (cleanL (nb s)) = ⟨#[]⟩ by rw [cleanL, if_neg (by rw [hc]; exact h)]; rfl)
      have t1 : (c != 0) = true := by rw [bne_iff_ne]; exact h
      clear hc h
      go_enter Tryd.func7, Tryd.ntmps7
      go_wp2_with (first
        | (go_at_call 9; refine (pSplit_is s _ [] c hc'.out hL.out).mono ?_; rintro e w2 ⟨a1, c1, rfl, o1, _, _, hb⟩; have b2 := Lib.hid hb.out; clear hb o1)
        | (go_at_call 11; refine (pClean_is s ⟨#[]⟩ _ c hc'.out hx.out).mono ?_; rintro e w1 ⟨rfl, hb⟩; have b1 := Lib.hid (b2.out.trans (hb.mono b2.out.size)); clear hb)
        | (go_at_call 8; refine (pAwake_any _).mono ?_; rintro e w3 ⟨rfl, hb⟩; have hend := Lib.hid (b1.out.trans (hb.mono b1.out.size)); clear hb))
      all_goals (
        go_ret
        exact ⟨rfl, hend.out⟩)
end Go.Proofs.YtkocjkndkkhogaaDoor
