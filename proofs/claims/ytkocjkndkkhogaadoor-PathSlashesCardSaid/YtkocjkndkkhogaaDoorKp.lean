/-
  A target's parts are a path's behind a slash: the walk.
-/
import Derived.Test.YtkocjkndkkhogaaDoorKn
import Derived.Test.YtkocjkndkkhogaaDoorTh
import Derived.Test.YtkocjkndkkhogaaDoorKh
namespace Go.Proofs.YtkocjkndkkhogaaDoor
open Go.RowKit BigFrame

theorem nb_append (a b : ByteArray) : nb (a ++ b) = nb a ++ nb b := by unfold nb; simp
theorem nb_slash (s : ByteArray) : nb ((⟨#[47]⟩ : ByteArray) ++ s) = 47 :: nb s := by rw [nb_append]; rfl
theorem code_slash {l : List Nat} (_h0 : l ≠ []) (h : l.length ≤ 150) : codeS 100 l = 0 → codeP (47 :: l) = 0 := by
  intro h1
  obtain ⟨_, h2, h3, h4⟩ := codeS_zero.1 h1
  refine codeP_zero.2 ⟨⟨l, rfl⟩, by simp [h2], by simp; omega, by rw [partsL_slash]; exact h4⟩
theorem code_slash2 {l : List Nat} (h0 : l ≠ []) (h : l.length ≤ 100) : codeS 100 l ≠ 0 → codeP (47 :: l) ≠ 0 := by
  intro h1 h2
  obtain ⟨_, h3, _, h4⟩ := codeP_zero.1 h2
  refine h1 (codeS_zero.2 ⟨h0, fun h => h3 (List.mem_cons_of_mem _ h), h, by rw [partsL_slash] at h4; exact h4⟩)
theorem root_is {s : ByteArray} (h0 : 0 < s.size) (h : codeS 100 (nb s) = 0) : rootT (nb s) = (((s[0]'h0).toNat : Int) == 47) := by
  have hhd : (nb s).head? = some (bz (nb s) 0) := by
    rw [bz_get (by rw [nb_length]; exact h0), List.head?_eq_getElem?, List.getElem?_eq_getElem]
  unfold rootT
  rw [h, hhd, nb_at2 h0, decide_eq_true rfl, Bool.true_and]
  by_cases h : bz (nb s) 0 = 47
  · rw [h]; rfl
  · rw [decide_eq_false (fun e => h (Option.some.inj e))]
    symm
    rw [beq_eq_false_iff_ne]
    omega

set_option maxRecDepth 100000 in
set_option maxHeartbeats 2000000 in
theorem pathTargets_any (s : ByteArray) (w : World) : Calls Tryd.prog 6 #[.string s] w (Tells (.bool true) w) := by
  by_cases h150 : 150 < s.size
  · go_enter Tryd.func6, Tryd.ntmps6
    go_wp2_with (go_at_call 8; refine (pAwake_any _).mono ?_; rintro e w1 ⟨rfl, hb⟩; have hend := Lib.hid hb; clear hb)
    go_ret
    exact ⟨rfl, hend.out⟩
  · have hnl := nb_length s
    obtain ⟨t, ht⟩ : ∃ t, codeS 100 (nb s) = t := ⟨_, rfl⟩
    obtain ⟨f, hf⟩ : ∃ f, codeP (nb ((⟨#[47]⟩ : ByteArray) ++ s)) = f := ⟨_, rfl⟩
    obtain ⟨M, hM⟩ : ∃ M, psOf f (nb ((⟨#[47]⟩ : ByteArray) ++ s)) = M := ⟨_, rfl⟩
    have ht' := Lib.hid ht
    have hf' := Lib.hid hf
    have hM' := Lib.hid hM
    by_cases h : t = 0
    · subst h
      have h0 : 0 < s.size := by
        rw [← hnl]
        exact Nat.pos_of_ne_zero fun h => (codeS_zero.1 ht).1 (List.eq_nil_of_length_eq_zero h)
      have hne : nb s ≠ [] := fun h => by rw [h] at hnl; simp at hnl; omega
      have hz : f = 0 := by rw [← hf, nb_slash]; exact code_slash hne (by omega) ht
      subst hz
      have hML := Lib.hid (show psOf 0 (nb s) = M by rw [← hM, nb_slash, psOf, if_pos rfl, psOf, if_pos rfl, partsL_slash])
      have hl := Lib.hid (show M.length ≤ 1000 by rw [← hML.out]; have := (psOf_le 0 (l := nb s) (n := 150) (by omega)).1; omega)
      have hrt := Lib.hid (root_is h0 ht)
      clear ht hf hM hne hnl
      have t1 : s.toList.isEmpty = false := by
        rw [empty_is, decide_eq_false]
        intro h
        have := nb_length s
        rw [h] at this
        simp at this
        omega
      go_enter Tryd.func6, Tryd.ntmps6
      go_wp2_with (first
        | (go_at_call 15; refine (pTarget_is s _ M _ 0 ht'.out hrt.out hML.out).mono ?_; rintro e w1 ⟨a1, c1, rfl, o1, _, _, b1⟩; have H1 := Lib.hid ((Held.start w).add o1.out b1.out); clear o1 b1)
        | (go_at_call 9; refine (pSplit_is _ _ M 0 hf'.out hM'.out).mono ?_; rintro e w2 ⟨a2, c2, rfl, o1, _, _, b1⟩; have H2 := Lib.hid (H1.out.add o1.out b1.out); clear o1 b1)
        | (go_at_call 17; refine (sameT_any a1 a2 c1 c2 _ M _ rfl hl.out (H2.out.texts (n := M.length) (c := c1) (by simp)) (H2.out.texts (n := M.length) (c := c2) (by simp))).mono ?_; rintro e w3 ⟨rfl, hb⟩; have H3 := Lib.hid (H2.out.on hb); clear hb)
        | (go_at_call 8; refine (pAwake_any _).mono ?_; rintro e w4 ⟨rfl, hb⟩; have hend := Lib.hid (H3.out.on hb).1; clear hb))
      go_ret
      exact ⟨rfl, hend.out⟩
    · have hL := Lib.hid (show psOf t (nb s) = [] from if_neg h)
      have hrt := Lib.hid (show rootT (nb s) = false by unfold rootT; rw [ht, decide_eq_false h, Bool.false_and])
      have t2 : (t != 0) = true := by rw [bne_iff_ne]; exact h
      by_cases h1 : nb s = []
      · have t1 : s.toList = [] := by simpa [h1] using empty_is s
        clear ht hf hM h hnl h1
        go_enter Tryd.func6, Tryd.ntmps6
        go_wp2_with (first
          | (go_at_call 15; refine (pTarget_is s _ [] false t ht'.out hrt.out hL.out).mono ?_; rintro e w1 ⟨a1, c1, rfl, o1, _, _, b1⟩; clear o1)
          | (go_at_call 9; refine (pSplit_is _ _ M f hf'.out hM'.out).mono ?_; rintro e w2 ⟨a2, c2, rfl, o2, _, _, b⟩; have b2 := Lib.hid (b1.out.trans (b.out.mono b1.out.size)); clear o2 b)
          | (go_at_call 8; refine (pAwake_any _).mono ?_; rintro e w4 ⟨rfl, hb⟩; have hend := Lib.hid (b2.out.trans (hb.mono b2.out.size)); clear hb))
        go_ret
        exact ⟨rfl, hend.out⟩
      · have t1 : s.toList.isEmpty = false := by rw [empty_is, decide_eq_false h1]
        by_cases h100 : 100 < s.size
        · clear ht hf hM h hnl h1
          go_enter Tryd.func6, Tryd.ntmps6
          go_wp2_with (first
            | (go_at_call 15; refine (pTarget_is s _ [] false t ht'.out hrt.out hL.out).mono ?_; rintro e w1 ⟨a1, c1, rfl, o1, _, _, b1⟩; clear o1)
            | (go_at_call 9; refine (pSplit_is _ _ M f hf'.out hM'.out).mono ?_; rintro e w2 ⟨a2, c2, rfl, o2, _, _, b⟩; have b2 := Lib.hid (b1.out.trans (b.out.mono b1.out.size)); clear o2 b)
            | (go_at_call 8; refine (pAwake_any _).mono ?_; rintro e w4 ⟨rfl, hb⟩; have hend := Lib.hid (b2.out.trans (hb.mono b2.out.size)); clear hb))
          go_ret
          exact ⟨rfl, hend.out⟩
        · have t3 : (f != 0) = true := by
            rw [bne_iff_ne, ← hf, nb_slash]
            exact code_slash2 h1 (by omega) (by rw [ht]; exact h)
          clear ht hf hM h hnl h1
          go_enter Tryd.func6, Tryd.ntmps6
          go_wp2_with (first
            | (go_at_call 15; refine (pTarget_is s _ [] false t ht'.out hrt.out hL.out).mono ?_; rintro e w1 ⟨a1, c1, rfl, o1, _, _, b1⟩; clear o1)
            | (go_at_call 9; refine (pSplit_is _ _ M f hf'.out hM'.out).mono ?_; rintro e w2 ⟨a2, c2, rfl, o2, _, _, b⟩; have b2 := Lib.hid (b1.out.trans (b.out.mono b1.out.size)); clear o2 b)
            | (go_at_call 8; refine (pAwake_any _).mono ?_; rintro e w4 ⟨rfl, hb⟩; have hend := Lib.hid (b2.out.trans (hb.mono b2.out.size)); clear hb))
          go_ret
          exact ⟨rfl, hend.out⟩
end Go.Proofs.YtkocjkndkkhogaaDoor
