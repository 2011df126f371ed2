/-
  The document's own: Clean, Last, Target.
-/
import Derived.Test.YtkocjkndkkhogaaDoorKk
import Derived.Deep.RegionHeld3
namespace Go.Proofs.YtkocjkndkkhogaaDoor
open Go.RowKit BigFrame

theorem stk_step {L : List (List Nat)} {k : Nat} (h : k < L.length) (acc : List (List Nat)) : stk acc (L.drop k) = if tz L k = dots then stk acc.dropLast (L.drop (k + 1)) else stk (acc ++ [tz L k]) (L.drop (k + 1)) := by rw [tz_drop h, stk]
def ClRel (L : List (List Nat)) (a : Option Addr) (w1 : World) (v i : Value) (wr : World) : Prop :=
  ∃ (k : Nat) (acc : List (List Nat)), k ≤ L.length ∧ i = .int .i64 k ∧ OwnT wr w1.heap.size v acc ∧ TAt wr a L ∧ Below w1.heap.size w1 wr ∧ stk acc (L.drop k) = lasts L ∧ acc.length ≤ k
set_option maxHeartbeats 1000000 in
theorem refClean_any (s : ByteArray) (w : World) (hs : s.size ≤ 2000) :
    Calls Tryd.prog 12 #[.string s] w (GivesS (cleanL (nb s)) (codeP (nb s)) w) := by
  have ho := Lib.hid (nb_octs s)
  obtain ⟨c, hc⟩ : ∃ c, codeP (nb s) = c := ⟨_, rfl⟩
  have hc' := Lib.hid hc
  rw [hc]
  by_cases h : c = 0
  · subst h
    have hp := Lib.hid (show psOf 0 (nb s) = partsL (nb s) from rfl)
    have hcl := Lib.hid (show cleanL (nb s) = joinL (lasts (partsL (nb s))) from if_pos hc)
    have hl := codeP_len hc
    have hsz := Lib.hid (psOf_le 0 hl)
    rw [hp.out] at hsz
    have hoc := Lib.hid (OctsL.parts ho.out)
    have hz2 := Lib.hid (Nat.le_trans (sizeL_sub (lasts_sub (partsL (nb s)))) hsz.out.2)
    have hl2 := Lib.hid (Nat.le_trans (lasts_sub (partsL (nb s))).length_le hsz.out.1)
    obtain ⟨L, hL⟩ : ∃ L, partsL (nb s) = L := ⟨_, rfl⟩
    have hL' := Lib.hid hL
    rw [hL] at hp hcl hsz hoc hz2 hl2
    clear hc hl hL
    go_enter Tryd.func12, Tryd.ntmps12
    go_wp2_with (go_at_call 10; refine (refSplit_any s _ hs).mono ?_; rw [hc'.out, hp.out]; rintro e w1 ⟨v, rfl, ho1, hb⟩; have hb1 := Lib.hid hb; obtain ⟨a, cap, rfl, hT, hj1, hcap, hmx, hj2⟩ := ho1.slice; have hT1 := Lib.hid hT; clear hb ho1 hT hj1 hj2)
    obtain ⟨n, hn⟩ : ∃ n, L.length = n := ⟨_, rfl⟩
    have hn3 : n ≤ 201 := by rw [← hn]; exact hsz.out.1
    rw [hn]
    have hn' := Lib.hid hn
    clear hn
    go_loopw [6, 7] (fun v i wr => ClRel L a w1 v i wr) (fun _ i _ => n - (intOf i).toNat)
    case atStart => exact ⟨0, [], by omega, rfl, .nil _ _, hT1.out, Below.refl _ _, by rw [List.drop_zero, stk_lasts], by simp⟩
    case round =>
      obtain ⟨k, acc, hk, rfl, hO, hT, hB, hQ, hle⟩ := hrel
      rw [hn'.out] at hk
      have hT' := Lib.hid hT
      have hB' := Lib.hid hB
      have hQ' := Lib.hid hQ
      have hle' := Lib.hid hle
      by_cases hlt : k < n
      · have hkL := Lib.hid (show k < L.length by rw [hn'.out]; exact hlt)
        obtain ⟨b, off, rfl⟩ := hT.addr (by have := hkL.out; omega)
        have c1 := hT.cell hkL.out
        have hs2 := dots_str (hoc.out _ (tz_mem hkL.out))
        have hst := Lib.hid (stk_step hkL.out acc)
        have hnext := Lib.hid (fun (wr' : World) (v' : Value) (acc' : List (List Nat)) (h1 : OwnT wr' w1.heap.size v' acc') (h2 : Below w1.heap.size w1 wr') (h3 : stk acc' (L.drop (k + 1)) = lasts L) (h4 : acc'.length ≤ k + 1) => show ClRel L (some ⟨b, off, none⟩) w1 v' (.int .i64 ((k : Int) + 1)) wr' from ⟨k + 1, acc', hkL.out, by go_num, h1, hT1.out.on h2 (Nat.le_refl _), h2, h3, h4⟩)
        obtain ⟨p, hp2⟩ : ∃ p, tz L k = p := ⟨_, rfl⟩
        rw [hp2] at c1 hs2 hst
        obtain ⟨x, hx⟩ : ∃ x, strOf p = x := ⟨_, rfl⟩
        rw [hx] at c1 hs2
        have hx' := Lib.hid hx
        clear hp2 hx
        by_cases hd : p = dots
        · rw [decide_eq_true hd] at hs2
          have hst2 := Lib.hid (show stk acc.dropLast (L.drop (k + 1)) = lasts L by rw [← hQ'.out, hst.out, if_pos hd])
          clear hd
          by_cases h0 : acc = []
          · subst h0
            obtain ⟨a2, cap2, rfl, hj⟩ := hO.slice
            have hO' := Lib.hid hO
            clear hO hT hB hQ hle hj
            go_wp2_with fail
            exact ⟨hnext.out _ _ [] hO'.out hB'.out hst2.out (by simp), by simp [intOf]; omega⟩
          · obtain ⟨m, hm⟩ : ∃ m, acc.length = m + 1 := ⟨acc.length - 1, by have : acc.length ≠ 0 := fun h => h0 (List.eq_nil_of_length_eq_zero h); omega⟩
            obtain ⟨a2, cap2, rfl, hta, _, hcap2, hmx2, hj⟩ := hO.slice
            obtain ⟨b2, off2, rfl⟩ := hta.addr (by omega)
            obtain ⟨g, hg, _⟩ := hj _ rfl
            obtain ⟨rfl, rfl⟩ : b2 = g ∧ off2 = 0 := by cases hg; exact ⟨rfl, rfl⟩
            have hcut := Lib.hid (hO.cut m (by omega))
            have hdl := Lib.hid (show acc.dropLast = acc.take m by rw [List.dropLast_eq_take, hm]; rfl)
            have hm' := Lib.hid hm
            have hmk := Lib.hid (show m ≤ k by omega)
            rw [hm] at hcap2 ⊢
            have hcap3 : m ≤ cap2 := by omega
            have hm3 : m ≤ 201 := by omega
            unfold maxLen at hmx2
            clear hO hT hB hQ hle hj hta hg h0 hm
            go_wp2_with fail
            all_goals exact ⟨hnext.out _ _ (acc.take m) hcut.out hB'.out (by rw [← hdl.out]; exact hst2.out) (by rw [List.length_take]; have := hmk.out; omega), by simp [intOf]; omega⟩
        · rw [decide_eq_false hd] at hs2
          have hst2 := Lib.hid (show stk (acc ++ [p]) (L.drop (k + 1)) = lasts L by rw [← hQ'.out, hst.out, if_neg hd])
          have hOa := Lib.hid (hO.alloc (.cells #[.string x] 9))
          have hNa := Lib.hid (show TAt (wr.alloc (.cells #[.string x] 9)) (some ⟨wr.heap.size, 0, none⟩) [p] by rw [← hx'.out]; exact text_new wr p)
          have hBa := Lib.hid (hB'.out.alloc hB'.out.size (.cells #[.string x] 9))
          have hza := Lib.hid hBa.out.size
          obtain ⟨a2, cap2, rfl, hj⟩ := hO.slice
          clear hd hO hT hB hQ hle hj
          go_wp2_with (at_builtin; refine wpList_append_texts rfl (.tmp 27) (.tmp 32) rfl w1.heap.size _ acc rfl hOa.out ⟨wr.heap.size, 0, none⟩ 1 1 [p] rfl rfl hNa.out (by have := hle'.out; omega) hza.out ?_)
          intro v' w' hov hg3 hbl
          have hfin := Lib.hid (hnext.out w' v' _ hov.out (hBa.out.trans hbl) hst2.out (by rw [List.length_append]; have := hle'.out; show acc.length + 1 ≤ _; omega))
          clear hg3 hbl
          go_wp2_with fail
          exact ⟨hfin.out, by simp [intOf]; omega⟩
      · have hkn : k = n := by omega
        have hfin : acc = lasts L := by rw [← hQ, List.drop_of_length_le (by rw [hn'.out, hkn]; exact Nat.le_refl _)]; rfl
        subst hfin
        obtain ⟨a2, cap2, rfl, hta, _, hcap2, _⟩ := hO.slice
        have hta' := Lib.hid hta
        clear hO hT hB hQ hle hta
        go_wp2_with (go_at_call 27; refine (refJoin_any a2 _ cap2 (lasts L) _ rfl (by have := hl2.out; omega) hta'.out (Nat.le_trans hz2.out (by omega))).mono ?_; rintro e w3 ⟨rfl, rfl⟩)
        go_ret2
        rw [hcl.out]
        exact ⟨rfl, hb1.out.trans (hB'.out.mono hb1.out.size)⟩
  · have hcl := Lib.hid (show cleanL (nb s) = [] from if_neg (by rw [hc]; exact h))
    have t1 : (c != 0) = true := by rw [bne_iff_ne]; exact h
    clear hc h
    go_enter Tryd.func12, Tryd.ntmps12
    go_wp2_with (go_at_call 10; refine (refSplit_any s _ hs).mono ?_; rw [hc'.out]; rintro e w1 ⟨v, rfl, ho1, hb⟩; have hb1 := Lib.hid hb; clear hb ho1)
    go_ret2
    rw [hcl.out]
    exact ⟨rfl, hb1.out⟩
end Go.Proofs.YtkocjkndkkhogaaDoor
