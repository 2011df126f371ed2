/-
  Names that are joined are split again: the walk.
-/
import Derived.Test.YtkocjkndkkhogaaDoorKt
import Derived.Test.YtkocjkndkkhogaaDoorKn
import Derived.Test.YtkocjkndkkhogaaDoorKk
import Derived.Test.YtkocjkndkkhogaaDoorTh
import Derived.Test.YtkocjkndkkhogaaDoorIt
import Derived.Test.YtkocjkndkkhogaaDoorLo
namespace Go.Proofs.YtkocjkndkkhogaaDoor
open Go.RowKit BigFrame

def NaRel2 (n : Nat) (_R : Nat → Int) (w0 : World) (v g i : Value) (wr : World) : Prop :=
  ∃ (k : Nat) (L : List (List Nat)), k ≤ n ∧ L.length = k ∧ Names L ∧ i = .int .i64 k ∧ g = .int .i64 ((sizeL L : Nat) : Int) ∧ OwnT wr w0.heap.size v L ∧ Below w0.heap.size w0 wr
def WoRel (top : Nat) (w1 : World) (v j : Value) (wr : World) : Prop :=
  ∃ (k : Nat) (p : List Nat), k ≤ top + 1 ∧ p.length = k ∧ Letters p ∧ j = .int .i64 k ∧ v = .string (strOf p) ∧ Below w1.heap.size w1 wr
theorem letter_run (q : Nat) (hq : q < 26) (w : World) : (convert 39 9 (.slice (some ⟨w.heap.size, 0, none⟩) 1 1)).run Tryd.prog (w.alloc (.cells #[.int .u8 (97 + (q : Int))] 5)) = .ok (.string (strOf [97 + q])) (w.alloc (.cells #[.int .u8 (97 + (q : Int))] 5)) := by
  refine run_string rfl (.cons (by omega) .nil) (.inr ⟨w.heap.size, 0, rfl, fun k hk => ?_⟩)
  obtain rfl : k = 0 := by simpa using hk
  rw [cell_of_row _ w.heap.size _ _ _ _ (heap_alloc_new w _)]
  simp [bz]
theorem letter_add (p : List Nat) (q : Nat) : strOf p ++ strOf [97 + q] = strOf (p ++ [97 + q]) := (strOf_append p [97 + q]).symm
set_option maxRecDepth 100000 in
set_option maxHeartbeats 2000000 in
theorem pathParts_any (a : Option Addr) (n cap : Nat) (R : Nat → Int) (w : World) (hcap : n ≤ cap) (hx : IntsAt w a n R) (hR : ∀ k, k < n → -9223372036854775808 ≤ R k ∧ R k ≤ 9223372036854775807) :
    Calls Tryd.prog 5 #[.slice a n cap] w (Tells (.bool true) w) := by
  by_cases h20 : 20 < n
  · go_enter Tryd.func5, Tryd.ntmps5
    go_wp2_with (go_at_call 8; refine (pAwake_any _).mono ?_; rintro e w1 ⟨rfl, hb⟩; have hend := Lib.hid hb; clear hb)
    go_ret
    exact ⟨rfl, hend.out⟩
  · have hx' := Lib.hid hx
    have hR' := Lib.hid hR
    clear hx hR
    go_enter Tryd.func5, Tryd.ntmps5
    go_wp2_with fail
    go_loopw [3, 4, 5] (fun v g i wr => NaRel2 n R w v g i wr) (fun _ _ i _ => n - (intOf i).toNat)
    case atStart => exact ⟨0, [], by omega, rfl, fun p hp => absurd hp (by simp), rfl, rfl, .nil _ _, Below.refl _ _⟩
    case round =>
      obtain ⟨i, L, hi, hL, hN, rfl, rfl, hO, hB⟩ := hrel
      have hO' := Lib.hid hO
      have hB' := Lib.hid hB
      have hN' := Lib.hid hN
      have hL' := Lib.hid hL
      obtain ⟨a2, cap2, rfl, hjunk⟩ := hO.slice
      have hsz : sizeL L ≤ 200 := by
        have := hN.size
        omega
      clear hO hB hN hjunk hL
      by_cases hlt : i < n
      · obtain ⟨b, off, rfl⟩ : ∃ b off, a = some ⟨b, off, none⟩ := by
          rcases hx'.out with h | ⟨b, off, rfl, _⟩
          · omega
          · exact ⟨b, off, rfl⟩
        go_wp2_with fail
        obtain ⟨top, htop⟩ : ∃ top : Nat, lowN (R i) 9 = (top : Int) := ⟨(lowN (R i) 9).toNat, by have := lowN_bd (R i) (n := 9) (by omega); omega⟩
        have ht9 : top < 9 := by have := lowN_bd (R i) (n := 9) (by omega); omega
        have htop' := Lib.hid htop
        clear htop
        go_loopw [6, 7] (fun v j wx => WoRel top wr v j wx) (fun _ j _ => top + 1 - (intOf j).toNat)
        case atStart => exact ⟨0, [], by omega, rfl, fun x hx => absurd hx (by simp), rfl, rfl, Below.refl _ _⟩
        case round =>
          obtain ⟨k, p, hk, hp, hW, rfl, rfl, hb⟩ := hrel
          have hbw := Lib.hid (hB'.out.trans (hb.mono hB'.out.size))
          have hb' := Lib.hid hb
          have hp' := Lib.hid hp
          have hW' := Lib.hid hW
          have c1 : wr.cell? ⟨b, off + i, none⟩ = some (.int .i64 (R i)) := by
            rcases hx'.out.on hbw.out rfl with h | ⟨b', o', e, h⟩
            · omega
            · cases e; exact h i hlt
          obtain ⟨hr1, hr2⟩ := hR'.out i hlt
          have hps := strOf_size p
          rw [hp] at hps
          obtain ⟨y, hy⟩ : ∃ y, strOf p = y := ⟨_, rfl⟩
          have hy' := Lib.hid hy
          rw [hy] at hps ⊢
          clear hb hp hW hy
          by_cases hkt : k ≤ top
          · have tk : True := trivial
            go_wp2_with (first
              | (go_at_call 20; clear tk; refine (low_any (R i) 9 _ (by omega) (by omega)).mono ?_; rw [htop'.out]; rintro e w3 ⟨rfl, rfl⟩)
              | (go_at_call 20; refine (low_c _ _ 26 _ rfl (by omega) (by omega)).mono ?_; rintro e w4 ⟨q, hq, rfl, rfl⟩; have hcv := letter_run q hq wr; have hadd := Lib.hid (letter_add p q); rw [hy'.out] at hadd; have hzs := strOf_size [97 + q]; obtain ⟨z, hz⟩ : ∃ z, strOf [97 + q] = z := ⟨_, rfl⟩; rw [hz] at hcv hadd hzs; clear hz; have hzs2 : z.size = 1 := hzs; clear hzs))
            exact ⟨⟨k + 1, p ++ [97 + q], by omega, by rw [List.length_append, hp'.out]; rfl, hW'.out.snoc (by omega) (by omega), by go_num, by rw [← hadd.out], hb'.out.alloc hb'.out.size _⟩, by simp [intOf]; omega⟩
          · have hkt2 : k = top + 1 := by omega
            have hN2 := Lib.hid (hN'.out.snoc hW'.out (by rw [hp'.out]; omega) (by rw [hp'.out]; omega))
            have hz2 := Lib.hid (show sizeL (L ++ [p]) = sizeL L + 1 + k by rw [sizeL_snoc, hp'.out])
            have hOa := Lib.hid ((hO'.out.on hb'.out (Nat.le_refl _)).alloc (.cells #[.string y] 9))
            have hNa := Lib.hid (show TAt (wr.alloc (.cells #[.string y] 9)) (some ⟨wr.heap.size, 0, none⟩) [p] by rw [← hy'.out]; exact text_new wr p)
            have hBa := Lib.hid (hbw.out.alloc hbw.out.size (.cells #[.string y] 9))
            have hza := Lib.hid hBa.out.size
            go_wp2_with (first
              | (go_at_call 20; refine (low_any (R i) 9 _ (by omega) (by omega)).mono ?_; rw [htop'.out]; rintro e w3 ⟨rfl, rfl⟩)
              | (at_builtin; refine wpList_append_texts rfl (.tmp 49) (.tmp 51) rfl w.heap.size _ L rfl hOa.out ⟨wr.heap.size, 0, none⟩ 1 1 [p] rfl rfl hNa.out (by have := hL'.out; omega) hza.out ?_))
            intro v' w' hov hg3 hbl
            have hfin := Lib.hid (show ∀ z : Int, z = ((sizeL L + 1 + k : Nat) : Int) → NaRel2 n R w v' (.int .i64 z) (.int .i64 ((i : Int) + 1)) w' from fun z hz => ⟨i + 1, L ++ [p], by omega, by rw [List.length_append, hL'.out]; rfl, hN2.out, by go_num, by rw [hz2.out, hz], hov.out, hBa.out.trans hbl⟩)
            clear hg3 hbl
            go_wp2_with fail
            exact ⟨hfin.out _ (by omega), by simp [intOf]; omega⟩
      · obtain rfl : i = n := by omega
        obtain ⟨hc1, hc2⟩ := hN'.out.code (by rw [hL'.out]; omega)
        obtain ⟨x, hx1⟩ : ∃ x, strOf (joinL L) = x := ⟨_, rfl⟩
        have hx1' := Lib.hid hx1
        have hnx := nb_strOf hN'.out.octs.join
        rw [hx1] at hnx
        have hnx' := Lib.hid hnx
        have hs1 := Lib.hid (show codeP (nb x) = 0 by rw [hnx]; exact hc1)
        have hs2 := Lib.hid (show psOf 0 (nb x) = L by rw [hnx, psOf, if_pos rfl]; exact hc2)
        have hO2 := hO'.out
        rw [hL'.out] at hO2 ⊢
        have H0 := Lib.hid (show Held w wr [(.slice a2 i cap2, L)] from ⟨hB'.out, fun x hx => by obtain rfl := List.mem_singleton.1 hx; exact hO2, List.pairwise_singleton _ _⟩)
        have hcap2 := Lib.hid (hO2.tat.2.2)
        clear hc1 hc2 hx1 hnx hO2
        by_cases h0 : i = 0
        · have hL0 : L = [] := List.eq_nil_of_length_eq_zero (by rw [hL'.out]; exact h0)
          subst hL0
          obtain rfl : ⟨#[47]⟩ = x := hx1'.out
          subst h0
          go_wp2_with (first
            | (go_at_call 19; refine (pJoin_is a2 0 cap2 [] ⟨#[47]⟩ _ rfl hcap2.out (.inl rfl) (by decide) hx1'.out).mono ?_; rintro e w3 ⟨rfl, hb⟩; have H1 := Lib.hid (H0.out.on hb); clear hb)
            | (go_at_call 9; refine (pSplit_is _ _ [] 0 hs1.out hs2.out).mono ?_; rintro e w4 ⟨a4, c4, rfl, o4, _, _, b4⟩; have H2 := Lib.hid (H1.out.on b4.out); clear o4 b4)
            | (go_at_call 13; refine (pLast_is ⟨#[47]⟩ ⟨#[]⟩ ⟨#[]⟩ _ 2 (by kernel_rfl) (by kernel_rfl) (by kernel_rfl)).mono ?_; rintro e w5 ⟨rfl, hb⟩; have H3 := Lib.hid (H2.out.on hb); clear hb)
            | (go_at_call 8; refine (pAwake_any _).mono ?_; rintro e w6 ⟨rfl, hb⟩; have hend := Lib.hid (H3.out.on hb).1; clear hb))
          go_ret
          exact ⟨rfl, hend.out⟩
        · obtain ⟨m, rfl⟩ : ∃ m, i = m + 1 := ⟨i - 1, by omega⟩
          obtain ⟨hq1, hq2, hq3, hq4⟩ := hN'.out.last (by rw [hL'.out]; omega) hL'.out
          have htl := Lib.hid (show (L.take m).length = m by rw [List.length_take, hL'.out]; omega)
          have hNt := hN'.out.sub (List.take_sublist m L)
          obtain ⟨hu1, hu2⟩ := hNt.code (by rw [htl.out]; omega)
          obtain ⟨u, hu⟩ : ∃ u, strOf (joinL (L.take m)) = u := ⟨_, rfl⟩
          have hnu := nb_strOf hNt.octs.join
          rw [hu] at hnu
          obtain ⟨y, hy⟩ : ∃ y, strOf (tz L m) = y := ⟨_, rfl⟩
          have hy' := Lib.hid hy
          have hg1 := Lib.hid (show codeL (nb x) = 0 by rw [hnx'.out]; exact hq1)
          have hg2 := Lib.hid (show strOf (headL (nb x)) = u by rw [hnx'.out, hq2, hu])
          have hg3 := Lib.hid (show strOf (lastL (nb x)) = y by rw [hnx'.out, hq3, hy])
          have hv1 := Lib.hid (show codeP (nb u) = 0 by rw [hnu]; exact hu1)
          have hv2 := Lib.hid (show psOf 0 (nb u) = L.take m by rw [hnu, psOf, if_pos rfl]; exact hu2)
          have hq4' := Lib.hid hq4
          have hsz1 := Lib.hid (show sizeL L ≤ 1000000 by omega)
          clear hq1 hq2 hq3 hq4 hNt hu1 hu2 hu hnu hy
          have tk : True := trivial
          have tk2 : True := trivial
          go_wp2_with (first
            | (go_at_call 19; refine (pJoin_is a2 _ cap2 L x _ hL'.out.symm hcap2.out (H0.out.texts (a := a2) (n := m + 1) (c := cap2) (by simp)) hsz1.out hx1'.out).mono ?_; rintro e w3 ⟨rfl, hb⟩; have H1 := Lib.hid (H0.out.on hb); clear hb)
            | (go_at_call 9; clear tk; refine (pSplit_is x _ L 0 hs1.out hs2.out).mono ?_; rintro e w4 ⟨a4, c4, rfl, o4, _, _, b4⟩; have H2 := Lib.hid (H1.out.add o4.out b4.out); clear o4 b4; rw [hL'.out] at H2 ⊢)
            | (go_at_call 13; refine (pLast_is x u y _ 0 hg1.out hg2.out hg3.out).mono ?_; rintro e w5 ⟨rfl, hb⟩; have H3 := Lib.hid (H2.out.on hb); clear hb)
            | (go_at_call 9; refine (pSplit_is u _ (L.take m) 0 hv1.out hv2.out).mono ?_; rintro e w6 ⟨a6, c6, rfl, o6, _, _, b6⟩; have H4 := Lib.hid (H3.out.on b6.out); rw [htl.out] at o6 ⊢)
            | (go_at_call 17; clear tk2; refine (sameT_any a4 a2 c4 cap2 (m + 1) L _ hL'.out.symm (by omega) (H4.out.texts (n := m + 1) (c := c4) (by simp)) (H4.out.texts (n := m + 1) (c := cap2) (by simp))).mono ?_; rintro e w7 ⟨rfl, hb⟩; have o7 := Lib.hid ((o6.out.on hb (Nat.le_refl _)).alloc (.cells #[.string y] 9)); have b7 := Lib.hid ((b6.out.trans (hb.mono b6.out.size)).alloc (Nat.le_trans b6.out.size hb.size) (.cells #[.string y] 9)); have n7 := Lib.hid (show TAt (w7.alloc (.cells #[.string y] 9)) (some ⟨w7.heap.size, 0, none⟩) [tz L m] by rw [← hy'.out]; exact text_new w7 _); have H7 := Lib.hid (H4.out.on hb); clear hb)
            | (at_builtin; refine wpList_append_texts_want rfl (.tmp 120) (.tmp 122) rfl w5.heap.size _ (L.take m) rfl o7.out ⟨w7.heap.size, 0, none⟩ 1 1 [tz L m] rfl rfl n7.out (by rw [htl.out]; omega) b7.out.size ?_; intro v8 w8 hov hg8 hb8; have b8 := Lib.hid (b7.out.trans hb8); have H8 := Lib.hid (H3.out.on b8.out); rw [hq4'.out] at hov; obtain ⟨a8, c8, rfl, hT8, hj8⟩ := hov.out.slice; have T8 := Lib.hid hT8; clear hj8 hT8 hg8 hb8; rw [hL'.out] at hov ⊢)
            | (go_at_call 17; refine (sameT_any a8 a2 c8 cap2 (m + 1) L _ hL'.out.symm (by omega) T8.out (H8.out.texts (n := m + 1) (c := cap2) (by simp))).mono ?_; rintro e w9 ⟨rfl, hb⟩; have H9 := Lib.hid (H8.out.on hb); clear hb)
            | (go_at_call 8; refine (pAwake_any _).mono ?_; rintro e w10 ⟨rfl, hb⟩; have hend := Lib.hid (H9.out.on hb).1; clear hb))
          go_ret
          exact ⟨rfl, hend.out⟩
end Go.Proofs.YtkocjkndkkhogaaDoor
