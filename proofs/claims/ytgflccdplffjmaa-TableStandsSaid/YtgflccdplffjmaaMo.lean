/-
  Each descriptor stands where it was moved last, whatever is done to the others; opened anew it begins at 0, with its flags: the walk.
-/
import Derived.Test.YtgflccdplffjmaaMn
namespace Go.Proofs.Ytgflccdplffjmaa
open Go.RowKit BigFrame

theorem close_c' (a k : Nat) (K N : Int) (L : List Plc) (w : World) (h : TabAt w a L) (hK : K = (k : Int)) (hk : k < 16) (ho : (pl L k).on = true) (hN : (pl L k).nd = N) :
    Calls Try.prog 10 #[.pointer (some ⟨a, 0, none⟩), .int .i64 K] w (GivesT (.tuple #[.int .i64 N, .int .i64 0]) a (L.set k p0) w) := by
  subst hK hN; exact close_on a k L w h hk ho
def StFill (a g : Nat) (w : World) (i : Value) (wr : World) : Prop := ∃ k : Nat, k ≤ 5 ∧ i = .int .i64 k ∧ TabAt wr a (fillL 100 k) ∧ At g 5 (fun _ => 0) wr ∧ g < wr.heap.size ∧ Below a w wr
def StRel (a g n m : Nat) (w : World) (i : Value) (wr : World) : Prop := ∃ (k : Nat) (L : List Plc) (D : Nat → Int), k ≤ n ∧ k ≤ m ∧ i = .int .i64 k ∧ StAt w wr a g L D
def StEnd (a g q : Nat) (L : List Plc) (D : Nat → Int) (w : World) (i : Value) (wr : World) : Prop := ∃ k : Nat, k ≤ 5 ∧ i = .int .i64 k ∧ EndAt w wr a g q L D
attribute [local go_sem ↓] ldG_of stG_of bdG_of eqG_of
set_option maxRecDepth 100000 in
set_option maxHeartbeats 2000000 in
theorem stands_law (a1 a2 : Option Addr) (c1 c2 n m : Nat) (R O : Nat → Int) (z : Int) (w : World) (h1 : IntsAt w a1 n R) (h2 : IntsAt w a2 m O) :
    Calls Try.prog 5 #[.slice a1 n c1, .slice a2 m c2, .int .i64 z] w (Tells (.bool true) w) := by
  have h1' := Lib.hid h1
  have h2' := Lib.hid h2
  clear h1 h2
  by_cases hn : n ≤ 30
  · have dn : decide (30 < (n : Int)) = false := decide_eq_false (by omega)
    by_cases hm : m ≤ 30
    · have dm : decide (30 < (m : Int)) = false := decide_eq_false (by omega)
      have tk0 : True := trivial
      go_enter Try.func5, Try.ntmps5
      go_wp2_with (first
        | (go_at_call 7; refine (new_any _).mono ?_; rintro e w1 ⟨rfl, hT, hb⟩; have T1 := Lib.hid hT; have B1 := Lib.hid hb; clear hT hb)
        | (clear tk0; refine wpList_alloc_five rfl rfl ?_; intro g w2 ha2 hg2 hl2 hb2; have T2 := Lib.hid (T1.out.on' hb2); have B2 := Lib.hid (B1.out.trans (hb2.mono B1.out.size)); have ag := Lib.hid (Nat.lt_of_lt_of_le T1.out.lt hg2); clear hb2 T1 B1))
      go_loopw [9] (fun i wr => StFill w.heap.size g w i wr) (fun i _ => 5 - (intOf i).toNat)
      case atStart => exact ⟨0, by omega, rfl, T2.out, ha2.out, hl2, B2.out⟩
      case round =>
        obtain ⟨k, hk, rfl, hT, hA, hgl, hb⟩ := hrel
        have T3 := Lib.hid hT
        have A3 := Lib.hid hA
        have B3 := Lib.hid hb
        have G3 := Lib.hid hgl
        clear hT hb hA hgl T2 B2 ha2
        by_cases hlt : k < 5
        · have hla := Lib.hid (fillL_least 100 (show k ≤ 16 by omega))
          go_wp2_with (go_at_call 8; refine (open_c _ k _ _ (k : Int) (fillL 100 k) (fillL 100 (k + 1)) _ T3.out hla.out (by omega) rfl (by show openL _ _ _ _ = openL _ _ _ _; congr 1 <;> omega)).mono ?_; rintro e w4 ⟨rfl, hT, hb⟩; have T4 := Lib.hid hT; have A4 := Lib.hid (A3.out.turn hb (by have := ag.out; omega) G3.out); have G4 := Lib.hid (Nat.lt_of_lt_of_le G3.out hb.size); have B4 := Lib.hid (B3.out.trans (hb.below B3.out.size (Nat.le_refl _))); clear hT hb)
          exact ⟨⟨k + 1, by omega, by go_num, T4.out, A4.out, G4.out, B4.out⟩, by simp [intOf]; omega⟩
        · have hk5 : k = 5 := by omega
          have S0 := Lib.hid (StAt.start (hk5 ▸ T3.out) A3.out G3.out ag.out B3.out rfl)
          have d5 : decide ((k : Int) < 5) = false := decide_eq_false (by omega)
          clear hk5 hk hlt
          go_wp2_with fail
          go_loopw [12] (fun i wr => StRel w.heap.size g n m w i wr) (fun i _ => n - (intOf i).toNat)
          case atStart => exact ⟨0, _, _, by omega, by omega, rfl, S0.out⟩
          case round =>
            obtain ⟨i, L, D, hin, him, rfl, hS⟩ := hrel
            have S1 := Lib.hid hS
            clear hS T3 A3 B3 G3 S0
            by_cases hi : i < n ∧ i < m
            · obtain ⟨hi1, hi2⟩ := hi
              have d1 : decide ((i : Int) < (n : Int)) = true := decide_eq_true (by omega)
              have d2 : decide ((i : Int) < (m : Int)) = true := decide_eq_true (by omega)
              have i0 : (0 : Int) ≤ (i : Int) := by omega
              have i1 : (i : Int) < (n : Int) := by omega
              have i2 : (i : Int) < (m : Int) := by omega
              rcases h1'.out with e0 | ⟨b1, o1, rfl, x1⟩
              · omega
              rcases h2'.out with e0 | ⟨b2, o2, rfl, x2⟩
              · omega
              have q1 := x1 i hi1
              have q2 := x2 i hi2
              have l1 : b1 < w.heap.size := World.block_lt_of_cell? w _ q1
              have l2 : b2 < w.heap.size := World.block_lt_of_cell? w _ q2
              rw [← S1.out.below.cell (p := ⟨b1, o1 + i, none⟩) l1] at q1
              rw [← S1.out.below.cell (p := ⟨b2, o2 + i, none⟩) l2] at q2
              obtain ⟨X, hX⟩ : ∃ X, R i = X := ⟨_, rfl⟩
              obtain ⟨Y, hY⟩ : ∃ Y, O i = Y := ⟨_, rfl⟩
              rw [hX] at q1
              rw [hY] at q2
              have bX := lowN_bd X (n := 5) (by omega)
              have bY := lowN_bd Y (n := 2199023255552) (by omega)
              obtain ⟨f, hf⟩ : ∃ f : Nat, lowN X 5 = (f : Int) := ⟨(lowN X 5).toNat, by omega⟩
              obtain ⟨y, hy⟩ : ∃ y, lowN Y 2199023255552 = y := ⟨_, rfl⟩
              rw [hf] at bX
              rw [hy] at bY
              have hf5 : f < 5 := by omega
              have L1 := Lib.hid (fun w => low_any X 5 w (by omega) (by omega))
              have L2 := Lib.hid (fun w => low_any Y 2199023255552 w (by omega) (by omega))
              rw [hf] at L1
              rw [hy] at L2
              obtain ⟨y0, y1⟩ := bY
              have f0 : (0 : Int) ≤ (f : Int) := by omega
              have f1 : (f : Int) < 5 := by omega
              clear x1 x2 hX hY hf hy bX l1 l2
              go_wp2_with fail
              go_big_quiet ((first
                | (go_at_call_of 22 X; exact Calls.quiet_of_same ((L1.out _).mono fun _ _ h => ⟨h.1, h.2.symm⟩))
                | (go_at_call_of 22 Y; exact Calls.quiet_of_same ((L2.out _).mono fun _ _ h => ⟨h.1, h.2.symm⟩))))
              have S2 := Lib.hid (fun p => S1.out.drew (m := p))
              have ho := Lib.hid (show (pl L f).on = true by rw [S1.out.each f hf5]; rfl)
              have hl := Lib.hid S1.out.tab.len
              have tk1 : True := trivial
              have ym : ¬ y < 0 := by omega
              clear S1
              go_wp2_with (first
                | (clear tk1; go_at_call 12; refine (move_to _ f y L _ (S2.out _).tab (by omega) ho.out ym).mono ?_; rintro e w3 ⟨rfl, hT, hU⟩; have T3 := Lib.hid hT; have U3 := Lib.hid hU; have tk2 : True := trivial; clear hT hU)
                | (clear tk2; go_at_call 12; refine (move_neg _ f _ _ _ T3.out (by omega) (by rw [pl_set (by rw [hl.out]; omega), if_pos rfl]; exact ho.out) (by omega)).mono ?_; rintro e w4 ⟨rfl, hT, hU⟩; have T4 := Lib.hid hT; have U4 := Lib.hid hU; obtain ⟨cg, fg⟩ := (S2.out _).cell hf5 U3.out U4.out; clear hT hU))
              exact ⟨⟨i + 1, _, _, by omega, by omega, by go_num, (S2.out _).move hf5 T3.out U3.out T4.out U4.out⟩, by simp [intOf]; omega⟩
            · have hd : decide (i < n) = false ∨ decide (i < n) = true ∧ decide (i < m) = false := by
                by_cases hi1 : i < n
                · exact .inr ⟨decide_eq_true (by omega), decide_eq_false (by omega)⟩
                · exact .inl (decide_eq_false (by omega))
              clear hi
              rcases hd with d1 | ⟨d1, d2⟩
              all_goals
                go_wp2_with (first
                  | (go_at_call 22; refine (low_c z _ 5 _ rfl (by omega) (by omega)).mono ?_; rintro e w4 ⟨q, hq, rfl, rfl⟩)
                  | (go_at_call 10; refine (close_c' _ q (q : Int) (100 + (q : Int)) L _ S1.out.tab rfl (by omega) (by rw [S1.out.each q hq]; rfl) (by rw [S1.out.each q hq]; rfl)).mono ?_; rintro e w5 ⟨rfl, hT, hU⟩; have T5 := Lib.hid hT; have U5 := Lib.hid hU; clear hT hU)
                  | (go_at_call 8; refine (open_c _ q 200 63 (q : Int) (L.set q p0) (openL (L.set q p0) q 200 63) _ T5.out (least_set S1.out.tab.len S1.out.least hq) (by omega) rfl rfl).mono ?_; rintro e w6 ⟨rfl, hT, hU⟩; have T6 := Lib.hid hT; have U6 := Lib.hid hU; obtain ⟨cg, fg⟩ := S1.out.cell hq U5.out U6.out; have q0 : (0 : Int) ≤ (q : Int) := (by omega); have q5 : (q : Int) < 5 := (by omega); clear hT hU))
                have E7 := Lib.hid (S1.out.ends hq U5.out T6.out U6.out)
                go_loopw [19] (fun i wr => StEnd w.heap.size g q (openL (L.set q p0) q 200 63) (upd D q 0) w i wr) (fun i _ => 5 - (intOf i).toNat)
                case atStart => exact ⟨0, by omega, rfl, E7.out⟩
                case round =>
                  obtain ⟨j, hj, rfl, hE⟩ := hrel
                  have E1 := Lib.hid hE
                  clear hE E7
                  by_cases hlj : j < 5
                  · have j0 : (0 : Int) ≤ (j : Int) := by omega
                    have j5 : (j : Int) < 5 := by omega
                    have cj := (E1.out.off j hlj).1
                    obtain ⟨x, hx⟩ : ∃ x, upd D q 0 j = x := ⟨_, rfl⟩
                    rw [hx] at cj
                    have hx' := Lib.hid hx
                    have hbg := fun w => run_bdG3 w (100 + (j : Int)) x (j : Int)
                    unfold gv at hbg
                    clear hx
                    have tk4 : True := trivial
                    by_cases hjq : j = q
                    · subst hjq
                      have hbg2 := fun w => run_bdG w 200 63
                      have heq := fun w => run_eqG ⟨true, 200, 0, 63⟩ ⟨true, 200, 0, 63⟩ w
                      have hgd := Try.eqGuardFile
                      rw [sameF_refl] at heq
                      unfold gv at hbg2 heq
                      go_wp2_with (first
                        | (clear tk4; refine wpList_alloc_file rfl rfl ?_; intro g1 w7 hv7 hg7 hb7; have hst := run_stG (s := ⟨true, 100 + (j : Int), x, j⟩) (hv7.out.there (o := 0) (n := 3) (by simp [gc])); have V7 := Lib.hid (hv7.out.over (m := gc ⟨true, 100 + (j : Int), x, j⟩) rfl); have hst2 := run_stG (s := ⟨true, 200, 0, 63⟩) (V7.out.there (o := 0) (n := 3) (by simp [gc])); have F8 := Lib.hid (FileAt.mk (V7.out.over (m := gc ⟨true, 200, 0, 63⟩) rfl)); have E8 := Lib.hid (E1.out.on (below_setCells (below_setCells hb7 hg7 0 (gc ⟨true, 100 + (j : Int), x, j⟩)) hg7 0 (gc ⟨true, 200, 0, 63⟩))); unfold gv at hst hst2; clear hb7 hv7 V7)
                        | (go_at_call 14; refine (get_c _ j (j : Int) _ ⟨true, 200, 0, 63⟩ _ E8.out.tab rfl (by omega) (by rw [E8.out.each j hlj, if_pos rfl]) (by rw [E8.out.each j hlj, if_pos rfl])).mono ?_; unfold gv; rintro e w9 ⟨rfl, hb⟩; have E9 := Lib.hid (E8.out.on hb); have F9 := Lib.hid (F8.out.on' hb); have tk5 : True := trivial; clear hb)
                        | (clear tk5; refine wpList_alloc_file rfl rfl ?_; intro g2 w10 hv10 hg10 hb10; have hst := run_stG (s := ⟨true, 200, 0, 63⟩) (hv10.out.there (o := 0) (n := 3) (by simp [gc])); have hbs := below_setCells hb10 hg10 0 (gc ⟨true, 200, 0, 63⟩); have F10 := Lib.hid (F9.out.on' hbs); have V10 := Lib.hid (hv10.out.over (m := gc ⟨true, 200, 0, 63⟩) rfl); have E10 := Lib.hid (E9.out.on hbs); have hld1 := run_ldG V10.out.whole; have hld2 := run_ldG F10.out.row.whole; unfold gv at hst hld1 hld2; clear hb10 hbs hv10))
                      exact ⟨⟨j + 1, by omega, by go_num, E10.out⟩, by simp [intOf]; omega⟩
                    · have dq : decide (j = q) = false := decide_eq_false hjq
                      have dq2 : ((j : Int) == (q : Int)) = false := by rw [beq_eq_false_iff_ne]; omega
                      have heq := fun w => run_eqG ⟨true, 100 + (j : Int), x, j⟩ ⟨true, 100 + (j : Int), x, j⟩ w
                      have hgd := Try.eqGuardFile
                      have hes := Lib.hid (show pl (openL (L.set q p0) q 200 63) j = ⟨true, 100 + (j : Int), x, j⟩ by rw [E1.out.each j hlj, if_neg hjq]; unfold fiveP; rw [hx'.out])
                      rw [sameF_refl] at heq
                      unfold gv at heq
                      clear hjq
                      go_wp2_with (first
                        | (clear tk4; refine wpList_alloc_file rfl rfl ?_; intro g1 w7 hv7 hg7 hb7; have hst := run_stG (s := ⟨true, 100 + (j : Int), x, j⟩) (hv7.out.there (o := 0) (n := 3) (by simp [gc])); have F8 := Lib.hid (FileAt.mk (hv7.out.over (m := gc ⟨true, 100 + (j : Int), x, j⟩) rfl)); have E8 := Lib.hid (E1.out.on (below_setCells hb7 hg7 0 (gc ⟨true, 100 + (j : Int), x, j⟩))); unfold gv at hst; clear hb7 hv7)
                        | (go_at_call 14; refine (get_c _ j (j : Int) _ ⟨true, 100 + (j : Int), x, j⟩ _ E8.out.tab rfl (by omega) (by rw [hes.out]) hes.out).mono ?_; unfold gv; rintro e w9 ⟨rfl, hb⟩; have E9 := Lib.hid (E8.out.on hb); have F9 := Lib.hid (F8.out.on' hb); have tk5 : True := trivial; clear hb)
                        | (clear tk5; refine wpList_alloc_file rfl rfl ?_; intro g2 w10 hv10 hg10 hb10; have hst := run_stG (s := ⟨true, 100 + (j : Int), x, j⟩) (hv10.out.there (o := 0) (n := 3) (by simp [gc])); have hbs := below_setCells hb10 hg10 0 (gc ⟨true, 100 + (j : Int), x, j⟩); have F10 := Lib.hid (F9.out.on' hbs); have V10 := Lib.hid (hv10.out.over (m := gc ⟨true, 100 + (j : Int), x, j⟩) rfl); have E10 := Lib.hid (E9.out.on hbs); have hld1 := run_ldG V10.out.whole; have hld2 := run_ldG F10.out.row.whole; unfold gv at hst hld1 hld2; clear hb10 hbs hv10))
                      exact ⟨⟨j + 1, by omega, by go_num, E10.out⟩, by simp [intOf]; omega⟩
                  · have d6 : decide ((j : Int) < 5) = false := decide_eq_false (by omega)
                    go_wp2_with (go_at_call 6; refine (awake_any _).mono ?_; rintro e w15 ⟨rfl, hb⟩; have B15 := Lib.hid (E1.out.below.trans (hb.mono (Nat.le_of_lt E1.out.tab.lt))); clear hb)
                    go_ret
                    exact ⟨rfl, B15.out⟩
    · have dm : decide (30 < (m : Int)) = true := decide_eq_true (by omega)
      go_enter Try.func5, Try.ntmps5
      go_wp2_with (go_at_call 6; refine (awake_any _).mono ?_; rintro e w2 ⟨rfl, hb⟩)
      go_ret
      exact ⟨rfl, hb⟩
  · have dn : decide (30 < (n : Int)) = true := decide_eq_true (by omega)
    go_enter Try.func5, Try.ntmps5
    go_wp2_with (go_at_call 6; refine (awake_any _).mono ?_; rintro e w2 ⟨rfl, hb⟩)
    go_ret
    exact ⟨rfl, hb⟩
end Go.Proofs.Ytgflccdplffjmaa
