/-
  Whatever is opened, closed and moved, both tables answer the same: the walk.
-/
import Derived.Test.YtgflccdplffjmaaMp
import Derived.Test.YtgflccdplffjmaaOvi
import Derived.Deep.LoopGhost
import Derived.Deep.DeepCutAuto
import Derived.Deep.CutBlock
import Derived.Deep.RegionHeld3
import Derived.BigRegion
namespace Go.Proofs.Ytgflccdplffjmaa
open Go.RowKit BigFrame

theorem getOp {l : List Oper} {i : Nat} {o : Oper} (h : l[i]? = some o) : l.toArray[i]? = some o := by simpa using h
def uv (L : List Plc) : Value := .agg (uc L).toArray
theorem bdR_of (ps : Array (Nat × Value)) : Instr.build 31 ps = bdA 31 ps := rfl
theorem run_bd0R (w : World) : (bdA 31 #[]).run Try.prog w = .ok (uv z16) w := by
  unfold bdA
  exact run_build w _ _ _ (by kernel_rfl)
theorem pair_new {w w1 : World} (hT : TabAt w1 w.heap.size z16) (hb : Below w.heap.size w w1) : Pair w (w1.alloc (.cells (uc z16).toArray 31)) w.heap.size w1.heap.size z16 :=
  ⟨hT.on' ((Below.refl _ _).alloc (Nat.le_refl _) _), ⟨Vw.alloc _ _ _, rfl⟩, hT.lt, hb.alloc hb.size _⟩
def ScRel (w : World) (a b n g : Nat) (I : Value) (wr : World) : Prop := ∃ (i : Nat) (L : List Plc), i + g = n ∧ I = .int .i64 (i : Int) ∧ Pair w wr a b L
def ScCut (w : World) (a b g : Nat) (d fd n f : Int) (wx : World) : Prop := ∃ L, Rnd w wx a b g L d fd n f
attribute [local go_sem ↓] bdR_of ldX_of stX_of ldG_of stG_of bdG_of eqG_of
set_option maxRecDepth 100000 in
set_option maxHeartbeats 2000000 in
theorem script_law (a : Option Addr) (n cap : Nat) (w : World) (hA : ActsAt w a n) :
    Calls Try.prog 3 #[.slice a n cap] w (Tells (.bool true) w) := by
  have hA' := Lib.hid hA
  clear hA
  by_cases hn : n ≤ 80
  · have dn : decide (80 < (n : Int)) = false := decide_eq_false (by omega)
    have hbr := run_bd0R
    unfold uv at hbr
    go_enter Try.func3, Try.ntmps3
    go_wp2_with (go_at_call 7; refine (new_any _).mono ?_; rintro e w1 ⟨rfl, hT, hb⟩; have P1 := Lib.hid (pair_new hT hb); clear hT hb)
    clear hbr
    obtain ⟨b, hb⟩ : ∃ b, w1.heap.size = b := ⟨_, rfl⟩
    rw [hb] at P1 ⊢
    clear hb
    go_loopg [5] n (fun g I wr => ScRel w w.heap.size b n g I wr)
    case atStart => exact ⟨0, z16, by omega, rfl, P1.out⟩
    case round =>
      obtain ⟨i, L, hi, rfl, hP⟩ := hrel
      have P2 := Lib.hid hP
      clear hP P1
      by_cases hin : i < n
      · obtain ⟨gk, rfl⟩ : ∃ g, gk = g + 1 := ⟨gk - 1, by omega⟩
        rcases hA'.out with h0 | ⟨ab, off, rfl, hacts⟩
        · omega
        obtain ⟨d, fd, x, f, hact⟩ := hacts i hin
        have hlt : ab < w.heap.size := World.block_lt_of_cell? w _ (hact 0 _ rfl)
        have hld := run_ldX (w := wr) (g := ab) (o := off + i * 4) (d := d) (fd := fd) (n := x) (f := f) (fun j v hv => by rw [P2.out.below.cell (p := ⟨ab, off + i * 4 + j, none⟩) hlt]; exact hact j v hv)
        have di : decide ((i : Int) < (n : Int)) = true := decide_eq_true (by omega)
        have din : (i : Int) < (n : Int) := by omega
        have di0 : (0 : Int) ≤ (i : Int) := by omega
        have tk0 : True := trivial
        clear hacts hact
        go_upto_block 2 with (clear tk0; refine wpList_alloc_act rfl rfl ?_; intro g w2 hv2 hg2 hb2; have hst := run_stX (d := d) (fd := fd) (n := x) (f := f) (hv2.out.there (o := 0) (n := 4) (by simp [xc])); have R2 := Lib.hid (show Rnd w (w2.setCells g 0 (xc d fd x f)) w.heap.size b g L d fd x f from ⟨P2.out.on (below_setCells hb2 hg2 0 _), hv2.out.over (m := xc d fd x f) rfl, Nat.lt_of_lt_of_le P2.out.ref.lt hg2⟩); obtain ⟨c0, c1, c2, c3⟩ := act_cells R2.out.box; clear hb2 hv2)
        go_cut [7, 8, 9, 10, 11, 12, 13, 14] (fun v7 v8 v9 v10 v11 v12 v13 v14 wx => ScCut w w.heap.size b g d fd x f wx)
        case first =>
          as_aux_lemma =>
            by_cases d0 : d = 0
            · subst d0
              go_wp2_with (first
                | (go_at_call 8; refine (open_u _ x f L _ R2.out.pair.tab).mono ?_; rintro e w3 ⟨rfl, hT, hU⟩; have T3 := Lib.hid hT; have U3 := Lib.hid hU; clear c0 c1 c2 c3; obtain ⟨c0, c1, c2, c3⟩ := act_cells (R2.out.midBox hU); clear hT hU)
                | (go_at_call 9; refine (ropen_u _ x f L _ (R2.out.pair.mid U3.out)).mono ?_; rintro e w4 ⟨rfl, hT, hU⟩; have R4 := Lib.hid (R2.out.step T3.out U3.out hT hU); clear hT hU))
              go_meet
              exact ⟨_, R4.out⟩
            · have e0 : (d == 0) = false := by rw [beq_eq_false_iff_ne]; exact d0
              by_cases d1 : d = 1
              · subst d1
                go_wp2_with (first
                  | (go_at_call 10; refine (close_u _ fd L _ R2.out.pair.tab).mono ?_; rintro e w3 ⟨rfl, hT, hU⟩; have T3 := Lib.hid hT; have U3 := Lib.hid hU; clear c0 c1 c2 c3; obtain ⟨c0, c1, c2, c3⟩ := act_cells (R2.out.midBox hU); clear hT hU)
                  | (go_at_call 11; refine (rclose_u _ fd L _ (R2.out.pair.mid U3.out)).mono ?_; rintro e w4 ⟨rfl, hT, hU⟩; have R4 := Lib.hid (R2.out.step T3.out U3.out hT hU); clear hT hU))
                go_meet
                exact ⟨_, R4.out⟩
              · have e1 : (d == 1) = false := by rw [beq_eq_false_iff_ne]; exact d1
                by_cases d2 : d = 2
                · subst d2
                  clear e0 e1 d0 d1
                  go_wp2_with fail
                  go_region_held3 (fun w' => w'.cell? ⟨g, 1, none⟩ = some (.int .i64 fd) ∧ w'.cell? ⟨g, 2, none⟩ = some (.int .i64 x)) (first | exact ⟨c1, c2⟩) (first
                    | (go_at_call 12; refine (move_u _ fd x L _ R2.out.drew1.pair.tab).mono ?_; rintro e w3 ⟨rfl, hT, hU⟩; have T3 := Lib.hid hT; have U3 := Lib.hid hU; clear c0 c1 c2 c3; obtain ⟨c0, c1, c2, c3⟩ := act_cells (R2.out.drew1.midBox hU); clear hT hU)
                    | (go_at_call 13; refine (rmove_u _ fd x L _ (R2.out.drew1.pair.mid U3.out)).mono ?_; rintro e w4 ⟨rfl, hT, hU⟩; have R4 := Lib.hid (R2.out.drew1.step T3.out U3.out hT hU); clear c0 c1 c2 c3; obtain ⟨c0, c1, c2, c3⟩ := act_cells R4.out.box; clear hT hU))
                  go_wp2_with fail
                  go_meet
                  exact ⟨_, R4.out⟩
                · have e2 : (d == 2) = false := by rw [beq_eq_false_iff_ne]; exact d2
                  go_wp2_with fail
                  go_meet
                  exact ⟨_, R2.out⟩
        case rest =>
          obtain ⟨L5, hR5⟩ := hcut
          have R5 := Lib.hid hR5
          clear hR5 R2 P2 hld
          obtain ⟨r, hr0⟩ : ∃ r, thereB L5 fd = r := ⟨_, rfl⟩
          have hbd := run_bd0G
          have hgd := Try.eqGuardFile
          have tk1 : True := trivial
          obtain ⟨c0, c1, c2, c3⟩ := act_cells R5.out.box
          cases r
          · as_aux_lemma =>
              have hr := Lib.hid hr0
              have heq := fun w => run_eqG p0 p0 w
              rw [sameF_refl] at heq
              unfold gv at hbd heq
              clear hr0
              go_wp2_with (first
                | (go_at_call 14; refine (get_bad _ fd L5 _ R5.out.pair.tab hr.out).mono ?_; unfold gv; rintro e w6 ⟨rfl, hb⟩; have R6 := Lib.hid (R5.out.on hb); clear hb)
                | (clear tk1; refine wpList_alloc_file rfl rfl ?_; intro g1 w7 hv7 hg7 hb7; have hst := run_stG (s := p0) (hv7.out.there (o := 0) (n := 3) (by simp [gc])); have hbs := below_setCells hb7 hg7 0 (gc p0); have F7 := Lib.hid (FileAt.mk (hv7.out.over (m := gc p0) rfl)); have R7 := Lib.hid (R6.out.on hbs); unfold gv at hst; clear hb7 hbs hv7 R6; have tk2 : True := trivial)
                | (clear tk2; refine wpList_alloc_file rfl rfl ?_; intro g2 w8 hv8 hg8 hb8; have hst := run_stG (s := p0) (hv8.out.there (o := 0) (n := 3) (by simp [gc])); have hbs := below_setCells hb8 hg8 0 (gc p0); have F8 := Lib.hid (F7.out.on' hbs); have G8 := Lib.hid (FileAt.mk (hv8.out.over (m := gc p0) rfl)); have R8 := Lib.hid (R7.out.on hbs); clear c0 c1 c2 c3; obtain ⟨c0, c1, c2, c3⟩ := act_cells R8.out.box; unfold gv at hst; clear hb8 hbs hv8 R7 F7)
                | (go_at_call 15; refine (rthere_is _ fd L5 false _ R8.out.pair.ref hr.out).mono ?_; rintro e w9 ⟨rfl, rfl⟩)
                | (go_at_call 16; refine (list_any _ L5 _ R8.out.pair.tab).mono ?_; rintro e w10 ⟨v, rfl, ho, hb⟩; have O10 := Lib.hid ho; have K10 := Lib.hid hb; have R10 := Lib.hid (R8.out.on hb); have F10 := Lib.hid (F8.out.on' hb); have G10 := Lib.hid (G8.out.on' hb); clear ho hb F8 G8))
              obtain ⟨nn, hnn⟩ : ∃ nn, openC L5 16 = nn := ⟨_, rfl⟩
              have hle := openC_le L5 16
              rw [hnn] at O10 hle
              have hnn' := Lib.hid hnn
              clear hnn
              obtain ⟨a10, p10, rfl, _, _⟩ := O10.out.slice
              obtain ⟨q, hq⟩ : ∃ q, heldB L5 x 16 = q := ⟨_, rfl⟩
              have hq' := Lib.hid hq
              have q1 : (q == q) = true := by cases q <;> rfl
              have q2 : (q != q) = false := by cases q <;> rfl
              have hfacts := Lib.hid (show ∀ w', Below w10.heap.size w10 w' → ((ldA 40 (.pointer (some ⟨g1, 0, none⟩))).run Try.prog w' = .ok (.agg (gc p0).toArray) w' ∧ (ldA 40 (.pointer (some ⟨g2, 0, none⟩))).run Try.prog w' = .ok (.agg (gc p0).toArray) w') ∧ w'.cell? ⟨g, 1, none⟩ = some (.int .i64 fd) ∧ w'.cell? ⟨g, 2, none⟩ = some (.int .i64 x) from fun w' hb =>
                ⟨⟨run_ldG (F10.out.on' hb).row.whole, run_ldG (G10.out.on' hb).row.whole⟩, (act_cells (R10.out.on hb).box).2.1, (act_cells (R10.out.on hb).box).2.2.1⟩)
              have BB := Lib.hid (show Below w10.heap.size w10 w10.drew from below_drewN w10 1)
              obtain ⟨⟨f1, f2⟩, f3, f4⟩ := hfacts.out _ BB.out
              clear hq c0 c1 c2 c3
              go_region_held3 (fun w' => ((ldA 40 (.pointer (some ⟨g1, 0, none⟩))).run Try.prog w' = .ok (.agg (gc p0).toArray) w' ∧ (ldA 40 (.pointer (some ⟨g2, 0, none⟩))).run Try.prog w' = .ok (.agg (gc p0).toArray) w') ∧ w'.cell? ⟨g, 1, none⟩ = some (.int .i64 fd) ∧ w'.cell? ⟨g, 2, none⟩ = some (.int .i64 x)) (exact ⟨⟨f1, f2⟩, f3, f4⟩) (first
                | (go_at_call 15; refine (rthere_is _ fd L5 false _ (R10.out.on BB.out).pair.ref hr.out).mono ?_; rintro e w11 ⟨rfl, rfl⟩)
                | (go_at_call 18; refine (rlist_any _ L5 _ (R10.out.on BB.out).pair.ref).mono ?_; rintro e w12 ⟨v12, rfl, ho, hb⟩; rw [hnn'.out] at ho; obtain ⟨a12, p12, rfl, hx12, _⟩ := ho.slice; have X12 := Lib.hid hx12; have BB2 := Lib.hid (BB.out.trans (hb.mono BB.out.size)); clear BB f1 f2 f3 f4; have BB := BB2; clear BB2; obtain ⟨⟨f1, f2⟩, f3, f4⟩ := hfacts.out _ BB.out; clear ho hb hx12)
                | (go_at_call 17; refine (sameI_any _ _ _ _ nn (zn (openN L5 16)) (zn (openN L5 16)) _ (by omega) ((O10.out.on BB.out).ints) X12.out (fun _ _ => rfl)).mono ?_; rintro e w13 ⟨rfl, hb⟩; have BB2 := Lib.hid (BB.out.trans (hb.mono BB.out.size)); clear BB f1 f2 f3 f4; have BB := BB2; clear BB2; obtain ⟨⟨f1, f2⟩, f3, f4⟩ := hfacts.out _ BB.out; clear hb)
                | (go_at_call 19; refine (holds_any _ x L5 _ (R10.out.on BB.out).pair.tab).mono ?_; rw [hq'.out]; rintro e w14 ⟨rfl, hb⟩; have BB2 := Lib.hid (BB.out.trans (hb.mono BB.out.size)); clear BB f1 f2 f3 f4; have BB := BB2; clear BB2; obtain ⟨⟨f1, f2⟩, f3, f4⟩ := hfacts.out _ BB.out; clear hb)
                | (go_at_call 20; refine (rholds_any _ x L5 _ (R10.out.on BB.out).pair.ref).mono ?_; rw [hq'.out]; rintro e w15 ⟨rfl, rfl⟩))
              go_wp2_with (go_at_call 21; refine (overI_own _ nn _ (zn (openN L5 16)) _ (by omega) (O10.out.on BB.out) (Nat.le_trans K10.out.size BB.out.size)).mono ?_; rintro e w16 ⟨rfl, hg⟩; have Z16 := Lib.hid ((K10.out.trans (BB.out.mono K10.out.size)).trans (grownBy_below hg (Nat.le_trans K10.out.size BB.out.size) (fun c hc => (World.ownsRow.lt O10.out c hc).1))); clear hg)
              go_roundg gk
              case measure => omega
              case rel => exact ⟨i + 1, L5, by omega, by go_num, R8.out.pair.on Z16.out⟩
          · obtain ⟨k, rfl, hk, ho⟩ := there_k hr0
            obtain ⟨nd, o2, fl, hs⟩ : ∃ nd o2 fl, pl L5 k = ⟨true, nd, o2, fl⟩ := ⟨_, _, _, Plc.ext' ho rfl rfl rfl⟩
            have hs' := Lib.hid hs
            have hr := Lib.hid hr0
            have ho' := Lib.hid ho
            have heq := fun w => run_eqG ⟨true, nd, o2, fl⟩ ⟨true, nd, o2, fl⟩ w
            have hbg := fun w => run_bdG3 w nd o2 fl
            have k0 : (0 : Int) ≤ (k : Int) := by omega
            have k1 : (k : Int) < 16 := by omega
            rw [sameF_refl] at heq
            unfold gv at hbd heq hbg
            clear hr0 hs ho
            go_wp2_with (first
              | (go_at_call 14; refine (get_c _ k (k : Int) L5 ⟨true, nd, o2, fl⟩ _ R5.out.pair.tab rfl hk ho'.out hs'.out).mono ?_; unfold gv; rintro e w6 ⟨rfl, hb⟩; have R6 := Lib.hid (R5.out.on hb); clear hb)
              | (clear tk1; refine wpList_alloc_file rfl rfl ?_; intro g1 w7 hv7 hg7 hb7; have hst := run_stG (s := ⟨true, nd, o2, fl⟩) (hv7.out.there (o := 0) (n := 3) (by simp [gc])); have hbs := below_setCells hb7 hg7 0 (gc ⟨true, nd, o2, fl⟩); have F7 := Lib.hid (FileAt.mk (hv7.out.over (m := gc ⟨true, nd, o2, fl⟩) rfl)); have R7 := Lib.hid (R6.out.on hbs); unfold gv at hst; clear hb7 hbs hv7 R6; have tk2 : True := trivial)
              | (clear tk2; refine wpList_alloc_file rfl rfl ?_; intro g2 w8 hv8 hg8 hb8; have hst := run_stG (s := p0) (hv8.out.there (o := 0) (n := 3) (by simp [gc])); have hbs := below_setCells hb8 hg8 0 (gc p0); have V8 := hv8.out.over (m := gc p0) rfl; have hst2 := run_stG (s := ⟨true, nd, o2, fl⟩) (V8.drew1.there (o := 0) (n := 3) (by simp [gc])); have hbs2 := below_setCells hbs.drew hg8 0 (gc ⟨true, nd, o2, fl⟩); have R8 := Lib.hid (R7.out.on hbs); have R27 := Lib.hid (R7.out.on hbs2); have F27 := Lib.hid (F7.out.on' hbs2); have G27 := Lib.hid (FileAt.mk (V8.drew1.over (m := gc ⟨true, nd, o2, fl⟩) rfl)); clear c0 c1 c2 c3; obtain ⟨c0, c1, c2, c3⟩ := act_cells R8.out.box; unfold gv at hst hst2; clear hb8 hbs hbs2 V8 hv8 F7 R7)
              | (go_at_call 15; refine (rthere_is _ (k : Int) L5 true _ R8.out.pair.ref hr.out).mono ?_; rintro e w9 ⟨rfl, rfl⟩))
            have q0 := R8.out.pair.ref.cell (k := k) (j := 0) hk (by omega) rfl
            have q1 := R8.out.pair.ref.cell (k := k) (j := 1) hk (by omega) rfl
            have q2 := R8.out.pair.ref.cell (k := k) (j := 2) hk (by omega) rfl
            rw [hs'.out] at q0 q1 q2
            rw [Nat.add_zero] at q0
            dsimp only at q0 q1 q2
            go_region
            as_aux_lemma =>
              clear q0 q1 q2 hst hst2 hbg hbd k0 k1 hk c0 c1 c2 c3 R8 R5
              go_wp2_with (go_at_call 16; refine (list_any _ L5 _ R27.out.pair.tab).mono ?_; rintro e w10 ⟨v, rfl, ho, hb⟩; have O10 := Lib.hid ho; have K10 := Lib.hid hb; have R10 := Lib.hid (R27.out.on hb); have F10 := Lib.hid (F27.out.on' hb); have G10 := Lib.hid (G27.out.on' hb); clear ho hb)
              obtain ⟨nn, hnn⟩ : ∃ nn, openC L5 16 = nn := ⟨_, rfl⟩
              have hle := openC_le L5 16
              rw [hnn] at O10 hle
              have hnn' := Lib.hid hnn
              clear hnn
              obtain ⟨a10, p10, rfl, _, _⟩ := O10.out.slice
              obtain ⟨q, hq⟩ : ∃ q, heldB L5 x 16 = q := ⟨_, rfl⟩
              have hq' := Lib.hid hq
              have q1 : (q == q) = true := by cases q <;> rfl
              have q2 : (q != q) = false := by cases q <;> rfl
              have hfacts := Lib.hid (show ∀ w', Below w10.heap.size w10 w' → ((ldA 40 (.pointer (some ⟨g1, 0, none⟩))).run Try.prog w' = .ok (.agg (gc ⟨true, nd, o2, fl⟩).toArray) w' ∧ (ldA 40 (.pointer (some ⟨g2, 0, none⟩))).run Try.prog w' = .ok (.agg (gc ⟨true, nd, o2, fl⟩).toArray) w') ∧ w'.cell? ⟨g, 1, none⟩ = some (.int .i64 (k : Int)) ∧ w'.cell? ⟨g, 2, none⟩ = some (.int .i64 x) from fun w' hb =>
                ⟨⟨run_ldG (F10.out.on' hb).row.whole, run_ldG (G10.out.on' hb).row.whole⟩, (act_cells (R10.out.on hb).box).2.1, (act_cells (R10.out.on hb).box).2.2.1⟩)
              have BB := Lib.hid (show Below w10.heap.size w10 w10.drew from below_drewN w10 1)
              obtain ⟨⟨f1, f2⟩, f3, f4⟩ := hfacts.out _ BB.out
              clear hq
              refine wp_region_held_drew (S := (fun w' => ((ldA 40 (.pointer (some ⟨g1, 0, none⟩))).run Try.prog w' = .ok (.agg (gc ⟨true, nd, o2, fl⟩).toArray) w' ∧ (ldA 40 (.pointer (some ⟨g2, 0, none⟩))).run Try.prog w' = .ok (.agg (gc ⟨true, nd, o2, fl⟩).toArray) w') ∧ w'.cell? ⟨g, 1, none⟩ = some (.int .i64 (k : Int)) ∧ w'.cell? ⟨g, 2, none⟩ = some (.int .i64 x))) (by kernel_rfl) ⟨⟨f1, f2⟩, f3, f4⟩ (fun hHeld => ?_)
              refine wpAnyH_take (i := 0) (v := ?vv0) (getOp rfl) (by kernel_rfl) (by kernel_rfl) (by kernel_rfl) (fun _ _ _ h => h) (Or.inl ⟨by rfl, ?yy0⟩) (by assumption) ?zz0
              case yy0 => intro w hSw; (try dsimp only at hSw); go_simp; (try with_reducible rfl)
              try simp only [Act.put, List.setIfInBounds_toArray, List.set_cons_zero, List.set_cons_succ]
              refine wpAnyH_take (i := 1) (v := ?vv1) (getOp rfl) (by kernel_rfl) (by kernel_rfl) (by kernel_rfl) (fun _ _ _ h => h) (Or.inl ⟨by rfl, ?yy1⟩) (by assumption) ?zz1
              case yy1 => intro w hSw; (try dsimp only at hSw); go_simp; (try with_reducible rfl)
              try simp only [Act.put, List.setIfInBounds_toArray, List.set_cons_zero, List.set_cons_succ]
              refine wpAnyH_take (i := 2) (v := ?vv2) (getOp rfl) (by kernel_rfl) (by kernel_rfl) (by kernel_rfl) (fun _ _ _ h => h) (Or.inl ⟨by rfl, ?yy2⟩) (by assumption) ?zz2
              case yy2 => intro w hSw; (try dsimp only at hSw); go_simp; (try with_reducible rfl)
              try simp only [Act.put, List.setIfInBounds_toArray, List.set_cons_zero, List.set_cons_succ]
              refine wpAnyH_take (i := 3) (v := ?vv3) (getOp rfl) (by kernel_rfl) (by kernel_rfl) (by kernel_rfl) (fun _ _ _ h => h) (Or.inl ⟨by rfl, ?yy3⟩) (by assumption) ?zz3
              case yy3 => intro w hSw; (try dsimp only at hSw); go_simp; (try with_reducible rfl)
              try simp only [Act.put, List.setIfInBounds_toArray, List.set_cons_zero, List.set_cons_succ]
              refine wpAnyH_take (i := 4) (v := ?vv4) (getOp rfl) (by kernel_rfl) (by kernel_rfl) (by kernel_rfl) (fun _ _ _ h => h) (Or.inl ⟨by rfl, ?yy4⟩) (by assumption) ?zz4
              case yy4 => intro w hSw; (try dsimp only at hSw); go_simp; (try with_reducible rfl)
              try simp only [Act.put, List.setIfInBounds_toArray, List.set_cons_zero, List.set_cons_succ]
              refine wpAnyH_take (i := 5) (v := ?vv5) (getOp rfl) (by kernel_rfl) (by kernel_rfl) (by kernel_rfl) (fun _ _ _ h => h) (Or.inl ⟨by rfl, ?yy5⟩) (by assumption) ?zz5
              case yy5 => intro w hSw; (try dsimp only at hSw); go_simp; (try with_reducible rfl)
              try simp only [Act.put, List.setIfInBounds_toArray, List.set_cons_zero, List.set_cons_succ]
              refine wpAnyH_take (i := 6) (v := ?vv6) (getOp rfl) (by kernel_rfl) (by kernel_rfl) (by kernel_rfl) (fun _ _ _ h => h) (Or.inl ⟨by rfl, ?yy6⟩) (by assumption) ?zz6
              case yy6 => intro w hSw; (try dsimp only at hSw); go_simp; (try with_reducible rfl)
              try simp only [Act.put, List.setIfInBounds_toArray, List.set_cons_zero, List.set_cons_succ]
              refine wpAnyH_take (i := 7) (v := ?vv7) (getOp rfl) (by kernel_rfl) (by kernel_rfl) (by kernel_rfl) (fun _ _ _ h => h) (Or.inl ⟨by rfl, ?yy7⟩) (by assumption) ?zz7
              case yy7 => intro w hSw; (try dsimp only at hSw); go_simp; (try with_reducible rfl)
              try simp only [Act.put, List.setIfInBounds_toArray, List.set_cons_zero, List.set_cons_succ]
              refine wpAnyH_take (i := 8) (v := ?vv8) (getOp rfl) (by kernel_rfl) (by kernel_rfl) (by kernel_rfl) (fun _ _ _ h => h) (Or.inl ⟨by rfl, ?yy8⟩) (by assumption) ?zz8
              case yy8 => intro w hSw; (try dsimp only at hSw); go_simp; (try with_reducible rfl)
              try simp only [Act.put, List.setIfInBounds_toArray, List.set_cons_zero, List.set_cons_succ]
              refine wpAnyH_ready (rs := [9]) (by kernel_rfl) (by simp) ?_
              refine AllReadyH.cons (getOp rfl) (fun K hK => ?_) AllReadyH.nil
              go_simp
              go_at_call 15; refine (rthere_is _ (k : Int) L5 true _ (R10.out.on BB.out).pair.ref hr.out).mono ?_; rintro e w11 ⟨rfl, rfl⟩
              refine hK.out _ _ ⟨⟨f1, f2⟩, f3, f4⟩ (fun hHeld2 => ?_)
              clear hK K hHeld; have hHeld := hHeld2; clear hHeld2
              try simp only [Act.put, List.setIfInBounds_toArray, List.set_cons_zero, List.set_cons_succ]
              refine wpAnyH_take (i := 10) (v := ?vv10) (getOp rfl) (by kernel_rfl) (by kernel_rfl) (by kernel_rfl) (fun _ _ _ h => h) (Or.inl ⟨by rfl, ?yy10⟩) (by assumption) ?zz10
              case yy10 => intro w hSw; (try dsimp only at hSw); go_simp; (try with_reducible rfl)
              try simp only [Act.put, List.setIfInBounds_toArray, List.set_cons_zero, List.set_cons_succ]
              refine wpAnyH_take (i := 11) (v := ?vv11) (getOp rfl) (by kernel_rfl) (by kernel_rfl) (by kernel_rfl) (fun _ _ _ h => h) (Or.inl ⟨by rfl, ?yy11⟩) (by assumption) ?zz11
              case yy11 => intro w hSw; (try dsimp only at hSw); go_simp; (try with_reducible rfl)
              try simp only [Act.put, List.setIfInBounds_toArray, List.set_cons_zero, List.set_cons_succ]
              refine wpAnyH_take (i := 12) (v := ?vv12) (getOp rfl) (by kernel_rfl) (by kernel_rfl) (by kernel_rfl) (fun _ _ _ h => h) (Or.inl ⟨by rfl, ?yy12⟩) (by assumption) ?zz12
              case yy12 => intro w hSw; (try dsimp only at hSw); go_simp; (try with_reducible rfl)
              try simp only [Act.put, List.setIfInBounds_toArray, List.set_cons_zero, List.set_cons_succ]
              refine wpAnyH_take (i := 13) (v := ?vv13) (getOp rfl) (by kernel_rfl) (by kernel_rfl) (by kernel_rfl) (fun _ _ _ h => h) (Or.inl ⟨by rfl, ?yy13⟩) (by assumption) ?zz13
              case yy13 => intro w hSw; (try dsimp only at hSw); go_simp; (try with_reducible rfl)
              try simp only [Act.put, List.setIfInBounds_toArray, List.set_cons_zero, List.set_cons_succ]
              refine wpAnyH_take (i := 14) (v := ?vv14) (getOp rfl) (by kernel_rfl) (by kernel_rfl) (by kernel_rfl) (fun _ _ _ h => h) (Or.inl ⟨by rfl, ?yy14⟩) (by assumption) ?zz14
              case yy14 => intro w hSw; (try dsimp only at hSw); go_simp; (try with_reducible rfl)
              try simp only [Act.put, List.setIfInBounds_toArray, List.set_cons_zero, List.set_cons_succ]
              refine wpAnyH_take (i := 15) (v := ?vv15) (getOp rfl) (by kernel_rfl) (by kernel_rfl) (by kernel_rfl) (fun _ _ _ h => h) (Or.inl ⟨by rfl, ?yy15⟩) (by assumption) ?zz15
              case yy15 => intro w hSw; (try dsimp only at hSw); go_simp; (try with_reducible rfl)
              try simp only [Act.put, List.setIfInBounds_toArray, List.set_cons_zero, List.set_cons_succ]
              refine wpAnyH_take (i := 16) (v := undef) (getOp rfl) (by kernel_rfl) (by kernel_rfl) (by kernel_rfl) (fun _ _ _ h => h) (Or.inr ⟨by rfl, rfl⟩) (by assumption) ?_
              try simp only [Act.put, List.setIfInBounds_toArray, List.set_cons_zero, List.set_cons_succ]
              refine wpAnyH_take (i := 17) (v := undef) (getOp rfl) (by kernel_rfl) (by kernel_rfl) (by kernel_rfl) (fun _ _ _ h => h) (Or.inr ⟨by rfl, rfl⟩) (by assumption) ?_
              try simp only [Act.put, List.setIfInBounds_toArray, List.set_cons_zero, List.set_cons_succ]
              refine wpAnyH_take (i := 18) (v := ?vv18) (getOp rfl) (by kernel_rfl) (by kernel_rfl) (by kernel_rfl) (fun _ _ _ h => h) (Or.inl ⟨by rfl, ?yy18⟩) (by assumption) ?zz18
              case yy18 => intro w hSw; (try dsimp only at hSw); go_simp; (try with_reducible rfl)
              try simp only [Act.put, List.setIfInBounds_toArray, List.set_cons_zero, List.set_cons_succ]
              refine wpAnyH_take (i := 19) (v := ?vv19) (getOp rfl) (by kernel_rfl) (by kernel_rfl) (by kernel_rfl) (fun _ _ _ h => h) (Or.inl ⟨by rfl, ?yy19⟩) (by assumption) ?zz19
              case yy19 => intro w hSw; (try dsimp only at hSw); go_simp; (try with_reducible rfl)
              try simp only [Act.put, List.setIfInBounds_toArray, List.set_cons_zero, List.set_cons_succ]
              refine wpAnyH_take (i := 20) (v := ?vv20) (getOp rfl) (by kernel_rfl) (by kernel_rfl) (by kernel_rfl) (fun _ _ _ h => h) (Or.inl ⟨by rfl, ?yy20⟩) (by assumption) ?zz20
              case yy20 => intro w hSw; (try dsimp only at hSw); go_simp; (try with_reducible rfl)
              try simp only [Act.put, List.setIfInBounds_toArray, List.set_cons_zero, List.set_cons_succ]
              refine wpAnyH_take (i := 21) (v := ?vv21) (getOp rfl) (by kernel_rfl) (by kernel_rfl) (by kernel_rfl) (fun _ _ _ h => h) (Or.inl ⟨by rfl, ?yy21⟩) (by assumption) ?zz21
              case yy21 => intro w hSw; (try dsimp only at hSw); go_simp; (try with_reducible rfl)
              try simp only [Act.put, List.setIfInBounds_toArray, List.set_cons_zero, List.set_cons_succ]
              refine wpAnyH_take (i := 22) (v := ?vv22) (getOp rfl) (by kernel_rfl) (by kernel_rfl) (by kernel_rfl) (fun _ _ _ h => h) (Or.inl ⟨by rfl, ?yy22⟩) (by assumption) ?zz22
              case yy22 => intro w hSw; (try dsimp only at hSw); go_simp; (try with_reducible rfl)
              try simp only [Act.put, List.setIfInBounds_toArray, List.set_cons_zero, List.set_cons_succ]
              refine wpAnyH_ready (rs := [23]) (by kernel_rfl) (by simp) ?_
              refine AllReadyH.cons (getOp rfl) (fun K hK => ?_) AllReadyH.nil
              go_simp
              go_at_call 18; refine (rlist_any _ L5 _ (R10.out.on BB.out).pair.ref).mono ?_; rintro e w12 ⟨v12, rfl, ho, hb⟩; rw [hnn'.out] at ho; obtain ⟨a12, p12, rfl, hx12, _⟩ := ho.slice; have X12 := Lib.hid hx12; have BB2 := Lib.hid (BB.out.trans (hb.mono BB.out.size)); clear BB f1 f2 f3 f4; have BB := BB2; clear BB2; obtain ⟨⟨f1, f2⟩, f3, f4⟩ := hfacts.out _ BB.out; clear ho hb hx12
              refine hK.out _ _ ⟨⟨f1, f2⟩, f3, f4⟩ (fun hHeld2 => ?_)
              clear hK K hHeld; have hHeld := hHeld2; clear hHeld2
              try simp only [Act.put, List.setIfInBounds_toArray, List.set_cons_zero, List.set_cons_succ]
              refine wpAnyH_ready (rs := [24]) (by kernel_rfl) (by simp) ?_
              refine AllReadyH.cons (getOp rfl) (fun K hK => ?_) AllReadyH.nil
              go_simp
              go_at_call 17; refine (sameI_any _ _ _ _ nn (zn (openN L5 16)) (zn (openN L5 16)) _ (by omega) ((O10.out.on BB.out).ints) X12.out (fun _ _ => rfl)).mono ?_; rintro e w13 ⟨rfl, hb⟩; have BB2 := Lib.hid (BB.out.trans (hb.mono BB.out.size)); clear BB f1 f2 f3 f4; have BB := BB2; clear BB2; obtain ⟨⟨f1, f2⟩, f3, f4⟩ := hfacts.out _ BB.out; clear hb
              refine hK.out _ _ ⟨⟨f1, f2⟩, f3, f4⟩ (fun hHeld2 => ?_)
              clear hK K hHeld; have hHeld := hHeld2; clear hHeld2
              try simp only [Act.put, List.setIfInBounds_toArray, List.set_cons_zero, List.set_cons_succ]
              refine wpAnyH_take (i := 25) (v := ?vv25) (getOp rfl) (by kernel_rfl) (by kernel_rfl) (by kernel_rfl) (fun _ _ _ h => h) (Or.inl ⟨by rfl, ?yy25⟩) (by assumption) ?zz25
              case yy25 => intro w hSw; (try dsimp only at hSw); go_simp; (try with_reducible rfl)
              try simp only [Act.put, List.setIfInBounds_toArray, List.set_cons_zero, List.set_cons_succ]
              refine wpAnyH_take (i := 26) (v := ?vv26) (getOp rfl) (by kernel_rfl) (by kernel_rfl) (by kernel_rfl) (fun _ _ _ h => h) (Or.inl ⟨by rfl, ?yy26⟩) (by assumption) ?zz26
              case yy26 => intro w hSw; (try dsimp only at hSw); go_simp; (try with_reducible rfl)
              try simp only [Act.put, List.setIfInBounds_toArray, List.set_cons_zero, List.set_cons_succ]
              refine wpAnyH_take (i := 27) (v := ?vv27) (getOp rfl) (by kernel_rfl) (by kernel_rfl) (by kernel_rfl) (fun _ _ _ h => h) (Or.inl ⟨by rfl, ?yy27⟩) (by assumption) ?zz27
              case yy27 => intro w hSw; (try dsimp only at hSw); go_simp; (try with_reducible rfl)
              try simp only [Act.put, List.setIfInBounds_toArray, List.set_cons_zero, List.set_cons_succ]
              refine wpAnyH_take (i := 28) (v := ?vv28) (getOp rfl) (by kernel_rfl) (by kernel_rfl) (by kernel_rfl) (fun _ _ _ h => h) (Or.inl ⟨by rfl, ?yy28⟩) (by assumption) ?zz28
              case yy28 => intro w hSw; (try dsimp only at hSw); go_simp; (try with_reducible rfl)
              try simp only [Act.put, List.setIfInBounds_toArray, List.set_cons_zero, List.set_cons_succ]
              refine wpAnyH_take (i := 29) (v := ?vv29) (getOp rfl) (by kernel_rfl) (by kernel_rfl) (by kernel_rfl) (fun _ _ _ h => h) (Or.inl ⟨by rfl, ?yy29⟩) (by assumption) ?zz29
              case yy29 => intro w hSw; (try dsimp only at hSw); go_simp; (try with_reducible rfl)
              try simp only [Act.put, List.setIfInBounds_toArray, List.set_cons_zero, List.set_cons_succ]
              refine wpAnyH_take (i := 30) (v := ?vv30) (getOp rfl) (by kernel_rfl) (by kernel_rfl) (by kernel_rfl) (fun _ _ _ h => h) (Or.inl ⟨by rfl, ?yy30⟩) (by assumption) ?zz30
              case yy30 => intro w hSw; (try dsimp only at hSw); go_simp; (try with_reducible rfl)
              try simp only [Act.put, List.setIfInBounds_toArray, List.set_cons_zero, List.set_cons_succ]
              refine wpAnyH_take (i := 32) (v := ?vv32) (getOp rfl) (by kernel_rfl) (by kernel_rfl) (by kernel_rfl) (fun _ _ _ h => h) (Or.inl ⟨by rfl, ?yy32⟩) (by assumption) ?zz32
              case yy32 => intro w hSw; (try dsimp only at hSw); go_simp; (try with_reducible rfl)
              try simp only [Act.put, List.setIfInBounds_toArray, List.set_cons_zero, List.set_cons_succ]
              refine wpAnyH_take (i := 33) (v := ?vv33) (getOp rfl) (by kernel_rfl) (by kernel_rfl) (by kernel_rfl) (fun _ _ _ h => h) (Or.inl ⟨by rfl, ?yy33⟩) (by assumption) ?zz33
              case yy33 => intro w hSw; (try dsimp only at hSw); go_simp; (try with_reducible rfl)
              try simp only [Act.put, List.setIfInBounds_toArray, List.set_cons_zero, List.set_cons_succ]
              refine wpAnyH_take (i := 34) (v := ?vv34) (getOp rfl) (by kernel_rfl) (by kernel_rfl) (by kernel_rfl) (fun _ _ _ h => h) (Or.inl ⟨by rfl, ?yy34⟩) (by assumption) ?zz34
              case yy34 => intro w hSw; (try dsimp only at hSw); go_simp; (try with_reducible rfl)
              try simp only [Act.put, List.setIfInBounds_toArray, List.set_cons_zero, List.set_cons_succ]
              refine wpAnyH_ready (rs := [31]) (by kernel_rfl) (by simp) ?_
              refine AllReadyH.cons (getOp rfl) (fun K hK => ?_) AllReadyH.nil
              go_simp
              go_at_call 19; refine (holds_any _ x L5 _ (R10.out.on BB.out).pair.tab).mono ?_; rw [hq'.out]; rintro e w14 ⟨rfl, hb⟩; have BB2 := Lib.hid (BB.out.trans (hb.mono BB.out.size)); clear BB f1 f2 f3 f4; have BB := BB2; clear BB2; obtain ⟨⟨f1, f2⟩, f3, f4⟩ := hfacts.out _ BB.out; clear hb
              refine hK.out _ _ ⟨⟨f1, f2⟩, f3, f4⟩ (fun hHeld2 => ?_)
              clear hK K hHeld; have hHeld := hHeld2; clear hHeld2
              try simp only [Act.put, List.setIfInBounds_toArray, List.set_cons_zero, List.set_cons_succ]
              refine wpAnyH_ready (rs := [35]) (by kernel_rfl) (by simp) ?_
              refine AllReadyH.cons (getOp rfl) (fun K hK => ?_) AllReadyH.nil
              go_simp
              go_at_call 20; refine (rholds_any _ x L5 _ (R10.out.on BB.out).pair.ref).mono ?_; rw [hq'.out]; rintro e w15 ⟨rfl, rfl⟩
              refine hK.out _ _ ⟨⟨f1, f2⟩, f3, f4⟩ (fun hHeld2 => ?_)
              clear hK K hHeld; have hHeld := hHeld2; clear hHeld2
              try simp only [Act.put, List.setIfInBounds_toArray, List.set_cons_zero, List.set_cons_succ]
              refine wpAnyH_take (i := 36) (v := ?vv36) (getOp rfl) (by kernel_rfl) (by kernel_rfl) (by kernel_rfl) (fun _ _ _ h => h) (Or.inl ⟨by rfl, ?yy36⟩) (by assumption) ?zz36
              case yy36 => intro w hSw; (try dsimp only at hSw); go_simp; (try with_reducible rfl)
              try simp only [Act.put, List.setIfInBounds_toArray, List.set_cons_zero, List.set_cons_succ]
              refine wpAnyH_take (i := 37) (v := ?vv37) (getOp rfl) (by kernel_rfl) (by kernel_rfl) (by kernel_rfl) (fun _ _ _ h => h) (Or.inl ⟨by rfl, ?yy37⟩) (by assumption) ?zz37
              case yy37 => intro w hSw; (try dsimp only at hSw); go_simp; (try with_reducible rfl)
              try simp only [Act.put, List.setIfInBounds_toArray, List.set_cons_zero, List.set_cons_succ]
              refine wpAnyH_done (by kernel_rfl) ?_ _
              go_wp2_with (go_at_call 21; refine (overI_own _ nn _ (zn (openN L5 16)) _ (by omega) (O10.out.on BB.out) (Nat.le_trans K10.out.size BB.out.size)).mono ?_; rintro e w16 ⟨rfl, hg⟩; have Z16 := Lib.hid ((K10.out.trans (BB.out.mono K10.out.size)).trans (grownBy_below hg (Nat.le_trans K10.out.size BB.out.size) (fun c hc => (World.ownsRow.lt O10.out c hc).1))); clear hg)
              go_roundg gk
              case measure => omega
              case rel => exact ⟨i + 1, L5, by omega, by go_num, R27.out.pair.on Z16.out⟩
      · obtain rfl : i = n := by omega
        have di : decide (i < i) = false := decide_eq_false (by omega)
        go_wp2_with (go_at_call 6; refine (awake_any _).mono ?_; rintro e w2 ⟨rfl, hb⟩)
        go_ret
        exact ⟨rfl, P2.out.below.trans (hb.mono (Nat.le_of_lt P2.out.tab.lt))⟩
  · have dn : decide (80 < (n : Int)) = true := decide_eq_true (by omega)
    go_enter Try.func3, Try.ntmps3
    go_wp2_with (go_at_call 6; refine (awake_any _).mono ?_; rintro e w2 ⟨rfl, hb⟩)
    go_ret
    exact ⟨rfl, hb⟩
end Go.Proofs.Ytgflccdplffjmaa
