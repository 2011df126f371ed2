/-
  As many are taken as there are, each once: the walk.
-/
import Derived.Test.YtdkjmpicdkfgoaaQs
import Derived.Test.YtdkjmpicdkfgoaaLo
import Derived.Test.YtdkjmpicdkfgoaaIu
import Derived.Deep.LoopGhost
import Derived.Deep.DeepCutAuto
import Derived.Deep.RegionHeld3

namespace Go.Proofs.Ytdkjmpicdkfgoaa
open Go.RowKit BigFrame Fl

/-- two lists of booleans were made, all of them false -/
structure AllCut (w1 : World) (q1 q2 M N : Nat) (wx : World) : Prop where
  r1 : Vw wx 4 q1 (kb (List.replicate M false))
  r2 : Vw wx 4 q2 (kb (List.replicate N false))
  ne : q1 ≠ q2
  l1 : w1.heap.size ≤ q1
  l2 : w1.heap.size ≤ q2
  bl : Below w1.heap.size w1 wx
theorem vw_made (w : World) (n : Nat) : Vw (w.alloc (.cells (madeCells #[Value.bool false] n) 4)) 4 w.heap.size (kb (List.replicate n false)) := by
  rw [made_bools]; exact heap_alloc_new w _
theorem below_alloc (w : World) (o : Obj) : Below w.heap.size w (w.alloc o) := (Below.refl _ _).alloc (Nat.le_refl _) o
theorem size_alloc (w : World) (o : Obj) : (w.alloc o).heap.size = w.heap.size + 1 := by simp
theorem all_cut1 {w1 w2 w3 : World} {M N : Nat} (B2 : Below w1.heap.size w1 w2) (hb : Below (w2.alloc (.cells (madeCells #[Value.bool false] M) 4)).heap.size (w2.alloc (.cells (madeCells #[Value.bool false] M) 4)) w3) (B3 : Below w1.heap.size w1 w3) :
    AllCut w1 w2.heap.size w3.heap.size M N (w3.alloc (.cells (madeCells #[Value.bool false] N) 4)) := by
  have h := hb.size
  rw [size_alloc] at h
  exact ⟨((vw_made w2 M).on' hb).on' (below_alloc _ _), vw_made w3 N, by omega, B2.size, B3.size, below_two B3 (below_alloc _ _)⟩
theorem all_cut2 {w1 w3 : World} {M N : Nat} (B3 : Below w1.heap.size w1 w3) :
    AllCut w1 w3.heap.size (w3.heap.size + 1) M N ((w3.alloc (.cells (madeCells #[Value.bool false] M) 4)).alloc (.cells (madeCells #[Value.bool false] N) 4)) := by
  have h := vw_made (w3.alloc (.cells (madeCells #[Value.bool false] M) 4)) N
  rw [size_alloc] at h
  have := B3.size
  exact ⟨(vw_made w3 M).on' (below_alloc _ _), h, by omega, B3.size, by omega, below_two (below_two B3 (below_alloc _ _)) (below_alloc _ _)⟩
theorem all_cut3 {w1 w3 : World} {M N : Nat} (B3 : Below w1.heap.size w1 w3) :
    AllCut w1 (w3.heap.size + 1) w3.heap.size M N ((w3.alloc (.cells (madeCells #[Value.bool false] N) 4)).alloc (.cells (madeCells #[Value.bool false] M) 4)) := by
  have h := vw_made (w3.alloc (.cells (madeCells #[Value.bool false] N) 4)) M
  rw [size_alloc] at h
  have := B3.size
  exact ⟨h, (vw_made w3 N).on' (below_alloc _ _), by omega, by omega, B3.size, below_two (below_two B3 (below_alloc _ _)) (below_alloc _ _)⟩
/-- i blocks are taken -/
structure AllIn (w wc : World) (a q1 q2 s g M1 : Nat) (V : Value) (i : Nat) (Y : Nat → List Nat) (L : List Bool) (F : List Nat) (A : Nat → Int) (wr : World) : Prop where
  own : OwnI wr wc.heap.size V i A
  told : AllAt g A i
  lw : Lw w wr F s g 8 16 Y
  back : BackIn g Y L i 0
  k2 : KAt wr q2 L
  k1 : KAt wr q1 (List.replicate M1 false)
  box : BoxAt wr a g 8 16
  f1 : q1 ∈ F
  f2 : q2 ∈ F
  fV : ∀ k, V.ownBlock = some k → k ∈ F
  sz : wc.heap.size ≤ wr.heap.size
def TakRel (w wc : World) (a q1 q2 s g M1 GB : Nat) (gk : Nat) (V I : Value) (wr : World) : Prop :=
  ∃ (i : Nat) (Y : Nat → List Nat) (L : List Bool) (F : List Nat) (A : Nat → Int), i + gk = GB ∧ I = .int .i64 (i : Int) ∧ AllIn w wc a q1 q2 s g M1 V i Y L F A wr
theorem TurnF.one {s : Nat} {w w' : World} (h : TurnF [s] w w') : w.grownBy w' (some s) := ⟨h.os, h.tape, h.output, h.size, fun k hk hr => h.block k hk (by simp; intro e; exact hr (by rw [e]))⟩
/-- what is apart -/
structure Aps (wc : World) (a q1 q2 s : Nat) : Prop where
  q1s : q1 ≠ s
  q2s : q2 ≠ s
  aS : a ≠ s
  aq1 : a ≠ q1
  aq2 : a ≠ q2
  q12 : q1 ≠ q2
  l2 : q2 < wc.heap.size
  l1 : q1 < wc.heap.size
  ls : s < wc.heap.size
  la : a < wc.heap.size
theorem AllIn.own4 {w wc wr w4 : World} {a q1 q2 s g M1 i P : Nat} {V : Value} {Y : Nat → List Nat} {L : List Bool} {F : List Nat} {A : Nat → Int} (h : AllIn w wc a q1 q2 s g M1 V i Y L F A wr) (ap : Aps wc a q1 q2 s) (T4 : TurnF [s] wr w4) (o : Obj) :
    OwnI ((w4.setCell ⟨q2, P, none⟩ (.bool true)).alloc o) wc.heap.size V i A := by
  have hb := h.own.block
  have o1 : OwnI w4 wc.heap.size V i A := h.own.kept T4.one (fun k hk e => by have := (hb k hk).1; have := ap.ls; cases e; omega)
  have o2 : OwnI (w4.setCell ⟨q2, P, none⟩ (.bool true)) wc.heap.size V i A := o1.kept (grownBy_setCell w4 q2 P (.bool true)) (fun k hk e => by have := (hb k hk).1; have := ap.l2; cases e; omega)
  exact o2.alloc o
theorem AllIn.next {w wc wr w4 w6 : World} {a q1 q2 s g M1 i k j P : Nat} {V v6 : Value} {Y Y2 : Nat → List Nat} {L : List Bool} {F : List Nat} {A : Nat → Int} (h : AllIn w wc a q1 q2 s g M1 V i Y L F A wr) (ap : Aps wc a q1 q2 s) (T4 : TurnF [s] wr w4)
    (L4 : Lw w w4 F s g 8 16 Y2) (M2 : BackIn g Y2 (L.set P true) (i + 1) 0) (hP : pK k j = P) (hk : k < g) (hj : j < 16) (hPL : P < L.length) (o : Obj)
    (hO : OwnI w6 wc.heap.size v6 (i + 1) (joinI A i (fun _ => (P : Int)))) (hg : ((w4.setCell ⟨q2, P, none⟩ (.bool true)).alloc o).grownBy w6 V.ownBlock) (hat : v6.ownBlock = V.ownBlock ∨ v6.ownBlock = some ((w4.setCell ⟨q2, P, none⟩ (.bool true)).alloc o).heap.size) :
    ∃ F', AllIn w wc a q1 q2 s g M1 v6 (i + 1) Y2 (L.set P true) F' (joinI A i (fun _ => (P : Int))) w6 := by
  have hb := h.own.block
  have T5 : TurnF [q2] w4 (w4.setCell ⟨q2, P, none⟩ (.bool true)) := TurnF.set [q2] _ (by simp) _ _
  obtain ⟨wa, hwa⟩ : ∃ wa, (w4.setCell ⟨q2, P, none⟩ (.bool true)).alloc o = wa := ⟨_, rfl⟩
  have B5 : Below (w4.setCell ⟨q2, P, none⟩ (.bool true)).heap.size (w4.setCell ⟨q2, P, none⟩ (.bool true)) wa := by rw [← hwa]; exact below_alloc _ _
  rw [hwa] at hg hat
  have T6 := turn_grown hg
  have l6 : wc.heap.size ≤ w4.heap.size := Nat.le_trans h.sz T4.size
  have l7 : w4.heap.size ≤ wa.heap.size := Nat.le_trans T5.size B5.size
  have nV : ∀ x, x < wc.heap.size → x ∉ V.ownBlock.toList := fun x hx hm => by
    cases e : V.ownBlock with
    | none => rw [e] at hm; simp at hm
    | some y => rw [e] at hm; simp at hm; have := (hb y e).1; omega
  have eq : ∀ x, x < wc.heap.size → x ≠ s → x ≠ q2 → w6.heap[x]? = wr.heap[x]? := fun x hx h1 h2 => by
    rw [T6.block x (by omega) (nV x hx), B5.block x (by have := T5.size; omega), T5.block x (by omega) (by simpa using h2), T4.block x (by have := h.sz; omega) (by simpa using h1)]
  have hk1 : KAt w6 q1 (List.replicate M1 false) := h.k1.same (eq q1 ap.l1 ap.q1s ap.q12)
  have hk2 : KAt w6 q2 (L.set P true) := by
    have k4 := h.k2.same (T4.block q2 (by have := ap.l2; have := h.sz; omega) (by simpa using ap.q2s))
    have k5 := k4.set hPL true
    have k6 := k5.same (B5.block q2 (by have := T5.size; have := ap.l2; omega))
    exact k6.same (T6.block q2 (by have := ap.l2; omega) (nV q2 ap.l2))
  have hbx : BoxAt w6 a g 8 16 := by
    obtain ⟨c0, c1, c2, hl⟩ := h.box
    have e := eq a ap.la ap.aS ap.aq2
    exact ⟨by rw [World.cell?_of_block (w := wr) (w' := w6) (a := ⟨a, 0, none⟩) e]; exact c0, by rw [World.cell?_of_block (w := wr) (w' := w6) (a := ⟨a, 1, none⟩) e]; exact c1, by rw [World.cell?_of_block (w := wr) (w' := w6) (a := ⟨a, 2, none⟩) e]; exact c2, by have := ap.la; have := T6.size; omega⟩
  have LA : Lw w wa F s g 8 16 Y2 := (L4.other T5 h.f2 ap.q2s).below B5
  have hr : ∀ x, V.ownBlock = some x → x ∈ F ∧ x ≠ s := fun x hx => ⟨h.fV x hx, by have := (hb x hx).1; have := ap.ls; omega⟩
  have hA : AllAt g (joinI A i (fun _ => (P : Int))) (i + 1) := fun p hp => by
    unfold joinI
    by_cases e : p < i
    · rw [if_pos e]; exact h.told p e
    · rw [if_neg e]; exact ⟨k, j, hk, hj, by rw [hP]⟩
  have sz6 : wc.heap.size ≤ w6.heap.size := by have := T6.size; omega
  rcases hat with e | e
  · exact ⟨[] ++ F, hO, hA, LA.grew hg hr [] (fun f hf => by cases hf), M2, hk2, hk1, hbx, h.f1, h.f2, fun x hx => h.fV x (by rw [← e]; exact hx), sz6⟩
  · refine ⟨[wa.heap.size] ++ F, hO, hA, LA.grew hg hr [wa.heap.size] (fun f hf => ?_), M2, hk2, hk1, hbx, List.mem_append_right _ h.f1, List.mem_append_right _ h.f2, fun x hx => ?_, sz6⟩
    · simp at hf
      rw [hf]
      exact ⟨Nat.le_refl _, (hO.block _ e).2⟩
    · rw [e] at hx
      cases hx
      simp
/-- i inodes are taken -/
def InoRel (w : World) (a q1 s g M GB : Nat) (Z : Nat → List Nat) (F : List Nat) (aA : Option Addr) (A : Nat → Int) (gk : Nat) (I : Value) (wr : World) : Prop :=
  ∃ (i : Nat) (Y : Nat → List Nat) (L : List Bool), i + gk = M ∧ I = .int .i64 (i : Int) ∧ Lw w wr F s g 8 16 Y ∧ InoIn g Z Y L i ∧ KAt wr q1 L ∧ IntsAt wr aA GB A ∧ BoxAt wr a g 8 16
set_option maxRecDepth 100000 in
set_option maxHeartbeats 2000000 in
theorem all_law (x0 near x2 : Int) (w : World) : Calls Try.prog 4 #[.int .i64 x0, .int .i64 near, .int .i64 x2] w (Tells (.bool true) w) := by
  go_enter Try.func4, Try.ntmps4
  go_wp2_with fail
  refine (low_c x0 _ 8 _ (by omega) (by omega) (by omega)).mono ?_
  rintro e w1 ⟨k0, hk0, rfl, rfl⟩
  go_wp2_with fail
  obtain ⟨g, hg⟩ : ∃ g : Nat, g = 1 + k0 := ⟨_, rfl⟩
  rw [show (1 + (k0 : Int)) = (g : Int) by omega]
  have hg1 : 1 ≤ g := by omega
  have hg8 : g ≤ 8 := by omega
  have okG := Lib.hid (show Geom (g : Int) 8 16 g 8 16 from ⟨rfl, rfl, rfl, by constructor <;> omega⟩)
  have bx := boxAt_alloc w (g : Int) 8 16 23
  obtain ⟨a, ha⟩ : ∃ a, w.heap.size = a := ⟨_, rfl⟩
  have hb0 := (Below.refl w.heap.size w).alloc (Nat.le_refl _) (.cells #[.int .i64 (g : Int), .int .i64 8, .int .i64 16] 23)
  obtain ⟨wa', hwa⟩ : ∃ wa', w.alloc (.cells #[.int .i64 (g : Int), .int .i64 8, .int .i64 16] 23) = wa' := ⟨_, rfl⟩
  rw [hwa] at bx hb0 ⊢
  rw [ha] at bx ⊢
  have bx' := Lib.hid bx
  have hb0' := Lib.hid hb0
  clear hg hk0 hwa hb0 bx
  refine (new_ok _ _ _ g 8 16 _ okG.out).mono ?_
  rintro e w1 ⟨s, rfl, hs, hS, hb⟩
  have L1 := Lib.hid (show Lv w w1 s g 8 16 (X0 8 16) from ⟨hS, Nat.le_trans hb0'.out.size hs, hb0'.out.trans (hb.mono hb0'.out.size)⟩)
  have hbx := box_on hb bx'.out
  have bx1 := Lib.hid hbx
  have has : a ≠ s := by have := bx'.out.2.2.2; omega
  obtain ⟨c0, c1, c2, hal⟩ := hbx
  clear hs hS hb bx' hb0'
  go_upto_region 5 with fail
  obtain ⟨N, hN⟩ : ∃ N, N = 2 + g * 19 := ⟨_, rfl⟩
  have hN' := Lib.hid (show ((N : Nat) : Int) = ((2 + g * spanN 8 16 : Nat) : Int) by rw [hN]; rfl)
  have hN2 := Lib.hid hN
  obtain ⟨M, hM⟩ : ∃ M, M = g * 8 := ⟨_, rfl⟩
  have hM' := Lib.hid (show ((M : Nat) : Int) = ((g * 8 : Nat) : Int) by rw [hM])
  have hM2 := Lib.hid hM
  have hNb : N ≤ 154 := by omega
  have hMb : M ≤ 64 := by omega
  obtain ⟨M1, hMM⟩ : ∃ M1, M1 = M + 1 := ⟨_, rfl⟩
  have hM1 : IntKind.i64.wrap (((M : Nat) : Int) + 1) = ((M1 : Nat) : Int) := by rw [wrap_in (by omega)]; omega
  have hM1b : M1 ≤ 65 := by omega
  have hMM' := Lib.hid hMM
  clear hMM
  obtain ⟨it, hi, hz0, hz1, hz2⟩ := info_parts Try.infoBl
  have hmk := fun (n : Nat) (hn : n ≤ 1000) (w : World) => run_make_row (P := Try.prog) 45 4 it (.bool false) Try.underlying45 hi hz0 hz1 rfl .i64 .i64 n (by rw [hz2]; omega) (by omega) w
  have hmk1 := hmk M1 (by omega)
  have hmk2 := hmk N (by omega)
  clear hmk
  clear hN hM
  go_cut [9, 10] (fun v9 v10 wx => ∃ q1 q2, v9 = .slice (some ⟨q1, 0, none⟩) M1 M1 ∧ v10 = .slice (some ⟨q2, 0, none⟩) N N ∧ AllCut w1 q1 q2 M1 N wx)
  case first =>
    have hcb := Lib.hid (fun (w' : World) (hb : Below w1.heap.size w1 w') => (⟨(hb.cell (p := ⟨a, 0, none⟩) hal).trans c0, (hb.cell (p := ⟨a, 1, none⟩) hal).trans c1, (hb.cell (p := ⟨a, 2, none⟩) hal).trans c2⟩ : w'.cell? ⟨a, 0, none⟩ = some (.int .i64 (g : Int)) ∧ w'.cell? ⟨a, 1, none⟩ = some (.int .i64 8) ∧ w'.cell? ⟨a, 2, none⟩ = some (.int .i64 16)))
    have B1 := Lib.hid (show Below w1.heap.size w1 w1.drew from below_drewN w1 1)
    have tk0 : True := trivial
    go_region_held3 (fun w' => w'.cell? ⟨a, 0, none⟩ = some (.int .i64 (g : Int)) ∧ w'.cell? ⟨a, 1, none⟩ = some (.int .i64 8) ∧ w'.cell? ⟨a, 2, none⟩ = some (.int .i64 16)) (first | exact ⟨c0, c1, c2⟩ | exact hcb.out _ (B3.out.alloc B3.out.size _) | exact hcb.out _ ((B3.out.alloc B3.out.size _).alloc (by simp; exact Nat.le_succ_of_le B3.out.size) _) | exact hcb.out _ (B2.out.alloc B2.out.size _)) (first
      | (clear tk0; go_at_call 20; refine (geoInodes_c (M : Int) _ okG.out hM'.out).mono ?_; rintro e w2 ⟨rfl, hb2⟩; have B2 := Lib.hid (B1.out.trans (hb2.mono B1.out.size)); clear c0 c1 c2 hal; obtain ⟨c0, c1, c2⟩ := hcb.out _ B2.out; clear hb2)
      | (go_at_call 21; refine (geoSectors_c (N : Int) _ okG.out hN'.out).mono ?_; rintro e w3 ⟨rfl, hb3⟩; have B3 := Lib.hid (show Below w1.heap.size w1 w3 by first | exact B2.out.trans (hb3.mono B2.out.size) | exact (B2.out.alloc B2.out.size _).trans (hb3.mono (B2.out.alloc B2.out.size _).size)); clear c0 c1 c2; obtain ⟨c0, c1, c2⟩ := hcb.out _ B3.out; have hb3' := Lib.hid hb3; clear hb3))
    all_goals (
      go_wp2_with fail
      go_meet
      refine ⟨_, _, rfl, rfl, ?_⟩
      first | exact all_cut1 B2.out hb3'.out B3.out | exact all_cut2 B3.out | exact all_cut3 B3.out)
  case rest =>
    obtain ⟨q1, q2, rfl, rfl, hC⟩ := hcut
    have hl1 := L1.out.sp.sp.ltS
    have hq1 : q1 ≠ s := by have := hC.l1; omega
    have hq2 : q2 ≠ s := by have := hC.l2; omega
    have haq1 : a ≠ q1 := by have := hC.l1; omega
    have haq2 : a ≠ q2 := by have := hC.l2; omega
    have hq12 := hC.ne
    have L2 := Lib.hid (L1.out.lw.grow hC.bl [q1, q2] (fun f hf => by
      simp at hf
      rcases hf with rfl | rfl
      · exact ⟨hC.l1, hC.r1.lt⟩
      · exact ⟨hC.l2, hC.r2.lt⟩))
    have K1 := Lib.hid hC.r1.kat
    have K2 := Lib.hid hC.r2.kat
    have bx2 := Lib.hid (box_on hC.bl bx1.out)
    obtain ⟨GB, hGB⟩ : ∃ GB, GB = g * 16 := ⟨_, rfl⟩
    have hGB' := Lib.hid (show ((GB : Nat) : Int) = ((g * 16 : Nat) : Int) by rw [hGB])
    have hGB2 := Lib.hid hGB
    have hGBb : GB ≤ 128 := by omega
    have hGB0 : 16 ≤ GB := by omega
    have hl2 : q2 < wc.heap.size := hC.r2.lt
    have hl3 : q1 < wc.heap.size := hC.r1.lt
    have hl4 : s < wc.heap.size := Nat.lt_of_lt_of_le hl1 hC.bl.size
    have hl5 : a < wc.heap.size := Nat.lt_of_lt_of_le hal hC.bl.size
    have A0 := Lib.hid (show AllIn w wc a q1 q2 s g M1 (.slice none 0 0) 0 (X0 8 16) (List.replicate N false) ([q1, q2] ++ [s]) (fun _ => 0) wc from
      ⟨OwnI.nil _ _ _, fun p hp => by omega, L2.out, by rw [hN2.out]; exact BackIn.start g, K2.out, K1.out, bx2.out, by simp, by simp, fun k hk => (by cases hk), Nat.le_refl _⟩)
    have ap := Lib.hid (show Aps wc a q1 q2 s from ⟨hq1, hq2, has, haq1, haq2, hq12, hl2, hl3, hl4, hl5⟩)
    clear hC L1 bx1 c0 c1 c2 hGB hmk1 hmk2 hi hz0 hz1 hz2 hM1 L2 K1 K2 bx2 hal hl1
    go_wp2_with fail
    go_loopg [11, 12] GB (fun gk V I wr => TakRel w wc a q1 q2 s g M1 GB gk V I wr)
    case atStart => exact ⟨0, _, _, _, _, by omega, rfl, A0.out⟩
    case round =>
      obtain ⟨i, Y, L, F, A, hi, rfl, hA⟩ := hrel
      clear A0
      have A1 := Lib.hid hA
      obtain ⟨c0, c1, c2, hal⟩ := hA.box
      clear hA
      by_cases hlt : i < GB
      · obtain ⟨gn, rfl⟩ : ∃ n, gk = n + 1 := ⟨gk - 1, by omega⟩
        have lt1 : (i : Int) < (GB : Int) := by omega
        obtain ⟨k, j, hf⟩ := A1.out.back.more near okG.out.ok (by rw [← hGB2.out]; exact hlt)
        have hk := hf.kg
        have hj : j < 16 := hf.lt
        have hfree := hf.free
        obtain ⟨P, hP⟩ : ∃ P, pK k j = P := ⟨_, rfl⟩
        have hPN : P < N := by rw [← hP, hN2.out]; exact pK_lt hk hj
        have hPos := Lib.hid (show ((P : Nat) : Int) = ((3 + 8 / 4 + k * spanN 8 16 + j : Nat) : Int) by rw [← hP]; unfold pK; rw [show spanN 8 16 = 19 from rfl]; omega)
        have e0 : decide ((P : Int) < 0) = false := decide_eq_false (by omega)
        have e1 : decide ((N : Int) ≤ (P : Int)) = false := decide_eq_false (by omega)
        have e2 : (0 : Int) ≤ (P : Int) := by omega
        have e3 : (P : Int) < (N : Int) := by omega
        have e4 : decide ((k : Int) < 0) = false := decide_eq_false (by omega)
        have hLN : L.length = N := by rw [A1.out.back.len, hN2.out]
        have hbb := A1.out.back.rel k j hk hj
        rw [show hasN (Y (21 + 2 + 2 * k)) j = false from hfree, hP] at hbb
        have hM := A1.out.back.mark hk hj hfree
        rw [show markX Y (21 + 2 + 2 * k) j = takeX Y false k j from (takeX_mark (q := false) hfree).symm, hP] at hM
        have M2 := Lib.hid hM.2.1
        have hbb' := Lib.hid hbb
        have F1 := Lib.hid hf
        have hP' := Lib.hid hP
        clear hf hfree hbb hM hP
        go_upto_region 15 with (first
          | (go_at_call 22; refine (geoBlocks_c (GB : Int) _ okG.out hGB'.out).mono ?_; rintro e w2 ⟨rfl, hb⟩; have L2 := Lib.hid (A1.out.lw.below hb); have T2 := Lib.hid (TurnF.of_below [s] hb); clear hb)
          | (go_at_call 23; refine (block_some near k j (P : Int) L2.out.sp F1.out hPos.out).mono ?_; rintro e w3 ⟨rfl, hS, hT⟩; have L3 := Lib.hid (L2.out.turn hS hT); have T3 := Lib.hid (T2.out.trans hT); have hbx := A1.out.box.turnF T3.out (by simpa using has); clear c0 c1 c2 hal; obtain ⟨c0, c1, c2, hal⟩ := hbx; clear hS hT)
          | (go_at_call 24; refine (geoOfBlock_c k j (P : Int) (k : Int) (j : Int) _ okG.out hk hj hPos.out rfl rfl).mono ?_; rintro e w4 ⟨rfl, hb⟩; unfold two; have L4 := Lib.hid (L3.out.below hb); have T4 := Lib.hid (T3.out.trans (TurnF.of_below [s] hb)); have K4 := Lib.hid (A1.out.k2.same (T4.out.block q2 (A1.out.lw.sp.sp.ltF q2 A1.out.f2) (by simpa using hq2))); obtain ⟨cP, fP⟩ := K4.out P (by omega); rw [hbb'.out] at cP; clear hb))
        have own5 := Lib.hid (A1.out.own4 (P := P) ap.out T4.out (.cells #[.int .i64 (P : Int)] 3))
        have hsz := Lib.hid (show wc.heap.size ≤ ((w4.setCell ⟨q2, P, none⟩ (.bool true)).alloc (.cells #[.int .i64 (P : Int)] 3)).heap.size by
          have h1 := A1.out.sz
          have h2 := T4.out.size
          have h3 := (TurnF.set [q2] w4 (s := q2) (by simp) P (.bool true)).size
          rw [size_alloc]; omega)
        have hI5 := Lib.hid (show IntsAt ((w4.setCell ⟨q2, P, none⟩ (.bool true)).alloc (.cells #[.int .i64 (P : Int)] 3)) (some ⟨w4.heap.size, 0, none⟩) 1 (fun _ => (P : Int)) by
          have h := int_new (w4.setCell ⟨q2, P, none⟩ (.bool true)) (P : Int) 3
          rwa [show (w4.setCell ⟨q2, P, none⟩ (.bool true)).heap.size = w4.heap.size by simp [World.setCell]] at h)
        go_wp2_with (at_builtin; refine wpList_append_ints_at rfl (.tmp 94) (.tmp 96) rfl wc.heap.size i _ A rfl own5.out _ 1 1 (fun _ => (P : Int)) rfl hI5.out (by omega) hsz.out ?_)
        intro v6 w6 hO6 hg6 hat6 _
        obtain ⟨F', hn⟩ := A1.out.next ap.out T4.out L4.out M2.out hP'.out hk hj (by omega) _ hO6.out hg6 (by rw [size_alloc, show (w4.setCell ⟨q2, P, none⟩ (.bool true)).heap.size = w4.heap.size by simp [World.setCell]]; exact hat6)
        have N6 := Lib.hid hn
        clear hO6 hg6 hat6 hn
        go_wp2_with fail
        go_roundg gn
        case measure => omega
        case rel => exact ⟨i + 1, _, _, F', _, by omega, by go_num, N6.out⟩
      · obtain rfl : gk = 0 := by omega
        have hiG : i = GB := by omega
        have lt1 : decide ((i : Int) < (GB : Int)) = false := decide_eq_false (by omega)
        have hfull := A1.out.back.full near (by rw [hiG, hGB2.out])
        obtain ⟨aA, capA, hV, hAI, _, _, _, hblk⟩ := A1.out.own.slice
        have hbl := A1.out.own.block
        subst hV
        have hZ := A1.out.back
        have hAt := A1.out.told
        rw [hiG] at hAI hAt hZ
        have hne := Lib.hid (show ∀ ad, aA = some ad → ad.block ≠ s ∧ ad.block ≠ q1 from fun ad he => by
          obtain ⟨b, rfl⟩ := hblk ad he
          subst he
          have := (hbl b rfl).1
          have := ap.out.ls
          have := ap.out.l1
          exact ⟨by show b ≠ s; omega, by show b ≠ q1; omega⟩)
        have hLI := Lib.hid (show InoIn g Y Y (List.replicate M1 false) 0 by rw [hMM'.out, hM2.out]; exact InoIn.start hZ hg8)
        have hZ' := Lib.hid hZ
        have hAt' := Lib.hid hAt
        have hAI' := Lib.hid hAI
        have hL' := Lib.hid A1.out.lw
        have hk1 := Lib.hid A1.out.k1
        have hbx := Lib.hid A1.out.box
        have hf1 := Lib.hid A1.out.f1
        have hfull' := Lib.hid hfull
        have hiG' := Lib.hid hiG
        clear hAI hAt hZ hblk hbl hfull A1
        rw [hiG] at *
        clear hiG
        go_wp2_with (go_at_call 22; refine (geoBlocks_c (GB : Int) _ okG.out hGB'.out).mono ?_; rintro e w2 ⟨rfl, hb⟩; have L2 := Lib.hid (hL'.out.below hb); have I2 := Lib.hid (hAI'.out.on hb rfl); have X2 := Lib.hid (box_on hb hbx.out); have K2 := Lib.hid (hk1.out.same (hb.block q1 (hL'.out.sp.sp.ltF q1 hf1.out))); clear hb)
        clear hL' hAI' hbx hk1 c0 c1 c2 hal
        go_loopg [17] M (fun gk I wr => InoRel w a q1 s g M GB Y F aA A gk I wr)
        case atStart => exact ⟨0, _, _, by omega, rfl, L2.out, hLI.out, K2.out, I2.out, X2.out⟩
        case round =>
          obtain ⟨i2, Z, LI, hi2, rfl, hL, hI, hK, hA, hX⟩ := hrel
          clear L2 I2 X2 K2 hLI
          have L3 := Lib.hid hL
          have I3 := Lib.hid hI
          have K3 := Lib.hid hK
          have A3 := Lib.hid hA
          have X3 := Lib.hid hX
          obtain ⟨c0, c1, c2, hal⟩ := hX
          clear hL hI hK hA
          by_cases hlt2 : i2 < M
          · obtain ⟨gn, rfl⟩ : ∃ n, gk = n + 1 := ⟨gk - 1, by omega⟩
            have lt2 : (i2 : Int) < (M : Int) := by omega
            obtain ⟨k, j, hf⟩ := I3.out.more near okG.out.ok (by rw [← hM2.out]; exact hlt2)
            have hk := hf.kg
            have hj : j < 8 := hf.lt
            have hfree := hf.free
            obtain ⟨P, hP⟩ : ∃ P, 1 + k * 8 + j = P := ⟨_, rfl⟩
            have hP1 : 1 ≤ P := by omega
            have hPM : P < M1 := by rw [hMM'.out, hM2.out]; omega
            have hPos := Lib.hid (show ((P : Nat) : Int) = ((1 + k * 8 + j : Nat) : Int) by rw [hP])
            have e0 : decide ((P : Int) < 1) = false := decide_eq_false (by omega)
            have e1 : decide ((M1 : Int) ≤ (P : Int)) = false := decide_eq_false (by omega)
            have e2 : (0 : Int) ≤ (P : Int) := by omega
            have e3 : (P : Int) < (M1 : Int) := by omega
            have hLM : LI.length = M1 := by rw [I3.out.len, hMM'.out, hM2.out]
            have hbb := I3.out.rel k j hk hj
            rw [show hasN (Z (3 + 2 + 2 * k)) j = false from hfree, hP] at hbb
            have hN := I3.out.take hk hj hg8 hfree
            rw [hP] at hN
            have N3 := Lib.hid hN
            have hbb' := Lib.hid hbb
            have F1 := Lib.hid hf
            clear hf hfree hbb hN hP
            go_wp2_with (first
              | (go_at_call 20; refine (geoInodes_c (M : Int) _ okG.out hM'.out).mono ?_; rintro e w3 ⟨rfl, hb⟩; have L4 := Lib.hid (L3.out.below hb); have T4 := Lib.hid (TurnF.of_below [s] hb); clear hb)
              | (go_at_call 25; refine (inode_some near k j (P : Int) L4.out.sp F1.out hPos.out).mono ?_; rintro e w4 ⟨rfl, hS, hT⟩; have L5 := Lib.hid (L4.out.turn hS hT); have T5 := Lib.hid (T4.out.trans hT); have K5 := Lib.hid (K3.out.same (T5.out.block q1 (L3.out.sp.sp.ltF q1 hf1.out) (by simpa using hq1))); obtain ⟨cP, fP⟩ := K5.out P (by omega); rw [hbb'.out] at cP; clear hS hT))
            have hT6 := TurnF.set [q1] w4 (s := q1) (by simp) P (.bool true)
            have L6 := Lib.hid (L5.out.other hT6 hf1.out hq1)
            have K6 := Lib.hid (K5.out.set (p := P) (by omega) true)
            have A6 := Lib.hid ((A3.out.turnF T5.out (fun ad he => by simpa using (hne.out ad he).1)).turnF hT6 (fun ad he => by simpa using (hne.out ad he).2))
            have X6 := Lib.hid ((X3.out.turnF T5.out (by simpa using has)).turnF hT6 (by simpa using haq1))
            clear hT6
            go_roundg gn
            case measure => omega
            case rel => exact ⟨i2 + 1, _, _, by omega, by go_num, L6.out, N3.out, K6.out, A6.out, X6.out⟩
          · obtain rfl : gk = 0 := by omega
            have hiM : i2 = M := by omega
            have lt2 : decide ((i2 : Int) < (M : Int)) = false := decide_eq_false (by omega)
            have I4 := I3.out
            rw [hiM, hM2.out] at I4
            have hb1 : groupI g 8 16 Z near false < 0 := group_zero near false (by
              have h2 := free_tak Z 21 16 g
              have ht : takTo Z 21 16 g = g * 16 := by rw [← hGB2.out, ← hZ'.out.tk]; exact tak_off fun q hq => I4.hi _ (by omega)
              rw [ht] at h2
              show freeTo Z 21 16 g = 0
              omega)
            have hb2 := I4.full near rfl
            have hb1' := Lib.hid hb1
            have hb2' := Lib.hid hb2
            have I5 := Lib.hid I4
            have hZ2 := Lib.hid (show BackIn g Y L (g * 16) 0 by rw [← hGB2.out]; exact hZ'.out)
            clear I4 hb1 hb2 I3
            go_wp2_with fail
            refine (geoInodes_c (M : Int) _ okG.out hM'.out).mono ?_
            rintro e w3 ⟨rfl, hb⟩
            have L4 := Lib.hid (L3.out.below hb)
            have A4 := Lib.hid (A3.out.on hb rfl)
            clear hb c0 c1 c2 hal
            go_wp2_with fail
            refine (block_none near L4.out.sp hb1'.out).mono ?_
            rintro e w4 ⟨rfl, hb⟩
            have L5 := Lib.hid (L4.out.below hb)
            have A5 := Lib.hid (A4.out.on hb rfl)
            clear hb
            go_wp2_with fail
            refine (inode_none near L5.out.sp hb2'.out).mono ?_
            rintro e w5 ⟨rfl, hb⟩
            have L6 := Lib.hid (L5.out.below hb)
            have A6 := Lib.hid (A5.out.on hb rfl)
            clear hb
            go_wp2_with fail
            refine (low_c x2 _ GB _ rfl (by omega) (by omega)).mono ?_
            rintro e w6 ⟨p, hp, rfl, rfl⟩
            rcases A6.out with h0 | ⟨ab, ao, rfl, hcell⟩
            · omega
            have hcp := hcell p hp
            obtain ⟨k, j, hk, hj, hAp⟩ := hAt'.out p hp
            obtain ⟨P, hP⟩ : ∃ P, pK k j = P := ⟨_, rfl⟩
            rw [hAp, hP] at hcp
            have p0 : (0 : Int) ≤ (p : Int) := by omega
            have p1 : (p : Int) < (GB : Int) := by omega
            have hPos := Lib.hid (show ((P : Nat) : Int) = ((posN 8 16 21 k j : Nat) : Int) by rw [pK_pos, hP])
            have hPos2 := Lib.hid (show ((P : Nat) : Int) = ((3 + 8 / 4 + k * spanN 8 16 + j : Nat) : Int) by rw [← hP]; unfold pK; rw [show spanN 8 16 = 19 from rfl]; omega)
            obtain ⟨r1, r2, r3, r4⟩ := all_back hZ2.out I5.out hg8 hk hj okG.out.ok near
            obtain ⟨D, hD⟩ : ∃ D, deferX Z (21 + 2 + 2 * k) j = D := ⟨_, rfl⟩
            rw [hD] at r2 r3 r4
            have R1 := Lib.hid r1
            have R2 := Lib.hid r2
            have R3 := Lib.hid (show (1 : Int) = ((defTo D 3 8 g + defTo D 21 16 g : Nat) : Int) by rw [r3]; rfl)
            have R4 := Lib.hid r4
            have hD' := Lib.hid hD
            clear hcell hAp hP r1 r2 r3 r4 hD A4 A5
            go_wp2_with fail
            refine (defer_in (o := 21) (e := 16) k j 0 (P : Int) L6.out.sp (.inr ⟨rfl, rfl⟩) hk hj (.inr ⟨rfl, rfl, hPos.out⟩)).mono ?_
            rw [R1.out]
            rintro e w7 ⟨rfl, hS, hT⟩
            rw [hD'.out] at hS
            have L7 := Lib.hid (L6.out.turn hS hT)
            clear hS hT hcp
            go_wp2_with fail
            refine (block_none near L7.out.sp R2.out).mono ?_
            rintro e w8 ⟨rfl, hb⟩
            have L8 := Lib.hid (L7.out.below hb)
            clear hb
            go_wp2_with fail
            refine (firm_s 1 L8.out.sp R3.out).mono ?_
            rintro e w9 ⟨rfl, hS, hT⟩
            have L9 := Lib.hid (L8.out.turn hS hT)
            clear hS hT
            go_wp2_with fail
            refine (block_some near k j (P : Int) L9.out.sp R4.out hPos2.out).mono ?_
            rintro e w10 ⟨rfl, hS, hT⟩
            have L10 := Lib.hid (L9.out.turn hS hT)
            clear hS hT
            go_wp2_with fail
            refine (block_nil 0 _).mono ?_
            rintro e w11 ⟨rfl, rfl⟩
            go_wp2_with fail
            refine (left_nil _).mono ?_
            rintro e w11 ⟨rfl, rfl⟩
            go_wp2_with fail
            refine (mark_nil 1 0 _).mono ?_
            rintro e w11 ⟨rfl, rfl⟩
            go_wp2_with fail
            refine (firm_nil _).mono ?_
            rintro e w11 ⟨rfl, rfl⟩
            go_wp2_with fail
            refine (awake_any _).mono ?_
            rintro e w11 ⟨rfl, hb⟩
            have L11 := Lib.hid (L10.out.below hb)
            clear hb
            go_wp2_with fail
            go_ret
            exact ⟨rfl, L11.out.bl⟩
end Go.Proofs.Ytdkjmpicdkfgoaa
