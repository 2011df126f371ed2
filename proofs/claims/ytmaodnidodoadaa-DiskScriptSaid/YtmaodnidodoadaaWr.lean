/-
  Write: it waits.
-/
import Derived.Test.YtmaodnidodoadaaFl
import Derived.Laws.Cover3
import Derived.Deep.RegionLaw
namespace Go.Proofs.Ytmaodnidodoadaa
open Go.RowKit BigFrame

theorem write_off (w : World) (B : Nat) (G : Nat) (A : Lies) (d : Dk) (at' : Int) (v : Value) (h : IsDk w B G A d) (hon : d.on = false) :
    Calls Try.prog 19 #[.pointer (some ⟨G, 0, none⟩), .int .i64 at', v] w (GivesS (.int .i64 4) d B G A w) := by
  have h' := Lib.hid h
  have hon' := Lib.hid (show reachN d at' = 4 by simp [reachN, hon])
  clear h hon
  go_enter Try.func19, Try.ntmps19
  go_wp2_with (go_at_call 37; refine (reach_any at' _ B G A d h'.out).mono ?_; rw [hon'.out]; rintro e w1 ⟨rfl, rfl⟩)
  go_ret
  exact ⟨rfl, A, h'.out, Step.refl _ _⟩
theorem write_far (w : World) (B : Nat) (G : Nat) (A : Lies) (d : Dk) (at' : Int) (v : Value) (h : IsDk w B G A d) (hon : d.on = true) (ha : at' < 0 ∨ (d.n : Int) ≤ at') :
    Calls Try.prog 19 #[.pointer (some ⟨G, 0, none⟩), .int .i64 at', v] w (GivesS (.int .i64 2) d B G A w) := by
  have h' := Lib.hid h
  have hon' := Lib.hid (show reachN d at' = 2 by rw [reachN, if_pos hon, if_neg (by omega)])
  clear h hon ha
  go_enter Try.func19, Try.ntmps19
  go_wp2_with (go_at_call 37; refine (reach_any at' _ B G A d h'.out).mono ?_; rw [hon'.out]; rintro e w1 ⟨rfl, rfl⟩)
  go_ret
  exact ⟨rfl, A, h'.out, Step.refl _ _⟩
theorem write_short (w : World) (B : Nat) (G : Nat) (A : Lies) (d : Dk) (at' : Int) (ba : Option Addr) (bn bcap : Nat) (h : IsDk w B G A d) (hon : d.on = true) (ha : 0 ≤ at' ∧ at' < (d.n : Int)) (hb : bn ≠ 128) :
    Calls Try.prog 19 #[.pointer (some ⟨G, 0, none⟩), .int .i64 at', .slice ba bn bcap] w (GivesS (.int .i64 2) d B G A w) := by
  have h' := Lib.hid h
  have hon' := Lib.hid (show reachN d at' = 0 by rw [reachN, if_pos hon, if_pos ha])
  have t : ((bn : Int) != 128) = true := by rw [bne_iff_ne]; omega
  clear h hon ha
  go_enter Try.func19, Try.ntmps19
  go_wp2_with (go_at_call 37; refine (reach_any at' _ B G A d h'.out).mono ?_; rw [hon'.out]; rintro e w1 ⟨rfl, rfl⟩)
  go_ret
  exact ⟨rfl, A, h'.out, Step.refl _ _⟩
theorem write_fall (w : World) (B : Nat) (G : Nat) (A : Lies) (d : Dk) (at' : Int) (ba : Option Addr) (bcap : Nat) (h : IsDk w B G A d) (hon : d.on = true) (ha : 0 ≤ at' ∧ at' < (d.n : Int)) (hfall : d.fall = true) :
    Calls Try.prog 19 #[.pointer (some ⟨G, 0, none⟩), .int .i64 at', .slice ba 128 bcap] w (GivesS (.int .i64 4) d.fell B G A w) := by
  have h' := Lib.hid h
  have hon' := Lib.hid (show reachN d at' = 0 by rw [reachN, if_pos hon, if_pos ha])
  have hfall' := Lib.hid hfall
  clear h hon ha hfall
  go_enter Try.func19, Try.ntmps19
  go_wp2_with (first
    | (go_at_call 37; refine (reach_any at' _ B G A d h'.out).mono ?_; rw [hon'.out]; rintro e w1 ⟨rfl, rfl⟩)
    | (go_at_call 38; refine (falls_any _ B G A d h'.out).mono ?_; rw [hfall'.out]; rintro e w1 ⟨rfl, A1, hD1, hS1⟩; have D1 := Lib.hid hD1; have S1 := Lib.hid hS1; clear hD1 hS1))
  go_ret
  exact ⟨rfl, A1, D1.out, S1.out⟩

theorem one_int {x : Int} : ∀ u ∈ [Value.int .i64 x], u.oneCell' = true := by
  intro u hu
  rw [List.mem_singleton] at hu
  subst hu; rfl
theorem seen_wrote (d : Dk) (a : Nat) (l : List Nat) : updF d.seen a l = ((d.waited (a, l)).logged a).seen := (appl_snoc d.firm d.waits (a, l)).symm
attribute [local go_sem ↓] bldW_of bldS_of ldS_of
attribute [local go_sem] run_bldW run_bldS wcs_length
set_option maxRecDepth 100000 in
set_option maxHeartbeats 2000000 in
theorem write_go (w0 : World) (B : Nat) (G : Nat) (A0 : Lies) (d0 : Dk) (a : Nat) (bb bo bcap : Nat) (l : List Nat) (h : IsDk w0 B G A0 d0) (hon : d0.on = true) (ha : a < d0.n) (hl : l.length = 128) (_hbc : 128 ≤ bcap) (hx : BAt w0 (some ⟨bb, bo, none⟩) l) (hoff : Off w0 (A0.foot G) bb) (hfall : d0.fall = false) (hm1 : d0.fell.waits.length < 1000) (hm2 : d0.fell.log.length < 1000) :
    Calls Try.prog 19 #[.pointer (some ⟨G, 0, none⟩), .int .i64 (a : Int), .slice (some ⟨bb, bo, none⟩) 128 bcap] w0 (GivesS (.int .i64 0) (d0.fell.wrote a l) B G A0 w0) := by
  have h' := Lib.hid h
  have hon' := Lib.hid (show reachN d0 a = 0 by rw [reachN, if_pos hon, if_pos (by omega)])
  have hfall' := Lib.hid hfall
  have hx' := Lib.hid hx
  have hoff' := Lib.hid hoff
  have hl' := Lib.hid hl
  have hn0 := Lib.hid (show d0.fell.n = d0.n by unfold Dk.fell; split <;> (try split) <;> rfl)
  have hm1' := Lib.hid hm1
  have hm2' := Lib.hid hm2
  have ha' := Lib.hid ha
  obtain ⟨cs, hcs⟩ : ∃ cs, bv l = cs := ⟨_, rfl⟩
  have hcs' := Lib.hid hcs
  have hsz := Try.sizeS
  have hus := Try.underlying65
  have hcl : cs.length = 128 := by rw [← hcs, bv_length, hl]
  have hc1 : ∀ v ∈ cs, v.oneCell' = true := by rw [← hcs]; exact bv_one l
  have hci : (Try.prog.info? 65).map (·.size) = some cs.length := by rw [hcl]; exact hsz
  have hi0 : (0 : Int) ≤ (a : Int) := by omega
  have harr : ∀ w, (Instr.arrayAt 65 (.slice (some ⟨bb, bo, none⟩) 128 bcap)).run Try.prog w = .ok (.pointer (some ⟨bb, bo, none⟩)) w := fun w => by apply run_arrayAt; exact hus; omega
  clear h hon hfall hx hoff hl hm1 hm2 hcs ha
  go_enter Try.func19, Try.ntmps19
  go_wp2_with (first
    | (go_at_call 37; refine (reach_any _ _ B G A0 d0 h'.out).mono ?_; rw [hon'.out]; rintro e w1 ⟨rfl, rfl⟩)
    | (go_at_call 38; refine (falls_any _ B G A0 d0 h'.out).mono ?_; rw [hfall'.out]; rintro e w ⟨rfl, A, hD1, hS1⟩; obtain ⟨d, hd⟩ : ∃ d, d0.fell = d := ⟨_, rfl⟩; rw [hd] at hD1; have D1 := Lib.hid hD1; have S1 := Lib.hid hS1; have hd' := Lib.hid hd; clear hD1 hS1 hd))
  have hnd := Lib.hid (show d.n = d0.n by rw [← hd'.out]; exact hn0.out)
  obtain ⟨n, hne⟩ : ∃ n, d.n = n := ⟨_, rfl⟩
  have hi1 : (a : Int) < (n : Int) := by have := hnd.out; have := ha'.out; omega
  have han := Lib.hid (show a < d.n by rw [hnd.out]; exact ha'.out)
  have c2 := D1.out.cell 2
  simp only [hcells, hne, List.getElem?_toArray, List.getElem?_cons_zero, List.getElem?_cons_succ] at c2
  have hne' := Lib.hid hne
  clear hne
  have k2 : w.rangeAt bb bo cs := by
    rw [← hcs'.out]
    refine rangeAt_block (w := w0) (fun j v hv => ?_) (S1.out.same hoff'.out)
    obtain ⟨hj, rfl⟩ := bv_at hv
    exact hx'.out.cell hj
  have k3 : w.there A.s (a * 128) 128 := (D1.out.seen a han.out).2
  have hoff2 := Lib.hid (S1.out.off hoff'.out)
  have hne2 : bb ≠ A.s := fun e => hoff2.out.1 (e ▸ mem_foot_s G A)
  have hne3 : G ≠ A.s := D1.out.gf.2.1
  go_region_held3 (fun w' => w'.cell? ⟨G, 2, none⟩ = some (.slice (some ⟨A.s, 0, none⟩) n n) ∧ w'.rangeAt bb bo cs ∧ w'.there A.s (a * 128) 128) (first | exact ⟨cell_drew1 c2, range_drew1 k2, there_drew1 k3⟩ | exact ⟨cell_far (cell_drew1 c2) hne3, World.rangeAt_setCells_apart (range_drew1 k2) _ _ _ (.inl hne2), World.there_setCells (there_drew1 k3) _ _ _⟩) (fail)
  clear c2 k2 k3
  go_wp2_with fail
  have hD5 := IsDkS.storeS (IsDkS.drew1 D1.out) (fun i hi => (IsDkS.fine D1.out).seen hi) han.out hl'.out (updF d.seen a l) (fun _ _ => rfl)
  have hS5 := ((S1.out.more (below_drewN _ 1)).setCells A.s (a * 128) cs (mem_foot_s G A))
  rw [hcs'.out] at hD5
  change Step w0 (A0.foot G) (w.drew.setCells A.s (a * 128) cs) (A.foot G) at hS5
  obtain ⟨w5, hw5⟩ : ∃ w5, w.drew.setCells A.s (a * 128) cs = w5 := ⟨_, rfl⟩
  rw [hw5] at hD5 hS5 ⊢
  have hw5' := Lib.hid hw5
  clear hw5
  rename_i hHeld _ _
  clear hHeld
  have S5 := Lib.hid hS5
  obtain ⟨aw, cap, hvw⟩ := hD5.vw
  obtain ⟨nw, hnw⟩ : ∃ nw, d.waits.length = nw := ⟨_, rfl⟩
  have c2 := hD5.cell 2
  have c3 := hD5.cell 3
  have f3 := hD5.frozen 3
  have k3 : w5.rangeAt A.s (a * 128) cs := by have := (hD5.seen a han.out).1; rw [updF_same, hcs'.out] at this; exact this
  rw [hnw] at hvw
  simp only [hcells, hne'.out, hvw, List.getElem?_toArray, List.getElem?_cons_zero, List.getElem?_cons_succ] at c2 c3
  have D5 := Lib.hid hD5
  have hvw' := Lib.hid hvw
  have hnw' := Lib.hid hnw
  have O5 := Lib.hid hD5.waits
  have hG5 := Lib.hid (hD5.over G (mem_foot_g G A)).2
  have hBs := Lib.hid (Nat.le_of_lt (Nat.lt_of_le_of_lt (hD5.over G (mem_foot_g G A)).1 (hD5.over G (mem_foot_g G A)).2))
  have hgw := Lib.hid (show ∀ k, (Value.slice aw nw cap).ownBlock = some k → k ≠ G ∧ k ≠ A.s from fun k hk => by
    have := hD5.wOff (k := k) (by simp [hvw, hk])
    exact ⟨this.1, this.2.2⟩)
  have hm1b : nw < 1000 := by rw [← hnw, ← hd'.out]; exact hm1'.out
  clear hD5 hS5 hvw hnw
  obtain ⟨iw, hiw, hz0, hz1, hz2⟩ := info_parts Try.infoW
  have hiw' := Lib.hid hiw
  have hz0' := Lib.hid hz0
  have hz1' := Lib.hid hz1
  have hz2' := Lib.hid hz2
  have hzc := Lib.hid (show (Value.agg (wcell (0, zs 128)).toArray).cells.size = 129 by rw [Value.cells, List.size_toArray]; exact wcell_length (p := (0, zs 128)) (zs_length 128))
  clear hiw hz0 hz1 hz2
  obtain ⟨ii, hii, hi0', hi1', hi2'⟩ := info_parts Try.infoI
  have hii' := Lib.hid hii
  have hi0' := Lib.hid hi0'
  have hi1' := Lib.hid hi1'
  have hi2' := Lib.hid hi2'
  clear hii
  have hwc := Lib.hid (show wcells d.waits ++ wcs a cs = wcells (d.waits ++ [(a, l)]) by simp [wcells, wcs, wcell, hcs'.out])
  have hic := Lib.hid (show icells d.log ++ [Value.int .i64 (a : Int)] = icells (d.log ++ [a]) by simp [icells])
  have hwl := Lib.hid (show (wcs a cs).length = 1 * 129 by rw [wcs_length hcl])
  have hw1 := Lib.hid (show ∀ v ∈ wcs a cs, v.oneCell' = true from fun v hv => by
    rcases List.mem_cons.1 hv with rfl | hv
    · rfl
    · exact hc1 v hv)
  have O6 := Lib.hid (show (w5.alloc (.cells (wcs a cs).toArray 67)).drew.ownsRow B 67 129 (.slice aw nw cap) nw (wcells d.waits) by
    have := O5.out
    rw [hvw'.out, hnw'.out] at this
    exact World.ownsRow.alloc this _)
  have N6 := Lib.hid (show ∀ j u, (wcs a cs)[j]? = some u → (w5.alloc (.cells (wcs a cs).toArray 67)).drew.cell? ((⟨w5.heap.size, 0, none⟩ : Addr).add j) = some u from fun j u hu =>
    World.news_of_block (cs := (wcs a cs).toArray) (heap_alloc_new w5 _) j u (by simpa using hu))
  have p3 := Lib.hid (show (w5.alloc (.cells (wcs a cs).toArray 67)).drew.cell? ⟨G, 3, none⟩ = some (.slice aw nw cap) from cell_alloc c3 _)
  have p5 := Lib.hid (show (w5.alloc (.cells (wcs a cs).toArray 67)).drew.frozen? ⟨G, 3, none⟩ = false from (World.frozen?_alloc_past _ _ _ hG5.out).trans f3)
  have hB6 := Lib.hid (show B ≤ (w5.alloc (.cells (wcs a cs).toArray 67)).drew.heap.size by simp; have := hBs.out; omega)
  have s6 := Lib.hid (show (w5.alloc (.cells (wcs a cs).toArray 67)).drew.heap.size = w5.heap.size + 1 by simp)
  have hld : (ldS (.pointer (some ⟨A.s, a * 128, none⟩))).run Try.prog w5.drew = .ok (.agg cs.toArray) w5.drew := run_ldS (range_drew1 k3) hcl
  have hgG := Lib.hid (show some G ≠ (Value.slice aw nw cap).ownBlock from fun e => (hgw.out G e.symm).1 rfl)
  have p3a : (w5.alloc (.cells (wcs a cs).toArray 67)).cell? ⟨G, 3, none⟩ = some (.slice aw nw cap) := cell_alloc c3 _
  go_region_law (refine step_append_lies _ (by rfl) (.tmp 32) (.tmp 42) 55 (by rfl) B 67 iw _ 129 136 Try.underlying55 hiw'.out hz0'.out hz1'.out hz2'.out hzc.out (by decide) (.slice aw nw cap) nw (wcells d.waits) (by simp [Act.eval]) O6.out ⟨w5.heap.size, 0, none⟩ 1 1 (wcs a cs) (by simp [Act.eval]) hwl.out N6.out hw1.out (by decide) (by unfold maxLen; omega) (by omega) hB6.out (w5.heap.size + 1) s6.out ?_; intro g7 cap7 w7 hown7 hgrow7 hat7 hlt7; have q3 := cell_grown p3.out hgrow7 hgG.out; have q5 := frozen_grown p5.out (by show G < _; rw [s6.out]; have := hG5.out; omega) hgrow7 hgG.out; have W7 := Lib.hid hown7; have R7 := Lib.hid hgrow7; have A7 := Lib.hid hat7; have L7 := Lib.hid hlt7; clear hown7 hgrow7 hat7 hlt7)
  all_goals (
    obtain ⟨hD8, hS8⟩ := D5.out.growW (p := (a, l)) (g := g7) (n := nw + 1) (cap := cap7) ((Below.refl _ _).alloc (Nat.le_refl _) (.cells (wcs a cs).toArray 67)).drew (by rw [hvw'.out]; exact R7.out) (by rw [hvw'.out]; exact A7.out.imp id (fun h => by omega)) L7.out (hwc.out ▸ W7.out) (by rw [hnw'.out]) ((IsDkS.fine D5.out).waited han.out hl'.out (by rw [hnw'.out]; exact hm1b))
    clear q3 q5
    obtain ⟨w8, hw8⟩ : ∃ w8, w7.setCell ⟨G, 3, none⟩ (.slice (some ⟨g7, 0, none⟩) (nw + 1) cap7) = w8 := ⟨_, rfl⟩
    rw [hw8] at hD8 hS8 ⊢
    have hw8' := Lib.hid hw8
    clear hw8
    obtain ⟨al, capl, hvl, _, _⟩ := own_form hD8.log
    obtain ⟨nl, hnl⟩ : ∃ nl, (d.waited (a, l)).log.length = nl := ⟨_, rfl⟩
    have c4 := hD8.cell 4
    have f4 := hD8.frozen 4
    rw [hnl] at hvl
    change A.vl = _ at hvl
    simp only [hcells, hvl, List.getElem?_toArray, List.getElem?_cons_zero, List.getElem?_cons_succ] at c4
    have O8 := Lib.hid (show (w8.alloc (.cells #[.int .i64 (a : Int)] 3)).ownsRow B 3 1 (.slice al nl capl) nl (icells d.log) by
      have := hD8.log
      rw [hvl, hnl] at this
      exact World.ownsRow.alloc this _)
    have N8 := Lib.hid (show ∀ j u, [Value.int .i64 (a : Int)][j]? = some u → (w8.alloc (.cells #[.int .i64 (a : Int)] 3)).cell? ((⟨w8.heap.size, 0, none⟩ : Addr).add j) = some u from fun j u hu =>
      World.news_of_block (cs := #[.int .i64 (a : Int)]) (heap_alloc_new w8 _) j u (by simpa using hu))
    have hG8 := Lib.hid (hD8.over G (mem_foot_g G _)).2
    have p4 := Lib.hid (show (w8.alloc (.cells #[.int .i64 (a : Int)] 3)).cell? ⟨G, 4, none⟩ = some (.slice al nl capl) from cell_alloc c4 _)
    have p5b := Lib.hid (show (w8.alloc (.cells #[.int .i64 (a : Int)] 3)).frozen? ⟨G, 4, none⟩ = false from (World.frozen?_alloc_past _ _ _ hG8.out).trans f4)
    have s8 := Lib.hid (show (w8.alloc (.cells #[.int .i64 (a : Int)] 3)).heap.size = w8.heap.size + 1 by simp)
    have hB8 := Lib.hid (show B ≤ (w8.alloc (.cells #[.int .i64 (a : Int)] 3)).heap.size by rw [s8.out]; have := (hD8.over G (mem_foot_g G _)).1; have := hG8.out; omega)
    have hgl := Lib.hid (show some G ≠ (Value.slice al nl capl).ownBlock from fun e => (hD8.wOff (k := G) (by simp [hvl, ← e])).1 rfl)
    have hnlm : nl < 1000 := by rw [← hnl]; show d.log.length < 1000; rw [← hd'.out]; exact hm2'.out
    have D8 := Lib.hid hD8
    have S8 := Lib.hid hS8
    have hvl' := Lib.hid hvl
    have hnl' := Lib.hid hnl
    clear hD8 hS8 hvl hnl c2 c3 f3 k3 hld p3a
    go_wp2_with (at_builtin; refine wpList_append_lies _ rfl (.tmp 50) (.tmp 52) 34 rfl B 3 ii _ 1 8 Try.underlying34 hii'.out hi0'.out hi1'.out hi2'.out (by rfl) (by decide) (.slice al nl capl) nl (icells d.log) rfl O8.out ⟨w8.heap.size, 0, none⟩ 1 1 [.int .i64 (a : Int)] rfl (by rfl) N8.out one_int (by decide) (by unfold maxLen; omega) (by omega) hB8.out (w8.heap.size + 1) s8.out ?_; intro g9 cap9 w9 hown9 hgrow9 hat9 hlt9; have q3 := cell_grown p4.out hgrow9 hgl.out; have q5 := frozen_grown p5b.out (by show G < _; rw [s8.out]; have := hG8.out; omega) hgrow9 hgl.out; have W9 := Lib.hid hown9; have R9 := Lib.hid hgrow9; have A9 := Lib.hid hat9; have L9 := Lib.hid hlt9; clear hown9 hgrow9 hat9 hlt9)
    go_ret
    obtain ⟨hD10, hS10⟩ := D8.out.growL (p := a) (g := g9) (n := nl + 1) (cap := cap9) ((Below.refl _ _).alloc (Nat.le_refl _) (.cells #[.int .i64 (a : Int)] 3)) (by have := R9.out; rw [← hvl'.out] at this; exact this) (by have := A9.out; rw [← hvl'.out] at this; exact this.imp id (fun h => by omega)) L9.out (hic.out ▸ W9.out) (by rw [hnl'.out]) ((IsDkS.fine D8.out).logged (by rw [hnl'.out]; exact hnlm))
    refine ⟨rfl, _, ?_, (S5.out.trans S8.out).trans hS10⟩
    rw [hd'.out]
    rw [seen_wrote] at hD10
    exact hD10)
end Go.Proofs.Ytmaodnidodoadaa
