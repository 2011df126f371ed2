/-
  Write: it waits.
  Read: what was written last. And: what is told of a disk.
  A new disk.
  A disk of the call's own, from call to call; a disk that is nothing.
-/
import Derived.Test.YtnfaeejeipbciaaB7
import Derived.Laws.Cover3
import Derived.Deep.RegionLaw
import Derived.Test.YtnfaeejeipbciaaB5
import Derived.Test.YtnfaeejeipbciaaB6
import Derived.Deep.LoopGhost
import Derived.Test.YtnfaeejeipbciaaB4
import Derived.Deep.RegionWith

section
set_option linter.unusedVariables false
set_option linter.unusedSimpArgs false
namespace Go.Proofs.Ytnfaeejeipbciaa
open Go.RowKit BigFrame

theorem write_off (w : World) (B : Nat) (G : Nat) (A : Lies) (d : Dk) (at' : Int) (v : Value) (h : IsDk w B G A d) (hon : d.on = false) :
    Calls Try.prog 56 #[.pointer (some ⟨G, 0, none⟩), .int .i64 at', v] w (GivesS (.int .i64 4) d B G A w) := by
  have h' := Lib.hid h
  have hon' := Lib.hid (show reachN d at' = 4 by simp [reachN, hon])
  clear h hon
  go_enter Try.func56, Try.ntmps56
  go_wp2_with (go_at_call 58; refine (reach_any at' _ B G A d h'.out).mono ?_; rw [hon'.out]; rintro e w1 ⟨rfl, rfl⟩)
  go_ret
  exact ⟨rfl, A, h'.out, Step.refl _ _⟩
theorem write_far (w : World) (B : Nat) (G : Nat) (A : Lies) (d : Dk) (at' : Int) (v : Value) (h : IsDk w B G A d) (hon : d.on = true) (ha : at' < 0 ∨ (d.n : Int) ≤ at') :
    Calls Try.prog 56 #[.pointer (some ⟨G, 0, none⟩), .int .i64 at', v] w (GivesS (.int .i64 2) d B G A w) := by
  have h' := Lib.hid h
  have hon' := Lib.hid (show reachN d at' = 2 by rw [reachN, if_pos hon, if_neg (by omega)])
  clear h hon ha
  go_enter Try.func56, Try.ntmps56
  go_wp2_with (go_at_call 58; refine (reach_any at' _ B G A d h'.out).mono ?_; rw [hon'.out]; rintro e w1 ⟨rfl, rfl⟩)
  go_ret
  exact ⟨rfl, A, h'.out, Step.refl _ _⟩
theorem write_short (w : World) (B : Nat) (G : Nat) (A : Lies) (d : Dk) (at' : Int) (ba : Option Addr) (bn bcap : Nat) (h : IsDk w B G A d) (hon : d.on = true) (ha : 0 ≤ at' ∧ at' < (d.n : Int)) (hb : bn ≠ 128) :
    Calls Try.prog 56 #[.pointer (some ⟨G, 0, none⟩), .int .i64 at', .slice ba bn bcap] w (GivesS (.int .i64 2) d B G A w) := by
  have h' := Lib.hid h
  have hon' := Lib.hid (show reachN d at' = 0 by rw [reachN, if_pos hon, if_pos ha])
  have t : ((bn : Int) != 128) = true := by rw [bne_iff_ne]; omega
  clear h hon ha
  go_enter Try.func56, Try.ntmps56
  go_wp2_with (go_at_call 58; refine (reach_any at' _ B G A d h'.out).mono ?_; rw [hon'.out]; rintro e w1 ⟨rfl, rfl⟩)
  go_ret
  exact ⟨rfl, A, h'.out, Step.refl _ _⟩
theorem write_fall (w : World) (B : Nat) (G : Nat) (A : Lies) (d : Dk) (at' : Int) (ba : Option Addr) (bcap : Nat) (h : IsDk w B G A d) (hon : d.on = true) (ha : 0 ≤ at' ∧ at' < (d.n : Int)) (hfall : d.fall = true) :
    Calls Try.prog 56 #[.pointer (some ⟨G, 0, none⟩), .int .i64 at', .slice ba 128 bcap] w (GivesS (.int .i64 4) d.fell B G A w) := by
  have h' := Lib.hid h
  have hon' := Lib.hid (show reachN d at' = 0 by rw [reachN, if_pos hon, if_pos ha])
  have hfall' := Lib.hid hfall
  clear h hon ha hfall
  go_enter Try.func56, Try.ntmps56
  go_wp2_with (first
    | (go_at_call 58; refine (reach_any at' _ B G A d h'.out).mono ?_; rw [hon'.out]; rintro e w1 ⟨rfl, rfl⟩)
    | (go_at_call 67; refine (falls_any _ B G A d h'.out).mono ?_; rw [hfall'.out]; rintro e w1 ⟨rfl, A1, hD1, hS1⟩; have D1 := Lib.hid hD1; have S1 := Lib.hid hS1; clear hD1 hS1))
  go_ret
  exact ⟨rfl, A1, D1.out, S1.out⟩

theorem one_int {x : Int} : ∀ u ∈ [Value.int .i64 x], u.oneCell' = true := by
  intro u hu
  rw [List.mem_singleton] at hu
  subst hu; rfl
theorem seen_wrote (d : Dk) (a : Nat) (l : List Nat) : updF d.seen a l = ((d.waited (a, l)).logged a).seen := (appl_snoc d.firm d.waits (a, l)).symm
attribute [local go_sem ↓] bldW_of bldS_of ldS_of
attribute [local go_sem] run_bldW run_bldS wcs_length
set_option maxRecDepth 100000 in
set_option maxHeartbeats 2000000 in
theorem write_go (w0 : World) (B : Nat) (G : Nat) (A0 : Lies) (d0 : Dk) (a : Nat) (bb bo bcap : Nat) (l : List Nat) (h : IsDk w0 B G A0 d0) (hon : d0.on = true) (ha : a < d0.n) (hl : l.length = 128) (_hbc : 128 ≤ bcap) (hx : BAt w0 (some ⟨bb, bo, none⟩) l) (hoff : Off w0 (A0.foot G) bb) (hfall : d0.fall = false) (hm1 : d0.fell.waits.length < 1000) (hm2 : d0.fell.log.length < 1000) :
    Calls Try.prog 56 #[.pointer (some ⟨G, 0, none⟩), .int .i64 (a : Int), .slice (some ⟨bb, bo, none⟩) 128 bcap] w0 (GivesS (.int .i64 0) (d0.fell.wrote a l) B G A0 w0) := by
  have h' := Lib.hid h
  have hon' := Lib.hid (show reachN d0 a = 0 by rw [reachN, if_pos hon, if_pos (by omega)])
  have hfall' := Lib.hid hfall
  have hx' := Lib.hid hx
  have hoff' := Lib.hid hoff
  have hl' := Lib.hid hl
  have hn0 := Lib.hid (show d0.fell.n = d0.n by unfold Dk.fell; split <;> (try split) <;> rfl)
  have hm1' := Lib.hid hm1
  have hm2' := Lib.hid hm2
  have ha' := Lib.hid ha
  obtain ⟨cs, hcs⟩ : ∃ cs, bv l = cs := ⟨_, rfl⟩
  have hcs' := Lib.hid hcs
  have hsz := Try.sizeS
  have hus := Try.underlying90
  have hcl : cs.length = 128 := by rw [← hcs, bv_length, hl]
  have hc1 : ∀ v ∈ cs, v.oneCell' = true := by rw [← hcs]; exact bv_one l
  have hci : (Try.prog.info? 90).map (·.size) = some cs.length := by rw [hcl]; exact hsz
  have hi0 : (0 : Int) ≤ (a : Int) := by omega
  have harr : ∀ w, (Instr.arrayAt 90 (.slice (some ⟨bb, bo, none⟩) 128 bcap)).run Try.prog w = .ok (.pointer (some ⟨bb, bo, none⟩)) w := fun w => by apply run_arrayAt; exact hus; omega
  clear h hon hfall hx hoff hl hm1 hm2 hcs ha
  go_enter Try.func56, Try.ntmps56
  go_wp2_with (first
    | (go_at_call 58; refine (reach_any _ _ B G A0 d0 h'.out).mono ?_; rw [hon'.out]; rintro e w1 ⟨rfl, rfl⟩)
    | (go_at_call 67; refine (falls_any _ B G A0 d0 h'.out).mono ?_; rw [hfall'.out]; rintro e w ⟨rfl, A, hD1, hS1⟩; obtain ⟨d, hd⟩ : ∃ d, d0.fell = d := ⟨_, rfl⟩; rw [hd] at hD1; have D1 := Lib.hid hD1; have S1 := Lib.hid hS1; have hd' := Lib.hid hd; clear hD1 hS1 hd))
  have hnd := Lib.hid (show d.n = d0.n by rw [← hd'.out]; exact hn0.out)
  obtain ⟨n, hne⟩ : ∃ n, d.n = n := ⟨_, rfl⟩
  have hi1 : (a : Int) < (n : Int) := by have := hnd.out; have := ha'.out; omega
  have han := Lib.hid (show a < d.n by rw [hnd.out]; exact ha'.out)
  have c2 := D1.out.cell 2
  simp only [hcells, hne, List.getElem?_toArray, List.getElem?_cons_zero, List.getElem?_cons_succ] at c2
  have hne' := Lib.hid hne
  clear hne
  have k2 : w.rangeAt bb bo cs := by
    rw [← hcs'.out]
    refine rangeAt_block (w := w0) (fun j v hv => ?_) (S1.out.same hoff'.out)
    obtain ⟨hj, rfl⟩ := bv_at hv
    exact hx'.out.cell hj
  have k3 : w.there A.s (a * 128) 128 := (D1.out.seen a han.out).2
  have hoff2 := Lib.hid (S1.out.off hoff'.out)
  have hne2 : bb ≠ A.s := fun e => hoff2.out.1 (e ▸ mem_foot_s G A)
  have hne3 : G ≠ A.s := D1.out.gf.2.1
  go_region_held3 (fun w' => w'.cell? ⟨G, 2, none⟩ = some (.slice (some ⟨A.s, 0, none⟩) n n) ∧ w'.rangeAt bb bo cs ∧ w'.there A.s (a * 128) 128) (first | exact ⟨cell_drew1 c2, range_drew1 k2, there_drew1 k3⟩ | exact ⟨cell_far (cell_drew1 c2) hne3, World.rangeAt_setCells_apart (range_drew1 k2) _ _ _ (.inl hne2), World.there_setCells (there_drew1 k3) _ _ _⟩) (fail)
  clear c2 k2 k3
  go_wp2_with fail
  have hD5 := IsDkS.storeS (IsDkS.drew1 D1.out) (fun i hi => (IsDkS.fine D1.out).seen hi) han.out hl'.out (updF d.seen a l) (fun _ _ => rfl)
  have hS5 := ((S1.out.more (below_drewN _ 1)).setCells A.s (a * 128) cs (mem_foot_s G A))
  rw [hcs'.out] at hD5
  change Step w0 (A0.foot G) (w.drew.setCells A.s (a * 128) cs) (A.foot G) at hS5
  obtain ⟨w5, hw5⟩ : ∃ w5, w.drew.setCells A.s (a * 128) cs = w5 := ⟨_, rfl⟩
  rw [hw5] at hD5 hS5 ⊢
  have hw5' := Lib.hid hw5
  clear hw5
  rename_i hHeld _ _
  clear hHeld
  have S5 := Lib.hid hS5
  obtain ⟨aw, cap, hvw⟩ := hD5.vw
  obtain ⟨nw, hnw⟩ : ∃ nw, d.waits.length = nw := ⟨_, rfl⟩
  have c2 := hD5.cell 2
  have c3 := hD5.cell 3
  have f3 := hD5.frozen 3
  have k3 : w5.rangeAt A.s (a * 128) cs := by have := (hD5.seen a han.out).1; rw [updF_same, hcs'.out] at this; exact this
  rw [hnw] at hvw
  simp only [hcells, hne'.out, hvw, List.getElem?_toArray, List.getElem?_cons_zero, List.getElem?_cons_succ] at c2 c3
  have D5 := Lib.hid hD5
  have hvw' := Lib.hid hvw
  have hnw' := Lib.hid hnw
  have O5 := Lib.hid hD5.waits
  have hG5 := Lib.hid (hD5.over G (mem_foot_g G A)).2
  have hBs := Lib.hid (Nat.le_of_lt (Nat.lt_of_le_of_lt (hD5.over G (mem_foot_g G A)).1 (hD5.over G (mem_foot_g G A)).2))
  have hgw := Lib.hid (show ∀ k, (Value.slice aw nw cap).ownBlock = some k → k ≠ G ∧ k ≠ A.s from fun k hk => by
    have := hD5.wOff (k := k) (by simp [hvw, hk])
    exact ⟨this.1, this.2.2⟩)
  have hm1b : nw < 1000 := by rw [← hnw, ← hd'.out]; exact hm1'.out
  clear hD5 hS5 hvw hnw
  obtain ⟨iw, hiw, hz0, hz1, hz2⟩ := info_parts Try.infoW
  have hiw' := Lib.hid hiw
  have hz0' := Lib.hid hz0
  have hz1' := Lib.hid hz1
  have hz2' := Lib.hid hz2
  have hzc := Lib.hid (show (Value.agg (wcell (0, zs 128)).toArray).cells.size = 129 by rw [Value.cells, List.size_toArray]; exact wcell_length (p := (0, zs 128)) (zs_length 128))
  clear hiw hz0 hz1 hz2
  obtain ⟨ii, hii, hi0', hi1', hi2'⟩ := info_parts Try.infoI
  have hii' := Lib.hid hii
  have hi0' := Lib.hid hi0'
  have hi1' := Lib.hid hi1'
  have hi2' := Lib.hid hi2'
  clear hii
  have hwc := Lib.hid (show wcells d.waits ++ wcs a cs = wcells (d.waits ++ [(a, l)]) by simp [wcells, wcs, wcell, hcs'.out])
  have hic := Lib.hid (show icells d.log ++ [Value.int .i64 (a : Int)] = icells (d.log ++ [a]) by simp [icells])
  have hwl := Lib.hid (show (wcs a cs).length = 1 * 129 by rw [wcs_length hcl])
  have hw1 := Lib.hid (show ∀ v ∈ wcs a cs, v.oneCell' = true from fun v hv => by
    rcases List.mem_cons.1 hv with rfl | hv
    · rfl
    · exact hc1 v hv)
  have O6 := Lib.hid (show (w5.alloc (.cells (wcs a cs).toArray 99)).drew.ownsRow B 99 129 (.slice aw nw cap) nw (wcells d.waits) by
    have := O5.out
    rw [hvw'.out, hnw'.out] at this
    exact World.ownsRow.alloc this _)
  have N6 := Lib.hid (show ∀ j u, (wcs a cs)[j]? = some u → (w5.alloc (.cells (wcs a cs).toArray 99)).drew.cell? ((⟨w5.heap.size, 0, none⟩ : Addr).add j) = some u from fun j u hu =>
    World.news_of_block (cs := (wcs a cs).toArray) (heap_alloc_new w5 _) j u (by simpa using hu))
  have p3 := Lib.hid (show (w5.alloc (.cells (wcs a cs).toArray 99)).drew.cell? ⟨G, 3, none⟩ = some (.slice aw nw cap) from cell_alloc c3 _)
  have p5 := Lib.hid (show (w5.alloc (.cells (wcs a cs).toArray 99)).drew.frozen? ⟨G, 3, none⟩ = false from (World.frozen?_alloc_past _ _ _ hG5.out).trans f3)
  have hB6 := Lib.hid (show B ≤ (w5.alloc (.cells (wcs a cs).toArray 99)).drew.heap.size by simp; have := hBs.out; omega)
  have s6 := Lib.hid (show (w5.alloc (.cells (wcs a cs).toArray 99)).drew.heap.size = w5.heap.size + 1 by simp)
  have hld : (ldS (.pointer (some ⟨A.s, a * 128, none⟩))).run Try.prog w5.drew = .ok (.agg cs.toArray) w5.drew := run_ldS (range_drew1 k3) hcl
  have hgG := Lib.hid (show some G ≠ (Value.slice aw nw cap).ownBlock from fun e => (hgw.out G e.symm).1 rfl)
  have p3a : (w5.alloc (.cells (wcs a cs).toArray 99)).cell? ⟨G, 3, none⟩ = some (.slice aw nw cap) := cell_alloc c3 _
  go_region_law (refine step_append_lies _ (by rfl) (.tmp 32) (.tmp 42) 65 (by rfl) B 99 iw _ 129 136 Try.underlying65 hiw'.out hz0'.out hz1'.out hz2'.out hzc.out (by decide) (.slice aw nw cap) nw (wcells d.waits) (by simp [Act.eval]) O6.out ⟨w5.heap.size, 0, none⟩ 1 1 (wcs a cs) (by simp [Act.eval]) hwl.out N6.out hw1.out (by decide) (by unfold maxLen; omega) (by omega) hB6.out (w5.heap.size + 1) s6.out ?_; intro g7 cap7 w7 hown7 hgrow7 hat7 hlt7; have q3 := cell_grown p3.out hgrow7 hgG.out; have q5 := frozen_grown p5.out (by show G < _; rw [s6.out]; have := hG5.out; omega) hgrow7 hgG.out; have W7 := Lib.hid hown7; have R7 := Lib.hid hgrow7; have A7 := Lib.hid hat7; have L7 := Lib.hid hlt7; clear hown7 hgrow7 hat7 hlt7)
  all_goals (
    obtain ⟨hD8, hS8⟩ := D5.out.growW (p := (a, l)) (g := g7) (n := nw + 1) (cap := cap7) ((Below.refl _ _).alloc (Nat.le_refl _) (.cells (wcs a cs).toArray 99)).drew (by rw [hvw'.out]; exact R7.out) (by rw [hvw'.out]; exact A7.out.imp id (fun h => by omega)) L7.out (hwc.out ▸ W7.out) (by rw [hnw'.out]) ((IsDkS.fine D5.out).waited han.out hl'.out (by rw [hnw'.out]; exact hm1b))
    clear q3 q5
    obtain ⟨w8, hw8⟩ : ∃ w8, w7.setCell ⟨G, 3, none⟩ (.slice (some ⟨g7, 0, none⟩) (nw + 1) cap7) = w8 := ⟨_, rfl⟩
    rw [hw8] at hD8 hS8 ⊢
    have hw8' := Lib.hid hw8
    clear hw8
    obtain ⟨al, capl, hvl, _, _⟩ := own_form hD8.log
    obtain ⟨nl, hnl⟩ : ∃ nl, (d.waited (a, l)).log.length = nl := ⟨_, rfl⟩
    have c4 := hD8.cell 4
    have f4 := hD8.frozen 4
    rw [hnl] at hvl
    change A.vl = _ at hvl
    simp only [hcells, hvl, List.getElem?_toArray, List.getElem?_cons_zero, List.getElem?_cons_succ] at c4
    have O8 := Lib.hid (show (w8.alloc (.cells #[.int .i64 (a : Int)] 3)).ownsRow B 3 1 (.slice al nl capl) nl (icells d.log) by
      have := hD8.log
      rw [hvl, hnl] at this
      exact World.ownsRow.alloc this _)
    have N8 := Lib.hid (show ∀ j u, [Value.int .i64 (a : Int)][j]? = some u → (w8.alloc (.cells #[.int .i64 (a : Int)] 3)).cell? ((⟨w8.heap.size, 0, none⟩ : Addr).add j) = some u from fun j u hu =>
      World.news_of_block (cs := #[.int .i64 (a : Int)]) (heap_alloc_new w8 _) j u (by simpa using hu))
    have hG8 := Lib.hid (hD8.over G (mem_foot_g G _)).2
    have p4 := Lib.hid (show (w8.alloc (.cells #[.int .i64 (a : Int)] 3)).cell? ⟨G, 4, none⟩ = some (.slice al nl capl) from cell_alloc c4 _)
    have p5b := Lib.hid (show (w8.alloc (.cells #[.int .i64 (a : Int)] 3)).frozen? ⟨G, 4, none⟩ = false from (World.frozen?_alloc_past _ _ _ hG8.out).trans f4)
    have s8 := Lib.hid (show (w8.alloc (.cells #[.int .i64 (a : Int)] 3)).heap.size = w8.heap.size + 1 by simp)
    have hB8 := Lib.hid (show B ≤ (w8.alloc (.cells #[.int .i64 (a : Int)] 3)).heap.size by rw [s8.out]; have := (hD8.over G (mem_foot_g G _)).1; have := hG8.out; omega)
    have hgl := Lib.hid (show some G ≠ (Value.slice al nl capl).ownBlock from fun e => (hD8.wOff (k := G) (by simp [hvl, ← e])).1 rfl)
    have hnlm : nl < 1000 := by rw [← hnl]; show d.log.length < 1000; rw [← hd'.out]; exact hm2'.out
    have D8 := Lib.hid hD8
    have S8 := Lib.hid hS8
    have hvl' := Lib.hid hvl
    have hnl' := Lib.hid hnl
    clear hD8 hS8 hvl hnl c2 c3 f3 k3 hld p3a
    go_wp2_with (at_builtin; refine wpList_append_lies _ rfl (.tmp 50) (.tmp 52) 37 rfl B 3 ii _ 1 8 Try.underlying37 hii'.out hi0'.out hi1'.out hi2'.out (by rfl) (by decide) (.slice al nl capl) nl (icells d.log) rfl O8.out ⟨w8.heap.size, 0, none⟩ 1 1 [.int .i64 (a : Int)] rfl (by rfl) N8.out one_int (by decide) (by unfold maxLen; omega) (by omega) hB8.out (w8.heap.size + 1) s8.out ?_; intro g9 cap9 w9 hown9 hgrow9 hat9 hlt9; have q3 := cell_grown p4.out hgrow9 hgl.out; have q5 := frozen_grown p5b.out (by show G < _; rw [s8.out]; have := hG8.out; omega) hgrow9 hgl.out; have W9 := Lib.hid hown9; have R9 := Lib.hid hgrow9; have A9 := Lib.hid hat9; have L9 := Lib.hid hlt9; clear hown9 hgrow9 hat9 hlt9)
    go_ret
    obtain ⟨hD10, hS10⟩ := D8.out.growL (p := a) (g := g9) (n := nl + 1) (cap := cap9) ((Below.refl _ _).alloc (Nat.le_refl _) (.cells #[.int .i64 (a : Int)] 3)) (by have := R9.out; rw [← hvl'.out] at this; exact this) (by have := A9.out; rw [← hvl'.out] at this; exact this.imp id (fun h => by omega)) L9.out (hic.out ▸ W9.out) (by rw [hnl'.out]) ((IsDkS.fine D8.out).logged (by rw [hnl'.out]; exact hnlm))
    refine ⟨rfl, _, ?_, (S5.out.trans S8.out).trans hS10⟩
    rw [hd'.out]
    rw [seen_wrote] at hD10
    exact hD10)
end Go.Proofs.Ytnfaeejeipbciaa
end

section
set_option linter.unusedVariables false
set_option linter.unusedSimpArgs false
namespace Go.Proofs.Ytnfaeejeipbciaa
open Go.RowKit BigFrame

/-- bytes that are told, and a code -/
def GivesR (l : List Nat) (c : Int) (w : World) (e : Ending) (w' : World) : Prop := ∃ v, e = .returned (.tuple #[v, .int .i64 c]) ∧ OwnB w' w.heap.size v l ∧ Below w.heap.size w w'
theorem secs_bat {w : World} {g n : Nat} {f : Nat → List Nat} (h : Secs w g n f) (_hl : ∀ i, i < n → (f i).length = 128) {i : Nat} (hi : i < n) : BAt w (some ⟨g, i * 128, none⟩) (f i) :=
  .inr ⟨g, i * 128, rfl, fun k hk => (h i hi).1 k _ (bv_get hk)⟩

theorem read_off (w : World) (B : Nat) (G : Nat) (A : Lies) (d : Dk) (at' : Int) (h : IsDk w B G A d) (hon : d.on = false) :
    Calls Try.prog 28 #[.pointer (some ⟨G, 0, none⟩), .int .i64 at'] w (GivesR [] 4 w) := by
  have h' := Lib.hid h
  have hon' := Lib.hid (show reachN d at' = 4 by simp [reachN, hon])
  clear h hon
  go_enter Try.func28, Try.ntmps28
  go_wp2_with (go_at_call 58; refine (reach_any at' _ B G A d h'.out).mono ?_; rw [hon'.out]; rintro e w1 ⟨rfl, rfl⟩)
  go_ret2
  exact ⟨_, rfl, OwnB.nil _ _, Below.refl _ _⟩
theorem read_far (w : World) (B : Nat) (G : Nat) (A : Lies) (d : Dk) (at' : Int) (h : IsDk w B G A d) (hon : d.on = true) (ha : at' < 0 ∨ (d.n : Int) ≤ at') :
    Calls Try.prog 28 #[.pointer (some ⟨G, 0, none⟩), .int .i64 at'] w (GivesR [] 2 w) := by
  have h' := Lib.hid h
  have hon' := Lib.hid (show reachN d at' = 2 by rw [reachN, if_pos hon, if_neg (by omega)])
  clear h hon ha
  go_enter Try.func28, Try.ntmps28
  go_wp2_with (go_at_call 58; refine (reach_any at' _ B G A d h'.out).mono ?_; rw [hon'.out]; rintro e w1 ⟨rfl, rfl⟩)
  go_ret2
  exact ⟨_, rfl, OwnB.nil _ _, Below.refl _ _⟩
set_option maxHeartbeats 400000 in
theorem read_go (w : World) (B : Nat) (G : Nat) (A : Lies) (d : Dk) (a : Nat) (h : IsDk w B G A d) (hon : d.on = true) (ha : a < d.n) :
    Calls Try.prog 28 #[.pointer (some ⟨G, 0, none⟩), .int .i64 (a : Int)] w (GivesR (d.seen a) 0 w) := by
  have h' := Lib.hid h
  have hon' := Lib.hid (show reachN d a = 0 by rw [reachN, if_pos hon, if_pos (by omega)])
  have c2 := h.cell 2
  obtain ⟨n, hne⟩ : ∃ n, d.n = n := ⟨_, rfl⟩
  simp only [hcells, hne, List.getElem?_toArray, List.getElem?_cons_zero, List.getElem?_cons_succ] at c2
  have hx := Lib.hid (secs_bat h.seen (fun i hi => h.fine.seen hi) ha)
  have hl := Lib.hid (h.fine.seen ha)
  have hi0 : (0 : Int) ≤ (a : Int) := by omega
  have hi1 : (a : Int) < (n : Int) := by omega
  have hi2 : a < n := by omega
  clear h hon ha hne
  go_enter Try.func28, Try.ntmps28
  go_wp2_with (first
    | (go_at_call 58; refine (reach_any _ _ B G A d h'.out).mono ?_; rw [hon'.out]; rintro e w1 ⟨rfl, rfl⟩)
    | (go_at_call 49; refine (clone_b _ _ 128 (d.seen a) _ hl.out (by omega) hx.out (fun h => by cases h)).mono ?_; rintro e w1 ⟨v1, rfl, ho1, hb1⟩; obtain ⟨g1, cap1, rfl, _, _, _⟩ := ho1.at hl.out (by omega); have O1 := Lib.hid ho1; have B1 := Lib.hid hb1; clear ho1 hb1))
  go_ret2
  exact ⟨_, rfl, O1.out, B1.out⟩
/-- the sectors that were written, as they are told -/
def logD (d : Dk) (k : Nat) : Int := ((d.log.getD k 0 : Nat) : Int)
theorem log_ints {w : World} {B G : Nat} {A : Lies} {d : Dk} {sn : Nat → List Nat} (h : IsDkS w B G A d sn) : ∃ a cap, A.vl = .slice a d.log.length cap ∧ IntsAt w a d.log.length (logD d) ∧ (a = none → cap = 0) := by
  have hc := fun g hg => World.ownsRow.cells h.log (g := g) hg
  rcases h.log.2 with ⟨e, e2⟩ | ⟨g, cap, cur, e, _, _, hn, _⟩
  · exact ⟨none, 0, by rw [e, e2], .inl e2, fun _ => rfl⟩
  · refine ⟨_, cap, e, .inr ⟨g, 0, rfl, fun k hk => ?_⟩, fun h => by cases h⟩
    have := hc g (by rw [e]; rfl) k (.int .i64 (logD d k)) (by simp [icells, logD, List.getD, hk])
    rwa [addr_add] at this
theorem writes_any (w : World) (B : Nat) (G : Nat) (A : Lies) (d : Dk) (h : IsDk w B G A d) :
    Calls Try.prog 17 #[.pointer (some ⟨G, 0, none⟩)] w (GivesZ d.log.length (logD d) w) := by
  obtain ⟨a, cap, hvl, hx, hnil⟩ := log_ints h
  have c4 := h.cell 4
  have hm := h.fine.logs
  obtain ⟨nl, hnl⟩ : ∃ nl, d.log.length = nl := ⟨_, rfl⟩
  simp only [hcells, hvl, hnl, List.getElem?_toArray, List.getElem?_cons_zero, List.getElem?_cons_succ] at c4
  rw [hnl] at hx hm
  rw [hnl]
  have hx' := Lib.hid hx
  have hnil' := Lib.hid hnil
  clear h hx hnil hvl hnl
  go_enter Try.func17, Try.ntmps17
  go_wp2_with (go_at_call 48; refine (clone_z _ _ nl (logD d) _ (by omega) hx'.out hnil'.out).mono ?_; rintro e w1 ⟨v1, rfl, ho1, hb1⟩; have O1 := Lib.hid ho1; have B1 := Lib.hid hb1; clear ho1 hb1)
  go_ret
  exact ⟨_, rfl, O1.out, B1.out⟩
/-- the sectors of the writes that wait, as they are told -/
def waitD (d : Dk) (k : Nat) : Int := (((wtAt d.waits k).1 : Nat) : Int)
def WtRel (w : World) (d : Dk) (nw gi : Nat) (g : Nat) (i : Value) (wr : World) : Prop :=
  ∃ k : Nat, k + g = nw ∧ i = .int .i64 k ∧ Below w.heap.size w wr ∧ w.heap.size ≤ gi ∧ gi < wr.heap.size ∧ wr.rowIs gi 3 nw (fun j => if j < k then .int .i64 (waitD d j) else .int .i64 0)
def GivesW (n : Nat) (D : Nat → Int) (w : World) (e : Ending) (w' : World) : Prop := ∃ g, e = .returned (.slice (some ⟨g, 0, none⟩) n n) ∧ w.heap.size ≤ g ∧ w'.rowIs g 3 n (fun j => .int .i64 (D j)) ∧ Below w.heap.size w w'
/-- block g holds n slices of bytes, each in a block of its own, one behind the other -/
structure Sheet (w : World) (B g n : Nat) (V : Nat → Value) (X : Nat → List Nat) (bk : Nat → Nat) : Prop where
  row : w.rowIs g 54 n V
  base : B ≤ g
  own : ∀ i, i < n → OwnB w B (V i) (X i) ∧ (V i).ownBlock = some (bk i) ∧ g < bk i
  rise : ∀ i j, i < j → j < n → bk i < bk j
def nilV : Value := .slice none 0 0
def ImRel (w : World) (d : Dk) (n : Nat) (g : Nat) (i : Value) (wr : World) : Prop :=
  ∃ (k : Nat) (V : Nat → Value) (bk : Nat → Nat), k + g = n ∧ i = .int .i64 k ∧ Below w.heap.size w wr ∧ w.heap.size < wr.heap.size ∧ wr.rowIs w.heap.size 54 n (fun j => if j < k then V j else nilV) ∧
    (∀ j, j < k → OwnB wr w.heap.size (V j) (d.firm j) ∧ (V j).ownBlock = some (bk j) ∧ w.heap.size < bk j) ∧ ∀ i j, i < j → j < k → bk i < bk j
/-- an image -/
def GivesI (n : Nat) (X : Nat → List Nat) (w : World) (e : Ending) (w' : World) : Prop := ∃ (g : Nat) (V : Nat → Value) (bk : Nat → Nat), e = .returned (.slice (some ⟨g, 0, none⟩) n n) ∧ Sheet w' w.heap.size g n V X bk ∧ Below w.heap.size w w'
theorem Try.infoP : (Try.prog.info? 54).map (fun i => (i.zero, i.size, i.bytes)) = some (some (.slice none 0 0), 1, 24) := by kernel_rfl
theorem OwnB.block {w w' : World} {base : Nat} {v : Value} {l : List Nat} (h : OwnB w base v l) (hb : ∀ k, v.ownBlock = some k → w'.heap[k]? = w.heap[k]?) : OwnB w' base v l := ownsRow_block h hb
theorem OwnB.lt {w : World} {base : Nat} {v : Value} {l : List Nat} (h : OwnB w base v l) : ∀ k, v.ownBlock = some k → base ≤ k ∧ k < w.heap.size := World.ownsRow.lt h

set_option maxHeartbeats 1000000 in
theorem image_any (w : World) (B : Nat) (G : Nat) (A : Lies) (d : Dk) (h : IsDk w B G A d) :
    Calls Try.prog 20 #[.pointer (some ⟨G, 0, none⟩)] w (GivesI d.n d.firm w) := by
  have h' := Lib.hid h
  have c1 := h.cell 1
  obtain ⟨n, hne⟩ : ∃ n, d.n = n := ⟨_, rfl⟩
  have hn := h.fine.n
  simp only [hcells, hne, List.getElem?_toArray, List.getElem?_cons_zero, List.getElem?_cons_succ] at c1
  rw [hne] at hn
  rw [hne]
  have hne' := Lib.hid hne
  have hGl := Lib.hid (h.over G (mem_foot_g G A)).2
  have hmk := run_make_row' (P := Try.prog) 40 54 (.slice none 0 0) 24 Try.underlying40 Try.infoP rfl .i64 .i64 n (by omega) (by omega)
  have hrow := Lib.hid (World.rowIs_made w (.slice none 0 0) n 54)
  have hb0 := Lib.hid ((Below.refl w.heap.size w).alloc (Nat.le_refl _) (.cells (madeCells #[.slice none 0 0] n) 54))
  have c1' : (w.alloc (.cells (madeCells #[.slice none 0 0] n) 54)).cell? ⟨G, 1, none⟩ = some (.slice (some ⟨A.f, 0, none⟩) n n) := cell_alloc c1 _
  clear h hne
  go_enter Try.func20, Try.ntmps20
  go_wp2_with fail
  go_loopg [18] n (fun g i wr => ImRel w d n g i wr)
  case atStart => exact ⟨0, fun _ => nilV, fun _ => 0, by omega, rfl, hb0.out, by simp, hrow.out.congr (fun i hi => by simp [nilV]), fun j h => by omega, fun i j _ h => by omega⟩
  case round =>
    obtain ⟨k, V, bk, hk, rfl, hB, hgl, hR, hV, hbk⟩ := hrel
    by_cases hlt : k < n
    · obtain ⟨g, rfl⟩ : ∃ g, gk = g + 1 := ⟨gk - 1, by omega⟩
      have hi0 : (0 : Int) ≤ (k : Int) := by omega
      have hi1 : (k : Int) < (n : Int) := by omega
      have hlt2 : k < d.n := by rw [hne'.out]; exact hlt
      have D2 := Lib.hid (show IsDkS wr B G A d d.seen from IsDkS.on h'.out hB (Nat.le_refl _))
      have k1 : wr.cell? ⟨G, 1, none⟩ = some (.slice (some ⟨A.f, 0, none⟩) n n) := by rw [hB.cell (p := ⟨G, 1, none⟩) hGl.out]; exact c1
      have hx := Lib.hid (secs_bat D2.out.firm D2.out.fine.firm hlt2)
      have hl := Lib.hid (D2.out.fine.firm k hlt2)
      have hB' := Lib.hid hB
      have hR' := Lib.hid hR
      have hV' := Lib.hid hV
      have hbk' := Lib.hid hbk
      have hgl' := Lib.hid hgl
      clear hB hR hV hbk c1 c1' hlt2
      go_wp2_with (go_at_call 49; refine (clone_b _ _ 128 (d.firm k) _ hl.out (by omega) hx.out (fun h => by cases h)).mono ?_; rintro e w3 ⟨v1, rfl, ho1, hb1⟩; obtain ⟨g1, cap1, rfl, _, hg1, hg2⟩ := ho1.at hl.out (by omega); have O1 := Lib.hid ho1; have B1 := Lib.hid hb1; have hR3 := Lib.hid (hR'.out.of_block (hb1.block _ hgl'.out)); have k2 := hR3.out.cell hlt; have k3 := hR3.out.frozen k; simp only [Nat.lt_irrefl, if_false, nilV] at k2; clear ho1 hb1)
      go_roundg g
      case measure => omega
      case rel =>
        have hset : ∀ (v : Value) (j : Nat), j ≠ w.heap.size → (w3.setCell ⟨w.heap.size, k, none⟩ v).heap[j]? = w3.heap[j]? := fun v j hj => Below.heap_setCell _ _ _ _ hj
        refine ⟨k + 1, fun j => if j = k then .slice (some ⟨g1, 0, none⟩) 128 cap1 else V j, fun j => if j = k then g1 else bk j, by omega, by go_num, ?_, ?_, ?_, ?_, ?_⟩
        · exact (hB'.out.trans (B1.out.mono hB'.out.size)).setCell (p := ⟨w.heap.size, k, none⟩) (Nat.le_refl _) _
        · simp [World.setCell]; have := B1.out.size; have := hgl'.out; omega
        · refine (hR3.out.set k (.slice (some ⟨g1, 0, none⟩) 128 cap1)).congr (fun j hj => ?_)
          by_cases e : j = k
          · subst e
            simp
          · rw [if_neg e]
            by_cases e2 : j < k
            · simp only [if_neg e, if_pos e2, if_pos (show j < k + 1 by omega)]
            · rw [if_neg e2, if_neg (by omega)]
        · intro j hj
          by_cases e : j = k
          · subst e
            simp only [if_true]
            refine ⟨(O1.out.lower hB'.out.size).block (fun m hm => hset _ m ?_), rfl, ?_⟩
            · have : g1 = m := Option.some.inj hm
              have := hgl'.out; omega
            · have := hgl'.out; omega
          · simp only [if_neg e]
            obtain ⟨o1, o2, o3⟩ := hV'.out j (by omega)
            refine ⟨(o1.on B1.out (Nat.le_refl _)).block (fun m hm => hset _ m ?_), o2, o3⟩
            rw [o2] at hm
            have : bk j = m := Option.some.inj hm
            omega
        · intro i j hij hj
          by_cases e : j = k
          · subst e
            show (if i = j then g1 else bk i) < (if j = j then g1 else bk j)
            rw [if_pos rfl, if_neg (by omega)]
            obtain ⟨o1, o2, o3⟩ := hV'.out i (by omega)
            have := (o1.lt _ o2).2
            omega
          · simp only [if_neg e, if_neg (show ¬ i = k by omega)]
            exact hbk'.out i j hij (by omega)
    · obtain rfl : k = n := by omega
      have hR' := Lib.hid hR
      have hB' := Lib.hid hB
      have hV' := Lib.hid hV
      have hbk' := Lib.hid hbk
      clear hR hB hV hbk
      go_wp2_with fail
      go_ret
      exact ⟨_, V, bk, rfl, ⟨hR'.out.congr (fun j hj => by rw [if_pos hj]), Nat.le_refl _, hV'.out, hbk'.out⟩, hB'.out⟩
end Go.Proofs.Ytnfaeejeipbciaa
end

section
set_option linter.unusedVariables false
set_option linter.unusedSimpArgs false
namespace Go.Proofs.Ytnfaeejeipbciaa
open Go.RowKit BigFrame

/-- n sectors of zeros, as cells -/
def zsecs (n : Nat) : Array Value := madeCells (bv (zs 128)).toArray (n * 128)
theorem zsecs_get {n i j : Nat} (hi : i < n) (hj : j < 128) : (zsecs n)[i * 128 + j]? = some (.int .u8 0) := by
  have h : i * 128 + j < n * 128 := by have := Nat.mul_le_mul_right 128 (show i + 1 ≤ n from hi); omega
  have hm : (i * 128 + j) % 128 = j := by omega
  have hs : (bv (zs 128)).toArray.size = 128 := by rw [List.size_toArray, bv_length, zs_length]
  have hg : (bv (zs 128)).toArray[j]! = .int .u8 0 := by
    have := bv_get (l := zs 128) (k := j) (by rw [zs_length]; exact hj)
    rw [getElem!_def, List.getElem?_toArray, this, zs, bz_rep _ _ _ hj]; rfl
  obtain ⟨C, hC⟩ : ∃ C, (bv (zs 128)).toArray = C := ⟨_, rfl⟩
  rw [zsecs, madeCells, Array.getElem?_map, Array.getElem?_range, hC]
  rw [hC] at hs hg
  simp only [h, if_true, Option.map_some, hs, hm, hg]
theorem zsecs_size (n : Nat) : (zsecs n).size = n * 128 := by simp [zsecs, madeCells]
theorem secs_zs {w : World} {g n : Nat} (h : w.heap[g]? = some (.cells (zsecs n) 90 (0, 0))) : Secs w g n (fun _ => zs 128) := fun i hi => by
  refine ⟨fun j v hv => ?_, fun j hj => ?_⟩
  · obtain ⟨hj, rfl⟩ := bv_at hv
    rw [zs_length] at hj
    rw [cell_of_row _ _ _ _ _ _ h, zsecs_get hi hj, zs, bz_rep _ _ _ hj]
    rfl
  · rw [cell_of_row _ _ _ _ _ _ h, zsecs_get hi hj, frozen_of_row _ _ _ _ _ h]
    exact ⟨rfl, rfl⟩
theorem Try.infoS : (Try.prog.info? 90).map (fun i => (i.zero, i.size, i.bytes)) = some (some (.agg (bv (zs 128)).toArray), 128, 128) := by kernel_rfl
theorem run_make_secs (n : Nat) (hn : n ≤ 2048) (w : World) :
    (Instr.makeSlice 64 (.int .i64 (n : Int)) (.int .i64 (n : Int))).run Try.prog w = .ok (.slice (some ⟨w.heap.size, 0, none⟩) n n) (w.alloc (.cells (zsecs n) 90)) := by
  obtain ⟨i, hi, hz0, hz1, hz2⟩ := info_parts Try.infoS
  have hr := run_make (P := Try.prog) w 64 90 i _ Try.underlying64 hi hz0 .i64 .i64 n n (by omega) (Int.le_refl _) (by rw [hz2]; omega) (by omega)
  simp only [Int.toNat_natCast, hz1] at hr
  exact hr

/-- a new disk -/
def GivesD (d : Dk) (w : World) (e : Ending) (w' : World) : Prop := ∃ (G : Nat) (A : Lies), e = .returned (.pointer (some ⟨G, 0, none⟩)) ∧ IsDk w' w.heap.size G A d ∧ Below w.heap.size w w'

theorem isdk_new (w : World) (n f s : Nat) (hn : n ≤ 2048) (hf : f = w.heap.size ∧ s = w.heap.size + 1 ∨ s = w.heap.size ∧ f = w.heap.size + 1) :
    IsDk (((w.alloc (.cells (zsecs n) 90)).alloc (.cells (zsecs n) 90)).alloc (.cells (hcells ⟨f, s, .slice none 0 0, .slice none 0 0, .slice none 0 0⟩ (Dk.fresh n fun _ => zs 128)) 69)) w.heap.size (w.heap.size + 2)
      ⟨f, s, .slice none 0 0, .slice none 0 0, .slice none 0 0⟩ (Dk.fresh n fun _ => zs 128) := by
  obtain ⟨w1, hw1⟩ : ∃ w1, w.alloc (.cells (zsecs n) 90) = w1 := ⟨_, rfl⟩
  obtain ⟨w2, hw2⟩ : ∃ w2, w1.alloc (.cells (zsecs n) 90) = w2 := ⟨_, rfl⟩
  have s1 : w1.heap.size = w.heap.size + 1 := by rw [← hw1]; simp
  have s2 : w2.heap.size = w.heap.size + 2 := by rw [← hw2]; simp [s1]
  have b1 : w2.heap[w.heap.size]? = some (.cells (zsecs n) 90 (0, 0)) := by
    rw [← hw2, heap_alloc_old _ _ (by omega), ← hw1]; exact heap_alloc_new _ _
  have b2 : w2.heap[w.heap.size + 1]? = some (.cells (zsecs n) 90 (0, 0)) := by
    rw [← hw2, ← s1]; exact heap_alloc_new _ _
  rw [hw1, hw2]
  have hF : ∀ k, k = w.heap.size ∨ k = w.heap.size + 1 → (w2.alloc (.cells (hcells ⟨f, s, .slice none 0 0, .slice none 0 0, .slice none 0 0⟩ (Dk.fresh n fun _ => zs 128)) 69)).heap[k]? = some (.cells (zsecs n) 90 (0, 0)) := by
    intro k hk
    rw [heap_alloc_old _ _ (by omega)]
    rcases hk with rfl | rfl
    · exact b1
    · exact b2
  refine ⟨.fresh hn (fun i _ => zs_length 128), ?_, secs_zs (hF f (by omega)), (secs_zs (hF s (by omega))).congr (fun i _ => rfl), World.ownsRow_nil _ _ _ _, World.ownsRow_nil _ _ _ _, World.ownsRow_nil _ _ _ _, ?_, ?_⟩
  · show (w2.alloc _).heap[w.heap.size + 2]? = _
    rw [← s2]; exact heap_alloc_new _ _
  · simp [Lies.foot, Value.ownBlock]; omega
  · intro k hk
    simp [Lies.foot, Value.ownBlock] at hk
    simp [s2]; omega

theorem below_new (w : World) (n : Nat) (o : Obj) : Below w.heap.size w (((w.alloc (.cells (zsecs n) 90)).alloc (.cells (zsecs n) 90)).alloc o).drew :=
  ((((Below.refl _ _).alloc (Nat.le_refl _) _).alloc (by simp) _).alloc (by simp; omega) _).drew

set_option maxHeartbeats 1000000 in
theorem new_some (n : Nat) (w : World) (h0 : 0 < n) (hn : n ≤ 2048) :
    Calls Try.prog 8 #[.int .i64 (n : Int)] w (GivesD (.fresh n fun _ => zs 128) w) := by
  have hmk := run_make_secs n hn
  have t1 : decide ((n : Int) < 1) = false := by simp; omega
  have t2 : decide (2048 < (n : Int)) = false := by simp; omega
  go_enter Try.func8, Try.ntmps8
  go_wp2_with fail
  go_region
  all_goals go_wp2_with fail
  · go_ret
    exact ⟨w.heap.size + 2, ⟨w.heap.size, w.heap.size + 1, .slice none 0 0, .slice none 0 0, .slice none 0 0⟩, rfl, IsDkS.drew1 (isdk_new w n _ _ hn (.inl ⟨rfl, rfl⟩)), below_new w n _⟩
  · go_ret
    exact ⟨w.heap.size + 2, ⟨w.heap.size + 1, w.heap.size, .slice none 0 0, .slice none 0 0, .slice none 0 0⟩, rfl, IsDkS.drew1 (isdk_new w n _ _ hn (.inr ⟨rfl, rfl⟩)), below_new w n _⟩
theorem new_none (n : Int) (w : World) (hn : n < 1 ∨ 2048 < n) :
    Calls Try.prog 8 #[.int .i64 n] w fun e w' => e = .returned (.pointer none) ∧ w = w' := by
  by_cases h1 : n < 1
  · go_enter Try.func8, Try.ntmps8
    go_wp2_with fail
    go_ret
    exact ⟨rfl, rfl⟩
  · have h2 : 2048 < n := by omega
    clear hn
    go_enter Try.func8, Try.ntmps8
    go_wp2_with fail
    go_ret
    exact ⟨rfl, rfl⟩
theorem new_c (C : Int) (n : Nat) (w : World) (hC : C = (n : Int)) (h0 : 0 < n) (hn : n ≤ 2048) :
    Calls Try.prog 8 #[.int .i64 C] w (GivesD (.fresh n fun _ => zs 128) w) := by
  subst hC; exact new_some n w h0 hn
end Go.Proofs.Ytnfaeejeipbciaa
end

section
set_option linter.unusedVariables false
set_option linter.unusedSimpArgs false
namespace Go.Proofs.Ytnfaeejeipbciaa
open Go.RowKit BigFrame

def Woke (w : World) (e : Ending) (w' : World) : Prop := e = .returned (.bool true) ∧ Below w.heap.size w w'
/-- since w0 nothing that was there has turned; and the disk stands -/
structure Live (w0 w : World) (G : Nat) (A : Lies) (d : Dk) : Prop where
  below : Below w0.heap.size w0 w
  disk : IsDk w w0.heap.size G A d
theorem Live.call {w0 w w' : World} {G : Nat} {A A' : Lies} {d d' : Dk} (h : Live w0 w G A d) (hd : IsDk w' w0.heap.size G A' d') (hs : Step w (A.foot G) w' (A'.foot G)) : Live w0 w' G A' d' :=
  ⟨h.below.trans (hs.below h.below.size (fun k hk => (IsDkS.over h.disk k hk).1)), hd⟩
theorem Live.read {w0 w w' : World} {G : Nat} {A : Lies} {d : Dk} (h : Live w0 w G A d) (hb : Below w.heap.size w w') : Live w0 w' G A d :=
  ⟨h.below.trans (hb.mono h.below.size), IsDkS.on h.disk hb (Nat.le_refl _)⟩
theorem Live.drewN {w0 w : World} {G m : Nat} {A : Lies} {d : Dk} (h : Live w0 w G A d) : Live w0 (w.drewN m) G A d := h.read (below_drewN w m)
theorem Live.new {w0 w w' : World} {G : Nat} {A : Lies} {d : Dk} (h : Below w0.heap.size w0 w) (hd : IsDk w' w.heap.size G A d) (hb : Below w.heap.size w w') : Live w0 w' G A d :=
  ⟨h.trans (hb.mono h.size), ⟨IsDkS.fine hd, IsDkS.hdr hd, IsDkS.firm hd, IsDkS.seen hd, own_lower (IsDkS.waits hd) h.size, own_lower (IsDkS.log hd) h.size, own_lower (IsDkS.keep hd) h.size, IsDkS.apart hd, fun k hk => ⟨Nat.le_trans h.size (IsDkS.over hd k hk).1, (IsDkS.over hd k hk).2⟩⟩⟩
theorem Live.base {w0 w : World} {G : Nat} {A : Lies} {d : Dk} (h : Live w0 w G A d) : w0.heap.size ≤ w.heap.size := h.below.size
theorem Live.fresh {w0 w w' : World} {G g : Nat} {A : Lies} {d : Dk} (h : Live w0 w G A d) (hg : w.heap.size ≤ g) (hlt : g < w'.heap.size) : Off w' (A.foot G) g :=
  ⟨fun e => by have := (IsDkS.over h.disk g e).2; omega, hlt⟩
/-- another cell is written -/
theorem Live.set {w0 w : World} {G g k : Nat} {A : Lies} {d : Dk} (h : Live w0 w G A d) (ho : Off w (A.foot G) g) (hg : w0.heap.size ≤ g) (v : Value) : Live w0 (w.setCell ⟨g, k, none⟩ v) G A d :=
  ⟨h.below.setCell (p := ⟨g, k, none⟩) hg v, IsDkS.setOther h.disk (a := ⟨g, k, none⟩) ho.1 v⟩
theorem fell_noset {d : Dk} (h : d.set = false) : d.fell = d := by simp [Dk.fell, h]
theorem fall_noset {d : Dk} (h : d.set = false) : d.fall = false := by simp [Dk.fall, h]
theorem OwnB.off {w w' : World} {F F' : List Nat} {base : Nat} {v : Value} {l : List Nat} (h : OwnB w base v l) (hs : Step w F w' F') (ho : ∀ k, v.ownBlock = some k → Off w F k) : OwnB w' base v l :=
  h.block (fun k hk => hs.same (ho k hk))
theorem write_ns (w : World) (B : Nat) (G : Nat) (A : Lies) (d : Dk) (C : Int) (a : Nat) (bb bo bn bcap : Nat) (l : List Nat) (hC : C = (a : Int)) (hbn : bn = 128) (h : IsDk w B G A d) (hon : d.on = true) (hset : d.set = false) (ha : a < d.n) (hl : l.length = 128) (hbc : 128 ≤ bcap) (hx : BAt w (some ⟨bb, bo, none⟩) l) (hoff : Off w (A.foot G) bb) (hm1 : d.waits.length < 1000) (hm2 : d.log.length < 1000) :
    Calls Try.prog 56 #[.pointer (some ⟨G, 0, none⟩), .int .i64 C, .slice (some ⟨bb, bo, none⟩) bn bcap] w (GivesS (.int .i64 0) (d.wrote a l) B G A w) := by
  subst hC
  subst hbn
  have := write_go w B G A d a bb bo bcap l h hon ha hl hbc hx hoff (fall_noset hset) (by rw [fell_noset hset]; exact hm1) (by rw [fell_noset hset]; exact hm2)
  rwa [fell_noset hset] at this
theorem crash_nil (w : World) (B : Nat) (G : Nat) (A : Lies) (d : Dk) (h : IsDk w B G A d) :
    Calls Try.prog 39 #[.pointer (some ⟨G, 0, none⟩), .slice none 0 0] w (GivesS (.tuple #[]) (d.crashed []) B G A w) :=
  crash_any w B G A d h none 0 0 [] rfl (Nat.le_refl _) (by omega) (.inl rfl) (fun b o h => by omega)
theorem boot_off (w : World) (B : Nat) (G : Nat) (A : Lies) (d : Dk) (h : IsDk w B G A d) (hon : d.on = false) :
    Calls Try.prog 37 #[.pointer (some ⟨G, 0, none⟩)] w (GivesS (.int .i64 0) d.booted B G A w) := by
  have := boot_any w B G A d h
  rwa [hon] at this
theorem boot_on (w : World) (B : Nat) (G : Nat) (A : Lies) (d : Dk) (h : IsDk w B G A d) (hon : d.on = true) :
    Calls Try.prog 37 #[.pointer (some ⟨G, 0, none⟩)] w (GivesS (.int .i64 19) d B G A w) := by
  have := boot_any w B G A d h
  rw [hon] at this
  rwa [show d.booted = d by unfold Dk.booted; cases d; simp only at hon; subst hon; rfl] at this
theorem read_c (w : World) (B : Nat) (G : Nat) (A : Lies) (d : Dk) (C : Int) (a : Nat) (l : List Nat) (hC : C = (a : Int)) (h : IsDk w B G A d) (hon : d.on = true) (ha : a < d.n) (hl : d.seen a = l) :
    Calls Try.prog 28 #[.pointer (some ⟨G, 0, none⟩), .int .i64 C] w (GivesR l 0 w) := by
  subst hC; subst hl; exact read_go w B G A d a h hon ha
theorem rowIs_ints {w : World} {g n : Nat} {D : Nat → Int} (h : w.rowIs g 3 n (fun j => .int .i64 (D j))) : IntsAt w (some ⟨g, 0, none⟩) n D := .inr ⟨g, 0, rfl, fun k hk => by rw [Nat.zero_add]; exact h.cell hk⟩
end Go.Proofs.Ytnfaeejeipbciaa
end
