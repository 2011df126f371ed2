/-
  A cache's list: one put into it ahead of others.
  A cache's list: one put into it ahead of others, where there is no room; and wherever.
  A cache: the oldest of those that may go, gone.
-/
import Derived.Test.YtedbfehoeflmgaaB7
import Derived.Shelf.Spec.SlicesInsertGrow
import Derived.StillTailTactics
import Derived.Deep.LoopGhost

section
set_option linter.unusedVariables false
set_option linter.unusedSimpArgs false
namespace Go.Proofs.Ytedbfehoeflmgaa
open Go.RowKit BigFrame Go.Lib Go.Sort
set_option maxRecDepth 100000

section
variable {w w1 : World} {B : Nat} {c : Ck} {L L' : List Sx}
theorem vw_shape {t : TypeId} {g : Nat} {l : List Value} (h : Vw w t g l) : w.shape? g = some (t, l.length) := by
  unfold Vw at h
  simp [World.shape?, h]
theorem isSome_vw {t : TypeId} {g k : Nat} {l : List Value} (h : Vw w t g l) (hk : k < l.length) : (w.cell? ⟨g, k, none⟩).isSome = true := by rw [h.cell (List.getElem?_eq_getElem hk)]; rfl
theorem pvs_drop (L : List Sx) (i : Nat) : (pvs L).drop i = pvs (L.drop i) := by simp [pvs]
set_option maxHeartbeats 4000000 in
/-- there is room -/
theorem ins_room {g cap i : Nat} {cur : List Value} (hcu : Vw w 81 g cur) (hcl : cur.length = cap) (hn : L.length + 1 ≤ cap) (hm : cap ≤ maxLen) (hB : B ≤ g) (hcx : ∀ (k : Nat) (x : Sx), L[k]? = some x → cur[k]? = some (pv x.blk))
    (hi : i < L.length) (hL : L.length ≤ 100000) {x : Sx} {vb : Nat} (hv : Vw w 81 vb [pv x.blk]) (hvb : vb ≠ g) :
    Calls Try.prog 66 #[.slice (some ⟨g, 0, none⟩) L.length cap, .int .i64 (i : Int), .slice (some ⟨vb, 0, none⟩) 1 1] w (OwnPost B (.slice (some ⟨g, 0, none⟩) L.length cap) (insL' L i x) w) := by
  obtain ⟨n, hln⟩ : ∃ n, L.length = n := ⟨_, rfl⟩
  have hln' := Lib.hid hln
  rw [hln] at hn hi hL ⊢
  have hsz : (Try.prog.info? 81).map (·.size) = some 1 := by
    obtain ⟨i0, hi0, h0, h1, h2⟩ := info_parts Try.infoPt
    rw [hi0]; simp [h1]
  have hov : ∀ lb cb, (callFunc 73 #[.slice (some ⟨vb, 0, none⟩) 1 1, .slice (some ⟨g, i + 1, none⟩) lb cb]).run Try.prog w = .ok (.value (.bool false)) w := fun lb cb => by
    rw [run_callFunc_extern Try.func73 (by kernel_rfl) (by kernel_rfl) (by kernel_rfl) (e := Extern.SlicesOverlaps.overlaps #[71, 71] #[4]) (by kernel_rfl),
      Lib.run_overlaps_apart w 71 4 81 Try.underlying71 1 Try.sizeOf81 ⟨vb, 0, none⟩ ⟨g, i + 1, none⟩ 1 1 lb cb hvb 81 81 1 cap (vw_shape hv) (by rw [← hcl]; exact vw_shape hcu) (by omega) (hv.frozen 0) (hv.frozen 1)]
    rfl
  obtain ⟨mv, hmv⟩ : ∃ mv, pvs (L.drop i) = mv := ⟨_, rfl⟩
  have hml : mv.length = n - i := by rw [← hmv, pvs_len, List.length_drop, hln]
  have hm1 : ∀ v ∈ mv, v.oneCell' = true := by rw [← hmv]; exact pvs_one _
  have hmg : ∀ (j : Nat) (v : Value), mv[j]? = some v → cur[i + j]? = some v := fun j v hj => by
    rw [← hmv] at hj
    unfold pvs at hj
    rw [List.getElem?_map, List.getElem?_drop] at hj
    obtain ⟨y, hy, rfl⟩ := Option.map_eq_some_iff.1 hj
    exact hcx _ y hy
  have hcp1 : ∀ ty dc sc, (Builtin.copy_ #[71, 71] ty #[.slice (some ⟨g, i + 1, none⟩) (n - i) dc, .slice (some ⟨g, i, none⟩) (n + 1 - i) sc]).run Try.prog w.drew = .ok (goInt mv.length) (w.drew.setCells g (i + 1) mv) := fun ty dc sc =>
    run_copy_cells w.drew _ _ ty 81 g (i + 1) (n - i) dc ⟨g, i, none⟩ (n + 1 - i) sc mv Try.underlying71 hsz (by rw [hml]; simp only [Nat.min_def]; split <;> omega)
      (fun j v hj => by rw [Addr.add_lit]; exact hcu.cell (hmg j v hj))
      (fun j hj => isSome_vw (w := w) hcu (by rw [hml] at hj; omega)) (fun j hj => hcu.frozen _) hm1
  have V1 : Vw (w.drew.setCells g (i + 1) mv) 81 g (splice cur (i + 1) mv) := Vw.put mv (i + 1) hcu.drew1 (by rw [hml]; omega)
  have hl1 : (splice cur (i + 1) mv).length = cap := by rw [splice_len (by rw [hml]; omega), hcl]
  have V2 : Vw (w.drew.setCells g (i + 1) mv) 81 vb [pv x.blk] := by
    unfold Vw
    rw [setCells_block _ _ _ _ _ hvb]; exact hv
  have hcp2 : ∀ ty dc, (Builtin.copy_ #[71, 71] ty #[.slice (some ⟨g, i, none⟩) (n + 1 - i) dc, .slice (some ⟨vb, 0, none⟩) 1 1]).run Try.prog (w.drew.setCells g (i + 1) mv) = .ok (goInt [pv x.blk].length) ((w.drew.setCells g (i + 1) mv).setCells g i [pv x.blk]) := fun ty dc =>
    run_copy_cells _ _ _ ty 81 g i (n + 1 - i) dc ⟨vb, 0, none⟩ 1 1 [pv x.blk] Try.underlying71 hsz (by simp only [List.length_singleton, Nat.min_def]; split <;> omega)
      (fun j v hj => by rw [Addr.add_lit]; exact V2.cell (by rw [Nat.zero_add]; exact hj))
      (fun j hj => isSome_vw V1 (by rw [hl1]; simp at hj; omega)) (fun j hj => V1.frozen _) (fun v hv => by rw [List.mem_singleton] at hv; subst hv; rfl)
  have hend : OwnPost B (.slice (some ⟨g, 0, none⟩) n cap) (insL' L i x) w (.returned (.slice (some ⟨g, 0, none⟩) (n + 1) cap)) ((w.drew.setCells g (i + 1) mv).setCells g i [pv x.blk]) := by
    refine ⟨_, rfl, ?_, ?_, fun k hk => .inl hk⟩
    rotate_left
    · have t0 : TurnS (fun k => (Value.slice (some ⟨g, 0, none⟩) n cap).ownBlock = some k) w w.drew := TurnS.drew _ w 1
      exact turnS_setCells (turnS_setCells t0 g (i + 1) mv (.inl rfl)) g i [pv x.blk] (.inl rfl)
    have hlen : (insL' L i x).length = n + 1 := by rw [insL'_len x (by omega), hln]
    have V3 := Vw.put [pv x.blk] i V1 (by rw [hl1, List.length_singleton]; omega)
    have := own_of_cur (B := B) (L := insL' L i x) V3 (by rw [splice_len (by rw [hl1, List.length_singleton]; omega), hl1]) (by rw [hlen]; exact hn) hm hB (fun k y hy => by
      rw [splice_at (by rw [hl1, List.length_singleton]; omega)]
      rcases insL'_get (by omega) hy with ⟨h1, h2⟩ | ⟨rfl, rfl⟩ | ⟨h1, h2⟩
      · rw [if_pos h1, splice_at (by rw [hml]; omega), if_pos (by omega)]; exact hcx k y h2
      · rw [if_neg (by omega), if_pos (by rw [List.length_singleton]; omega), Nat.sub_self]; rfl
      · have hkl := (List.getElem?_eq_some_iff.1 h2).1
        rw [if_neg (by omega), if_neg (by rw [List.length_singleton]; omega), splice_at (by rw [hml]; omega), if_neg (by omega), if_pos (by rw [hml]; omega), ← hmv]
        unfold pvs
        rw [List.getElem?_map, List.getElem?_drop, show i + (k - (i + 1)) = k - 1 by omega, h2]; rfl)
    rw [hlen] at this ⊢
    exact this
  obtain ⟨W1, hW1⟩ : ∃ W1, w.drew.setCells g (i + 1) mv = W1 := ⟨_, rfl⟩
  rw [hW1] at hcp1 hcp2 hend
  have hend' := Lib.hid hend
  obtain ⟨px, hpx⟩ : ∃ px, pv x.blk = px := ⟨_, rfl⟩
  rw [hpx] at hcp2 hend'
  have hz2 : ¬ ((i : Int) = (n : Int)) := by omega
  have hw1 : IntKind.i64.wrap ((n : Int) + 1) = (n : Int) + 1 := by rw [IntKind.wrap_i64]; omega
  have hw2 : IntKind.i64.wrap ((i : Int) + 1) = (i : Int) + 1 := by rw [IntKind.wrap_i64]; omega
  have hb1 : (0 : Int) ≤ (i : Int) + 1 := by omega
  have hb0 : (i : Int) ≤ (n : Int) := by omega
  have hb3 : (i : Int) ≤ (n : Int) + 1 := by omega
  have hb5 : (i : Int) + 1 ≤ (n : Int) + 1 := by omega
  have hb6 : (n : Int) + 1 ≤ (cap : Int) := by omega
  have hb7 : ¬ ((cap : Int) < (n : Int) + 1) := by omega
  have htn : ((i : Int) + 1).toNat = i + 1 := by omega
  have htn2 : ((n : Int) + 1).toNat = n + 1 := by omega
  have hb2 : ¬ (cap = i + 1) := by omega
  have hb4 : ¬ (cap = i) := by omega
  have hsub : n + 1 - (i + 1) = n - i := by omega
  have mixed := Try.searchOf.mixed
  clear hcu hcx hv V1 V2 hend hmg hml hm1 hmv hl1 hW1 hpx
  go_enter Try.func66, Try.ntmps66
  go_wp2_with (simp only [hov])
  go_region_law_o (refine step_copy_runI rfl _ _ 71 71 rfl _ _ (by simp [Act.eval, Act.put]) (by simp [Act.eval, Act.put]) (hcp1 _ _ _) ?_)
  go_wp2_with (at_builtin; refine wpList_copy_runI _ rfl _ _ 71 71 rfl _ _ rfl rfl (hcp2 _ _) ?_)
  go_ret
  exact hend'.out
end
end Go.Proofs.Ytedbfehoeflmgaa
end

section
set_option linter.unusedVariables false
set_option linter.unusedSimpArgs false
namespace Go.Proofs.Ytedbfehoeflmgaa
open Go.RowKit BigFrame Go.Lib Go.Sort
set_option maxRecDepth 100000

section
variable {w w1 : World} {B : Nat} {c : Ck} {L L' : List Sx}
set_option maxHeartbeats 4000000 in
theorem ins_grow {g cap i : Nat} {cur : List Value} (hcu : Vw w 81 g cur) (hcl : cur.length = cap) (hnc : L.length ≤ cap) (hno : cap < L.length + 1) (hB : B ≤ w.heap.size) (hcx : ∀ (k : Nat) (x : Sx), L[k]? = some x → cur[k]? = some (pv x.blk))
    (hi : i < L.length) (hL : L.length ≤ 100000) {x : Sx} {vb : Nat} (hv : Vw w 81 vb [pv x.blk]) :
    Calls Try.prog 66 #[.slice (some ⟨g, 0, none⟩) L.length cap, .int .i64 (i : Int), .slice (some ⟨vb, 0, none⟩) 1 1] w (OwnPost B (.slice (some ⟨g, 0, none⟩) L.length cap) (insL' L i x) w) := by
  obtain ⟨n, hln⟩ : ∃ n, L.length = n := ⟨_, rfl⟩
  have hln' := Lib.hid hln
  rw [hln] at hnc hno hi hL ⊢
  obtain ⟨i0, hi0, hz0, hzs, hzb⟩ := info_parts Try.infoPt
  have hsz : (Try.prog.info? 81).map (·.size) = some 1 := by rw [hi0]; simp [hzs]
  have hbw := hcu.lt
  have hvw := hv.lt
  have hkk : (n : Int) + 1 - (i : Int) = ((n + 1 - i : Nat) : Int) := by omega
  have hik : i + (n + 1 - i) = n + 1 := by omega
  obtain ⟨hd, hhd⟩ : ∃ hd, pvs (L.take i) = hd := ⟨_, rfl⟩
  have hhl : hd.length = i := by rw [← hhd, pvs_len, List.length_take, hln]; omega
  obtain ⟨mv, hmv⟩ : ∃ mv, pvs (L.drop i) = mv := ⟨_, rfl⟩
  have hml : mv.length = n - i := by rw [← hmv, pvs_len, List.length_drop, hln]
  have hm1 : ∀ v ∈ mv, v.oneCell' = true := by rw [← hmv]; exact pvs_one _
  have hmg : ∀ (j : Nat) (v : Value), mv[j]? = some v → cur[i + j]? = some v := fun j v hj => by
    rw [← hmv] at hj
    unfold pvs at hj
    rw [List.getElem?_map, List.getElem?_drop] at hj
    obtain ⟨y, hy, rfl⟩ := Option.map_eq_some_iff.1 hj
    exact hcx _ y hy
  have hhg : ∀ (j : Nat) (v : Value), hd[j]? = some v → cur[j]? = some v := fun j v hj => by
    rw [← hhd] at hj
    unfold pvs at hj
    rw [List.getElem?_map, List.getElem?_take] at hj
    obtain ⟨y, hy, rfl⟩ := Option.map_eq_some_iff.1 hj
    split at hy
    · exact hcx _ y hy
    · cases hy
  have hold : (Builtin.firstCells i0.size i (.slice (some ⟨g, 0, none⟩) i cap)).run Try.prog w.drew = .ok hd.toArray w.drew := by
    rw [hzs]
    exact run_firstCells_some w.drew 1 i ⟨g, 0, none⟩ i cap hd (by omega) (fun j v hj => by
      rw [Addr.add_lit, Nat.zero_add]
      exact hcu.cell (hhg j v hj))
  obtain ⟨zc, hzc⟩ : ∃ zc, (Value.pointer none).cells = zc := ⟨_, rfl⟩
  have hzcl : zc.size = 1 := by rw [← hzc]; rfl
  have hrz : ∀ ty, (Builtin.append_ #[71, 3] ty #[.slice (some ⟨g, 0, none⟩) i cap, .int .i64 ((n : Int) + 1 - (i : Int))]).run Try.prog w =
      .ok (.slice (some ⟨w.heap.size, 0, none⟩) (n + 1) (grownCap w (n + 1) cap 81)) (w.drew.alloc (.cells (hd.toArray ++ Builtin.zeroCells zc (n + 1 - i) ++ Builtin.zeroCells zc (grownCap w (n + 1) cap 81 - (n + 1))) 81)) := fun ty => by
    have h := Lib.run_append_grow_zeros w 71 3 ty 81 i0 _ .i64 .i64 Try.underlying71 Try.underlying3 hi0 hz0 (some ⟨g, 0, none⟩) i cap hd hold (n + 1 - i) (by omega) (by omega) (by omega) (by omega) (by rw [hzb]; omega) (by rw [hzb, hik]; exact growslice_fits hno (by omega))
    rw [hik, hzc] at h
    rw [hkk]
    exact h
  obtain ⟨G, hG⟩ : ∃ G, grownCap w (n + 1) cap 81 = G := ⟨_, rfl⟩
  have hGn : n + 1 ≤ G := by rw [← hG]; exact grownCap_ge w _ _ _
  have hGm : G ≤ maxLen := by rw [← hG]; exact grownCap_le_maxLen w (n + 1) cap 81 (by unfold maxLen; omega)
  obtain ⟨ROW, hROW⟩ : ∃ ROW : List Value, (hd.toArray ++ Builtin.zeroCells zc (n + 1 - i) ++ Builtin.zeroCells zc (grownCap w (n + 1) cap 81 - (n + 1))) = ROW.toArray := ⟨_, rfl⟩
  have hRl : ROW.length = G := by
    rw [← List.size_toArray, ← hROW, hG]
    simp [Builtin.zeroCells, hhl, hzcl]
    omega
  have hRh : ∀ k, k < i → ROW[k]? = hd[k]? := fun k hk => by
    rw [← List.getElem?_toArray, ← hROW, Array.append_assoc, Array.getElem?_append_left (by simpa [hhl] using hk), List.getElem?_toArray]
  rw [hROW, hG] at hrz
  obtain ⟨N, hN⟩ : ∃ N, w.heap.size = N := ⟨_, rfl⟩
  have V0 : Vw (w.drew.alloc (.cells ROW.toArray 81)) 81 N ROW := by rw [← hN]; exact Vw.alloc w.drew ROW _
  have U0 : Vw (w.drew.alloc (.cells ROW.toArray 81)) 81 g cur := by
    unfold Vw; rw [old_alloc _ _ _ (show g < w.drew.heap.size from hbw)]; exact hcu
  have X0 : Vw (w.drew.alloc (.cells ROW.toArray 81)) 81 vb [pv x.blk] := by
    unfold Vw; rw [old_alloc _ _ _ (show vb < w.drew.heap.size from hvw)]; exact hv
  have T0 : TurnS (fun k => (Value.slice (some ⟨g, 0, none⟩) n cap).ownBlock = some k) w (w.drew.alloc (.cells ROW.toArray 81)) := (TurnS.drew _ w 1).trans (TurnS.alloc _ _ _)
  obtain ⟨W1, hW1⟩ : ∃ W1, w.drew.alloc (.cells ROW.toArray 81) = W1 := ⟨_, rfl⟩
  rw [hN] at hrz
  rw [hW1] at hrz V0 U0 X0 T0
  have hgN : g ≠ N := by omega
  have hvN : vb ≠ N := by omega
  have hcpA : ∀ ty dc, (Builtin.copy_ #[71, 71] ty #[.slice (some ⟨N, i, none⟩) (n + 1 - i) dc, .slice (some ⟨vb, 0, none⟩) 1 1]).run Try.prog W1 = .ok (goInt [pv x.blk].length) (W1.setCells N i [pv x.blk]) := fun ty dc =>
    run_copy_cells _ _ _ ty 81 N i (n + 1 - i) dc ⟨vb, 0, none⟩ 1 1 [pv x.blk] Try.underlying71 hsz (by simp only [List.length_singleton, Nat.min_def]; split <;> omega)
      (fun j v hj => by rw [Addr.add_lit]; exact X0.cell (by rw [Nat.zero_add]; exact hj))
      (fun j hj => isSome_vw V0 (by rw [hRl]; simp at hj; omega)) (fun j hj => V0.frozen _) (fun v hv => by rw [List.mem_singleton] at hv; subst hv; rfl)
  have V1 := Vw.put [pv x.blk] i V0 (by rw [hRl, List.length_singleton]; omega)
  have hl1 : (splice ROW i [pv x.blk]).length = G := by rw [splice_len (by rw [hRl, List.length_singleton]; omega), hRl]
  have U1 : Vw (W1.setCells N i [pv x.blk]) 81 g cur := by
    unfold Vw; rw [setCells_block _ _ _ _ _ hgN]; exact U0
  have T1 : TurnS (fun k => (Value.slice (some ⟨g, 0, none⟩) n cap).ownBlock = some k) w (W1.setCells N i [pv x.blk]) := turnS_setCells T0 N i _ (.inr (by omega))
  obtain ⟨W2, hW2⟩ : ∃ W2, W1.setCells N i [pv x.blk] = W2 := ⟨_, rfl⟩
  rw [hW2] at hcpA V1 U1 T1
  have hcpB : ∀ ty dc sc, (Builtin.copy_ #[71, 71] ty #[.slice (some ⟨N, i + 1, none⟩) (n - i) dc, .slice (some ⟨g, i, none⟩) (n - i) sc]).run Try.prog W2.drew = .ok (goInt mv.length) (W2.drew.setCells N (i + 1) mv) := fun ty dc sc =>
    run_copy_cells W2.drew _ _ ty 81 N (i + 1) (n - i) dc ⟨g, i, none⟩ (n - i) sc mv Try.underlying71 hsz (by rw [hml]; simp)
      (fun j v hj => by rw [Addr.add_lit]; exact U1.cell (hmg j v hj))
      (fun j hj => isSome_vw (w := W2) V1 (by rw [hl1]; rw [hml] at hj; omega)) (fun j hj => V1.frozen _) hm1
  have hend : OwnPost B (.slice (some ⟨g, 0, none⟩) n cap) (insL' L i x) w (.returned (.slice (some ⟨N, 0, none⟩) (n + 1) G)) (W2.drew.setCells N (i + 1) mv) := by
    refine ⟨_, rfl, ?_, turnS_setCells (T1.trans (TurnS.drew _ W2 1)) N (i + 1) mv (.inr (by omega)), fun k hk => .inr (by have e : N = k := Option.some.inj hk; omega)⟩
    have hlen : (insL' L i x).length = n + 1 := by rw [insL'_len x (by omega), hln]
    have V2 : Vw (W2.drew.setCells N (i + 1) mv) 81 N (splice (splice ROW i [pv x.blk]) (i + 1) mv) := Vw.put mv (i + 1) V1.drew1 (by rw [hl1, hml]; omega)
    have := own_of_cur (B := B) (L := insL' L i x) V2 (by rw [splice_len (by rw [hl1, hml]; omega), hl1]) (by rw [hlen]; exact hGn) hGm (by omega) (fun k y hy => by
      rw [splice_at (by rw [hl1, hml]; omega)]
      rcases insL'_get (by omega) hy with ⟨h1, h2⟩ | ⟨rfl, rfl⟩ | ⟨h1, h2⟩
      · rw [if_pos (by omega), splice_at (by rw [hRl, List.length_singleton]; omega), if_pos h1, hRh k h1, ← hhd]
        unfold pvs
        rw [List.getElem?_map, List.getElem?_take, if_pos h1, h2]; rfl
      · rw [if_pos (by omega), splice_at (by rw [hRl, List.length_singleton]; omega), if_neg (by omega), if_pos (by rw [List.length_singleton]; omega), Nat.sub_self]; rfl
      · have hkl := (List.getElem?_eq_some_iff.1 h2).1
        rw [if_neg (by omega), if_pos (by rw [hml]; omega), ← hmv]
        unfold pvs
        rw [List.getElem?_map, List.getElem?_drop, show i + (k - (i + 1)) = k - 1 by omega, h2]; rfl)
    rw [hlen] at this ⊢
    exact this
  have hend' := Lib.hid hend
  obtain ⟨px, hpx⟩ : ∃ px, pv x.blk = px := ⟨_, rfl⟩
  rw [hpx] at hcpA
  have hz2 : ¬ ((i : Int) = (n : Int)) := by omega
  have hw1 : IntKind.i64.wrap ((n : Int) + 1) = (n : Int) + 1 := by rw [IntKind.wrap_i64]; omega
  have hw3 : IntKind.i64.wrap ((n : Int) + 1 - (i : Int)) = (n : Int) + 1 - (i : Int) := by rw [IntKind.wrap_i64]; omega
  have hw2 : IntKind.i64.wrap ((i : Int) + 1) = (i : Int) + 1 := by rw [IntKind.wrap_i64]; omega
  have hb1 : (0 : Int) ≤ (i : Int) + 1 := by omega
  have hb0 : (i : Int) ≤ (n : Int) := by omega
  have hb3 : (i : Int) ≤ (n : Int) + 1 := by omega
  have hb5 : (i : Int) + 1 ≤ (n : Int) + 1 := by omega
  have hb7 : (cap : Int) < (n : Int) + 1 := by omega
  have hb8 : (i : Int) ≤ (cap : Int) := by omega
  have htn : ((i : Int) + 1).toNat = i + 1 := by omega
  have hGi : ¬ (G = i) := by omega
  have hGim : ¬ (G = i + 1) := by omega
  have hb4 : ¬ (cap = i) := by omega
  have hsub : n + 1 - (i + 1) = n - i := by omega
  have mixed := Try.searchOf.mixed
  clear hcu hcx hv V0 U0 X0 T0 V1 U1 T1 hend hmg hml hm1 hmv hl1 hW1 hW2 hpx hkk hik hhd hhl hhg hold hzc hzcl hROW hRl hRh hG hi0 hz0 hzs hzb
  go_enter Try.func66, Try.ntmps66
  go_wp2_with (first
    | (at_builtin; refine Lib.wpList_append_run _ rfl _ _ _ _ rfl _ _ rfl rfl _ _ (hrz _) ?_)
    | (at_builtin; refine wpList_copy_runI _ rfl _ _ 71 71 rfl _ _ rfl rfl (hcpA _ _) ?_))
  go_region_law_o (refine step_copy_runI rfl _ _ 71 71 rfl _ _ (by simp [Act.eval, Act.put]) (by simp [Act.eval, Act.put]) (hcpB _ _ _) ?_)
  go_wp2_with fail
  go_ret
  exact hend'.out
/-- wherever -/
theorem ins_c {v : Value} (h : w.ownsRow B 81 1 v L.length (pvs L)) (hL : L.length ≤ 100000) (hB : B ≤ w.heap.size) {i : Nat} (hi : i ≤ L.length) {x : Sx} {vb : Nat} (hv : Vw w 81 vb [pv x.blk]) (hvb : v.ownBlock ≠ some vb) :
    Calls Try.prog 66 #[v, .int .i64 (i : Int), .slice (some ⟨vb, 0, none⟩) 1 1] w (OwnPost B v (insL' L i x) w) := by
  rcases Nat.lt_or_eq_of_le hi with hlt | heq
  · rcases own_form1 h with ⟨e, e0⟩ | ⟨g, cap, cur, e, hcu, hcl, hn, hm, hBg, hcx⟩
    · subst e0; simp at hlt
    · subst e
      have hvg : vb ≠ g := fun e => hvb (by rw [e]; rfl)
      by_cases hr : L.length + 1 ≤ cap
      · exact ins_room hcu hcl hr hm hBg hcx hlt hL hv hvg
      · exact ins_grow hcu hcl hn (by omega) hB hcx hlt hL hv
  · have e : insL' L i x = L ++ [x] := by
      unfold insL'
      rw [heq, List.take_length, List.drop_length]
    rw [e, heq]
    exact ins_end h hL hB hv
end
end Go.Proofs.Ytedbfehoeflmgaa
end

section
set_option linter.unusedVariables false
set_option linter.unusedSimpArgs false
namespace Go.Proofs.Ytedbfehoeflmgaa
open Go.RowKit BigFrame
set_option maxRecDepth 100000

theorem strL_len {k : Lit} : ∀ {l : List (Lit × Value)} {v : Value}, l.Pairwise (fun p q => p.1 ≠ q.1) → fndL l k = some v → (strL l k).length + 1 = l.length
  | [], _, _, h => by cases h
  | p :: r, v, hp, h => by
    obtain ⟨h1, h2⟩ := List.pairwise_cons.1 hp
    unfold fndL at h
    rw [List.find?_cons] at h
    unfold strL
    rw [List.filter_cons]
    cases hs : p.1.sameKey k with
    | true =>
      have hk := WideAt.sameKey_eq hs
      rw [if_neg (by simp)]
      rw [List.filter_eq_self.2 fun q hq => by
        cases hs2 : q.1.sameKey k with
        | false => rfl
        | true => exact absurd (hk.trans (WideAt.sameKey_eq hs2).symm) (h1 q hq)]
      rfl
    | false =>
      rw [hs] at h
      rw [if_pos (by simp)]
      have ih := strL_len (k := k) h2 (v := v) h
      unfold strL at ih
      simp only [List.length_cons]
      omega

section
variable {w w1 : World} {B : Nat} {c : Ck} {L L' : List Sx}
def Ck.drop (c : Ck) (n : Nat) : Ck := { c with H := dropN c.H n }
theorem drop_foot (c : Ck) (n : Nat) : ∀ k ∈ (c.drop n).foot, k ∈ c.foot := fun k hk => by
  rcases foot_cases hk with e | e | e | ⟨x, hx, e⟩
  · rw [e]; exact foot_c c
  · rw [e]; exact foot_m c
  · exact foot_l (c := c) e
  · rw [← e]; exact foot_x (c := c) ((dropN_sub _ _).subset hx)
/-- a round of it -/
structure FgRel (w : World) (B : Nat) (c : Ck) (k : Nat) (wr : World) : Prop where
  mem : CkM wr B (c.drop k) (fr c.H)
  step : Step w c.foot wr c.foot
  sec : ∀ y ∈ c.H, wr.heap[y.blk]? = w.heap[y.blk]?
theorem FgRel.zero (h : CkM w B c (fr c.H)) : FgRel w B c 0 w := by
  have e : c.drop 0 = c := by unfold Ck.drop; rw [dropN_zero]
  exact ⟨by rw [e]; exact h, Step.refl _ _, fun _ _ => rfl⟩
theorem drop_full (H : List Sx) (k : Nat) {y : Sx} (h : (fr H)[k]? = some y) : y ∈ dropN H k := by
  have h1 : y ∈ fr (dropN H k) := by
    rw [dropN_fr]
    have := (List.getElem?_eq_some_iff.1 h)
    rw [List.drop_eq_getElem_cons this.1, this.2]
    exact List.mem_cons_self
  exact (List.mem_filter.1 h1).1
/-- one more gone -/
theorem FgRel.next {k : Nat} {wr w3 : World} {y : Sx} {l : List (Lit × Value)} (h : FgRel w B c k wr) (hO : CkOk c (fr c.H)) (hy : (fr c.H)[k]? = some y) (hl : MapAt 3 wr c.M l) (hl2 : l.length = (dropN c.H k).length) (hl3 : ∀ a : Int, fndL l (.int .i64 a) = (get (dropN c.H k) a).map fun x => pv x.blk)
    (hm : MapAt 3 w3 c.M (strL l (.int .i64 ((y.pos : Nat) : Int)))) (ht : wr.drew.mapTurned w3 c.M) (hmx : ∀ y ∈ c.H, y.blk ≠ c.M) : FgRel w B c (k + 1) w3 := by
  have hyk := drop_full c.H k hy
  have hkl := (List.getElem?_eq_some_iff.1 hy).1
  have hd1 : wr.drew.heap = wr.heap := rfl
  have hb : ∀ j, j ≠ c.M → w3.heap[j]? = wr.heap[j]? := fun j hj => mturn_blk ht hj
  have hsub : (dropN c.H (k + 1)).Sublist (dropN c.H k) := by
    rw [← dropN_add c.H k 1]; exact dropN_sub _ _
  have hg : get (dropN c.H k) ((y.pos : Nat) : Int) = some y := get_at (hO.pos.sub (dropN_sub _ _)) hyk
  refine ⟨⟨?_, ⟨_, hm, ?_, fun a => ?_⟩, fun x hx => ?_, ?_, ?_, fun j hj => ?_⟩, h.step.trans (Step.turned (Step.of_below (below_drewN wr 1) c.foot) ht (foot_m c)), fun z hz => (hb _ (hmx z hz)).trans (h.sec z hz)⟩
  · unfold Vw
    show w3.heap[c.C]? = _
    rw [hb _ (show c.C ≠ c.M from h.mem.cm)]; exact h.mem.hdr
  · have h1 := strL_len (k := .int .i64 ((y.pos : Nat) : Int)) (hl.apart law_int) (v := pv y.blk) (by rw [hl3, hg]; rfl)
    have h2 := dropN_len c.H k
    have h3 := dropN_len c.H (k + 1)
    have h4 : (fr c.H).length ≤ c.H.length := (fr_sub c.H).length_le
    show _ = (dropN c.H (k + 1)).length
    omega
  · rw [fndL_str, hl3]
    show _ = (get (dropN c.H (k + 1)) a).map _
    rw [get_dropS hO.pos hy]
    by_cases e : a = ((y.pos : Nat) : Int)
    · rw [if_pos e, if_pos e]; rfl
    · rw [if_neg e, if_neg e]
  · have hx' : x ∈ dropN c.H k := hsub.subset hx
    unfold Vw
    rw [hb _ (h.mem.mx hx')]; exact h.mem.sec x hx'
  · exact own_blk h.mem.own fun j hj => hb j (h.mem.lm hj)
  · exact h.mem.blk.sublist (hsub.map _)
  · rcases foot_cases hj with e | e | e | ⟨x, hx, e⟩
    · rw [e]; exact h.mem.over _ (foot_c _)
    · rw [e]; exact h.mem.over _ (foot_m _)
    · exact h.mem.over _ (foot_l e)
    · rw [← e]; exact h.mem.over _ (foot_x (c := c.drop k) (hsub.subset hx))
set_option maxHeartbeats 2000000 in
theorem forget_c (h : CkM w B c (fr c.H)) (hO : CkOk c (fr c.H)) (many : Int) (hm : -1000000 ≤ many ∧ many ≤ 1000000) (n : Nat) (hn : n = min many.toNat (fr c.H).length) :
    Calls Try.prog 57 #[pv c.C, .int .i64 many] w fun e w' => e = .returned (.int .i64 (n : Int)) ∧ ∃ v, CkM w' B ((c.drop n).list v) (fr (dropN c.H n)) ∧ Step w c.foot w' ((c.drop n).list v).foot ∧ ∀ y ∈ c.H, w'.heap[y.blk]? = w.heap[y.blk]? := by
  have c4 := h.hdr.cell (k := 4) rfl
  have hfl := hO.fewL
  have hof := own_form1 h.own
  obtain ⟨a, cap, hva, hnc, han⟩ := own_form h.own
  obtain ⟨q, hq⟩ : ∃ q, (fr c.H).length = q := ⟨_, rfl⟩
  rw [hq] at hva hn hfl hnc
  have c4' : w.cell? ⟨c.C, 4, none⟩ = some (.slice a q cap) := by rw [← hva]; exact c4
  have hz := Lib.hid (FgRel.zero h)
  have hap := Lib.hid (fun (y : Sx) (hy : y ∈ c.H) => show y.blk ≠ c.M ∧ y.blk ≠ c.C ∧ c.lv.ownBlock ≠ some y.blk from ⟨h.mx hy, h.cx hy, fun e => h.lx e hy rfl⟩)
  have hlt0 := Lib.hid (fun (y : Sx) (hy : y ∈ c.H) => h.lt _ (foot_x hy))
  have hO' := Lib.hid hO
  have hq' := Lib.hid hq
  have hva' := Lib.hid hva
  have hnq : n ≤ q := by omega
  have hnq2 : (n : Int) ≤ (q : Int) := by omega
  have hnq3 : (n : Int) ≤ (cap : Int) := by omega
  have hrow := Lib.hid (fun (k : Nat) (wr : World) (hR : FgRel w B c k wr) (hk : k < q) => show ∃ g y, a = some ⟨g, 0, none⟩ ∧ (fr c.H)[k]? = some y ∧ wr.cell? ⟨g, k, none⟩ = some (pv y.blk) from by
    have ho : wr.ownsRow B 81 1 c.lv (fr c.H).length (pvs (fr c.H)) := hR.mem.own
    have hky : k < (fr c.H).length := by omega
    rcases own_form1 ho with ⟨_, e0⟩ | ⟨g, cap', cur, e, hcu, _, _, _, _, hcx⟩
    · rw [e0] at hky; simp at hky
    · rw [hva] at e
      cases e
      exact ⟨g, _, rfl, List.getElem?_eq_getElem hky, hcu.cell (hcx k _ (List.getElem?_eq_getElem hky))⟩)
  have hdel := Lib.hid (fun (wr : World) (hR : FgRel w B c n wr) => show Calls Try.prog 65 #[.slice a q cap, .int .i64 0, .int .i64 (n : Int)] wr (OwnPost B (.slice a q cap) (fr (dropN c.H n)) wr) from by
    have h1 := del_c (B := B) (L := fr c.H) hR.mem.own (by omega) 0 n (by omega) (by omega)
    rw [List.take_zero, List.nil_append, ← dropN_fr] at h1
    rw [← hva]
    exact h1)
  have hfin := Lib.hid (fun (wr w2 : World) (v : Value) (hR : FgRel w B c n wr) (hT : TurnS (fun k => (Value.slice a q cap).ownBlock = some k) wr w2) (ho : w2.ownsRow B 81 1 v (fr (dropN c.H n)).length (pvs (fr (dropN c.H n)))) (hat : ∀ k, v.ownBlock = some k → (Value.slice a q cap).ownBlock = some k ∨ wr.heap.size ≤ k) =>
      show (∃ v', CkM (w2.setCell ⟨c.C, 4, none⟩ v) B ((c.drop n).list v') (fr (dropN c.H n)) ∧ Step w c.foot (w2.setCell ⟨c.C, 4, none⟩ v) ((c.drop n).list v').foot ∧ ∀ y ∈ c.H, (w2.setCell ⟨c.C, 4, none⟩ v).heap[y.blk]? = w.heap[y.blk]?) ∧ w2.frozen? ⟨c.C, 4, none⟩ = false ∧ w2.cell? ⟨c.C, 4, none⟩ = some (.slice a q cap) from by
    rw [← hva] at hT hat ⊢
    obtain ⟨h1, h2⟩ := hR.mem.relist (v := v) hT ho hat
    have hV2 := hR.mem.hdr.turnS hT (fun e => hR.mem.lc (k := c.C) e rfl)
    have h3 : Step wr c.foot (w2.setCell ⟨c.C, 4, none⟩ v) ((c.drop n).list v).foot := by
      refine ⟨h2.os, h2.tape, h2.output, h2.size, fun k hk hf => h2.block k hk (fun e => hf (drop_foot c n k e)), fun k hk => ?_⟩
      rcases h2.foot k hk with e | e
      · exact .inl (drop_foot c n k e)
      · exact .inr e
    exact ⟨⟨v, h1, hR.step.trans h3, fun y hy => by
      obtain ⟨_, a2, a3⟩ := hap.out y hy
      have hlt : y.blk < w.heap.size := hlt0.out y hy
      rw [heap_set_other _ ⟨c.C, 4, none⟩ _ a2, hT.block _ (Nat.lt_of_lt_of_le hlt hR.step.size) a3]
      exact hR.sec y hy⟩, hV2.frozen 4, hV2.cell (k := 4) rfl⟩)
  have hmin : min (max many 0) (q : Int) = (n : Int) := by omega
  unfold pv
  have hof' := Lib.hid hof
  clear h hO c4 hva hq han hof hn
  go_enter Try.func57, Try.ntmps57
  go_upto_region 2 with fail
  clear hmin
  have ha : (a = none ∧ q = 0 ∧ n = 0) ∨ ∃ g, a = some ⟨g, 0, none⟩ := by
    rcases hof'.out with ⟨e, e0⟩ | ⟨g, _, _, e, _⟩
    · rw [hva'.out] at e
      cases e
      exact .inl ⟨rfl, rfl, by omega⟩
    · rw [hva'.out] at e
      cases e
      exact .inr ⟨g, rfl⟩
  rcases ha with ⟨rfl, rfl, rfl⟩ | ⟨g, rfl⟩
  · go_wp2_with fail
    refine wp_loop_rounds 1 ?_
    rw [rounds_succ]
    go_wp2_with (go_at_call 65; refine (hdel.out _ hz.out).mono ?_; rintro e w2 ⟨v, rfl, ho, hT, hn2⟩; obtain ⟨a2, cap2, rfl, _, _⟩ := own_form ho; obtain ⟨hF, f4, k4⟩ := hfin.out _ _ _ hz.out hT ho hn2; have hF' := Lib.hid hF; clear ho hT hn2 hF)
    go_ret
    exact ⟨rfl, hF'.out⟩
  · go_wp2_with fail
    clear c4'
    go_loopg [6, 22] n (fun gk v6 v22 wr => ∃ k : Nat, k + gk = n ∧ v22 = .int .i64 (k : Int) ∧ FgRel w B c k wr)
    case atStart => exact ⟨0, by omega, rfl, hz.out⟩
    case round =>
      obtain ⟨k, hkg, rfl, hR⟩ := hrel
      have hR' := Lib.hid hR
      have c3 := hR.mem.hdr.cell (k := 3) rfl
      have c4 := hR.mem.hdr.cell (k := 4) rfl
      change wr.cell? _ = some c.lv at c4
      change wr.cell? ⟨c.C, 3, none⟩ = _ at c3
      change wr.cell? ⟨c.C, 4, none⟩ = _ at c4
      rw [hva'.out] at c4
      by_cases hlt : k < n
      · obtain ⟨gg, rfl⟩ : ∃ gg, gk = gg + 1 := ⟨gk - 1, by omega⟩
        obtain ⟨g', y, e, hy, hcell⟩ := hrow.out k wr hR (by omega)
        cases e
        have hyk := drop_full c.H k hy
        have c0 := (hR.mem.sec y hyk).cell y.c0
        obtain ⟨l, m1, m2, m3⟩ := hR.mem.map
        have m1' := Lib.hid (show MapAt 3 wr.drew c.M l from m1)
        have hlow := hO'.out.low y ((dropN_sub _ _).subset hyk)
        have hnx := Lib.hid (fun w3 hm ht => hR.next hO'.out hy (w3 := w3) m1 m2 m3 hm ht (fun z hz => (hap.out z hz).1))
        unfold pv at hcell
        have tk : True := trivial
        have hk1 : (k : Int) < (n : Int) := by omega
        clear hR m1 m2 m3 hy hyk
        go_upto_region 5 with fail
        go_still_tail 8, (by kernel_rfl)
        change wpList _ _ _ _ _ wr.drew
        go_wp2_with (have _t := tk; refine wpList_map_drop rfl _ _ rfl law_int Try.underlying70 c.M l rfl m1'.out (.int .i64 ((y.pos : Nat) : Int)) (.int .i64 ((y.pos : Nat) : Int)) rfl (key_nat (by omega)) ?_; intro w3 hm3 ht3; have hN := Lib.hid (hnx.out w3 hm3.out ht3.out); clear tk)
        go_roundg gg
        case measure => omega
        case rel => exact ⟨k + 1, by omega, by go_num, hN.out⟩
      · have hkn : k = n := by omega
        subst hkn
        clear hR
        go_wp2_with (go_at_call 65; refine (hdel.out _ hR'.out).mono ?_; rintro e w2 ⟨v, rfl, ho, hT, hn2⟩; obtain ⟨a2, cap2, rfl, _, _⟩ := own_form ho; obtain ⟨hF, f4, k4⟩ := hfin.out _ _ _ hR'.out hT ho hn2; have hF' := Lib.hid hF; clear ho hT hn2 hF)
        go_ret
        exact ⟨rfl, hF'.out⟩
end
end Go.Proofs.Ytedbfehoeflmgaa
end
