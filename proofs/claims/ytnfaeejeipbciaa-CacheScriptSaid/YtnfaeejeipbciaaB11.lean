/-
  A cache's list: some taken out of it; a sector lifted.
  A cache's list: one put into it, at any place.
  A cache's list: one put into it ahead of others.
  A cache's list: one put into it ahead of others, where there is no room; and wherever.
-/
import Derived.Test.YtnfaeejeipbciaaB10
import Derived.Shelf.Spec.SlicesInsert
import Derived.Shelf.Spec.SlicesInsertGrow

section
set_option linter.unusedVariables false
set_option linter.unusedSimpArgs false
namespace Go.Proofs.Ytnfaeejeipbciaa
open Go.RowKit BigFrame Go.Lib Go.Sort
set_option maxRecDepth 100000

section
variable {w w1 : World} {B : Nat} {c : Ck} {L L' : List Sx}
theorem Try.infoPt : (Try.prog.info? 81).map (fun i => (i.zero, i.size, i.bytes)) = some (some (.pointer none), 1, 8) := by kernel_rfl
/-- a pointer to a block, or none -/
def encO : Option Nat → Value
  | some b => pv b
  | none => .pointer none
def rowO (L : List Sx) : Array (Option Nat) := (L.map fun x => some x.blk).toArray
theorem rowO_size (L : List Sx) : (rowO L).size = L.length := by simp [rowO]
theorem rowO_get {L : List Sx} {k : Nat} {x : Sx} (h : L[k]? = some x) : (rowO L)[k]! = some x.blk := by
  obtain ⟨hk, e⟩ := List.getElem?_eq_some_iff.1 h
  rw [getElem!_pos (rowO L) k (by rw [rowO_size]; exact hk)]
  simp [rowO, e]
/-- what a call leaves that works on a list: the list, one's own -/
def OwnPost (B : Nat) (v : Value) (L' : List Sx) (w : World) (e : Ending) (w' : World) : Prop :=
  ∃ v', e = .returned v' ∧ w'.ownsRow B 81 1 v' L'.length (pvs L') ∧ TurnS (fun k => v.ownBlock = some k) w w' ∧ ∀ k, v'.ownBlock = some k → v.ownBlock = some k ∨ w.heap.size ≤ k
theorem del_c {v : Value} (h : w.ownsRow B 81 1 v L.length (pvs L)) (hL : L.length ≤ 1000000) (i j : Nat) (hij : i ≤ j) (hj : j ≤ L.length) :
    Calls Try.prog 65 #[v, .int .i64 (i : Int), .int .i64 (j : Int)] w (OwnPost B v (L.take i ++ L.drop j) w) := by
  rcases own_form1 h with ⟨e, e0⟩ | ⟨g, cap, cur, e, hcu, hcl, hn, hm, hB, hcx⟩
  · subst e0
    have hj0 : j = 0 := by simpa using hj
    have hi0 : i = 0 := by omega
    subst hj0 hi0
    subst e
    have hc : Calls Try.prog 65 #[.slice none 0 0, .int .i64 0, .int .i64 0] w fun e w' => e = .returned (.slice none 0 0) ∧ w = w' := by
      clear h
      go_enter Try.func65, Try.ntmps65
      go_wp2_with fail
      go_ret
      exact ⟨rfl, rfl⟩
    refine hc.mono ?_
    rintro e w' ⟨rfl, rfl⟩
    exact ⟨_, rfl, World.ownsRow_nil _ _ _ _, TurnS.refl _ _, fun k hk => by cases hk⟩
  · obtain ⟨i0, hi0, hz0, hz1, hz2⟩ := info_parts Try.infoPt
    have hH : Holds encO w g 0 (rowO L) := fun k hk => by
      rw [rowO_size] at hk
      have hk' := List.getElem?_eq_getElem hk
      rw [Nat.zero_add, rowO_get hk']
      exact ⟨hcu.cell (hcx k _ hk'), hcu.frozen k⟩
    have hcon := AnyE.slices_Delete Try.deleteOf encO (fun x => by cases x <;> rfl) (none : Option Nat) (fun w => by rfl) i0 hi0 hz1 g 0 cap i j (rowO L) w hH (by rw [rowO_size]; exact hn) (by unfold maxLen at hm; omega) hij (by rw [rowO_size]; exact hj)
    rw [rowO_size] at hcon
    rw [e]
    refine hcon.mono ?_
    rintro e w' ⟨rfl, q, rfl⟩
    obtain ⟨D, hD⟩ : ∃ D, ((rowO L).toList.take i ++ (rowO L).toList.drop j ++ List.replicate (j - i) (none : Option Nat)).toArray = D := ⟨_, rfl⟩
    have hDl : D.toList = (L.take i ++ L.drop j).map (fun x => some x.blk) ++ List.replicate (j - i) (none : Option Nat) := by
      rw [← hD]
      simp [rowO, List.map_take, List.map_drop]
    have hlen : (L.take i ++ L.drop j).length = L.length - (j - i) := by
      rw [List.length_append, List.length_take, List.length_drop, Nat.min_eq_left (by omega)]; omega
    have hDs : D.size = L.length := by
      rw [← Array.length_toList, hDl, List.length_append, List.length_map, List.length_replicate, hlen]; omega
    rw [hD]
    have hw : grow (putRow encO (Sort.ahead w q) g 0 D) #[] = putRow encO (Sort.ahead w q) g 0 D := grow_empty _
    rw [← hw]
    refine ⟨_, rfl, ?_, row_turn encO w g 0 q D #[] (by rfl), fun k hk => .inl hk⟩
    have hV : Vw (grow (putRow encO (Sort.ahead w q) g 0 D) #[]) 81 g (putCells encO 0 D cur.toArray).toList := by
      unfold Vw
      rw [row_at hcu]
    rw [← hlen]
    refine own_of_cur hV ?_ (by omega) hm hB fun k x hk => ?_
    · rw [Array.length_toList, ← hcl]; simp [putCells]
    · have hkl := (List.getElem?_eq_some_iff.1 hk).1
      have hD2 : D[k]! = some x.blk := by
        rw [getElem!_pos D k (by omega), ← Array.getElem_toList]
        have : D.toList[k]? = some (some x.blk) := by
          rw [hDl, List.getElem?_append_left (by rw [List.length_map]; exact hkl), List.getElem?_map, hk]; rfl
        exact (List.getElem?_eq_some_iff.1 this).2
      rw [Array.getElem?_toList]
      unfold putCells
      rw [Array.getElem?_mapIdx, List.getElem?_toArray, List.getElem?_eq_getElem (show k < cur.length by omega)]
      simp only [Option.map_some, Nat.zero_le, Nat.zero_add, true_and, Nat.sub_zero]
      rw [if_pos (by omega), hD2]; rfl
theorem CkM.listed (h : CkM w B c L) {v : Value} {w1 : World} (hP : OwnPost B c.lv L' w (.returned v) w1) :
    CkM (w1.setCell ⟨c.C, 4, none⟩ v) B (c.list v) L' ∧ Step w c.foot (w1.setCell ⟨c.C, 4, none⟩ v) (c.list v).foot := by
  obtain ⟨v', e, h1, h2, h3⟩ := hP
  cases e
  exact h.relist h2 h1 h3
theorem CkM.same (h : CkM w B c L) : c.list c.lv = c := rfl
/-- behind lift: x is none of its list -/
def Lifted (B : Nat) (c : Ck) (x : Sx) (L : List Sx) (w : World) (e : Ending) (w' : World) : Prop :=
  e = .returned (.tuple #[]) ∧ ∃ v, CkM w' B (c.list v) (but x L) ∧ Step w c.foot w' (c.list v).foot
theorem lift_c (h : CkM w B c L) (hO : CkOk c L) {x : Sx} (hx : x ∈ c.H) :
    Calls Try.prog 53 #[pv c.C, pv x.blk] w (Lifted B c x L w) := by
  have hq := Lib.hid (search_c h hO hx)
  have hs : Srt L := hO.srt.sublist hO.sub
  have c4 := h.hdr.cell (k := 4) rfl
  have f4 := h.hdr.frozen 4
  have hol := older_le x L
  have hfl := hO.fewL
  have hw1 : IntKind.i64.wrap (((older x L : Nat) : Int) + 1) = ((older x L : Nat) : Int) + 1 := by rw [IntKind.wrap_i64]; omega
  have h' := Lib.hid h
  have hCl := Lib.hid h.hdr
  by_cases hf : fnd x L = true
  · have hm : x ∈ L := by
      obtain ⟨y, hy, hu⟩ := List.any_eq_true.1 hf
      have := hO.srt.uniq (hO.sub.subset hy) hx (by simpa using hu)
      exact this ▸ hy
    have hat := Lib.hid (at_older hs hm)
    have hlt := (List.getElem?_eq_some_iff.1 hat.out.1).1
    rw [hf] at hq
    obtain ⟨n, hn⟩ : ∃ n, older x L = n := ⟨_, rfl⟩
    rw [hn] at hq hw1 hlt hat
    obtain ⟨lv, hlv⟩ : ∃ lv, c.lv = lv := ⟨_, rfl⟩
    have hdl := Lib.hid (fun (w1 : World) (hM : CkM w1 B c L) => show Calls Try.prog 65 #[lv, .int .i64 (n : Int), .int .i64 ((n : Int) + 1)] w1 (OwnPost B lv (but x L) w1) from by
      have := del_c (B := B) hM.own (by omega) n (n + 1) (by omega) hlt
      rw [hlv, hat.out.2] at this
      exact this)
    have hlv' := Lib.hid hlv
    have c4' : w.cell? ⟨c.C, 4, none⟩ = some lv := by rw [← hlv]; exact c4
    rw [hlv] at hq
    unfold pv at hq ⊢
    clear h hO hs c4 hf hm hn hol hlv
    go_enter Try.func53, Try.ntmps53
    go_wp2_with (first
      | (go_at_call 64; refine hq.out.mono ?_; rintro e w1 ⟨rfl, hb1⟩; have hM1 := Lib.hid (h'.out.on hb1 (Nat.le_refl _)); have hB1 := Lib.hid hb1; have k4 := hM1.out.hdr.cell (k := 4) rfl; change w1.cell? _ = some c.lv at k4; rw [hlv'.out] at k4; clear hb1 c4' f4 hCl)
      | (go_at_call 65; refine (hdl.out _ hM1.out).mono ?_; rintro e w2 ⟨v, rfl, ho, hT, hn2⟩; obtain ⟨a2, cap2, rfl, _, _⟩ := own_form ho; have hP := Lib.hid (hM1.out.relist (by rw [hlv'.out]; exact hT) ho (by rw [hlv'.out]; exact hn2)); have hV2 := hM1.out.hdr.turnS hT (fun e => hM1.out.lc (by rw [hlv'.out]; exact e) rfl); have f4 := hV2.frozen 4; have k5 := hV2.cell (k := 4) rfl; change w2.cell? _ = some c.lv at k5; rw [hlv'.out] at k5; clear ho hT hn2 hV2))
    go_end0
    exact ⟨rfl, _, hP.out.1, (Step.of_below hB1.out c.foot).trans hP.out.2⟩
  · rw [show fnd x L = false by simpa using hf] at hq
    have hbn : but x L = L := but_none fun y hy hu => hf (List.any_eq_true.2 ⟨y, hy, decide_eq_true hu⟩)
    obtain ⟨n, hn⟩ : ∃ n, older x L = n := ⟨_, rfl⟩
    rw [hn] at hq
    obtain ⟨lv, hlv⟩ : ∃ lv, c.lv = lv := ⟨_, rfl⟩
    have hlv' := Lib.hid hlv
    have c4' : w.cell? ⟨c.C, 4, none⟩ = some lv := by rw [← hlv]; exact c4
    rw [hlv] at hq
    have hbn' := Lib.hid hbn
    unfold pv at hq ⊢
    clear h hO hs c4 hf hn hol hlv hbn hw1
    go_enter Try.func53, Try.ntmps53
    go_wp2_with (go_at_call 64; refine hq.out.mono ?_; rintro e w1 ⟨rfl, hb1⟩; have hM1 := Lib.hid (h'.out.on hb1 (Nat.le_refl _)); have hB1 := Lib.hid hb1; clear hb1)
    go_end0
    exact ⟨rfl, c.lv, by rw [hbn'.out]; exact hM1.out, Step.of_below hB1.out c.foot⟩
end
end Go.Proofs.Ytnfaeejeipbciaa
end

section
set_option linter.unusedVariables false
set_option linter.unusedSimpArgs false
namespace Go.Proofs.Ytnfaeejeipbciaa
open Go.RowKit BigFrame Go.Lib Go.Sort
set_option maxRecDepth 100000

theorem splice_at {α : Type} {l m : List α} {o k : Nat} (h : o + m.length ≤ l.length) : (splice l o m)[k]? = if k < o then l[k]? else if k < o + m.length then m[k - o]? else l[k]? := by
  unfold splice
  have ht : (l.take o).length = o := by rw [List.length_take]; omega
  by_cases h1 : k < o
  · rw [if_pos h1, List.getElem?_append_left (by omega), List.getElem?_take, if_pos h1]
  · rw [if_neg h1]
    by_cases h2 : k < o + m.length
    · rw [if_pos h2, List.getElem?_append_right (by omega), ht, List.getElem?_append_left (by omega)]
    · rw [if_neg h2, List.getElem?_append_right (by omega), ht, List.getElem?_append_right (by omega), List.getElem?_drop]
      congr 1; omega
theorem splice_len {α : Type} {l m : List α} {o : Nat} (h : o + m.length ≤ l.length) : (splice l o m).length = l.length := by
  unfold splice
  simp only [List.length_append, List.length_take, List.length_drop]
  omega
/-- a list with x put in at i -/
def insL' (L : List Sx) (i : Nat) (x : Sx) : List Sx := L.take i ++ x :: L.drop i
theorem insL'_len {L : List Sx} {i : Nat} (x : Sx) (h : i ≤ L.length) : (insL' L i x).length = L.length + 1 := by
  unfold insL'
  simp only [List.length_append, List.length_take, List.length_cons, List.length_drop]
  omega
theorem insL'_get {L : List Sx} {i : Nat} {x y : Sx} (h : i ≤ L.length) {k : Nat} (hy : (insL' L i x)[k]? = some y) : (k < i ∧ L[k]? = some y) ∨ (k = i ∧ y = x) ∨ (i < k ∧ L[k - 1]? = some y) := by
  unfold insL' at hy
  have ht : (L.take i).length = i := by rw [List.length_take]; omega
  by_cases h1 : k < i
  · rw [List.getElem?_append_left (by omega), List.getElem?_take, if_pos h1] at hy
    exact .inl ⟨h1, hy⟩
  · rw [List.getElem?_append_right (by omega), ht] at hy
    by_cases h2 : k = i
    · subst h2
      rw [Nat.sub_self] at hy
      exact .inr (.inl ⟨rfl, (Option.some.inj hy).symm⟩)
    · obtain ⟨d, hd⟩ : ∃ d, k - i = d + 1 := ⟨k - i - 1, by omega⟩
      rw [hd, List.getElem?_cons_succ, List.getElem?_drop] at hy
      exact .inr (.inr ⟨by omega, by rw [show k - 1 = i + d by omega]; exact hy⟩)
theorem turnS_setCells {S : Nat → Prop} {w w' : World} (h : TurnS S w w') (b o : Nat) (vs : List Value) (hb : S b ∨ w.heap.size ≤ b) : TurnS S w (w'.setCells b o vs) := by
  have hs := setCells_os b vs o w'
  refine ⟨hs.1.trans h.os, hs.2.1.trans h.tape, hs.2.2.1.trans h.output, by rw [hs.2.2.2]; exact h.size, fun k hk hn => ?_⟩
  rw [setCells_block b vs o w' k (fun e => by rcases hb with hb | hb; exact hn (e ▸ hb); omega)]
  exact h.block k hk hn

section
variable {w w1 : World} {B : Nat} {c : Ck} {L L' : List Sx}
set_option maxHeartbeats 1000000 in
/-- at its end -/
theorem ins_end {v : Value} (h : w.ownsRow B 81 1 v L.length (pvs L)) (hL : L.length ≤ 100000) (hB : B ≤ w.heap.size) {x : Sx} {vb : Nat} (hv : Vw w 81 vb [pv x.blk]) :
    Calls Try.prog 66 #[v, .int .i64 ((L.length : Nat) : Int), .slice (some ⟨vb, 0, none⟩) 1 1] w (OwnPost B v (L ++ [x]) w) := by
  obtain ⟨i0, hi, hz0, hz1, hz2⟩ := info_parts Try.infoPt
  have hv' := Lib.hid hv
  obtain ⟨n, hn⟩ : ∃ n, L.length = n := ⟨_, rfl⟩
  have hn' := Lib.hid hn
  rw [hn] at h
  obtain ⟨a, cap, hva, hnc, han⟩ := own_form h
  have hpl : pvs (L ++ [x]) = pvs L ++ pvs [x] := by simp [pvs]
  have hpl' := Lib.hid hpl
  rw [hn] at hL ⊢
  subst hva
  have h' := Lib.hid h
  have hR : ∀ v' w', w'.ownsRow B 81 1 v' (n + 1) (pvs L ++ pvs [x]) → w.grownBy w' (Value.slice a n cap).ownBlock → (v'.ownBlock = (Value.slice a n cap).ownBlock ∨ v'.ownBlock = some w.heap.size) → OwnPost B (.slice a n cap) (L ++ [x]) w (.returned v') w' := fun v' w' h1 h2 h4 => by
    refine ⟨v', rfl, ?_, TurnS.grown h2 fun k hk => hk, fun k hk => ?_⟩
    · rw [List.length_append, hn'.out, hpl'.out]; exact h1
    · rcases h4 with e | e
      · exact .inl (e ▸ hk)
      · have := Option.some.inj (hk.symm.trans e); exact .inr (by omega)
  have hR' := Lib.hid hR
  have hi' := Lib.hid hi
  clear h hv hpl hR hn han hi
  have e0 : (0 : Int) ≤ (n : Int) := by omega
  go_enter Try.func66, Try.ntmps66
  have hnews := Lib.hid (fun (j : Nat) (u : Value) (hu : (pvs [x])[j]? = some u) => show w.cell? ((⟨vb, 0, none⟩ : Addr).add j) = some u from by
    have hj : j = 0 := by
      have := (List.getElem?_eq_some_iff.1 hu).1
      simp [pvs] at this
      exact this
    subst hj
    exact hv'.out.cell hu)
  cases a with
  | none =>
    go_wp2_with (at_builtin; refine wpList_append_own_at _ rfl _ _ 71 rfl B 81 i0 (.pointer none) 1 8 Try.underlying71 hi'.out hz0 hz1 hz2 rfl (by decide) _ n (pvs L) rfl h'.out ⟨vb, 0, none⟩ 1 1 (pvs [x]) rfl rfl hnews.out (pvs_one [x]) (by unfold maxLen; omega) (by omega) hB ?_; intro v' w' r1 r2 _ r4; have R1 := Lib.hid (hR'.out v' w' r1 r2 r4); clear r1 r2 r4)
    go_ret
    exact R1.out
  | some ad =>
    obtain ⟨g, o, sp⟩ := ad
    go_wp2_with (at_builtin; refine wpList_append_own_at _ rfl _ _ 71 rfl B 81 i0 (.pointer none) 1 8 Try.underlying71 hi'.out hz0 hz1 hz2 rfl (by decide) _ n (pvs L) rfl h'.out ⟨vb, 0, none⟩ 1 1 (pvs [x]) rfl rfl hnews.out (pvs_one [x]) (by unfold maxLen; omega) (by omega) hB ?_; intro v' w' r1 r2 _ r4; have R1 := Lib.hid (hR'.out v' w' r1 r2 r4); clear r1 r2 r4)
    all_goals (go_ret; exact R1.out)
end
end Go.Proofs.Ytnfaeejeipbciaa
end

section
set_option linter.unusedVariables false
set_option linter.unusedSimpArgs false
namespace Go.Proofs.Ytnfaeejeipbciaa
open Go.RowKit BigFrame Go.Lib Go.Sort
set_option maxRecDepth 100000

section
variable {w w1 : World} {B : Nat} {c : Ck} {L L' : List Sx}
theorem vw_shape {t : TypeId} {g : Nat} {l : List Value} (h : Vw w t g l) : w.shape? g = some (t, l.length) := by
  unfold Vw at h
  simp [World.shape?, h]
theorem isSome_vw {t : TypeId} {g k : Nat} {l : List Value} (h : Vw w t g l) (hk : k < l.length) : (w.cell? ⟨g, k, none⟩).isSome = true := by rw [h.cell (List.getElem?_eq_getElem hk)]; rfl
theorem pvs_drop (L : List Sx) (i : Nat) : (pvs L).drop i = pvs (L.drop i) := by simp [pvs]
set_option maxHeartbeats 4000000 in
/-- there is room -/
theorem ins_room {g cap i : Nat} {cur : List Value} (hcu : Vw w 81 g cur) (hcl : cur.length = cap) (hn : L.length + 1 ≤ cap) (hm : cap ≤ maxLen) (hB : B ≤ g) (hcx : ∀ (k : Nat) (x : Sx), L[k]? = some x → cur[k]? = some (pv x.blk))
    (hi : i < L.length) (hL : L.length ≤ 100000) {x : Sx} {vb : Nat} (hv : Vw w 81 vb [pv x.blk]) (hvb : vb ≠ g) :
    Calls Try.prog 66 #[.slice (some ⟨g, 0, none⟩) L.length cap, .int .i64 (i : Int), .slice (some ⟨vb, 0, none⟩) 1 1] w (OwnPost B (.slice (some ⟨g, 0, none⟩) L.length cap) (insL' L i x) w) := by
  obtain ⟨n, hln⟩ : ∃ n, L.length = n := ⟨_, rfl⟩
  have hln' := Lib.hid hln
  rw [hln] at hn hi hL ⊢
  have hsz : (Try.prog.info? 81).map (·.size) = some 1 := by
    obtain ⟨i0, hi0, h0, h1, h2⟩ := info_parts Try.infoPt
    rw [hi0]; simp [h1]
  have hov : ∀ lb cb, (callFunc 73 #[.slice (some ⟨vb, 0, none⟩) 1 1, .slice (some ⟨g, i + 1, none⟩) lb cb]).run Try.prog w = .ok (.value (.bool false)) w := fun lb cb => by
    rw [run_callFunc_extern Try.func73 (by kernel_rfl) (by kernel_rfl) (by kernel_rfl) (e := Extern.SlicesOverlaps.overlaps #[71, 71] #[4]) (by kernel_rfl),
      Lib.run_overlaps_apart w 71 4 81 Try.underlying71 1 Try.sizeOf81 ⟨vb, 0, none⟩ ⟨g, i + 1, none⟩ 1 1 lb cb hvb 81 81 1 cap (vw_shape hv) (by rw [← hcl]; exact vw_shape hcu) (by omega) (hv.frozen 0) (hv.frozen 1)]
    rfl
  obtain ⟨mv, hmv⟩ : ∃ mv, pvs (L.drop i) = mv := ⟨_, rfl⟩
  have hml : mv.length = n - i := by rw [← hmv, pvs_len, List.length_drop, hln]
  have hm1 : ∀ v ∈ mv, v.oneCell' = true := by rw [← hmv]; exact pvs_one _
  have hmg : ∀ (j : Nat) (v : Value), mv[j]? = some v → cur[i + j]? = some v := fun j v hj => by
    rw [← hmv] at hj
    unfold pvs at hj
    rw [List.getElem?_map, List.getElem?_drop] at hj
    obtain ⟨y, hy, rfl⟩ := Option.map_eq_some_iff.1 hj
    exact hcx _ y hy
  have hcp1 : ∀ ty dc sc, (Builtin.copy_ #[71, 71] ty #[.slice (some ⟨g, i + 1, none⟩) (n - i) dc, .slice (some ⟨g, i, none⟩) (n + 1 - i) sc]).run Try.prog w.drew = .ok (goInt mv.length) (w.drew.setCells g (i + 1) mv) := fun ty dc sc =>
    run_copy_cells w.drew _ _ ty 81 g (i + 1) (n - i) dc ⟨g, i, none⟩ (n + 1 - i) sc mv Try.underlying71 hsz (by rw [hml]; simp only [Nat.min_def]; split <;> omega)
      (fun j v hj => by rw [Addr.add_lit]; exact hcu.cell (hmg j v hj))
      (fun j hj => isSome_vw (w := w) hcu (by rw [hml] at hj; omega)) (fun j hj => hcu.frozen _) hm1
  have V1 : Vw (w.drew.setCells g (i + 1) mv) 81 g (splice cur (i + 1) mv) := Vw.put mv (i + 1) hcu.drew1 (by rw [hml]; omega)
  have hl1 : (splice cur (i + 1) mv).length = cap := by rw [splice_len (by rw [hml]; omega), hcl]
  have V2 : Vw (w.drew.setCells g (i + 1) mv) 81 vb [pv x.blk] := by
    unfold Vw
    rw [setCells_block _ _ _ _ _ hvb]; exact hv
  have hcp2 : ∀ ty dc, (Builtin.copy_ #[71, 71] ty #[.slice (some ⟨g, i, none⟩) (n + 1 - i) dc, .slice (some ⟨vb, 0, none⟩) 1 1]).run Try.prog (w.drew.setCells g (i + 1) mv) = .ok (goInt [pv x.blk].length) ((w.drew.setCells g (i + 1) mv).setCells g i [pv x.blk]) := fun ty dc =>
    run_copy_cells _ _ _ ty 81 g i (n + 1 - i) dc ⟨vb, 0, none⟩ 1 1 [pv x.blk] Try.underlying71 hsz (by simp only [List.length_singleton, Nat.min_def]; split <;> omega)
      (fun j v hj => by rw [Addr.add_lit]; exact V2.cell (by rw [Nat.zero_add]; exact hj))
      (fun j hj => isSome_vw V1 (by rw [hl1]; simp at hj; omega)) (fun j hj => V1.frozen _) (fun v hv => by rw [List.mem_singleton] at hv; subst hv; rfl)
  have hend : OwnPost B (.slice (some ⟨g, 0, none⟩) n cap) (insL' L i x) w (.returned (.slice (some ⟨g, 0, none⟩) (n + 1) cap)) ((w.drew.setCells g (i + 1) mv).setCells g i [pv x.blk]) := by
    refine ⟨_, rfl, ?_, ?_, fun k hk => .inl hk⟩
    rotate_left
    · have t0 : TurnS (fun k => (Value.slice (some ⟨g, 0, none⟩) n cap).ownBlock = some k) w w.drew := TurnS.drew _ w 1
      exact turnS_setCells (turnS_setCells t0 g (i + 1) mv (.inl rfl)) g i [pv x.blk] (.inl rfl)
    have hlen : (insL' L i x).length = n + 1 := by rw [insL'_len x (by omega), hln]
    have V3 := Vw.put [pv x.blk] i V1 (by rw [hl1, List.length_singleton]; omega)
    have := own_of_cur (B := B) (L := insL' L i x) V3 (by rw [splice_len (by rw [hl1, List.length_singleton]; omega), hl1]) (by rw [hlen]; exact hn) hm hB (fun k y hy => by
      rw [splice_at (by rw [hl1, List.length_singleton]; omega)]
      rcases insL'_get (by omega) hy with ⟨h1, h2⟩ | ⟨rfl, rfl⟩ | ⟨h1, h2⟩
      · rw [if_pos h1, splice_at (by rw [hml]; omega), if_pos (by omega)]; exact hcx k y h2
      · rw [if_neg (by omega), if_pos (by rw [List.length_singleton]; omega), Nat.sub_self]; rfl
      · have hkl := (List.getElem?_eq_some_iff.1 h2).1
        rw [if_neg (by omega), if_neg (by rw [List.length_singleton]; omega), splice_at (by rw [hml]; omega), if_neg (by omega), if_pos (by rw [hml]; omega), ← hmv]
        unfold pvs
        rw [List.getElem?_map, List.getElem?_drop, show i + (k - (i + 1)) = k - 1 by omega, h2]; rfl)
    rw [hlen] at this ⊢
    exact this
  obtain ⟨W1, hW1⟩ : ∃ W1, w.drew.setCells g (i + 1) mv = W1 := ⟨_, rfl⟩
  rw [hW1] at hcp1 hcp2 hend
  have hend' := Lib.hid hend
  obtain ⟨px, hpx⟩ : ∃ px, pv x.blk = px := ⟨_, rfl⟩
  rw [hpx] at hcp2 hend'
  have hz2 : ¬ ((i : Int) = (n : Int)) := by omega
  have hw1 : IntKind.i64.wrap ((n : Int) + 1) = (n : Int) + 1 := by rw [IntKind.wrap_i64]; omega
  have hw2 : IntKind.i64.wrap ((i : Int) + 1) = (i : Int) + 1 := by rw [IntKind.wrap_i64]; omega
  have hb1 : (0 : Int) ≤ (i : Int) + 1 := by omega
  have hb0 : (i : Int) ≤ (n : Int) := by omega
  have hb3 : (i : Int) ≤ (n : Int) + 1 := by omega
  have hb5 : (i : Int) + 1 ≤ (n : Int) + 1 := by omega
  have hb6 : (n : Int) + 1 ≤ (cap : Int) := by omega
  have hb7 : ¬ ((cap : Int) < (n : Int) + 1) := by omega
  have htn : ((i : Int) + 1).toNat = i + 1 := by omega
  have htn2 : ((n : Int) + 1).toNat = n + 1 := by omega
  have hb2 : ¬ (cap = i + 1) := by omega
  have hb4 : ¬ (cap = i) := by omega
  have hsub : n + 1 - (i + 1) = n - i := by omega
  have mixed := Try.searchOf.mixed
  clear hcu hcx hv V1 V2 hend hmg hml hm1 hmv hl1 hW1 hpx
  go_enter Try.func66, Try.ntmps66
  go_wp2_with (simp only [hov])
  go_region_law_o (refine step_copy_runI rfl _ _ 71 71 rfl _ _ (by simp [Act.eval, Act.put]) (by simp [Act.eval, Act.put]) (hcp1 _ _ _) ?_)
  go_wp2_with (at_builtin; refine wpList_copy_runI _ rfl _ _ 71 71 rfl _ _ rfl rfl (hcp2 _ _) ?_)
  go_ret
  exact hend'.out
end
end Go.Proofs.Ytnfaeejeipbciaa
end

section
set_option linter.unusedVariables false
set_option linter.unusedSimpArgs false
namespace Go.Proofs.Ytnfaeejeipbciaa
open Go.RowKit BigFrame Go.Lib Go.Sort
set_option maxRecDepth 100000

section
variable {w w1 : World} {B : Nat} {c : Ck} {L L' : List Sx}
set_option maxHeartbeats 4000000 in
theorem ins_grow {g cap i : Nat} {cur : List Value} (hcu : Vw w 81 g cur) (hcl : cur.length = cap) (hnc : L.length ≤ cap) (hno : cap < L.length + 1) (hB : B ≤ w.heap.size) (hcx : ∀ (k : Nat) (x : Sx), L[k]? = some x → cur[k]? = some (pv x.blk))
    (hi : i < L.length) (hL : L.length ≤ 100000) {x : Sx} {vb : Nat} (hv : Vw w 81 vb [pv x.blk]) :
    Calls Try.prog 66 #[.slice (some ⟨g, 0, none⟩) L.length cap, .int .i64 (i : Int), .slice (some ⟨vb, 0, none⟩) 1 1] w (OwnPost B (.slice (some ⟨g, 0, none⟩) L.length cap) (insL' L i x) w) := by
  obtain ⟨n, hln⟩ : ∃ n, L.length = n := ⟨_, rfl⟩
  have hln' := Lib.hid hln
  rw [hln] at hnc hno hi hL ⊢
  obtain ⟨i0, hi0, hz0, hzs, hzb⟩ := info_parts Try.infoPt
  have hsz : (Try.prog.info? 81).map (·.size) = some 1 := by rw [hi0]; simp [hzs]
  have hbw := hcu.lt
  have hvw := hv.lt
  have hkk : (n : Int) + 1 - (i : Int) = ((n + 1 - i : Nat) : Int) := by omega
  have hik : i + (n + 1 - i) = n + 1 := by omega
  obtain ⟨hd, hhd⟩ : ∃ hd, pvs (L.take i) = hd := ⟨_, rfl⟩
  have hhl : hd.length = i := by rw [← hhd, pvs_len, List.length_take, hln]; omega
  obtain ⟨mv, hmv⟩ : ∃ mv, pvs (L.drop i) = mv := ⟨_, rfl⟩
  have hml : mv.length = n - i := by rw [← hmv, pvs_len, List.length_drop, hln]
  have hm1 : ∀ v ∈ mv, v.oneCell' = true := by rw [← hmv]; exact pvs_one _
  have hmg : ∀ (j : Nat) (v : Value), mv[j]? = some v → cur[i + j]? = some v := fun j v hj => by
    rw [← hmv] at hj
    unfold pvs at hj
    rw [List.getElem?_map, List.getElem?_drop] at hj
    obtain ⟨y, hy, rfl⟩ := Option.map_eq_some_iff.1 hj
    exact hcx _ y hy
  have hhg : ∀ (j : Nat) (v : Value), hd[j]? = some v → cur[j]? = some v := fun j v hj => by
    rw [← hhd] at hj
    unfold pvs at hj
    rw [List.getElem?_map, List.getElem?_take] at hj
    obtain ⟨y, hy, rfl⟩ := Option.map_eq_some_iff.1 hj
    split at hy
    · exact hcx _ y hy
    · cases hy
  have hold : (Builtin.firstCells i0.size i (.slice (some ⟨g, 0, none⟩) i cap)).run Try.prog w.drew = .ok hd.toArray w.drew := by
    rw [hzs]
    exact run_firstCells_some w.drew 1 i ⟨g, 0, none⟩ i cap hd (by omega) (fun j v hj => by
      rw [Addr.add_lit, Nat.zero_add]
      exact hcu.cell (hhg j v hj))
  obtain ⟨zc, hzc⟩ : ∃ zc, (Value.pointer none).cells = zc := ⟨_, rfl⟩
  have hzcl : zc.size = 1 := by rw [← hzc]; rfl
  have hrz : ∀ ty, (Builtin.append_ #[71, 3] ty #[.slice (some ⟨g, 0, none⟩) i cap, .int .i64 ((n : Int) + 1 - (i : Int))]).run Try.prog w =
      .ok (.slice (some ⟨w.heap.size, 0, none⟩) (n + 1) (grownCap w (n + 1) cap 81)) (w.drew.alloc (.cells (hd.toArray ++ Builtin.zeroCells zc (n + 1 - i) ++ Builtin.zeroCells zc (grownCap w (n + 1) cap 81 - (n + 1))) 81)) := fun ty => by
    have h := Lib.run_append_grow_zeros w 71 3 ty 81 i0 _ .i64 .i64 Try.underlying71 Try.underlying3 hi0 hz0 (some ⟨g, 0, none⟩) i cap hd hold (n + 1 - i) (by omega) (by omega) (by omega) (by omega) (by rw [hzb]; omega) (by rw [hzb, hik]; exact growslice_fits hno (by omega))
    rw [hik, hzc] at h
    rw [hkk]
    exact h
  obtain ⟨G, hG⟩ : ∃ G, grownCap w (n + 1) cap 81 = G := ⟨_, rfl⟩
  have hGn : n + 1 ≤ G := by rw [← hG]; exact grownCap_ge w _ _ _
  have hGm : G ≤ maxLen := by rw [← hG]; exact grownCap_le_maxLen w (n + 1) cap 81 (by unfold maxLen; omega)
  obtain ⟨ROW, hROW⟩ : ∃ ROW : List Value, (hd.toArray ++ Builtin.zeroCells zc (n + 1 - i) ++ Builtin.zeroCells zc (grownCap w (n + 1) cap 81 - (n + 1))) = ROW.toArray := ⟨_, rfl⟩
  have hRl : ROW.length = G := by
    rw [← List.size_toArray, ← hROW, hG]
    simp [Builtin.zeroCells, hhl, hzcl]
    omega
  have hRh : ∀ k, k < i → ROW[k]? = hd[k]? := fun k hk => by
    rw [← List.getElem?_toArray, ← hROW, Array.append_assoc, Array.getElem?_append_left (by simpa [hhl] using hk), List.getElem?_toArray]
  rw [hROW, hG] at hrz
  obtain ⟨N, hN⟩ : ∃ N, w.heap.size = N := ⟨_, rfl⟩
  have V0 : Vw (w.drew.alloc (.cells ROW.toArray 81)) 81 N ROW := by rw [← hN]; exact Vw.alloc w.drew ROW _
  have U0 : Vw (w.drew.alloc (.cells ROW.toArray 81)) 81 g cur := by
    unfold Vw; rw [old_alloc _ _ _ (show g < w.drew.heap.size from hbw)]; exact hcu
  have X0 : Vw (w.drew.alloc (.cells ROW.toArray 81)) 81 vb [pv x.blk] := by
    unfold Vw; rw [old_alloc _ _ _ (show vb < w.drew.heap.size from hvw)]; exact hv
  have T0 : TurnS (fun k => (Value.slice (some ⟨g, 0, none⟩) n cap).ownBlock = some k) w (w.drew.alloc (.cells ROW.toArray 81)) := (TurnS.drew _ w 1).trans (TurnS.alloc _ _ _)
  obtain ⟨W1, hW1⟩ : ∃ W1, w.drew.alloc (.cells ROW.toArray 81) = W1 := ⟨_, rfl⟩
  rw [hN] at hrz
  rw [hW1] at hrz V0 U0 X0 T0
  have hgN : g ≠ N := by omega
  have hvN : vb ≠ N := by omega
  have hcpA : ∀ ty dc, (Builtin.copy_ #[71, 71] ty #[.slice (some ⟨N, i, none⟩) (n + 1 - i) dc, .slice (some ⟨vb, 0, none⟩) 1 1]).run Try.prog W1 = .ok (goInt [pv x.blk].length) (W1.setCells N i [pv x.blk]) := fun ty dc =>
    run_copy_cells _ _ _ ty 81 N i (n + 1 - i) dc ⟨vb, 0, none⟩ 1 1 [pv x.blk] Try.underlying71 hsz (by simp only [List.length_singleton, Nat.min_def]; split <;> omega)
      (fun j v hj => by rw [Addr.add_lit]; exact X0.cell (by rw [Nat.zero_add]; exact hj))
      (fun j hj => isSome_vw V0 (by rw [hRl]; simp at hj; omega)) (fun j hj => V0.frozen _) (fun v hv => by rw [List.mem_singleton] at hv; subst hv; rfl)
  have V1 := Vw.put [pv x.blk] i V0 (by rw [hRl, List.length_singleton]; omega)
  have hl1 : (splice ROW i [pv x.blk]).length = G := by rw [splice_len (by rw [hRl, List.length_singleton]; omega), hRl]
  have U1 : Vw (W1.setCells N i [pv x.blk]) 81 g cur := by
    unfold Vw; rw [setCells_block _ _ _ _ _ hgN]; exact U0
  have T1 : TurnS (fun k => (Value.slice (some ⟨g, 0, none⟩) n cap).ownBlock = some k) w (W1.setCells N i [pv x.blk]) := turnS_setCells T0 N i _ (.inr (by omega))
  obtain ⟨W2, hW2⟩ : ∃ W2, W1.setCells N i [pv x.blk] = W2 := ⟨_, rfl⟩
  rw [hW2] at hcpA V1 U1 T1
  have hcpB : ∀ ty dc sc, (Builtin.copy_ #[71, 71] ty #[.slice (some ⟨N, i + 1, none⟩) (n - i) dc, .slice (some ⟨g, i, none⟩) (n - i) sc]).run Try.prog W2.drew = .ok (goInt mv.length) (W2.drew.setCells N (i + 1) mv) := fun ty dc sc =>
    run_copy_cells W2.drew _ _ ty 81 N (i + 1) (n - i) dc ⟨g, i, none⟩ (n - i) sc mv Try.underlying71 hsz (by rw [hml]; simp)
      (fun j v hj => by rw [Addr.add_lit]; exact U1.cell (hmg j v hj))
      (fun j hj => isSome_vw (w := W2) V1 (by rw [hl1]; rw [hml] at hj; omega)) (fun j hj => V1.frozen _) hm1
  have hend : OwnPost B (.slice (some ⟨g, 0, none⟩) n cap) (insL' L i x) w (.returned (.slice (some ⟨N, 0, none⟩) (n + 1) G)) (W2.drew.setCells N (i + 1) mv) := by
    refine ⟨_, rfl, ?_, turnS_setCells (T1.trans (TurnS.drew _ W2 1)) N (i + 1) mv (.inr (by omega)), fun k hk => .inr (by have e : N = k := Option.some.inj hk; omega)⟩
    have hlen : (insL' L i x).length = n + 1 := by rw [insL'_len x (by omega), hln]
    have V2 : Vw (W2.drew.setCells N (i + 1) mv) 81 N (splice (splice ROW i [pv x.blk]) (i + 1) mv) := Vw.put mv (i + 1) V1.drew1 (by rw [hl1, hml]; omega)
    have := own_of_cur (B := B) (L := insL' L i x) V2 (by rw [splice_len (by rw [hl1, hml]; omega), hl1]) (by rw [hlen]; exact hGn) hGm (by omega) (fun k y hy => by
      rw [splice_at (by rw [hl1, hml]; omega)]
      rcases insL'_get (by omega) hy with ⟨h1, h2⟩ | ⟨rfl, rfl⟩ | ⟨h1, h2⟩
      · rw [if_pos (by omega), splice_at (by rw [hRl, List.length_singleton]; omega), if_pos h1, hRh k h1, ← hhd]
        unfold pvs
        rw [List.getElem?_map, List.getElem?_take, if_pos h1, h2]; rfl
      · rw [if_pos (by omega), splice_at (by rw [hRl, List.length_singleton]; omega), if_neg (by omega), if_pos (by rw [List.length_singleton]; omega), Nat.sub_self]; rfl
      · have hkl := (List.getElem?_eq_some_iff.1 h2).1
        rw [if_neg (by omega), if_pos (by rw [hml]; omega), ← hmv]
        unfold pvs
        rw [List.getElem?_map, List.getElem?_drop, show i + (k - (i + 1)) = k - 1 by omega, h2]; rfl)
    rw [hlen] at this ⊢
    exact this
  have hend' := Lib.hid hend
  obtain ⟨px, hpx⟩ : ∃ px, pv x.blk = px := ⟨_, rfl⟩
  rw [hpx] at hcpA
  have hz2 : ¬ ((i : Int) = (n : Int)) := by omega
  have hw1 : IntKind.i64.wrap ((n : Int) + 1) = (n : Int) + 1 := by rw [IntKind.wrap_i64]; omega
  have hw3 : IntKind.i64.wrap ((n : Int) + 1 - (i : Int)) = (n : Int) + 1 - (i : Int) := by rw [IntKind.wrap_i64]; omega
  have hw2 : IntKind.i64.wrap ((i : Int) + 1) = (i : Int) + 1 := by rw [IntKind.wrap_i64]; omega
  have hb1 : (0 : Int) ≤ (i : Int) + 1 := by omega
  have hb0 : (i : Int) ≤ (n : Int) := by omega
  have hb3 : (i : Int) ≤ (n : Int) + 1 := by omega
  have hb5 : (i : Int) + 1 ≤ (n : Int) + 1 := by omega
  have hb7 : (cap : Int) < (n : Int) + 1 := by omega
  have hb8 : (i : Int) ≤ (cap : Int) := by omega
  have htn : ((i : Int) + 1).toNat = i + 1 := by omega
  have hGi : ¬ (G = i) := by omega
  have hGim : ¬ (G = i + 1) := by omega
  have hb4 : ¬ (cap = i) := by omega
  have hsub : n + 1 - (i + 1) = n - i := by omega
  have mixed := Try.searchOf.mixed
  clear hcu hcx hv V0 U0 X0 T0 V1 U1 T1 hend hmg hml hm1 hmv hl1 hW1 hW2 hpx hkk hik hhd hhl hhg hold hzc hzcl hROW hRl hRh hG hi0 hz0 hzs hzb
  go_enter Try.func66, Try.ntmps66
  go_wp2_with (first
    | (at_builtin; refine Lib.wpList_append_run _ rfl _ _ _ _ rfl _ _ rfl rfl _ _ (hrz _) ?_)
    | (at_builtin; refine wpList_copy_runI _ rfl _ _ 71 71 rfl _ _ rfl rfl (hcpA _ _) ?_))
  go_region_law_o (refine step_copy_runI rfl _ _ 71 71 rfl _ _ (by simp [Act.eval, Act.put]) (by simp [Act.eval, Act.put]) (hcpB _ _ _) ?_)
  go_wp2_with fail
  go_ret
  exact hend'.out
/-- wherever -/
theorem ins_c {v : Value} (h : w.ownsRow B 81 1 v L.length (pvs L)) (hL : L.length ≤ 100000) (hB : B ≤ w.heap.size) {i : Nat} (hi : i ≤ L.length) {x : Sx} {vb : Nat} (hv : Vw w 81 vb [pv x.blk]) (hvb : v.ownBlock ≠ some vb) :
    Calls Try.prog 66 #[v, .int .i64 (i : Int), .slice (some ⟨vb, 0, none⟩) 1 1] w (OwnPost B v (insL' L i x) w) := by
  rcases Nat.lt_or_eq_of_le hi with hlt | heq
  · rcases own_form1 h with ⟨e, e0⟩ | ⟨g, cap, cur, e, hcu, hcl, hn, hm, hBg, hcx⟩
    · subst e0; simp at hlt
    · subst e
      have hvg : vb ≠ g := fun e => hvb (by rw [e]; rfl)
      by_cases hr : L.length + 1 ≤ cap
      · exact ins_room hcu hcl hr hm hBg hcx hlt hL hv hvg
      · exact ins_grow hcu hcl hn (by omega) hB hcx hlt hL hv
  · have e : insL' L i x = L ++ [x] := by
      unfold insL'
      rw [heq, List.take_length, List.drop_length]
    rw [e, heq]
    exact ins_end h hL hB hv
end
end Go.Proofs.Ytnfaeejeipbciaa
end
