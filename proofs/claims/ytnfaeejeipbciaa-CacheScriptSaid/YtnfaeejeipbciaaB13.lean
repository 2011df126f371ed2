/-
  Numbers of one's own; a map gone through; a list of sectors sorted.
  The document's own cache: a row more in a list of one's own; a row taken out of memory; the newest.
  The document's own cache: a sector becomes the newest.
-/
import Derived.Test.YtnfaeejeipbciaaB12
import Derived.Test.YtnfaeejeipbciaaB8
import Derived.Sort.OwnSorted
import Derived.Test.YtnfaeejeipbciaaB10
import Derived.Deep.MidRow

section
set_option linter.unusedVariables false
set_option linter.unusedSimpArgs false
namespace Go.Proofs.Ytnfaeejeipbciaa
open Go.RowKit BigFrame
set_option maxRecDepth 100000
section
variable {w w' wr : World} {W B : Nat}
def nv (l : List Nat) : List Value := l.map fun (x : Nat) => .int .i64 (x : Int)
theorem nv_len (l : List Nat) : (nv l).length = l.length := by simp [nv]
theorem nv_one (l : List Nat) : ∀ v ∈ nv l, v.oneCell' = true := by
  intro v hv
  obtain ⟨k, _, rfl⟩ := List.mem_map.1 hv
  rfl
/-- numbers of one's own -/
def OwnZ (w : World) (B : Nat) (v : Value) (l : List Nat) : Prop := w.ownsRow B 3 1 v l.length (nv l)
theorem OwnZ.nil (w : World) (B : Nat) : OwnZ w B (.slice none 0 0) [] := World.ownsRow_nil _ _ _ _
theorem OwnZ.blk {v : Value} {l : List Nat} (h : OwnZ w B v l) (e : ∀ k, v.ownBlock = some k → w'.heap[k]? = w.heap[k]?) : OwnZ w' B v l := by
  obtain ⟨h1, h2⟩ := h
  refine ⟨h1, ?_⟩
  rcases h2 with h2 | ⟨g, cap, cur, rfl, hb, hg, r⟩
  · exact .inl h2
  · exact .inr ⟨g, cap, cur, rfl, hb, (e g rfl).trans hg, r⟩
theorem OwnZ.block {v : Value} {l : List Nat} (h : OwnZ w B v l) : ∀ k, v.ownBlock = some k → B ≤ k ∧ k < w.heap.size := fun k hk => World.ownsRow.lt h k hk
theorem OwnZ.on {v : Value} {l : List Nat} (h : OwnZ w B v l) (hb : Below w.heap.size w w') : OwnZ w' B v l := h.blk fun k hk => hb.block k (h.block k hk).2
theorem OwnZ.alloc {v : Value} {l : List Nat} (h : OwnZ w B v l) (x : Obj) : OwnZ (w.alloc x) B v l := h.blk fun k hk => old_alloc w x k (h.block k hk).2
theorem OwnZ.lower {v : Value} {l : List Nat} {B' : Nat} (h : OwnZ w B v l) (hb : B' ≤ B) : OwnZ w B' v l := by
  obtain ⟨h1, h2⟩ := h
  refine ⟨h1, ?_⟩
  rcases h2 with h2 | ⟨g, cap, cur, e, hg, rest⟩
  · exact .inl h2
  · exact .inr ⟨g, cap, cur, e, Nat.le_trans hb hg, rest⟩
theorem OwnZ.ints {v : Value} {l : List Nat} (h : OwnZ w B v l) : ∃ a cap, v = .slice a l.length cap ∧ (a = none → cap = 0) ∧ IntsAt w a l.length (fun k => ((l.getD k 0 : Nat) : Int)) := by
  have h' := h
  rcases h.2 with ⟨rfl, h0⟩ | ⟨g, cap, cur, rfl, _⟩
  · exact ⟨none, 0, by rw [h0], fun _ => rfl, .inl h0⟩
  · refine ⟨_, cap, rfl, (fun h => by cases h), .inr ⟨g, 0, rfl, fun k hk => ?_⟩⟩
    rw [Nat.zero_add, World.ownsRow.cellAt h' k (by omega)]
    simp [nv, hk, List.getD]
theorem nat_new (w : World) (x : Int) : (w.alloc (.cells #[.int .i64 x] 3)).cell? ⟨w.heap.size, 0, none⟩ = some (.int .i64 x) := by
  rw [cell_of_row _ w.heap.size _ _ _ _ (heap_alloc_new w _)]; rfl
theorem wpList_append_nat {w : World} {ops : Array Oper} {rest : List Oper} {o : Oper} {a : Act} {Q : Exit → Act → World → Prop} (hgd : o.guard = none) (s x : Operand)
    (ho : o.op = .call { callee := .builtin .append, args := #[s, x], argTypes := #[37, 37] })
    (B : Nat) (v : Value) (L : List Nat) (hs : a.eval s = v) (hown : OwnZ w B v L) (ad : Addr) (cap : Nat) (y : Nat) (hx : a.eval x = .slice (some ad) 1 cap) (hsrc : w.cell? ad = some (.int .i64 (y : Int)))
    (hlen : L.length + 1 ≤ 1000000) (hbase : B ≤ w.heap.size)
    (h : ∀ v' w', Hid (OwnZ w' B v' (L ++ [y])) → Hid (w.grownBy w' v.ownBlock) → Hid (v'.ownBlock = v.ownBlock ∨ v'.ownBlock = some w.heap.size) → wpList Try.prog ops Q rest (a.put o.dst v') w') : wpList Try.prog ops Q (o :: rest) a w := by
  obtain ⟨i, hi, hz0, hz1, hz2⟩ := info_parts Try.infoI
  refine wpList_append_own_at w hgd s x 37 ho B 3 i (.int .i64 0) 1 8 Try.underlying37 hi hz0 hz1 hz2 rfl (by decide) v L.length (nv L) hs hown ad 1 cap (nv [y]) hx (by rw [nv_len]; rfl) ?_ (nv_one [y]) (by unfold maxLen; omega) (by omega) hbase ?_
  · intro j u hu
    have hj : j = 0 := by
      have := (List.getElem?_eq_some_iff.1 hu).1
      rw [nv_len] at this
      simp at this
      omega
    subst hj
    have hadd : ad.add 0 = ad := by unfold Addr.add; split <;> simp_all
    rw [hadd, hsrc]
    simpa [nv] using hu
  · intro v' w' h1 h2 _ h4
    refine h v' w' ?_ h2 h4
    show OwnZ w' B v' (L ++ [y])
    unfold OwnZ
    have e : nv (L ++ [y]) = nv L ++ nv [y] := by simp [nv]
    rw [e, List.length_append]; exact h1
theorem fndL_mem {l : List (Lit × Value)} {p : Lit × Value} (hk : WideAt.IsKeyLit p.1) (ha : l.Pairwise fun p q => p.1 ≠ q.1) (hp : p ∈ l) : fndL l p.1 = some p.2 := by
  unfold fndL
  cases hf : l.find? fun q => q.1.sameKey p.1 with
  | none =>
    have := List.find?_eq_none.1 hf p hp
    exact absurd (WideAt.sameKey_self hk) this
  | some q =>
    have hq := WideAt.sameKey_eq (List.find?_some (p := fun q : Lit × Value => q.1.sameKey p.1) hf)
    have hqm := List.mem_of_find?_eq_some hf
    by_cases e : q = p
    · rw [e]; rfl
    · exact absurd hq (apart_ne ha hqm hp e)
theorem key_inv {key : Value} {l : Lit} (h : keyOf Try.prog 3 key = some l) : ∃ k, key = .int .i64 k ∧ l = .int .i64 k := by
  rw [keyOf_int Try.underlying3] at h
  cases key <;> simp [mapKey, Try.underlying3] at h
  obtain ⟨⟨rfl, _⟩, rfl⟩ := h
  exact ⟨_, rfl, rfl⟩
theorem map_row {b : Nat} {l : List (Lit × Value)} (hm : MapAt 3 wr b l) {t : TypeId} {s n : Nat} {u : Value} {X : List Value} (h : wr.ownsRow W t s u n X) : u.ownBlock ≠ some b := fun hk => by
  rcases h.2 with ⟨rfl, _⟩ | ⟨g, cap, cur, rfl, hb, hg, r⟩
  · cases hk
  · cases hk
    obtain ⟨es, c', e', _⟩ := hm
    rw [hg] at e'
    cases e'
theorem iter_row {b r : Nat} {l left : List (Lit × Value)} (hm : MapOn 3 wr b r l left) {t : TypeId} {s n : Nat} {u : Value} {X : List Value} (h : wr.ownsRow W t s u n X) : u.ownBlock ≠ some r := fun hk => by
  obtain ⟨c, hr, _⟩ := hm
  exact row_ne_iter h hr hk.symm
/-- the step of a loop over what is held -/
theorem wpList_held_next {w : World} {H : List Sx} {ops : Array Oper} {rest : List Oper} {o : Oper} {a : Act} {Q : Exit → Act → World → Prop} (hg : o.guard = none) (it : Operand) (hop : o.op = Op.next it false) (b r : Nat) (l left : List (Lit × Value))
    (hl : ∀ p ∈ left, ∀ k, p.1 = .int .i64 k → ∃ x ∈ H, p = (.int .i64 (x.pos : Int), pv x.blk))
    (hit : a.eval it = .pointer (some ⟨r, 0, none⟩)) (h : MapOn 3 w b r l left)
    (hDone : left = [] → wpList Try.prog ops Q rest (a.put o.dst (.tuple #[.bool false])) w)
    (hMore : ∀ (x : Sx) w', x ∈ H → Hid ((.int .i64 (x.pos : Int), pv x.blk) ∈ left) → Hid (MapOn 3 w' b r l (strL left (.int .i64 (x.pos : Int)))) → Hid (left.length = (strL left (.int .i64 (x.pos : Int))).length + 1) → Hid (w.grownBy w' (some r)) → Hid (w'.heap.size = w.heap.size) →
      (Instr.entry (.pointer (some ⟨r, 0, none⟩))).run Try.prog w' = .ok (.tuple #[.int .i64 (x.pos : Int), .pointer (some ⟨x.blk, 0, none⟩)]) w' → wpList Try.prog ops Q rest (a.put o.dst (.tuple #[.bool true, .int .i64 (x.pos : Int), .pointer (some ⟨x.blk, 0, none⟩)])) w') : wpList Try.prog ops Q (o :: rest) a w := by
  refine wpList_map_next hg it hop law_int b r l left hit h hDone fun key p w' hp hkey hm hpm hg2 hs2 hen => ?_
  obtain ⟨k, rfl, hk⟩ := key_inv hkey
  obtain ⟨x, hx, rfl⟩ := hl p hp k hk
  have hkx : (x.pos : Int) = k := by
    have := (Lit.int.inj hk).2
    exact this
  subst hkx
  exact hMore x w' hx hp hm (Lib.hid (by have := hpm.out.length_eq; simpa using this.symm)) hg2 hs2 hen
end

/-! ### Sorted -/
def sortS (key : Sx → Nat) (T : List Sx) : List Sx := T.mergeSort fun x y => decide (key x ≤ key y)
theorem sortS_perm (key : Sx → Nat) (T : List Sx) : (sortS key T).Perm T := List.mergeSort_perm _ _
theorem sortS_le (key : Sx → Nat) (T : List Sx) : (sortS key T).Pairwise fun x y => key x ≤ key y := by
  have h := List.pairwise_mergeSort (le := fun x y : Sx => decide (key x ≤ key y)) (fun a b c h1 h2 => by simp only [decide_eq_true_eq] at *; omega) (fun a b => by simp only [Bool.or_eq_true, decide_eq_true_eq]; omega) T
  exact h.imp fun h => by simpa using h
theorem sorted_same {key : Sx → Nat} : ∀ {P Q : List Sx}, P.Pairwise (fun x y => key x < key y) → Q.Pairwise (fun x y => key x < key y) → (∀ x, x ∈ P ↔ x ∈ Q) → P = Q
  | [], [], _, _, _ => rfl
  | [], y :: _, _, _, h => absurd ((h y).2 List.mem_cons_self) (by simp)
  | x :: _, [], _, _, h => absurd ((h x).1 List.mem_cons_self) (by simp)
  | x :: P, y :: Q, hp, hq, h => by
    obtain ⟨p1, p2⟩ := List.pairwise_cons.1 hp
    obtain ⟨q1, q2⟩ := List.pairwise_cons.1 hq
    have e : x = y := by
      rcases List.mem_cons.1 ((h x).1 List.mem_cons_self) with e | hx
      · exact e
      · rcases List.mem_cons.1 ((h y).2 List.mem_cons_self) with e | hy
        · exact e.symm
        · have := q1 x hx; have := p1 y hy; omega
    subst e
    rw [sorted_same p2 q2 fun z => ?_]
    constructor
    · intro hz
      rcases List.mem_cons.1 ((h z).1 (List.mem_cons_of_mem _ hz)) with e | hz2
      · subst e; have := p1 z hz; omega
      · exact hz2
    · intro hz
      rcases List.mem_cons.1 ((h z).2 (List.mem_cons_of_mem _ hz)) with e | hz2
      · subst e; have := q1 z hz; omega
      · exact hz2
theorem sortS_lt {key : Sx → Nat} {T : List Sx} (hn : T.Nodup) (hinj : ∀ x ∈ T, ∀ y ∈ T, key x = key y → x = y) : (sortS key T).Pairwise fun x y => key x < key y := by
  have h1 := sortS_le key T
  have h2 : (sortS key T).Nodup := (sortS_perm key T).symm.nodup hn
  have h3 := h1.and h2
  refine List.Pairwise.imp_of_mem (fun {a b} ha hb hab => ?_) h3
  rcases Nat.lt_or_eq_of_le hab.1 with h | h
  · exact h
  · exact absurd (hinj a ((sortS_perm key T).mem_iff.1 ha) b ((sortS_perm key T).mem_iff.1 hb) h) hab.2
section
variable {w : World} {B : Nat} {H T : List Sx}
open Go.Lib Go.Sort
theorem sort_row (g : Nat) (key : Sx → Nat) (eg : ∀ args w, (callFunc g args).run Try.prog w = .ok (.enter g args) w)
    (hcm : ∀ (W : World) (x y : Sx), x.b.length = 128 → y.b.length = 128 → Vw W 86 x.blk x.cells → Vw W 86 y.blk y.cells → Calls Try.prog g #[pv x.blk, pv y.blk] W fun e w' => e = .returned (.int .i64 (cmpI (key x) (key y))) ∧ ∃ n, w' = W.drewN n)
    (hinj : ∀ x ∈ H, ∀ y ∈ H, key x = key y → x = y) (hs : ∀ x ∈ H, Vw w 86 x.blk x.cells ∧ x.b.length = 128) (hT : ∀ x ∈ T, x ∈ H) (hTl : T.length ≤ 100000) {v : Value} (ho : w.ownsRow B 81 1 v T.length (pvs T)) :
    Calls Try.prog 62 #[v, .func (.func g) #[] #[]] w fun e w' => e = .returned (.tuple #[]) ∧ w'.ownsRow B 81 1 v (sortS key T).length (pvs (sortS key T)) ∧ TurnS (fun k => v.ownBlock = some k) w w' := by
  rcases own_form1 ho with ⟨e, e0⟩ | ⟨q, cap, cur, e, hcu, hcl, hn, hm, hB, hcx⟩
  · subst e0 e
    have h1 := AnyF.slices_SortFunc_none { Try.sortOf with } none 0 (.func (.func g) #[] #[]) w
    refine h1.mono ?_
    rintro e w' ⟨rfl, rfl⟩
    have e2 : sortS key [] = [] := (sortS_perm key []).eq_nil
    rw [e2]
    exact ⟨rfl, ho, TurnS.refl _ _⟩
  · subst e
    cases T with
    | nil =>
      have h1 := AnyF.slices_SortFunc_none { Try.sortOf with } (some ⟨q, 0, none⟩) cap (.func (.func g) #[] #[]) w
      refine h1.mono ?_
      rintro e w' ⟨rfl, rfl⟩
      have e2 : sortS key [] = [] := (sortS_perm key []).eq_nil
      rw [e2]
      exact ⟨rfl, ho, TurnS.refl _ _⟩
    | cons t0 T0 =>
      obtain ⟨T, hTe⟩ : ∃ T, t0 :: T0 = T := ⟨_, rfl⟩
      have ht0 : t0 ∈ H := hT t0 List.mem_cons_self
      rw [hTe] at hT hTl hn hcx ⊢
      haveI : Inhabited (InH H) := ⟨⟨t0, ht0⟩⟩
      have hgx : ∀ y ∈ H, y.blk ≠ q := fun y hy e => absurd (vw_type (hs y hy).1 (e ▸ hcu)) (by decide)
      have hsz := rowH_size hT
      have hH : Holds encH w q 0 (rowH T hT) := fun j hj => by
        rw [hsz] at hj
        have hj' := List.getElem?_eq_getElem hj
        rw [Nat.zero_add]
        refine ⟨?_, hcu.frozen j⟩
        unfold encH
        rw [rowH_get hT hj']
        exact hcu.cell (hcx j _ hj')
      have hcmp : CmpLays1 Try.prog g #[] encH (fun x y : InH H => cmpI (key x.1 : Int) (key y.1 : Int)) q 0 (rowH T hT).size w := by
        intro m os dk hdk x y
        have k1 : ∀ z : Sx, z ∈ H → Vw (sortWorld encH w q 0 m dk os) 86 z.blk z.cells := fun z hz => by
          unfold sortWorld Vw
          rw [row_same (hs z hz).1.lt (hgx z hz)]
          exact (hs z hz).1
        refine (hcm _ x.1 y.1 (hs _ x.2).2 (hs _ y.2).2 (k1 _ x.2) (k1 _ y.2)).mono ?_
        rintro e w' ⟨rfl, n, rfl⟩
        exact ⟨rfl, n, #[], by rw [grow_empty]⟩
      have hlt : ∀ x y : InH H, ltOf (fun x y : InH H => cmpI (key x.1 : Int) (key y.1 : Int)) x y = decide (key x.1 < key y.1) := fun x y => cmp_neg _ _
      have hcon := Any.slices_SortFunc_total Try.sortOf encH (fun _ => rfl) (fun x y : InH H => cmpI (key x.1 : Int) (key y.1 : Int)) ⟨fun x => by rw [hlt]; simp, fun x y z h1 h2 => by rw [hlt] at *; simp only [decide_eq_true_eq] at *; omega, fun x y z h1 h2 => by rw [hlt] at *; simp only [decide_eq_false_iff_not] at *; omega⟩ g #[] q 0 cap (rowH T hT) w eg hcmp hH hcu.lt (by rw [hsz]; omega) (fun x y h1 h2 => by
        rw [hlt] at h1 h2
        simp only [decide_eq_false_iff_not] at h1 h2
        exact Subtype.ext (hinj x.1 x.2 y.1 y.2 (by omega)))
      rw [hsz] at hcon
      refine hcon.mono ?_
      rintro e w' ⟨rfl, n, os, rfl⟩
      obtain ⟨D, hD⟩ : ∃ D, ((rowH T hT).toList.mergeSort fun x y => !(ltOf (fun x y : InH H => cmpI (key x.1 : Int) (key y.1 : Int))) y x) = D := ⟨_, rfl⟩
      have hDv : D.map Subtype.val = sortS key T := by
        rw [← hD]
        have := List.map_mergeSort (f := (Subtype.val : InH H → Sx)) (r := fun x y => !(ltOf (fun x y : InH H => cmpI (key x.1 : Int) (key y.1 : Int))) y x) (s := fun x y => decide (key x ≤ key y)) (l := (rowH T hT).toList) (fun a _ b _ => by
          show (!(ltOf _) b a) = _
          rw [hlt]
          by_cases hk : key b.1 < key a.1
          · rw [decide_eq_true hk, decide_eq_false (by omega)]; rfl
          · rw [decide_eq_false hk, decide_eq_true (by omega)]; rfl)
        rw [this, rowH_val]; rfl
      rw [hD]
      have hlen : (sortS key T).length = T.length := (sortS_perm key T).length_eq
      have hDl : D.length = T.length := by rw [← hlen, ← hDv, List.length_map]
      unfold sortWorld
      refine ⟨rfl, ?_, row_turn encH w q 0 n D.toArray os (by rfl)⟩
      have hV : Vw (grow (putRow encH (Sort.ahead w n) q 0 D.toArray) os) 81 q (putCells encH 0 D.toArray cur.toArray).toList := by
        unfold Vw
        rw [row_at hcu]
      rw [← hlen]
      refine own_of_cur hV ?_ (by omega) hm hB fun k x hk => ?_
      · rw [Array.length_toList, ← hcl]; simp [putCells]
      · have hkl := (List.getElem?_eq_some_iff.1 hk).1
        have hkD : k < D.length := by omega
        have hD2 : (D.toArray[k]!).1 = x := by
          rw [getElem!_pos D.toArray k (by simpa using hkD)]
          rw [← hDv, List.getElem?_map, List.getElem?_eq_getElem hkD] at hk
          simpa using hk
        rw [Array.getElem?_toList]
        unfold putCells
        rw [Array.getElem?_mapIdx, List.getElem?_toArray, List.getElem?_eq_getElem (show k < cur.length by omega)]
        simp only [Option.map_some, Nat.zero_le, Nat.zero_add, true_and, Nat.sub_zero]
        rw [if_pos (by simpa using hkD)]
        unfold encH
        rw [hD2]
end
end Go.Proofs.Ytnfaeejeipbciaa
end

section
set_option linter.unusedVariables false
set_option linter.unusedSimpArgs false
namespace Go.Proofs.Ytnfaeejeipbciaa
open Go.RowKit BigFrame Go.Lib
set_option maxRecDepth 100000

section
variable {w w' wr : World} {B : Nat} {M M' : List Nat} {c : RC} {L : List Rr}
theorem Try.infoHeld : (Try.prog.info? 88).map (fun i => (i.zero, i.size, i.bytes)) = some (some (.agg #[.int .i64 0, .slice none 0 0, .bool false, .bool false]), 4, 40) := by kernel_rfl
theorem Rr.one {r : Rr} (h : r.v.oneCell' = true) : ∀ u ∈ r.cells, u.oneCell' = true := by
  intro u hu
  simp only [Rr.cells, List.mem_cons, List.mem_nil_iff, or_false] at hu
  rcases hu with rfl | rfl | rfl | rfl
  · rfl
  · exact h
  · rfl
  · rfl
theorem Kept.oneCell {G : Nat} {v : Value} {X : List Nat} (h : Kept w M G v X) : v.oneCell' = true := by
  obtain ⟨g, cap, rfl, _⟩ := h; rfl
/-- rows of one's own -/
def OwnR (w : World) (B : Nat) (v : Value) (L : List Rr) : Prop := w.ownsRow B 88 4 v L.length (rrs L)
theorem OwnR.nil (w : World) (B : Nat) : OwnR w B (.slice none 0 0) [] := World.ownsRow_nil _ _ _ _
theorem OwnR.blk {v : Value} (h : OwnR w B v L) (e : ∀ k, v.ownBlock = some k → w'.heap[k]? = w.heap[k]?) : OwnR w' B v L := ownsRow_block h e
theorem OwnR.block {v : Value} (h : OwnR w B v L) : ∀ k, v.ownBlock = some k → B ≤ k ∧ k < w.heap.size := fun k hk => World.ownsRow.lt h k hk
theorem OwnR.on {v : Value} (h : OwnR w B v L) (hb : Below w.heap.size w w') : OwnR w' B v L := h.blk fun k hk => hb.block k (h.block k hk).2
theorem OwnR.alloc {v : Value} (h : OwnR w B v L) (x : Obj) : OwnR (w.alloc x) B v L := h.blk fun k hk => old_alloc w x k (h.block k hk).2
theorem held_new (w : World) (r : Rr) : (w.alloc (.cells r.cells.toArray 88)).rangeAt w.heap.size 0 r.cells := fun j v hv => by
  rw [Nat.zero_add]
  exact (Vw.alloc w r.cells 88).cell hv
theorem wpList_append_held {w : World} {ops : Array Oper} {rest : List Oper} {o : Oper} {a : Act} {Q : Exit → Act → World → Prop} (hgd : o.guard = none) (s x : Operand)
    (ho : o.op = .call { callee := .builtin .append, args := #[s, x], argTypes := #[29, 29] })
    (B : Nat) (v : Value) (L : List Rr) (hs : a.eval s = v) (hown : OwnR w B v L) (g cap : Nat) (y : Rr) (hx : a.eval x = .slice (some ⟨g, 0, none⟩) 1 cap) (hsrc : w.rangeAt g 0 y.cells) (h1 : y.v.oneCell' = true)
    (hlen : L.length + 1 ≤ 1000000) (hbase : B ≤ w.heap.size)
    (h : ∀ v' w', Hid (OwnR w' B v' (L ++ [y])) → Hid (w.grownBy w' v.ownBlock) → wpList Try.prog ops Q rest (a.put o.dst v') w') : wpList Try.prog ops Q (o :: rest) a w := by
  obtain ⟨i, hi, hz0, hz1, hz2⟩ := info_parts Try.infoHeld
  refine wpList_append_own_at w hgd s x 29 ho B 88 i _ 4 40 Try.underlying29 hi hz0 hz1 hz2 rfl (by decide) v L.length (rrs L) hs hown ⟨g, 0, none⟩ 1 cap (rrs [y]) hx (by rw [rrs_length]; rfl) ?_ (by rw [rrs_one]; exact Rr.one h1) (by unfold maxLen; omega) (by omega) hbase ?_
  · intro j u hu
    rw [rrs_one] at hu
    rw [Addr.add_mid]
    exact hsrc j u hu
  · intro v' w' h1 h2 _ h4
    refine h v' w' ?_ h2
    show OwnR w' B v' (L ++ [y])
    unfold OwnR
    rw [rrs_append, List.length_append]; exact h1
/-- a row's cells, together -/
theorem RcAt.range (h : RcAt w B M c) {k : Nat} {r : Rr} (hr : c.L[k]? = some r) {g n cap : Nat} (e : c.lv = .slice (some ⟨g, 0, none⟩) n cap) : w.rangeAt g (k * 4) r.cells := fun j v hv => by
  have := World.ownsRow.cells h.own (g := g) (by rw [e]; rfl) (k * 4 + j) v (rrs_get hr j v hv)
  rw [addr_add, Nat.zero_add] at this
  exact this
theorem run_ldH {g o : Nat} {r : Rr} (hr : w.rangeAt g o r.cells) : (Instr.loadAt 88 (.pointer (some ⟨g, o, none⟩))).run Try.prog w = .ok (.agg r.cells.toArray) w :=
  run_loadAt_mid w g o 88 r.cells _ hr Try.underlying88 rfl (by
    obtain ⟨i, hi, _, h2, _⟩ := info_parts Try.infoHeld
    rw [hi]; simp [Rr.cells, h2])
end
end Go.Proofs.Ytnfaeejeipbciaa
end

section
set_option linter.unusedVariables false
set_option linter.unusedSimpArgs false
namespace Go.Proofs.Ytnfaeejeipbciaa
open Go.RowKit BigFrame Go.Lib
set_option maxRecDepth 100000

section
variable {w w' wr : World} {B : Nat} {M M' : List Nat} {c : RC} {L : List Rr}
theorem take_succ_r {L : List Rr} {k : Nat} {r : Rr} (h : L[k]? = some r) : L.take (k + 1) = L.take k ++ [r] := by
  rw [List.take_add_one, h]; rfl
/-- all but those at a place, and one more -/
def newR (h : Rr) (L : List Rr) : List Rr := L.filter (fun r => decide (r.pos ≠ h.pos)) ++ [h]
/-- what is left of a document's own cache: another list -/
def RC.lay (c : RC) (v : Value) (L : List Rr) : RC := { c with lv := v, L := L }
/-- another list is laid: its rows are kept, its list one's own, new -/
theorem RcAt.lay (h : RcAt w B M c) {w1 : World} (hb : Below w.heap.size w w1) {v : Value} (ho : OwnR w1 w.heap.size v L) (hk : ∀ r ∈ L, Kept w (c.foot ++ M) c.W r.v r.b) (hp : (L.map Rr.pos).Nodup) (hl : ∀ r ∈ L, r.pos < 2048) (hBw : B ≤ w.heap.size) (hM : ∀ k ∈ M, k < w.heap.size) :
    RcAt (w1.setCell ⟨c.W, 2, none⟩ v) B M (c.lay v L) ∧ Step w c.foot (w1.setCell ⟨c.W, 2, none⟩ v) (c.lay v L).foot := by
  have hW := h.lt _ (RC.foot_w c)
  have hne : ∀ k, v.ownBlock = some k → k ≠ c.W := fun k hk e => by have := (ho.block k hk).1; omega
  have hs : Step w c.foot (w1.setCell ⟨c.W, 2, none⟩ v) (c.lay v L).foot := by
    refine ⟨hb.os, hb.tape, hb.output, by rw [size_set]; exact hb.size, fun k hk hf => ?_, fun k hk => ?_⟩
    · rw [heap_set_other _ ⟨c.W, 2, none⟩ _ (show k ≠ c.W from fun e => hf (e ▸ RC.foot_w c))]; exact hb.block k hk
    · rcases RC.foot_cases hk with e | e
      · exact .inl (by rw [e]; exact RC.foot_w c)
      · exact .inr (ho.block k e).1
  refine ⟨⟨?_, ?_, fun r hr => ?_, hp, hl, fun k hk => ?_⟩, hs⟩
  · have h1 : Vw w1 31 c.W c.cells := by
      have := h.hdr
      unfold Vw at this ⊢
      rw [hb.block _ hW]; exact this
    exact h1.set 2 v
  · have : OwnR (w1.setCell ⟨c.W, 2, none⟩ v) w.heap.size v L := ho.blk fun k hk => heap_set_other _ ⟨c.W, 2, none⟩ _ (hne k hk)
    exact own_lower this hBw
  · exact (hk r hr).step ⟨hs.os, hs.tape, hs.output, hs.size, fun k hk hf => hs.block k hk (fun e => hf (List.mem_append_left _ e)), fun k hk => by
      rcases List.mem_append.1 hk with hk | hk
      · exact (hs.foot k hk).imp (List.mem_append_left _) id
      · exact .inl (List.mem_append_right _ hk)⟩
  · rcases RC.foot_cases hk with e | e
    · rw [e]; exact h.over _ (RC.foot_w c)
    · have := (ho.block k e).1
      exact ⟨by omega, fun e => by have := hM k e; omega⟩
/-- what a call leaves that makes another list -/
def LaidR (c : RC) (B : Nat) (M : List Nat) (L : List Rr) (w w' : World) : Prop := ∃ v, RcAt w' B M (c.lay v L) ∧ Step w c.foot w' (c.lay v L).foot
theorem OwnR.form {v : Value} (h : OwnR w B v L) : (v = .slice none 0 0 ∧ L = []) ∨ ∃ g cap, v = .slice (some ⟨g, 0, none⟩) L.length cap := by
  rcases h.2 with ⟨e, h0⟩ | ⟨g, cap, cur, e, hb, hg, hn, r⟩
  · exact .inl ⟨e, List.eq_nil_of_length_eq_zero h0⟩
  · exact .inr ⟨g, cap, e⟩
theorem OwnR.more {v : Value} {x : Rr} (h : OwnR w B v (L ++ [x])) : ∃ n g cap, v = .slice (some ⟨g, 0, none⟩) n cap := by
  rcases h.form with ⟨_, e⟩ | e
  · simp at e
  · exact ⟨_, e⟩
theorem OwnR.sl {v : Value} (h : OwnR w B v L) : ∃ n ap cap, v = .slice ap n cap := by
  rcases h.form with ⟨e, _⟩ | ⟨g, cap, e⟩
  · exact ⟨_, _, _, e⟩
  · exact ⟨_, _, _, e⟩
theorem newR_ok {h : Rr} {L : List Rr} (hL : (L.map Rr.pos).Nodup) : ((newR h L).map Rr.pos).Nodup := by
  unfold newR
  rw [List.map_append, List.nodup_append]
  refine ⟨hL.sublist (List.filter_sublist.map _), by simp, ?_⟩
  intro a ha b hb
  simp only [List.map_cons, List.map_nil, List.mem_singleton] at hb
  obtain ⟨r, hr, rfl⟩ := List.mem_map.1 ha
  rw [hb]
  simpa using (List.mem_filter.1 hr).2
set_option maxHeartbeats 4000000 in
theorem newest_r (h : RcAt w B M c) (x : Rr) (hx : Kept w (c.foot ++ M) c.W x.v x.b) (hxp : x.pos < 2048) (hBw : B ≤ w.heap.size) (hM : ∀ k ∈ M, k < w.heap.size) :
    Calls Try.prog 60 #[pv c.W, .agg x.cells.toArray] w fun e w' => e = .returned (.tuple #[]) ∧ LaidR c B M (newR x c.L) w w' := by
  have c2 : w.cell? ⟨c.W, 2, none⟩ = some c.lv := h.hdr.cell rfl
  have hlen := h.few
  obtain ⟨nL, hnL⟩ : ∃ nL, c.L.length = nL := ⟨_, rfl⟩
  obtain ⟨lp, lc, hlv⟩ : ∃ lp lc, c.lv = .slice lp nL lc := by
    rw [← hnL]
    rcases h.form with ⟨e, e0⟩ | ⟨g, cap, e, _⟩
    · exact ⟨none, 0, by rw [e, e0]; rfl⟩
    · exact ⟨_, _, e⟩
  rw [hlv] at c2
  rw [hnL] at hlen
  obtain ⟨xc, hxc⟩ : ∃ xc, x.cells.toArray = xc := ⟨_, rfl⟩
  have hxr := Lib.hid (held_new w x)
  have hone := Lib.hid hx.oneCell
  rw [hxc] at hxr ⊢
  have hh := Lib.hid h
  have hx' := Lib.hid hx
  have hnL' := Lib.hid hnL
  have hlv' := Lib.hid hlv
  have hxc' := Lib.hid hxc
  clear h hx hnL hlv hxc
  unfold pv
  go_enter Try.func60, Try.ntmps60
  go_wp2_with fail
  have hB1 := Lib.hid ((Below.refl w.heap.size w).alloc (Nat.le_refl _) (Obj.cells xc 88))
  have hs1 := Lib.hid (size_alloc w (Obj.cells xc 88))
  obtain ⟨w1, hw1⟩ : ∃ w1, w1 = w.alloc (Obj.cells xc 88) := ⟨_, rfl⟩
  rw [← hw1] at hB1 hs1 hxr ⊢
  have hR1 := Lib.hid (hh.out.read hB1.out)
  clear hw1 c2
  go_loopg [4, 5] nL (fun g v i wr => ∃ k : Nat, k + g = nL ∧ i = .int .i64 (k : Int) ∧ OwnR wr w1.heap.size v ((c.L.take k).filter (fun r => decide (r.pos ≠ x.pos))) ∧ Below w1.heap.size w1 wr)
  case atStart => exact ⟨0, by omega, rfl, OwnR.nil _ _, Below.refl _ _⟩
  case round =>
    obtain ⟨k, hkg, rfl, hown, hbel⟩ := hrel
    have hR2 := hR1.out.read hbel
    have c2 : wr.cell? ⟨c.W, 2, none⟩ = some c.lv := hR2.hdr.cell rfl
    rw [hlv'.out] at c2
    have hsz := hbel.size
    have x0 : wr.cell? ⟨w.heap.size, 0, none⟩ = some (.int .i64 ((x.pos : Nat) : Int)) := by
      rw [World.cell?_of_block (w := w1) (a := ⟨w.heap.size, 0, none⟩) (hbel.block w.heap.size (by have := hs1.out; omega))]
      exact hxr.out 0 _ rfl
    obtain ⟨q, hq⟩ : ∃ q, x.pos = q := ⟨_, rfl⟩
    rw [hq] at x0 hxp
    rw [hq] at hown
    have hq' := Lib.hid hq
    have hown' := Lib.hid hown
    have hbel' := Lib.hid hbel
    have htl : ((c.L.take k).filter (fun r => decide (r.pos ≠ q))).length ≤ 2048 := Nat.le_trans (List.length_filter_le _ _) (by rw [List.length_take, hnL'.out]; omega)
    by_cases hlt : k < nL
    · obtain ⟨g, rfl⟩ : ∃ g, gk = g + 1 := ⟨gk - 1, by omega⟩
      obtain ⟨r, hr⟩ : ∃ r, c.L[k]? = some r := ⟨_, List.getElem?_eq_getElem (by rw [hnL'.out]; exact hlt)⟩
      obtain ⟨b, cap, e1, hcap, _, r0, _⟩ := hR2.get hr
      have hrg := hR2.range hr e1
      rw [hlv'.out, hnL'.out] at e1
      cases e1
      rw [hnL'.out] at hcap
      obtain ⟨p, hp⟩ : ∃ p, r.pos = p := ⟨_, rfl⟩
      rw [hp] at r0
      have hr' := Lib.hid hr
      have hp' := Lib.hid hp
      have hR2' := Lib.hid hR2
      clear hown hbel hq hr hp hR2
      by_cases hpq : p = q
      · have t1 : ((p : Int) != (q : Int)) = false := by simp [hpq]
        go_wp2_with fail
        go_region
        go_wp2_with fail
        go_roundg g
        case measure => omega
        case rel => exact ⟨k + 1, by omega, by go_num, by
          rw [hq'.out, take_succ_r hr'.out, List.filter_append, List.filter_cons, if_neg (by rw [hp'.out, hpq]; simp), List.filter_nil, List.append_nil]
          exact hown'.out.on (Below.refl _ _).drew, hbel'.out.drew⟩
      · have t1 : ((p : Int) != (q : Int)) = true := by simp; omega
        have hld2 := run_ldH ((World.rangeAt_drew _ _ _ _).2 hrg)
        have RG := Lib.hid (show ((wr.alloc (Obj.cells #[.int .i64 (p : Int), r.v, .bool r.dirty, .bool r.pin] 88)).drew).rangeAt wr.heap.size 0 r.cells by rw [← hp'.out]; exact (World.rangeAt_drew _ _ _ _).2 (held_new wr r))
        have OW := Lib.hid ((hown'.out.alloc (Obj.cells #[.int .i64 (p : Int), r.v, .bool r.dirty, .bool r.pin] 88)).on (Below.refl _ _).drew)
        have B2 := Lib.hid ((hbel'.out.alloc hsz (Obj.cells #[.int .i64 (p : Int), r.v, .bool r.dirty, .bool r.pin] 88)).drew)
        have ON := Lib.hid (hR2'.out.rows r (List.mem_of_getElem? hr'.out)).oneCell
        have hZ := Lib.hid (show w1.heap.size ≤ ((wr.alloc (Obj.cells #[.int .i64 (p : Int), r.v, .bool r.dirty, .bool r.pin] 88)).drew).heap.size from B2.out.size)
        have ht2 : ((c.L.take k).filter (fun r => decide (r.pos ≠ q))).length + 1 ≤ 1000000 := by omega
        have ht3 := Lib.hid ht2
        clear hrg htl ht2
        go_wp2_with fail
        go_region
        go_wp2_with (at_builtin; refine wpList_append_held rfl (.tmp 26) (.tmp 34) rfl w1.heap.size _ _ rfl OW.out wr.heap.size 1 r rfl RG.out ON.out ht3.out hZ.out ?_; intro v4 w4 ho4 hg4)
        go_roundg g
        case measure => omega
        case rel => exact ⟨k + 1, by omega, by go_num, by
          rw [hq'.out, take_succ_r hr'.out, List.filter_append, List.filter_cons, if_pos (by rw [hp'.out]; simpa using hpq), List.filter_nil]
          exact ho4.out, B2.out.grown hg4.out hZ.out (fun j hj => (OW.out.block j hj).1)⟩
    · obtain rfl : k = nL := by omega
      have ht : c.L.take k = c.L := List.take_of_length_le (by rw [hnL'.out]; exact Nat.le_refl _)
      rw [ht] at hown' htl
      have hxr2 := (show wr.rangeAt w.heap.size 0 x.cells from fun j v hv => by
        rw [World.cell?_of_block (w := w1) (a := ⟨w.heap.size, 0 + j, none⟩) (hbel'.out.block w.heap.size (by have := hs1.out; omega))]
        exact hxr.out j v hv)
      have x1 := hxr2 1 _ rfl
      have x2 := hxr2 2 _ rfl
      have x3 := hxr2 3 _ rfl
      simp only [Nat.zero_add] at x1 x2 x3
      have RG := Lib.hid (show (wr.alloc (Obj.cells #[.int .i64 (q : Int), x.v, .bool x.dirty, .bool x.pin] 88)).rangeAt wr.heap.size 0 x.cells by rw [← hq'.out]; exact held_new wr x)
      have OW := Lib.hid (hown'.out.alloc (Obj.cells #[.int .i64 (q : Int), x.v, .bool x.dirty, .bool x.pin] 88))
      have B2 := Lib.hid (hbel'.out.alloc hsz (Obj.cells #[.int .i64 (q : Int), x.v, .bool x.dirty, .bool x.pin] 88))
      have ht3 := Lib.hid (show (c.L.filter (fun r => decide (r.pos ≠ q))).length + 1 ≤ 1000000 by omega)
      have hZ := Lib.hid (show w1.heap.size ≤ (wr.alloc (Obj.cells #[.int .i64 (q : Int), x.v, .bool x.dirty, .bool x.pin] 88)).heap.size from B2.out.size)
      clear hxr2 hown hbel hq hR2 ht htl
      go_wp2_with (at_builtin; refine wpList_append_held rfl (.tmp 37) (.tmp 39) rfl w1.heap.size _ _ rfl OW.out wr.heap.size 1 x rfl RG.out hone.out ht3.out hZ.out ?_; intro v4 w4 ho4 hg4; obtain ⟨n4, g4, cap4, hv4⟩ := ho4.out.more; subst hv4; have B4 := Lib.hid (hB1.out.trans ((B2.out.grown hg4.out hZ.out (fun j hj => (OW.out.block j hj).1)).mono hB1.out.size)); have R4 := Lib.hid (hh.out.read B4.out); have c4 := R4.out.hdr.cell (k := 2) rfl; have f4 := R4.out.hdr.frozen 2)
      go_end0
      have hn : newR x c.L = c.L.filter (fun r => decide (r.pos ≠ q)) ++ [x] := by unfold newR; rw [hq'.out]
      obtain ⟨h1, h2⟩ := RcAt.lay hh.out B4.out (L := newR x c.L) (by rw [hn]; exact own_lower ho4.out hB1.out.size) (fun r hr => by
        unfold newR at hr
        rcases List.mem_append.1 hr with hr | hr
        · exact hh.out.rows r (List.mem_filter.1 hr).1
        · simp at hr; rw [hr]; exact hx'.out) (newR_ok hh.out.pos) (fun r hr => by
        unfold newR at hr
        rcases List.mem_append.1 hr with hr | hr
        · exact hh.out.low r (List.mem_filter.1 hr).1
        · simp at hr; rw [hr, hq'.out]; exact hxp) hBw hM
      exact ⟨rfl, _, h1, h2⟩
end
end Go.Proofs.Ytnfaeejeipbciaa
end
