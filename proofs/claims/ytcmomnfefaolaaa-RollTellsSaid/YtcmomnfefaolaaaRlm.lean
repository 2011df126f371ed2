/-
  Objects in a slice of one's own.
-/
import Derived.Test.YtcmomnfefaolaaaRla
import Derived.Test.YtcmomnfefaolaaaGr
import Derived.Maps.AppendAt
namespace Go.Proofs.Ytcmomnfefaolaaa
open Go.RowKit BigFrame
set_option maxRecDepth 100000
abbrev Op2 := Ob × Value
def osC (L : List Op2) : List Value := L.flatMap fun p => oc p.1 p.2
theorem osC_length : ∀ L : List Op2, (osC L).length = L.length * 3
  | [] => rfl
  | r :: L => by
    have ih := osC_length L
    unfold osC at ih ⊢
    rw [List.flatMap_cons, List.length_append, ih]
    simp [oc]
    omega
theorem osC_append (L M : List Op2) : osC (L ++ M) = osC L ++ osC M := by unfold osC; rw [List.flatMap_append]
theorem osC_at : ∀ {L : List Op2} {k : Nat} {p : Op2}, L[k]? = some p → ∀ j u, (oc p.1 p.2)[j]? = some u → (osC L)[k * 3 + j]? = some u
  | [], k, p, h, _, _, _ => by simp at h
  | r :: L, 0, p, h, j, u, hj => by
    simp only [List.getElem?_cons_zero, Option.some.injEq] at h
    subst h
    have hl : j < (oc r.1 r.2).length := (List.getElem?_eq_some_iff.1 hj).1
    unfold osC
    rw [List.flatMap_cons, Nat.zero_mul, Nat.zero_add, List.getElem?_append_left hl]
    exact hj
  | r :: L, k + 1, p, h, j, u, hj => by
    have ih := osC_at (L := L) (k := k) (p := p) (by simpa using h) j u hj
    unfold osC at ih ⊢
    rw [List.flatMap_cons, List.getElem?_append_right (by simp [oc]; omega), show (k + 1) * 3 + j - (oc r.1 r.2).length = k * 3 + j by simp [oc]; omega]
    exact ih
/-- objects lie there, in a row of one's own -/
def RowO (w : World) (base : Nat) (v : Value) (L : List Op2) : Prop := w.ownsRow base 37 3 v L.length (osC L)
section
variable {w w' : World} {base : Nat} {v : Value} {L : List Op2}
theorem RowO.nil (w : World) (base : Nat) : RowO w base (.slice none 0 0) [] := World.ownsRow_nil _ _ _ _
theorem RowO.block (h : RowO w base v L) : ∀ k, v.ownBlock = some k → base ≤ k ∧ k < w.heap.size := fun k hk => World.ownsRow.lt h k hk
theorem RowO.kept {r : Option Nat} (h : RowO w base v L) (hg : w.grownBy w' r) (hr : ∀ k, v.ownBlock = some k → some k ≠ r) : RowO w' base v L :=
  World.ownsRow.kept h hg (by cases e : v.ownBlock with
    | none => exact .inl rfl
    | some k => exact .inr (hr k e))
theorem RowO.on (h : RowO w base v L) (hb : Below w.heap.size w w') : RowO w' base v L :=
  h.kept (r := none) ⟨hb.os, hb.tape, hb.output, hb.size, fun k hk _ => hb.block k hk⟩ (fun k _ => by simp)
theorem RowO.alloc (h : RowO w base v L) (o : Obj) : RowO (w.alloc o) base v L := World.ownsRow.alloc h o
theorem RowO.drew {m : Nat} (h : RowO w base v L) : RowO (w.drewN m) base v L := h
theorem RowO.lower {b : Nat} (h : RowO w base v L) (hb : b ≤ base) : RowO w b v L := by
  obtain ⟨h1, h2⟩ := h
  refine ⟨h1, ?_⟩
  rcases h2 with h2 | ⟨g, cap, cur, e, hg, rest⟩
  · exact .inl h2
  · exact .inr ⟨g, cap, cur, e, Nat.le_trans hb hg, rest⟩
/-- a row of objects is no row of bytes -/
theorem RowO.apart {u : Value} {l : List Nat} {b : Nat} (h : RowO w base v L) (k : OwnB w b u l) : ∀ g, u.ownBlock = some g → v.ownBlock ≠ some g := by
  intro g hu hv
  obtain ⟨-, h2⟩ := h
  obtain ⟨-, k2⟩ := k
  rcases h2 with ⟨rfl, _⟩ | ⟨g1, cap1, cur1, rfl, _, hh, _⟩
  · cases hv
  rcases k2 with ⟨rfl, _⟩ | ⟨g2, cap2, cur2, rfl, _, hk, _⟩
  · cases hu
  have e1 : g1 = g := Option.some.inj hv
  have e2 : g2 = g := Option.some.inj hu
  subst e1 e2
  rw [hh] at hk
  simp only [Option.some.injEq, Obj.cells.injEq] at hk
  exact absurd hk.2.1 (by decide)
theorem RowO.slo (h : RowO w base v L) (hd : ∀ p ∈ L, SlB w p.2 p.1.b) : SlO w v (L.map (·.1)) := by
  have h' := h
  rcases h.2 with ⟨rfl, h0⟩ | ⟨g, cap, cur, rfl, _, hh, hn, hm, _⟩
  · have : L = [] := List.eq_nil_of_length_eq_zero h0
    subst this
    exact ⟨none, 0, rfl, Nat.le_refl _, .inl rfl, fun _ => rfl⟩
  · refine ⟨some ⟨g, 0, none⟩, cap, by rw [List.length_map], by rw [List.length_map]; exact hn, .inr ⟨g, 0, rfl, fun k hk => ?_⟩, fun h => by cases h⟩
    rw [List.length_map] at hk
    obtain ⟨p, hp⟩ : ∃ p, L[k]? = some p := ⟨L[k]'hk, List.getElem?_eq_getElem hk⟩
    have e : ob (L.map (·.1)) k = p.1 := by simp [ob, List.getD, hp]
    rw [e]
    refine ⟨p.2, fun j u hj => ?_, hd p (List.mem_of_getElem? hp)⟩
    have hl : j < 3 := (List.getElem?_eq_some_iff.1 hj).1
    rw [Nat.zero_add, World.ownsRow.cellAt h' _ (by omega)]
    exact osC_at hp j u hj
theorem RowO.form (h : RowO w base v L) : ∃ a cap, v = .slice a L.length cap ∧ (a = none → cap = 0) ∧ L.length ≤ cap := by
  rcases h.2 with ⟨rfl, h0⟩ | ⟨g, cap, cur, rfl, _, hh, hn, hm, _⟩
  · exact ⟨none, 0, by rw [h0], fun _ => rfl, by omega⟩
  · exact ⟨_, cap, rfl, (fun h => by cases h), hn⟩
end
/-- the cells of an object in a new block -/
theorem ob_news (w : World) (p : Op2) (t : TypeId) : ∀ j u, (oc p.1 p.2)[j]? = some u → (w.alloc (.cells (oc p.1 p.2).toArray t)).cell? ((⟨w.heap.size, 0, none⟩ : Addr).add j) = some u := by
  intro j u hj
  rw [addr_add, Nat.zero_add, cell_of_row _ _ j _ _ _ (heap_alloc_new w _)]
  simpa using hj
theorem wpList_append_ob {w : World} {ops : Array Oper} {rest : List Oper} {o : Oper} {a : Act} {Q : Exit → Act → World → Prop} (hgd : o.guard = none) (s x : Operand)
    (ho : o.op = .call { callee := .builtin .append, args := #[s, x], argTypes := #[23, 23] })
    (base : Nat) (v : Value) (L : List Op2) (hs : a.eval s = v) (hown : RowO w base v L) (ad : Addr) (cap : Nat) (p : Op2) (hx : a.eval x = .slice (some ad) 1 cap) (hnews : ∀ j u, (oc p.1 p.2)[j]? = some u → w.cell? (ad.add j) = some u) (h1 : p.2.oneCell' = true)
    (hlen : L.length + 1 ≤ 1000000) (hbase : base ≤ w.heap.size)
    (h : ∀ v' w', Hid (RowO w' base v' (L ++ [p])) → Hid (w.grownBy w' v.ownBlock) → wpList Try.prog ops Q rest (a.put o.dst v') w') : wpList Try.prog ops Q (o :: rest) a w := by
  obtain ⟨i, hi, hz0, hz1, hz2⟩ := info_parts Try.infoOb
  refine wpList_append_own w hgd s x 23 ho base 37 i _ 3 40 Try.underlying23 hi hz0 hz1 hz2 rfl (by decide) v L.length (osC L) hs hown ad 1 cap (oc p.1 p.2) hx rfl hnews (fun u hu => by
    simp only [oc, List.mem_cons, List.mem_nil_iff, or_false] at hu
    rcases hu with rfl | rfl | rfl
    · rfl
    · rfl
    · exact h1) (by unfold maxLen; omega) (by omega) hbase ?_
  intro v' w' h3 h2 _
  refine h v' w' (Lib.hid ?_) (Lib.hid h2)
  show w'.ownsRow base 37 3 v' (L ++ [p]).length (osC (L ++ [p]))
  rw [List.length_append, osC_append, show osC [p] = oc p.1 p.2 by simp [osC]]
  exact h3
theorem wpList_append_ob_at {w : World} {ops : Array Oper} {rest : List Oper} {o : Oper} {a : Act} {Q : Exit → Act → World → Prop} (hgd : o.guard = none) (s x : Operand)
    (ho : o.op = .call { callee := .builtin .append, args := #[s, x], argTypes := #[23, 23] })
    (base : Nat) (v : Value) (L : List Op2) (hs : a.eval s = v) (hown : RowO w base v L) (ad : Addr) (cap : Nat) (p : Op2) (hx : a.eval x = .slice (some ad) 1 cap) (hnews : ∀ j u, (oc p.1 p.2)[j]? = some u → w.cell? (ad.add j) = some u) (h1 : p.2.oneCell' = true)
    (hlen : L.length + 1 ≤ 1000000) (hbase : base ≤ w.heap.size)
    (h : ∀ v' w', Hid (RowO w' base v' (L ++ [p])) → Hid (w.grownBy w' v.ownBlock) → Hid (v'.ownBlock = v.ownBlock ∨ v'.ownBlock = some w.heap.size) → wpList Try.prog ops Q rest (a.put o.dst v') w') : wpList Try.prog ops Q (o :: rest) a w := by
  obtain ⟨i, hi, hz0, hz1, hz2⟩ := info_parts Try.infoOb
  refine wpList_append_own_at w hgd s x 23 ho base 37 i _ 3 40 Try.underlying23 hi hz0 hz1 hz2 rfl (by decide) v L.length (osC L) hs hown ad 1 cap (oc p.1 p.2) hx rfl hnews (fun u hu => by
    simp only [oc, List.mem_cons, List.mem_nil_iff, or_false] at hu
    rcases hu with rfl | rfl | rfl
    · rfl
    · rfl
    · exact h1) (by unfold maxLen; omega) (by omega) hbase ?_
  intro v' w' h3 h2 _ h4
  refine h v' w' (Lib.hid ?_) (Lib.hid h2) (Lib.hid h4)
  show w'.ownsRow base 37 3 v' (L ++ [p]).length (osC (L ++ [p]))
  rw [List.length_append, osC_append, show osC [p] = oc p.1 p.2 by simp [osC]]
  exact h3
end Go.Proofs.Ytcmomnfefaolaaa
