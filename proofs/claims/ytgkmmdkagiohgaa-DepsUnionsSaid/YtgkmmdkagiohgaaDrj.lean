/-
  Fifteen booleans in a variable: which numbers were met.
-/
import Derived.Test.YtgkmmdkagiohgaaB13
set_option linter.unusedVariables false
set_option linter.unusedSimpArgs false
namespace Go.Proofs.Ytgkmmdkagiohgaa
open Go.RowKit BigFrame
set_option maxRecDepth 100000
variable {w w' wr w0 : World} {W B a M : Nat} {G : Gr} {ρ : Nat → Nat} {ids : List Nat} {dn : Nat → List Nat}

/-- which of the first fifteen numbers are among them -/
def bvs (S : List Nat) : List Value := (List.range 15).map fun k => Value.bool (decide (k ∈ S))
theorem bvs_len (S : List Nat) : (bvs S).length = 15 := by simp [bvs]
theorem bvs_get {S : List Nat} {k : Nat} (h : k < 15) : (bvs S)[k]? = some (.bool (decide (k ∈ S))) := by simp [bvs, h]
theorem bvs_set {S : List Nat} {y : Nat} (h : y < 15) : (bvs S).set y (.bool true) = bvs (S ++ [y]) := by
  apply List.ext_getElem?
  intro k
  rw [List.getElem?_set]
  by_cases hk : k < 15
  · rw [bvs_get hk, bvs_get hk]
    by_cases e : y = k
    · subst e; rw [if_pos rfl, if_pos (by rw [bvs_len]; exact h)]; simp
    · rw [if_neg e]
      congr 2
      simp [Ne.symm e]
  · rw [if_neg (by omega), List.getElem?_eq_none (by rw [bvs_len]; omega), List.getElem?_eq_none (by rw [bvs_len]; omega)]
theorem bvs_congr {S T : List Nat} (h : ∀ k, k < 15 → (k ∈ S ↔ k ∈ T)) : bvs S = bvs T := by
  unfold bvs
  exact List.map_congr_left fun k hk => by rw [decide_eq_decide.2 (h k (List.mem_range.1 hk))]
theorem Try.infoB15 : (Try.prog.info? 40).map (fun i => (i.zero, i.size)) = some (some (.agg (bvs []).toArray), 15) := by kernel_rfl
theorem zero_B15 (w : World) : (zeroValue 40).run Try.prog w = .ok (.agg (bvs []).toArray) w := (zero_of_info Try.infoB15).1 w
theorem wpList_alloc_B15 {w : World} {ops : Array Oper} {rest : List Oper} {o : Oper} {a : Act} {Q : Exit → Act → World → Prop} (hgd : o.guard = none) (ho : o.op = .alloc 40)
    (h : ∀ g w1, Hid (Vw w1 40 g (bvs [])) → g = w.heap.size → Below w.heap.size w w1 → wpList Try.prog ops Q rest (a.put o.dst (.pointer (some ⟨g, 0, none⟩))) w1) : wpList Try.prog ops Q (o :: rest) a w := by
  refine wpList_plain hgd fun K hK => ?_
  have hz := zero_B15 w
  unfold Oper.wp
  simp [execOp, ho, Instr.alloc, Sem.run_bind, hz, newVar, Value.cells, Result.andThen]
  exact hK _ _ (h _ _ (heap_alloc_new w _) rfl ((Below.refl _ _).alloc (Nat.le_refl _) _))
/-- so many lists: one more than the deepest lies -/
theorem lists_mx {lv : Nat → Nat} {O : List Nat} {LL : List (List Nat)} (h : LvOk lv O LL) : LL.length = mx lv O := by
  have h1 : mx lv O ≤ LL.length := mx_le fun y hy => h.lt y hy
  by_cases e : LL.length = 0
  · omega
  · obtain ⟨x, hx, hl⟩ := h.full (LL.length - 1) (by omega)
    have := mx_ge (lv := lv) hx
    omega
theorem mx_union {lv : Nat → Nat} {O P Q : List Nat} (h : ∀ z, z ∈ Q ↔ z ∈ O ∨ z ∈ P) : mx lv Q = max (mx lv O) (mx lv P) := by
  have h1 : mx lv Q ≤ max (mx lv O) (mx lv P) := mx_le fun y hy => by
    rcases (h y).1 hy with h2 | h2
    · have := mx_ge (lv := lv) h2; omega
    · have := mx_ge (lv := lv) h2; omega
  have h2 : mx lv O ≤ mx lv Q := mx_le fun y hy => by have := mx_ge (lv := lv) ((h y).2 (.inl hy)); omega
  have h3 : mx lv P ≤ mx lv Q := mx_le fun y hy => by have := mx_ge (lv := lv) ((h y).2 (.inr hy)); omega
  omega
theorem clo_one {x : Nat} (hx : x ∈ G.ids) (z : Nat) : Clo G (fun _ => (x : Int)) 1 z ↔ Reach (G.lk 0) x z := by
  constructor
  · rintro ⟨j, i, _, hi, he, hr⟩
    have he' : (x : Int) = (i : Int) := he
    obtain rfl : x = i := by omega
    exact hr
  · intro h; exact ⟨0, x, by omega, hx, rfl, h⟩
theorem clo_list {L : List Nat} (hL : ∀ x ∈ L, x ∈ G.ids) {n : Nat} (hn : n = L.length) (z : Nat) : Clo G (fun k => ((L.getD k 0 : Nat) : Int)) n z ↔ ∃ x ∈ L, Reach (G.lk 0) x z := by
  subst hn
  constructor
  · rintro ⟨j, i, hj, hi, he, hr⟩
    have he' : ((L.getD j 0 : Nat) : Int) = (i : Int) := he
    have h1 : L.getD j 0 = i := by omega
    have h2 : L[j]? = some i := by
      rw [List.getElem?_eq_getElem hj]
      rw [List.getD_eq_getElem?_getD, List.getElem?_eq_getElem hj] at h1
      exact congrArg some h1
    exact ⟨i, List.mem_of_getElem? h2, hr⟩
  · rintro ⟨x, hx, hr⟩
    obtain ⟨j, hj⟩ := List.getElem?_of_mem hx
    exact ⟨j, x, (List.getElem?_eq_some_iff.1 hj).1, hL x hx, by show ((L.getD j 0 : Nat) : Int) = _; rw [List.getD_eq_getElem?_getD, hj]; rfl, hr⟩
end Go.Proofs.Ytgkmmdkagiohgaa
