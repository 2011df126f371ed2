/-
  Many objects appended at once.
-/
import Derived.Test.YtcmomnfefaolaaaRlm
import Derived.Laws.AppendOwnNone
import Derived.Deep.RegionLaw
namespace Go.Proofs.Ytcmomnfefaolaaa
open Go.RowKit BigFrame
set_option maxRecDepth 100000
/-- these cells lie there -/
def ViewO (w : World) (a : Option Addr) (M : List Op2) : Prop := M.length = 0 ∨ ∃ b off, a = some ⟨b, off, none⟩ ∧ ∀ j u, (osC M)[j]? = some u → w.cell? ⟨b, off + j, none⟩ = some u
theorem ViewO.on {w w' : World} {a : Option Addr} {M : List Op2} (h : ViewO w a M) (hb : Below w.heap.size w w') : ViewO w' a M := by
  rcases h with h | ⟨b, off, rfl, hx⟩
  · exact .inl h
  · refine .inr ⟨b, off, rfl, fun j u hj => ?_⟩
    have hc := hx j u hj
    rw [hb.cell (p := ⟨b, off + j, none⟩) (World.block_lt_of_cell? w _ hc)]
    exact hc
theorem osC_split : ∀ {M : List Op2} {j : Nat} {u : Value}, (osC M)[j]? = some u → ∃ p, M[j / 3]? = some p ∧ (oc p.1 p.2)[j % 3]? = some u
  | [], j, u, h => by simp [osC] at h
  | r :: M, j, u, h => by
    have e : osC (r :: M) = oc r.1 r.2 ++ osC M := by unfold osC; rw [List.flatMap_cons]
    rw [e] at h
    by_cases h3 : j < 3
    · rw [List.getElem?_append_left (by rw [oc_length]; exact h3)] at h
      rw [Nat.div_eq_of_lt h3, Nat.mod_eq_of_lt h3]
      exact ⟨r, rfl, h⟩
    · rw [List.getElem?_append_right (by rw [oc_length]; omega), oc_length] at h
      obtain ⟨p, h1, h2⟩ := osC_split h
      refine ⟨p, ?_, ?_⟩
      · rw [show j / 3 = (j - 3) / 3 + 1 by omega]; exact h1
      · rw [show j % 3 = (j - 3) % 3 by omega]; exact h2
theorem ObsAt.view {w : World} {a : Option Addr} {xs : List Ob} (h : ObsAt w a xs) : ∃ M : List Op2, M.map (·.1) = xs ∧ (∀ p ∈ M, SlB w p.2 p.1.b) ∧ ViewO w a M := by
  rcases h with h | ⟨b, off, rfl, hx⟩
  · have : xs = [] := List.eq_nil_of_length_eq_zero h
    subst this
    exact ⟨[], rfl, (fun p hp => by cases hp), .inl rfl⟩
  · have hall : ∀ k : Fin xs.length, ∃ v, ObAt w b (off + k.1 * 3) (ob xs k.1) v := fun k => hx k.1 k.2
    have hM : ∀ j p, ((List.finRange xs.length).map fun k => (ob xs k.1, (hall k).choose))[j]? = some p → ∃ hj : j < xs.length, p = (ob xs j, (hall ⟨j, hj⟩).choose) := fun j p hp => by
      have hj : j < xs.length := by have := (List.getElem?_eq_some_iff.1 hp).1; simpa using this
      refine ⟨hj, ?_⟩
      simp [hj] at hp
      exact hp.symm
    refine ⟨(List.finRange xs.length).map fun k => (ob xs k.1, (hall k).choose), ?_, fun p hp => ?_, .inr ⟨b, off, rfl, fun j u hj => ?_⟩⟩
    · rw [List.map_map]
      apply List.ext_getElem (by simp)
      intro k h1 h2
      simp [ob_get h2]
    · obtain ⟨k, _, rfl⟩ := List.mem_map.1 hp
      exact (hall k).choose_spec.2
    · obtain ⟨p, h1, h2⟩ := osC_split hj
      obtain ⟨hk, rfl⟩ := hM _ _ h1
      have := (hall ⟨j / 3, hk⟩).choose_spec.1 (j % 3) u h2
      rw [show off + j = off + j / 3 * 3 + j % 3 by omega]
      exact this
theorem SlO.obs {w : World} {a : Option Addr} {n cap : Nat} {xs : List Ob} (h : SlO w (.slice a n cap) xs) : ObsAt w a xs ∧ (a = none → cap = 0) := by
  obtain ⟨a', cap', e, _, h1, h2⟩ := h
  simp only [Value.slice.injEq] at e
  obtain ⟨rfl, _, rfl⟩ := e
  exact ⟨h1, h2⟩
theorem run_append_obs {w : World} (base : Nat) (v : Value) (L : List Op2) (ty : TypeId) (hown : RowO w base v L) (sp : Option Addr) (m sCap : Nat) (M : List Op2) (hm : M.length = m) (hsrc : ViewO w sp M) (hone : ∀ p ∈ M, p.2.oneCell' = true) (hnil : sp = none → sCap = 0)
    (hlen : L.length + m ≤ 1000000) (hbase : base ≤ w.heap.size) :
    ∃ v' w', (Builtin.append_ #[23, 23] ty #[v, .slice sp m sCap]).run Try.prog w = .ok v' w' ∧ RowO w' base v' (L ++ M) ∧ w.grownBy w' v.ownBlock := by
  subst hm
  obtain ⟨i, hi, hz0, hz1, hz2⟩ := info_parts Try.infoOb
  cases sp with
  | none =>
    obtain rfl := hnil rfl
    have hM : M = [] := by
      rcases hsrc with h | ⟨_, _, e, _⟩
      · exact List.eq_nil_of_length_eq_zero h
      · cases e
    subst hM
    have hr := run_append_owned_none (P := Try.prog) (w := w) base 23 ty 37 i 3 Try.underlying23 hi v L.length (osC L) hown
    exact ⟨v, w, hr, by rw [List.append_nil]; exact hown, World.grownBy.refl _ _⟩
  | some ad =>
    obtain ⟨v', w', hr, h1, h2, _⟩ := run_append_own (P := Try.prog) w base 23 ty 37 i _ 3 40 Try.underlying23 hi hz0 hz1 hz2 rfl (by decide) v L.length (osC L) hown ad M.length sCap (osC M) (osC_length M) (by
      intro j u hu
      rcases hsrc with h | ⟨b, off, e, h⟩
      · have : M = [] := List.eq_nil_of_length_eq_zero h
        subst this
        simp [osC] at hu
      · obtain rfl := Option.some.inj e
        rw [addr_add]; exact h j u hu) (by
      intro u hu
      obtain ⟨p, hp, hup⟩ := List.mem_flatMap.1 hu
      simp only [oc, List.mem_cons, List.mem_nil_iff, or_false] at hup
      rcases hup with rfl | rfl | rfl
      · rfl
      · rfl
      · exact hone p hp) (by unfold maxLen; omega) (by omega) hbase
    refine ⟨v', w', hr, ?_, h2⟩
    unfold RowO
    rw [List.length_append, osC_append]; exact h1
theorem step_append_obs {w : World} {ops : Array Oper} {o : Oper} {a : Act} {K : Act → World → Prop} {Q : Exit → Act → World → Prop} {F : Prop} (hgd : o.guard = none) (s x : Operand)
    (ho : o.op = .call { callee := .builtin .append, args := #[s, x], argTypes := #[23, 23] })
    (base : Nat) (v : Value) (L : List Op2) (hs : a.eval s = v) (hown : RowO w base v L) (sp : Option Addr) (m sCap : Nat) (M : List Op2) (hx : a.eval x = .slice sp m sCap) (hm : M.length = m) (hsrc : ViewO w sp M) (hone : ∀ p ∈ M, p.2.oneCell' = true) (hnil : sp = none → sCap = 0)
    (hlen : L.length + m ≤ 1000000) (hbase : base ≤ w.heap.size)
    (h : ∀ v' w', RowO w' base v' (L ++ M) → w.grownBy w' v.ownBlock → K (a.put o.dst v') w') :
    if Region.wanted o (yielded ops a.tmps) = true then Oper.wp Try.prog o a w K Q else F := by
  have hw : Region.wanted o (yielded ops a.tmps) = true := by simp [Region.wanted, hgd]
  rw [if_pos hw]
  obtain ⟨v', w', hr, h3, h2⟩ := run_append_obs base v L o.type hown sp m sCap M hm hsrc hone hnil hlen hbase
  unfold Oper.wp
  simp [execOp, ho, resolve, invoke, builtin, hs, hx, hr, Result.andThen]
  exact h v' w' h3 h2
theorem wpList_append_obs_want {w : World} {ops : Array Oper} {rest : List Oper} {o : Oper} {a : Act} {Q : Exit → Act → World → Prop} (hw : Region.wanted o (yielded ops a.tmps) = true) (s x : Operand)
    (ho : o.op = .call { callee := .builtin .append, args := #[s, x], argTypes := #[23, 23] })
    (base : Nat) (v : Value) (L : List Op2) (hs : a.eval s = v) (hown : RowO w base v L) (sp : Option Addr) (m sCap : Nat) (M : List Op2) (hx : a.eval x = .slice sp m sCap) (hm : M.length = m) (hsrc : ViewO w sp M) (hone : ∀ p ∈ M, p.2.oneCell' = true) (hnil : sp = none → sCap = 0)
    (hlen : L.length + m ≤ 1000000) (hbase : base ≤ w.heap.size)
    (h : ∀ v' w', Hid (RowO w' base v' (L ++ M)) → Hid (w.grownBy w' v.ownBlock) → wpList Try.prog ops Q rest (a.put o.dst v') w') : wpList Try.prog ops Q (o :: rest) a w := by
  refine wpList_want hw fun K hK => ?_
  obtain ⟨v', w', hr, h3, h2⟩ := run_append_obs base v L o.type hown sp m sCap M hm hsrc hone hnil hlen hbase
  unfold Oper.wp
  simp [execOp, ho, resolve, invoke, builtin, hs, hx, hr, Result.andThen]
  exact hK _ _ (h v' w' h3 h2)
end Go.Proofs.Ytcmomnfefaolaaa
