/-
  A set of nodes: one is taken away; the last one goes to its place.
-/
import Derived.Test.YtgkmmdkagiohgaaB13
set_option linter.unusedVariables false
set_option linter.unusedSimpArgs false
namespace Go.Proofs.Ytgkmmdkagiohgaa
open Go.RowKit BigFrame
set_option maxRecDepth 100000

/-! ### Lists -/
theorem ix_of {L : List Nat} (hn : L.Nodup) {k y : Nat} (h : L[k]? = some y) : ix L y = some k := by
  obtain ⟨j, h1, h2, h3⟩ := ix_some (List.mem_of_getElem? h)
  rw [h1, nodup_at hn h h3]
/-- the one at p goes, z, the last one, comes there -/
def remL (L : List Nat) (p z : Nat) : List Nat := (L.set p z).take (L.length - 1)
theorem remL_len (L : List Nat) (p z : Nat) : (remL L p z).length = L.length - 1 := by
  unfold remL; rw [List.length_take, List.length_set]; omega
theorem remL_get {L : List Nat} {p z : Nat} (hp : p < L.length) (k : Nat) : (remL L p z)[k]? = if k < L.length - 1 then (if k = p then some z else L[k]?) else none := by
  unfold remL
  rw [List.getElem?_take]
  by_cases h : k < L.length - 1
  · rw [if_pos h, if_pos h, List.getElem?_set]
    by_cases e : k = p
    · rw [if_pos e.symm, if_pos hp, if_pos e]
    · rw [if_neg (Ne.symm e), if_neg e]
  · rw [if_neg h, if_neg h]
theorem remL_nodup {L : List Nat} {p x z : Nat} (hn : L.Nodup) (hp : L[p]? = some x) (hz : L[L.length - 1]? = some z) : (remL L p z).Nodup := by
  have hpl := (List.getElem?_eq_some_iff.1 hp).1
  refine List.pairwise_iff_getElem.2 fun i j hi hj hij he => ?_
  have h1 : (remL L p z)[i]? = some ((remL L p z)[i]) := List.getElem?_eq_getElem hi
  have h2 : (remL L p z)[j]? = some ((remL L p z)[j]) := List.getElem?_eq_getElem hj
  rw [he] at h1
  rw [remL_len] at hi hj
  rw [remL_get hpl, if_pos hi] at h1
  rw [remL_get hpl, if_pos hj] at h2
  by_cases e1 : i = p
  · rw [if_pos e1] at h1
    rw [if_neg (by omega), ← h1] at h2
    have := nodup_at hn h2 hz
    omega
  · rw [if_neg e1] at h1
    by_cases e2 : j = p
    · rw [if_pos e2] at h2
      rw [← h2] at h1
      have := nodup_at hn h1 hz
      omega
    · rw [if_neg e2] at h2
      have := nodup_at hn h1 h2
      omega
theorem ix_rem {L : List Nat} {p x z : Nat} (hn : L.Nodup) (hp : L[p]? = some x) (hz : L[L.length - 1]? = some z) (y : Nat) : ix (remL L p z) y = if y = x then none else if y = z then some p else ix L y := by
  have hpl := (List.getElem?_eq_some_iff.1 hp).1
  have hn' := remL_nodup hn hp hz
  by_cases e : y = x
  · subst e
    rw [if_pos rfl]
    refine ix_none fun hm => ?_
    obtain ⟨k, hk⟩ := List.getElem?_of_mem hm
    rw [remL_get hpl] at hk
    by_cases h1 : k < L.length - 1
    · rw [if_pos h1] at hk
      by_cases h2 : k = p
      · rw [if_pos h2] at hk
        have := Option.some.inj hk
        subst this
        have := nodup_at hn hp hz
        omega
      · rw [if_neg h2] at hk
        exact h2 (nodup_at hn hk hp)
    · rw [if_neg h1] at hk; cases hk
  · rw [if_neg e]
    by_cases ez : y = z
    · subst ez
      rw [if_pos rfl]
      have hpe : p < L.length - 1 := by
        by_cases h : p < L.length - 1
        · exact h
        · have : p = L.length - 1 := by omega
          rw [this, hz] at hp
          exact absurd (Option.some.inj hp) e
      exact ix_of hn' (by rw [remL_get hpl, if_pos hpe, if_pos rfl])
    · rw [if_neg ez]
      by_cases hm : y ∈ L
      · obtain ⟨k, h1, h2, h3⟩ := ix_some hm
        rw [h1]
        have k1 : k ≠ p := fun h => by rw [h, hp] at h3; exact e (Option.some.inj h3).symm
        have k2 : k ≠ L.length - 1 := fun h => by rw [h, hz] at h3; exact ez (Option.some.inj h3).symm
        exact ix_of hn' (by rw [remL_get hpl, if_pos (by omega), if_neg k1]; exact h3)
      · rw [ix_none hm]
        refine ix_none fun hm' => ?_
        obtain ⟨k, hk⟩ := List.getElem?_of_mem hm'
        rw [remL_get hpl] at hk
        by_cases h1 : k < L.length - 1
        · rw [if_pos h1] at hk
          by_cases h2 : k = p
          · rw [if_pos h2] at hk; exact ez (Option.some.inj hk).symm
          · rw [if_neg h2] at hk; exact hm (List.mem_of_getElem? hk)
        · rw [if_neg h1] at hk; cases hk
theorem remL_mem {L : List Nat} {p x z : Nat} (hn : L.Nodup) (hp : L[p]? = some x) (hz : L[L.length - 1]? = some z) (y : Nat) : y ∈ remL L p z ↔ y ∈ L ∧ y ≠ x := by
  have h := congrArg Option.isSome (ix_rem hn hp hz y)
  rw [ix_isSome] at h
  by_cases e : y = x
  · rw [if_pos e] at h
    exact ⟨fun hm => absurd ((decide_eq_true hm).symm.trans h) (by decide), fun hm => absurd e hm.2⟩
  · rw [if_neg e] at h
    by_cases ez : y = z
    · rw [if_pos ez] at h
      exact ⟨fun _ => ⟨ez ▸ List.mem_of_getElem? hz, e⟩, fun _ => of_decide_eq_true h⟩
    · rw [if_neg ez, ix_isSome] at h
      exact ⟨fun hm => ⟨of_decide_eq_true (h.symm.trans (decide_eq_true hm)), e⟩, fun hm => of_decide_eq_true (h.trans (decide_eq_true hm.1))⟩

/-! ### Maps: how many -/
theorem strL_len {k : Lit} : ∀ {l : List (Lit × Value)} {v : Value}, l.Pairwise (fun p q => p.1 ≠ q.1) → fndL l k = some v → (strL l k).length + 1 = l.length
  | [], _, _, h => by cases h
  | p :: r, v, hp, h => by
    obtain ⟨h1, h2⟩ := List.pairwise_cons.1 hp
    unfold fndL at h
    rw [List.find?_cons] at h
    unfold strL
    rw [List.filter_cons]
    cases hs : p.1.sameKey k with
    | true =>
      have hk := WideAt.sameKey_eq hs
      rw [if_neg (by simp)]
      rw [List.filter_eq_self.2 fun q hq => by
        cases hs2 : q.1.sameKey k with
        | false => rfl
        | true => exact absurd (hk.trans (WideAt.sameKey_eq hs2).symm) (h1 q hq)]
      rfl
    | false =>
      rw [hs] at h
      rw [if_pos (by simp)]
      have ih := strL_len (k := k) h2 (v := v) h
      unfold strL at ih
      simp only [List.length_cons]
      omega

/-! ### In memory -/
section
variable {w : World} {B g n cap : Nat} {nb : Nat → Nat} {L : List Nat}
theorem SlAt.cur (h : SlAt w B nb (.slice (some ⟨g, 0, none⟩) n cap) L) : ∃ cur, Vw w 47 g cur ∧ cur.length = cap ∧ n ≤ cap ∧ cap ≤ maxLen ∧ B ≤ g ∧ L.length = n ∧ ∀ k x : Nat, L[k]? = some x → cur[k]? = some (pv (nb x)) := by
  have h' := h
  obtain ⟨h1, h2⟩ := h
  rcases h2 with ⟨h2, _⟩ | ⟨g', cap', cur, h2, hb, hg, hn, hm, hs, ht⟩
  · cases h2
  · cases h2
    refine ⟨cur.toList, by unfold Vw; rw [hg], by rw [Array.length_toList, hs]; omega, hn, hm, hb, ?_, fun k x hk => ?_⟩
    · rfl
    · have := ptrs_get (nb := nb) hk
      rw [← ht, List.getElem?_take] at this
      split at this
      · exact this
      · cases this
theorem SlAt.of_cur {cur : List Value} (hV : Vw w 47 g cur) (hc : cur.length = cap) (hn : L.length ≤ cap) (hm : cap ≤ maxLen) (hB : B ≤ g) (hx : ∀ k x : Nat, L[k]? = some x → cur[k]? = some (pv (nb x))) : SlAt w B nb (.slice (some ⟨g, 0, none⟩) L.length cap) L := by
  refine ⟨by rw [ptrs_len, Nat.mul_one], .inr ⟨g, cap, cur.toArray, rfl, hB, hV, hn, hm, by simp [hc], ?_⟩⟩
  apply List.ext_getElem?
  intro k
  show (cur.take (L.length * 1))[k]? = _
  rw [List.getElem?_take]
  by_cases h : k < L.length
  · rw [if_pos (by omega), hx k _ (List.getElem?_eq_getElem h), ptrs_get (List.getElem?_eq_getElem h)]
  · rw [if_neg (by omega), List.getElem?_eq_none (by rw [ptrs_len]; omega)]
end
end Go.Proofs.Ytgkmmdkagiohgaa
