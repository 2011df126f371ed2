/-
  What the laws say, on lists.
-/
import Derived.Test.YtcmomnfefaolaaaRlq
import Derived.Test.YtcmomnfefaolaaaRls
namespace Go.Proofs.Ytcmomnfefaolaaa
open Go.RowKit BigFrame
set_option maxRecDepth 100000
theorem sec_id {l : List Nat} (h : l.length = 128) : sec l = l := by
  unfold sec splice
  rw [List.take_of_length_le (show l.length ≤ 128 by omega)]
  simp [zs, h]
theorem lays_none {s : Int} : ∀ {xs : List Ob} {L : List Nat}, (∀ x ∈ xs, ¬ (mayO x = true ∧ x.s = s)) → lays s L xs = L
  | [], _, _ => rfl
  | x :: r, L, h => by
    show lays s (lay1 s L x) r = L
    have : lay1 s L x = L := by unfold lay1; rw [if_neg (h x List.mem_cons_self)]
    rw [this]
    exact lays_none fun y hy => h y (List.mem_cons_of_mem _ hy)
theorem askd_upto {R : Nat → Int} {m : Nat} (h : ∀ k, k < m → R k = (k : Int)) (j : Nat) : askd R m j = decide (j < m) := by
  unfold askd
  rw [Bool.eq_iff_iff, List.any_eq_true, decide_eq_true_iff]
  constructor
  · rintro ⟨q, hq, he⟩
    rw [List.mem_range] at hq
    rw [decide_eq_true_iff, h q hq] at he
    omega
  · intro hj
    exact ⟨j, List.mem_range.2 hj, by rw [decide_eq_true_iff, h j hj]⟩
theorem pickN_upto {f : Nat → Bool} {xs : List Ob} {c : Nat} (hf : ∀ j, f j = decide (j < c)) : ∀ {k : Nat}, k ≤ xs.length → pickN f xs k = (xs.take k).take c
  | 0, _ => by simp [pickN]
  | k + 1, h => by
    by_cases hk : k < c
    · rw [pickN_yes (by rw [hf]; exact decide_eq_true hk), pickN_upto hf (by omega), ob_take (by omega)]
      have e1 : (xs.take k).take c = xs.take k := List.take_of_length_le (by rw [List.length_take]; omega)
      have e2 : (xs.take k ++ [ob xs k]).take c = xs.take k ++ [ob xs k] := List.take_of_length_le (by rw [List.length_append, List.length_take]; simp; omega)
      rw [e1, e2]
    · rw [pickN_no (by rw [hf]; exact decide_eq_false hk), pickN_upto hf (by omega), List.take_take, List.take_take]
      congr 1
      omega
theorem pickN_from {f : Nat → Bool} {xs : List Ob} {c : Nat} (hf : ∀ j, f j = !decide (j < c)) : ∀ {k : Nat}, k ≤ xs.length → pickN f xs k = (xs.take k).drop c
  | 0, _ => by simp [pickN]
  | k + 1, h => by
    by_cases hk : k < c
    · rw [pickN_no (by rw [hf, decide_eq_true hk]; rfl), pickN_from hf (by omega), List.drop_eq_nil_of_le (by rw [List.length_take]; omega), List.drop_eq_nil_of_le (by rw [List.length_take]; omega)]
    · rw [pickN_yes (by rw [hf, decide_eq_false hk]; rfl), pickN_from hf (by omega), ob_take (by omega), List.drop_append, List.length_take, show c - min k xs.length = 0 by omega]
      rfl
theorem msec_mem {xs : List Ob} {z : Nat} : z ∈ msec xs ↔ ∃ x ∈ xs, mayO x = true ∧ x.s.toNat = z := by
  unfold msec
  rw [List.mem_map]
  constructor
  · rintro ⟨x, hx, e⟩
    obtain ⟨h1, h2⟩ := List.mem_filter.1 hx
    exact ⟨x, h1, h2, e⟩
  · rintro ⟨x, h1, h2, e⟩
    exact ⟨x, List.mem_filter.2 ⟨h1, h2⟩, e⟩
theorem msec_turn (xs : List Ob) (c z : Nat) : z ∈ msec (xs.drop c ++ xs.take c) ↔ z ∈ msec xs := by
  rw [msec_mem, msec_mem]
  constructor
  · rintro ⟨x, hx, h⟩
    rcases List.mem_append.1 hx with hx | hx
    · exact ⟨x, List.mem_of_mem_drop hx, h⟩
    · exact ⟨x, List.mem_of_mem_take hx, h⟩
  · rintro ⟨x, hx, h⟩
    refine ⟨x, ?_, h⟩
    rw [← List.take_append_drop c xs] at hx
    rcases List.mem_append.1 hx with hx | hx
    · exact List.mem_append.2 (.inr hx)
    · exact List.mem_append.2 (.inl hx)
/-- a sector that none has -/
theorem lays_out {xs : List Ob} {Z : List Nat} {s : Nat} {L : List Nat} (h : Uniq (msec xs) Z) (hs : ¬ s ∈ Z) : lays (s : Int) L xs = L := by
  refine lays_none fun x hx ⟨h1, h2⟩ => hs ((h.mem s).2 (msec_mem.2 ⟨x, hx, h1, ?_⟩))
  omega
end Go.Proofs.Ytcmomnfefaolaaa
