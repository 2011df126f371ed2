/-
  Names that are joined are split again: what the law says of lists.
-/
import Derived.Test.YtkocjkndkkhogaaDoorTa
import Derived.Test.YtkocjkndkkhogaaDoorKa
namespace Go.Proofs.YtkocjkndkkhogaaDoor
open Go.RowKit BigFrame

/-- some letters -/
def Letters (p : List Nat) : Prop := ∀ x ∈ p, 97 ≤ x ∧ x ≤ 122
/-- names of 1 to 9 letters -/
def Names (L : List (List Nat)) : Prop := ∀ p ∈ L, Letters p ∧ 1 ≤ p.length ∧ p.length ≤ 9
theorem Letters.octs {p : List Nat} (h : Letters p) : Octs p := octs_mem fun x hx => by have := h x hx; omega
theorem Letters.snoc {p : List Nat} {c : Nat} (h : Letters p) (h1 : 97 ≤ c) (h2 : c ≤ 122) : Letters (p ++ [c]) := fun x hx => by
  rcases List.mem_append.1 hx with hx | hx
  · exact h x hx
  · obtain rfl := List.mem_singleton.1 hx; exact ⟨h1, h2⟩
theorem Names.octs {L : List (List Nat)} (h : Names L) : OctsL L := fun p hp => (h p hp).1.octs
theorem Names.sub {a b : List (List Nat)} (h : Names b) (hs : a.Sublist b) : Names a := fun p hp => h p (hs.subset hp)
theorem Names.parts {L : List (List Nat)} (h : Names L) : Parts L := fun p hp => by
  obtain ⟨h1, h2, _⟩ := h p hp
  refine ⟨fun h3 => by have := h1 _ h3; omega, realB_iff.2 ⟨fun e => by rw [e] at h2; simp at h2, fun e => ?_⟩⟩
  have := h1 46 (by rw [e]; simp [dot])
  omega
theorem Names.not_dots {L : List (List Nat)} (h : Names L) {p : List Nat} (hp : p ∈ L) : p ≠ dots := fun e => by
  have := (h p hp).1 46 (by rw [e]; simp [dots])
  omega
theorem Names.size : ∀ {L : List (List Nat)}, Names L → sizeL L ≤ 10 * L.length
  | [], _ => by simp [sizeL]
  | p :: ps, h => by
    have h1 := (h p (List.mem_cons_self ..)).2.2
    have h2 := Names.size (L := ps) fun q hq => h q (List.mem_cons_of_mem _ hq)
    simp only [sizeL, List.length_cons]
    omega
theorem Names.code {L : List (List Nat)} (h : Names L) (hl : L.length ≤ 20) : codeP (joinL L) = 0 ∧ partsL (joinL L) = L := by
  have hp := partsL_join h.parts
  refine ⟨codeP_zero.2 ⟨joinL_head _, fun h0 => ?_, ?_, ?_⟩, hp⟩
  · rcases joinL_mem h0 with h0 | ⟨p, hp, h0⟩
    · omega
    · have := (h p hp).1 0 h0; omega
  · have h1 := joinL_le L
    have h2 := h.size
    omega
  · rw [hp]
    exact longL_no.2 ⟨fun p hp => by have := (h p hp).2.2; omega, hl⟩
theorem Names.last {L : List (List Nat)} (h : Names L) (hl : L.length ≤ 20) {n : Nat} (hn : L.length = n + 1) :
    codeL (joinL L) = 0 ∧ headL (joinL L) = joinL (L.take n) ∧ lastL (joinL L) = tz L n ∧ L.take n ++ [tz L n] = L := by
  obtain ⟨h1, h2⟩ := h.code hl
  have h3 : L.getLast? = some (tz L n) := by
    rw [List.getLast?_eq_getElem?, hn, tz_get (by omega)]
    simp
  have h4 : codeL (joinL L) = 0 := by
    unfold codeL
    rw [if_pos h1, h2, if_neg]
    rintro (e | e)
    · rw [e] at hn; simp at hn
    · rw [h3] at e
      exact h.not_dots (tz_mem (by omega)) (Option.some.inj e)
  refine ⟨h4, ?_, ?_, ?_⟩
  · unfold headL
    rw [if_pos h4, h2, List.dropLast_eq_take, hn]
    rfl
  · unfold lastL
    rw [if_pos h4, h2, h3]
    rfl
  · rw [tz_get (by omega), ← List.take_succ_eq_append_getElem (by omega), List.take_of_length_le (by omega)]
theorem Names.none : codeL (joinL []) = 2 := rfl
theorem sizeL_snoc (L : List (List Nat)) (p : List Nat) : sizeL (L ++ [p]) = sizeL L + 1 + p.length := by
  rw [sizeL_append]
  simp only [sizeL]
  omega
theorem Names.snoc {L : List (List Nat)} {p : List Nat} (h : Names L) (h1 : Letters p) (h2 : 1 ≤ p.length) (h3 : p.length ≤ 9) : Names (L ++ [p]) := fun q hq => by
  rcases List.mem_append.1 hq with hq | hq
  · exact h q hq
  · obtain rfl := List.mem_singleton.1 hq; exact ⟨h1, h2, h3⟩
end Go.Proofs.YtkocjkndkkhogaaDoor
