/-
  A chain: each one needs the one ahead of it; and what is left when one of them goes.
-/
import Derived.Test.YtgkmmdkagiohgaaDrf
set_option linter.unusedVariables false
set_option linter.unusedSimpArgs false
namespace Go.Proofs.Ytgkmmdkagiohgaa
open Go.RowKit BigFrame
set_option maxRecDepth 100000
variable {w w0 w' wr : World} {B a M : Nat} {G G0 G' : Gr} {ρ : Nat → Nat} {many wh : Nat}

def chD (j : Nat) : List Nat := if j ≤ 1 then [] else [j - 1]
theorem chD_mem {j y : Nat} : y ∈ chD j ↔ 1 < j ∧ y = j - 1 := by
  unfold chD
  by_cases h : j ≤ 1
  · rw [if_pos h]; exact ⟨fun h => absurd h (by simp), fun h2 => by omega⟩
  · rw [if_neg h]; simp; omega
theorem clo_chain (h : Lv w0 a M ρ G (idsN many) chD w) (hm : 1 ≤ many) (z : Nat) : Clo G (fun _ => (many : Int)) 1 z ↔ 1 ≤ z ∧ z ≤ many := by
  have hids : ∀ y, y ∈ G.ids ↔ 1 ≤ y ∧ y ≤ many := fun y => by rw [h.who, idsN_mem]
  have hdn : ∀ j, 1 ≤ j ∧ j ≤ many → G.lk 0 j = chD j := fun j hj => h.dn j (idsN_mem.2 hj)
  constructor
  · rintro ⟨j, i, _, hi, he, hr⟩
    have hi1 : i = many := by have he' : (many : Int) = (i : Int) := he; omega
    subst hi1
    have : ∀ y, Reach (G.lk 0) i y → 1 ≤ y ∧ y ≤ i := fun y hy => by
      induction hy with
      | refl => omega
      | step _ hmm ih =>
        rw [hdn _ ih, chD_mem] at hmm
        omega
    exact this z hr
  · rintro ⟨h1, h2⟩
    refine ⟨0, many, by omega, (hids many).2 ⟨hm, Nat.le_refl _⟩, rfl, ?_⟩
    have : ∀ d, d < many → Reach (G.lk 0) many (many - d) := fun d => by
      induction d with
      | zero => intro _; exact .refl
      | succ d ih =>
        intro hd
        refine .step (ih (by omega)) ?_
        rw [hdn _ (by omega), chD_mem]
        omega
    have := this (many - z) (by omega)
    rwa [show many - (many - z) = z by omega] at this
/-- one of them went -/
structure ChCut (G : Gr) (many wh : Nat) : Prop where
  ids : ∀ y, y ∈ G.ids ↔ (1 ≤ y ∧ y ≤ many) ∧ y ≠ wh
  mem : ∀ j ∈ G.ids, ∀ y, y ∈ G.lk 0 j ↔ y ∈ chD j ∧ y ∈ G.ids
theorem ChCut.of {R : Nat → Int} {c : Nat} (h : Lv w0 a M ρ G (idsN many) chD w) (hd : DrAt w B a M G ρ R 2 c G' w') (h0 : R 0 = (wh : Int)) (h1 : R 1 = 99) (hm : many ≤ 12) : ChCut G' many wh := by
  have hids : ∀ y, y ∈ G'.ids ↔ (1 ≤ y ∧ y ≤ many) ∧ y ≠ wh := fun y => by
    rw [hd.ids, leftL_mem, h.who, idsN_mem]
    constructor
    · rintro ⟨q1, q2⟩
      refine ⟨q1, fun e => q2 0 (by omega) ?_⟩
      rw [h0, e]
    · rintro ⟨q1, q2⟩
      refine ⟨q1, fun j hj => ?_⟩
      rcases (show j = 0 ∨ j = 1 by omega) with rfl | rfl
      · rw [h0]; omega
      · rw [h1]; omega
  refine ⟨hids, fun j hj y => ?_⟩
  rw [hd.mem 0 (by omega) j hj, h.dn j (idsN_mem.2 ((hids j).1 hj).1)]
theorem ChCut.count {R : Nat → Int} {c : Nat} (h : Lv w0 a M ρ G (idsN many) chD w) (hd : DrAt w B a M G ρ R 2 c G' w') (hC : ChCut G' many wh) (hw : 1 ≤ wh ∧ wh ≤ many) : c = 1 := by
  have hnd : (idsN many).Nodup := by rw [← h.who]; exact h.gr.nd
  have hf := filt_len hnd (idsN_mem.2 hw)
  have hp := ((List.perm_ext_iff_of_nodup hd.gr.nd (hnd.filter fun y => decide (y ≠ wh))).2 fun z => by rw [hC.ids, List.mem_filter, idsN_mem, decide_eq_true_eq]).length_eq
  have hc := hd.cnt
  rw [h.who] at hc
  omega
theorem ChCut.clo (h : ChCut G many wh) (hw : 1 ≤ wh ∧ wh < many) (z : Nat) : Clo G (fun _ => (many : Int)) 1 z ↔ wh < z ∧ z ≤ many := by
  constructor
  · rintro ⟨j, i, _, hi, he, hr⟩
    have hi1 : i = many := by have he' : (many : Int) = (i : Int) := he; omega
    subst hi1
    have : ∀ y, Reach (G.lk 0) i y → wh < y ∧ y ≤ i := fun y hy => by
      induction hy with
      | refl => omega
      | step _ hmm ih =>
        obtain ⟨h1, h2⟩ := (h.mem _ ((h.ids _).2 ⟨by omega, by omega⟩) _).1 hmm
        rw [chD_mem] at h1
        have := ((h.ids _).1 h2).2
        omega
    exact this z hr
  · rintro ⟨h1, h2⟩
    refine ⟨0, many, by omega, (h.ids many).2 ⟨by omega, by omega⟩, rfl, ?_⟩
    have : ∀ d, d < many - wh → Reach (G.lk 0) many (many - d) := fun d => by
      induction d with
      | zero => intro _; exact .refl
      | succ d ih =>
        intro hd
        refine .step (ih (by omega)) ((h.mem _ ((h.ids _).2 ⟨by omega, by omega⟩) _).2 ⟨chD_mem.2 ⟨by omega, by omega⟩, (h.ids _).2 ⟨by omega, by omega⟩⟩)
    have := this (many - z) (by omega)
    rwa [show many - (many - z) = z by omega] at this
theorem ChCut.ready (h : ChCut G many wh) (hw : 1 ≤ wh ∧ wh < many) (z : Nat) : (z ∈ G.ids ∧ G.lk 0 z = []) ↔ (z = 1 ∧ 1 < wh) ∨ z = wh + 1 := by
  constructor
  · rintro ⟨h1, h2⟩
    obtain ⟨h3, h4⟩ := (h.ids z).1 h1
    by_cases e : z = 1
    · exact .inl ⟨e, by omega⟩
    · refine .inr ?_
      by_cases e2 : z = wh + 1
      · exact e2
      · have := (h.mem z h1 (z - 1)).2 ⟨chD_mem.2 ⟨by omega, rfl⟩, (h.ids _).2 ⟨by omega, by omega⟩⟩
        rw [h2] at this; cases this
  · have hnil : ∀ {l : List Nat}, (∀ y, y ∉ l) → l = [] := fun {l} h => List.eq_nil_iff_forall_not_mem.2 h
    rintro (⟨rfl, h1⟩ | rfl)
    · have hi : 1 ∈ G.ids := (h.ids 1).2 ⟨by omega, by omega⟩
      exact ⟨hi, hnil fun y hy => by have := chD_mem.1 ((h.mem 1 hi y).1 hy).1; omega⟩
    · have hi : wh + 1 ∈ G.ids := (h.ids _).2 ⟨by omega, by omega⟩
      exact ⟨hi, hnil fun y hy => by
        obtain ⟨q1, q2⟩ := (h.mem _ hi y).1 hy
        have := chD_mem.1 q1
        have := ((h.ids y).1 q2).2
        omega⟩
theorem len_from {O : List Nat} {s n : Nat} (hn : O.Nodup) (h : ∀ z, z ∈ O ↔ s < z ∧ z ≤ n) : O.length = n - s := by
  have hp := ((List.perm_ext_iff_of_nodup hn (List.nodup_range' (s := s + 1) (n := n - s))).2 fun z => by rw [h, List.mem_range'_1]; omega).length_eq
  rw [hp, List.length_range']
end Go.Proofs.Ytgkmmdkagiohgaa
