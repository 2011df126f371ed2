/-
  Objects that do not touch may come in either order.
-/
import Derived.Test.YtcmomnfefaolaaaRlk
import Derived.Test.YtcmomnfefaolaaaRlx
namespace Go.Proofs.Ytcmomnfefaolaaa
open Go.RowKit BigFrame
set_option maxRecDepth 100000
theorem touchO_no {x y : Ob} (h : touchO x y = false) (hx : mayO x = true) (hy : mayO y = true) (hs : x.s = y.s) : ¬ (x.p < y.p + (y.b.length : Int) ∧ y.p < x.p + (x.b.length : Int)) := by
  intro hc
  unfold touchO at h
  rw [hx, hy] at h
  simp only [Bool.true_and, decide_eq_false_iff_not] at h
  exact h ⟨hs, hc.1, hc.2⟩
theorem touchO_symm {x y : Ob} (h : touchO x y = false) : touchO y x = false := by
  unfold touchO at h ⊢
  cases hx : mayO x <;> cases hy : mayO y <;> rw [hx, hy] at h <;> simp at h ⊢
  intro h1 h2
  have := h h1.symm
  omega
theorem lay1_comm {s : Int} {L : List Nat} {x y : Ob} (hL : L.length = 128) (h : touchO x y = false) : lay1 s (lay1 s L x) y = lay1 s (lay1 s L y) x := by
  by_cases h1 : mayO x = true ∧ x.s = s
  · by_cases h2 : mayO y = true ∧ y.s = s
    · have hn := touchO_no h h1.1 h2.1 (h1.2.trans h2.2.symm)
      obtain ⟨a1, a2, a3, a4⟩ := mayO_is.1 h1.1
      obtain ⟨b1, b2, b3, b4⟩ := mayO_is.1 h2.1
      have e1 : ∀ M, lay1 s M x = splice M x.p.toNat x.b := fun M => by unfold lay1; rw [if_pos h1]
      have e2 : ∀ M, lay1 s M y = splice M y.p.toNat y.b := fun M => by unfold lay1; rw [if_pos h2]
      rw [e1, e2, e2, e1]
      have l1 := splice_len (L := L) (m := x.b) (k := x.p.toNat) (by omega)
      have l2 := splice_len (L := L) (m := y.b) (k := y.p.toNat) (by omega)
      have u1 := splice_len (L := splice L x.p.toNat x.b) (m := y.b) (k := y.p.toNat) (by omega)
      have u2 := splice_len (L := splice L y.p.toNat y.b) (m := x.b) (k := x.p.toNat) (by omega)
      refine bz_ext (by omega) fun k _ => ?_
      rw [bz_splice (by omega), bz_splice (by omega), bz_splice (by omega), bz_splice (by omega)]
      split <;> split <;> (try split) <;> (try split) <;> first | rfl | omega
    · have e2 : ∀ M, lay1 s M y = M := fun M => by unfold lay1; rw [if_neg h2]
      rw [e2, e2]
  · have e1 : ∀ M, lay1 s M x = M := fun M => by unfold lay1; rw [if_neg h1]
    rw [e1, e1]
theorem lays_comm1 {s : Int} {x : Ob} : ∀ {B : List Ob} {L : List Nat}, L.length = 128 → (∀ y ∈ B, touchO x y = false) → lays s (lay1 s L x) B = lay1 s (lays s L B) x
  | [], _, _, _ => rfl
  | y :: B, L, hL, h => by
    show lays s (lay1 s (lay1 s L x) y) B = lay1 s (lays s (lay1 s L y) B) x
    rw [lay1_comm hL (h y List.mem_cons_self)]
    exact lays_comm1 (lay1_length hL) fun z hz => h z (List.mem_cons_of_mem _ hz)
theorem lays_swap {s : Int} : ∀ {A B : List Ob} {L : List Nat}, L.length = 128 → (∀ x ∈ A, ∀ y ∈ B, touchO x y = false) → lays s L (A ++ B) = lays s L (B ++ A)
  | [], B, L, _, _ => by rw [List.nil_append, List.append_nil]
  | x :: A, B, L, hL, h => by
    show lays s (lay1 s L x) (A ++ B) = lays s L (B ++ (x :: A))
    rw [lays_swap (lay1_length hL) fun z hz => h z (List.mem_cons_of_mem _ hz), lays_app, lays_comm1 hL (h x List.mem_cons_self), lays_app]
    rfl
theorem turned {s : Int} {xs : List Ob} {L : List Nat} {t : Nat} (hL : L.length = 128) (h : ∀ i, i < xs.length → ∀ k, k < i → touchO (ob xs i) (ob xs k) = false) : lays s L (xs.drop t ++ xs.take t) = lays s L xs := by
  rw [← lays_swap hL fun x hx y hy => ?_, List.take_append_drop]
  obtain ⟨k, hk, rfl⟩ := List.mem_iff_getElem.1 hx
  obtain ⟨i, hi, rfl⟩ := List.mem_iff_getElem.1 hy
  rw [List.length_take] at hk
  rw [List.length_drop] at hi
  have := h (t + i) (by omega) k (by omega)
  rw [ob_get (by omega), ob_get (by omega)] at this
  rw [List.getElem_take, List.getElem_drop]
  exact touchO_symm this
end Go.Proofs.Ytcmomnfefaolaaa
