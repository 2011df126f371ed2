/-
  An order and one more put in where it belongs.
-/
import Derived.Test.YtdnemlanahlnpaaDoorIntApp
namespace Go.Proofs.YtdnemlanahlnpaaDoor
open Go.RowKit Fl BigFrame

/-- k put in at place q -/
def putIn (D : Nat → Int) (k q p : Nat) : Int := joinI (joinI D q (fun _ => k)) (q + 1) (fun p => D (q + p)) p
/-- and k behind all -/
def extK (D : Nat → Int) (k p : Nat) : Int := if p = k then (k : Int) else D p
theorem extK_lt {D : Nat → Int} {k p : Nat} (h : p < k) : extK D k p = D p := by unfold extK; rw [if_neg (by omega)]
theorem extK_k (D : Nat → Int) (k : Nat) : extK D k k = k := by unfold extK; rw [if_pos rfl]
theorem putIn_is (D : Nat → Int) {k q : Nat} (hq : q ≤ k) (p : Nat) (hp : p < k + 1) : putIn D k q p = insAt (extK D k) k q p := by
  unfold putIn joinI insAt
  by_cases h1 : p < q
  · rw [if_pos (by omega), if_pos h1, if_neg (by omega), if_neg (by omega), extK_lt (by omega)]
  · by_cases h2 : p = q
    · subst h2
      rw [if_pos (by omega), if_neg (by omega), if_pos rfl, extK_k]
    · rw [if_neg (by omega), if_neg h2, if_pos (by omega), extK_lt (by omega)]
      show D (q + (p - (q + 1))) = D (p - 1)
      congr 1; omega
theorem places_put {K : Int → Int} {D : Nat → Int} {k q : Nat} (h : Places K D k) (hq : q ≤ k) (hp : ∀ p, q ≤ p → p < k → K k < K (D p)) (he : q = 0 ∨ ¬ K k < K (D (q - 1))) : Places K (putIn D k q) (k + 1) := by
  have hs : LS K (extK D k) 0 k := fun p q' h1 h2 h3 => by
    rw [extK_lt (by omega), extK_lt h3]; exact h.1 p q' h1 h2 h3
  have ht : Stab K (extK D k) 0 (k + 1) := fun p q' h1 h2 h3 e => by
    rw [extK_lt (by omega)] at e ⊢
    by_cases e2 : q' = k
    · subst e2; rw [extK_k]; exact (h.2 p h2).2
    · rw [extK_lt (by omega)] at e ⊢
      rcases h.1 p q' h1 h2 (by omega) with h4 | h4
      · omega
      · exact h4.2
  have hl := insAt_sorted (K := K) (C := extK D k) (a := 0) (i := k) (j := q) (b := k + 1) (by omega) hq (by omega) hs ht (fun p h1 h2 => by rw [extK_k, extK_lt h2]; exact hp p h1 h2) (by
    rcases he with h | h
    · exact .inl h
    · by_cases h0 : q = 0
      · exact .inl h0
      · right; rw [extK_k, extK_lt (by omega)]; exact h)
  refine ⟨fun p q' h1 h2 h3 => ?_, fun p hp' => ?_⟩
  · rw [putIn_is D hq p (by omega), putIn_is D hq q' (by omega)]; exact hl p q' h1 h2 h3
  · rw [putIn_is D hq p hp']
    unfold insAt
    split
    · rw [extK_k]; omega
    · split
      · rw [extK_lt (by omega)]; have := h.2 (p - 1) (by omega); omega
      · rw [extK_lt (by omega)]; have := h.2 p (by omega); omega
theorem IntsAt.less {w : World} {a : Option Addr} {n m : Nat} {R : Nat → Int} (h : IntsAt w a n R) (hm : m ≤ n) : IntsAt w a m R := by
  rcases h with h | ⟨b, off, rfl, hx⟩
  · exact .inl (by omega)
  · exact .inr ⟨b, off, rfl, fun k hk => hx k (by omega)⟩
theorem IntsAt.from {w : World} {b off n q : Nat} {R : Nat → Int} (h : IntsAt w (some ⟨b, off, none⟩) n R) (hq : q ≤ n) : IntsAt w (some ⟨b, off + q, none⟩) (n - q) (fun p => R (q + p)) := by
  rcases h with h | ⟨b', o', e, hx⟩
  · exact .inl (by omega)
  · simp only [Option.some.injEq, Addr.mk.injEq, and_true] at e
    obtain ⟨rfl, rfl⟩ := e
    exact .inr ⟨b, off + q, rfl, fun k hk => by rw [Nat.add_assoc]; exact hx (q + k) (by omega)⟩
theorem int_new (w : World) (x : Int) (t : TypeId) : IntsAt (w.alloc (.cells #[.int .i64 x] t)) (some ⟨w.heap.size, 0, none⟩) 1 (fun _ => x) :=
  .inr ⟨w.heap.size, 0, rfl, fun k hk => by
    obtain rfl : k = 0 := by omega
    rw [cell_of_row _ w.heap.size _ _ _ _ (heap_alloc_new w _)]
    rfl⟩
theorem IntsAt.on' {w w' : World} {a : Option Addr} {n B : Nat} {R : Nat → Int} (h : IntsAt w a n R) (hb : Below B w w') (hB : w.heap.size ≤ B) : IntsAt w' a n R := h.on (hb.mono hB) rfl
theorem below_own {w w' : World} {base n : Nat} {v : Value} {D : Nat → Int} (h : OwnI w base v n D) (hg : w.grownBy w' v.ownBlock) (hb : base ≤ w.heap.size) : Below base w w' :=
  (Below.refl _ _).grown hg hb (fun k hk => (World.ownsRow.lt h k hk).1)

theorem IntsAt.drew1 {w : World} {a : Option Addr} {n : Nat} {R : Nat → Int} (h : IntsAt w a n R) : IntsAt w.drew a n R := h
theorem IntsAt.alloc {w : World} {a : Option Addr} {n : Nat} {R : Nat → Int} (h : IntsAt w a n R) (o : Obj) : IntsAt (w.alloc o) a n R := h.on ((Below.refl _ _).alloc (Nat.le_refl _) _) rfl
theorem OwnI.alloc {w : World} {base n : Nat} {v : Value} {D : Nat → Int} (h : OwnI w base v n D) (o : Obj) : OwnI (w.alloc o) base v n D := World.ownsRow.alloc h o
theorem OwnI.lower {w : World} {base base' n : Nat} {v : Value} {D : Nat → Int} (h : OwnI w base v n D) (hb : base' ≤ base) : OwnI w base' v n D := by
  obtain ⟨h1, h2⟩ := h
  refine ⟨h1, ?_⟩
  rcases h2 with h2 | ⟨g, cap, cur, e, hg, rest⟩
  · exact .inl h2
  · exact .inr ⟨g, cap, cur, e, Nat.le_trans hb hg, rest⟩
theorem OwnI.first {w : World} {base q : Nat} {v : Value} {D E : Nat → Int} (h : OwnI w base v (0 + q) (joinI E 0 D)) : OwnI w base v q D := by
  rw [Nat.zero_add] at h
  exact h.congr (fun p _ => by unfold joinI; rw [if_neg (by omega), Nat.sub_zero])
theorem OwnI.last {w : World} {base q k : Nat} {v : Value} {D : Nat → Int} (hq : q ≤ k) (h : OwnI w base v (q + 1 + (k - q)) (joinI (joinI D q (fun _ => (k : Int))) (q + 1) (fun p => D (q + p)))) : OwnI w base v (k + 1) (putIn D k q) := by
  rw [show q + 1 + (k - q) = k + 1 by omega] at h
  exact h
theorem below_none {w w' : World} (h : w.grownBy w' none) : Below w.heap.size w w' := (Below.refl _ _).grown h (Nat.le_refl _) (fun k hk => by cases hk)
end Go.Proofs.YtdnemlanahlnpaaDoor
