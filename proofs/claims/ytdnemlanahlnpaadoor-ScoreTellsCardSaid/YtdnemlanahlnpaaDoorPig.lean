/-
  What an order holds: each place once; its last one is the best.
-/
import Derived.Test.YtdnemlanahlnpaaDoorArr
namespace Go.Proofs.YtdnemlanahlnpaaDoor
open Go.RowKit Fl

/-- different ones below n, n of them: each is there -/
theorem each_there (n : Nat) : ∀ C : Nat → Int, (∀ p q, p < q → q < n → C p ≠ C q) → (∀ p, p < n → 0 ≤ C p ∧ C p < n) → ∀ y : Nat, y < n → ∃ p, p < n ∧ C p = y := by
  induction n with
  | zero => intro C _ _ y hy; omega
  | succ n ih =>
    intro C hi hr y hy
    by_cases hm : C n = n
    · by_cases e : y = n
      · exact ⟨n, by omega, by rw [hm, e]⟩
      · obtain ⟨p, hp, h⟩ := ih C (fun p q h1 h2 => hi p q h1 (by omega)) (fun p hp => by have h1 := hr p (by omega); have h2 := hi p n hp (by omega); omega) y (by omega)
        exact ⟨p, by omega, h⟩
    · have hm' := hr n (by omega)
      have inj := hi
      obtain ⟨m, hmm⟩ : ∃ m, m = C n := ⟨_, rfl⟩
      have ih' := ih (fun p => if C p = n then m else C p) (fun p q h1 h2 => by
          have a1 := hi p q h1 (by omega)
          have a2 := hi p n (by omega) (by omega)
          have a3 := hi q n h2 (by omega)
          split <;> split <;> omega) (fun p hp => by
          have a1 := hr p (by omega)
          have a2 := hi p n hp (by omega)
          split <;> omega)
      by_cases e : y = n
      · obtain ⟨p, hp, h⟩ := ih' m.toNat (by omega)
        split at h
        · exact ⟨p, by omega, by omega⟩
        · have := hi p n hp (by omega); omega
      · by_cases e2 : (y : Int) = m
        · exact ⟨n, by omega, by omega⟩
        · obtain ⟨p, hp, h⟩ := ih' y (by omega)
          split at h
          · omega
          · exact ⟨p, by omega, h⟩

theorem LS.ne {K : Int → Int} {C : Nat → Int} {n : Nat} (h : LS K C 0 n) (p q : Nat) (h1 : p < q) (h2 : q < n) : C p ≠ C q := by
  intro e
  rcases h p q (by omega) h1 h2 with h3 | h3
  · rw [e] at h3; omega
  · omega
theorem Places.each {K : Int → Int} {C : Nat → Int} {n : Nat} (h : Places K C n) (y : Nat) (hy : y < n) : ∃ p, p < n ∧ C p = y :=
  each_there n C h.1.ne h.2 y hy
/-- the last one stands ahead of none -/
theorem Places.last {xs : List Nat} {C : Nat → Int} {n l : Nat} (h : Places (kf xs) C (n + 1)) (hl : C n = l) (y : Nat) (hy : y < n + 1) : key (fl xs y) ≤ key (fl xs l) := by
  obtain ⟨p, hp, e⟩ := h.each y hy
  by_cases e2 : p = n
  · subst e2
    rw [e] at hl
    have : y = l := by omega
    rw [this]; exact Int.le_refl _
  · have := h.1 p n (by omega) (by omega) (by omega)
    rw [hl, e] at this
    unfold ltk kf at this
    simp only [Int.toNat_natCast] at this
    omega

/-- one that is none, behind all others, changes nothing -/
theorem best_more (xs : List Nat) (x : Nat) (hx : nanB x = true) : bestOf (xs ++ [x]) (xs ++ [x]).length = bestOf xs xs.length := by
  have hl : (xs ++ [x]).length = xs.length + 1 := by simp
  have hlast : fl (xs ++ [x]) xs.length = x := by simp [fl, List.getD]
  have h : ∀ k, k ≤ xs.length → bestOf (xs ++ [x]) k = bestOf xs k := by
    intro k
    induction k with
    | zero => intro _; rfl
    | succ k ih =>
      intro hk
      have e : ∀ i, i < xs.length → fl (xs ++ [x]) i = fl xs i := fun i hi => by simp [fl, List.getD, List.getElem?_append_left hi]
      have i := ih (by omega)
      have b := bestOf_bd xs k
      unfold bestOf
      rw [i, e k (by omega)]
      by_cases h0 : bestOf xs k < 0
      · simp only [if_pos h0]
      · rw [e (bestOf xs k).toNat (by omega)]
  rw [hl, bestOf_nan _ _ (by rw [hlast]; exact hx)]
  exact h _ (Nat.le_refl _)

/-- the last of the order is the best: none, if it is none -/
theorem best_last {xs : List Nat} {C : Nat → Int} {n l : Nat} (hn : xs.length = n + 1) (h : Places (kf xs) C xs.length) (hl : C n = l) :
    (nanB (fl xs l) = true ∧ bestOf xs xs.length = -1) ∨ ∃ j : Nat, nanB (fl xs l) = false ∧ bestOf xs xs.length = j ∧ j < xs.length ∧ key (fl xs j) = key (fl xs l) ∧ ∀ i, i < j → key (fl xs i) < key (fl xs j) := by
  have hll : l < xs.length := by have := h.2 n (by omega); omega
  rw [hn] at h
  rcases best_spec xs xs.length with ⟨h1, h2⟩ | ⟨j, h1, h2, h3, h4, h5⟩
  · exact .inl ⟨h2 l hll, h1⟩
  · right
    have a := h4 l hll
    have b := h.last hl j (by omega)
    have e : key (fl xs j) = key (fl xs l) := by omega
    refine ⟨j, ?_, h1, h2, e, h5⟩
    rcases (key_eq_iff _ _).1 e with h | h
    · rw [h3] at h; exact absurd h.1 (by decide)
    · exact h.2.1

theorem FAt.drew' {ad : Option Addr} {xs : List Nat} {w : World} {m : Nat} (h : FAt w ad xs) : FAt (w.drewN m) ad xs := by
  rcases h with h | ⟨b, off, rfl, hx⟩
  · exact .inl h
  · exact .inr ⟨b, off, rfl, hx.cell, hx.fits⟩
theorem bl_drew' {B m : Nat} {a w : World} (h : Below B a w) : Below B a (w.drewN m) := ⟨h.os, h.tape, h.output, h.size, h.block⟩
/-- how far a loop is that only reads -/
def GoneTo (n : Nat) (ad : Option Addr) (xs : List Nat) (w : World) (i : Value) (wr : World) : Prop :=
  ∃ k : Nat, k ≤ n ∧ i = .int .i64 k ∧ FAt wr ad xs ∧ Below w.heap.size w wr
theorem goneTo_next {n : Nat} {ad : Option Addr} {xs : List Nat} {w wr : World} {k m : Nat} (hlt : k < n) (hx : FAt wr ad xs) (hb : Below w.heap.size w wr) : GoneTo n ad xs w (.int .i64 ((k : Int) + 1)) (wr.drewN m) :=
  ⟨k + 1, by omega, by go_num, hx.drew', bl_drew' hb⟩
end Go.Proofs.YtdnemlanahlnpaaDoor
