/-
  Floats in a slice, nil or not; what Best gives, told without its loop.
-/
import Derived.Test.YtdnemlanahlnpaaDoorOrder
import Derived.Test.YtdnemlanahlnpaaDoorNumbers
namespace Go.Proofs.YtdnemlanahlnpaaDoor
open Go.RowKit Fl

/-- the floats that lie there, if any -/
def FAt (w : World) (a : Option Addr) (xs : List Nat) : Prop := xs = [] ∨ ∃ b off, a = some ⟨b, off, none⟩ ∧ FloatsAt w b off xs
theorem fat_of {w : World} {v : Value} {xs : List Nat} (h : FSlice w v xs) : ∃ a cap, v = .slice a xs.length cap ∧ FAt w a xs := by
  rcases h with ⟨rfl, rfl⟩ | ⟨b, off, cap, rfl, _, _, hx⟩
  · exact ⟨none, 0, rfl, .inl rfl⟩
  · exact ⟨_, cap, rfl, .inr ⟨b, off, rfl, hx⟩⟩
theorem FAt.on {w w' : World} {a : Option Addr} {xs : List Nat} {B : Nat} (h : FAt w a xs) (hb : Below B w w') (hB : B = w.heap.size) : FAt w' a xs := by
  rcases h with h | ⟨b, off, rfl, hx⟩
  · exact .inl h
  · by_cases h0 : 0 < xs.length
    · have hlt : b < w.heap.size := World.block_lt_of_cell? w _ (hx.cell 0 h0)
      exact .inr ⟨b, off, rfl, ⟨fun k hk => by rw [hb.cell (p := ⟨b, off + k, none⟩) (by show b < B; omega)]; exact hx.cell k hk, hx.fits⟩⟩
    · exact .inl (List.eq_nil_of_length_eq_zero (by omega))
theorem FAt.at {w : World} {a : Option Addr} {xs : List Nat} {k : Nat} (h : FAt w a xs) (hk : k < xs.length) : ∃ b off, a = some ⟨b, off, none⟩ ∧ FloatsAt w b off xs := by
  rcases h with rfl | h
  · exact absurd hk (by simp)
  · exact h

theorem best_sl (a : Option Addr) (cap : Nat) (xs : List Nat) (w : World) (h : FAt w a xs) (hl : xs.length ≤ 1000) :
    Calls Tryd.prog 10 #[.slice a xs.length cap] w fun e w' => e = .returned (.int .i64 (bestOf xs xs.length)) ∧ w = w' := by
  rcases h with rfl | ⟨b, off, rfl, hx⟩
  · show Calls Tryd.prog 10 #[.slice a 0 cap] w fun e w' => e = .returned (.int .i64 (-1)) ∧ w = w'
    go_enter Tryd.func10, Tryd.ntmps10
    go_wp2_with fail
    refine wp_loop_rounds 1 ?_
    rw [rounds_succ]
    go_wp2_with fail
    go_ret
    exact ⟨rfl, rfl⟩
  · exact best_any b off cap xs w hx hl

theorem order_sl (a : Option Addr) (cap : Nat) (xs : List Nat) (w : World) (h : FAt w a xs) (hl : xs.length ≤ 40) :
    Calls Tryd.prog 7 #[.slice a xs.length cap] w (OrderPost xs w) := by
  rcases h with rfl | ⟨b, off, rfl, hx⟩
  · exact order_none a cap w
  · by_cases h0 : 0 < xs.length
    · exact order_some b off cap xs w hx h0 hl
    · obtain rfl : xs = [] := List.eq_nil_of_length_eq_zero (by omega)
      exact order_none _ cap w

/-- the best: none is, or it stands behind all others, ahead of those alike -/
theorem best_spec (xs : List Nat) (k : Nat) : (bestOf xs k = -1 ∧ ∀ i, i < k → nanB (fl xs i) = true) ∨
    ∃ j : Nat, bestOf xs k = j ∧ j < k ∧ nanB (fl xs j) = false ∧ (∀ i, i < k → key (fl xs i) ≤ key (fl xs j)) ∧ ∀ i, i < j → key (fl xs i) < key (fl xs j) := by
  induction k with
  | zero => left; exact ⟨rfl, fun i h => absurd h (by omega)⟩
  | succ k ih =>
    by_cases hn : nanB (fl xs k) = true
    · rw [bestOf_nan xs k hn]
      rcases ih with ⟨h1, h2⟩ | ⟨j, h1, h2, h3, h4, h5⟩
      · left
        refine ⟨h1, fun i hi => ?_⟩
        by_cases e : i = k
        · rw [e]; exact hn
        · exact h2 i (by omega)
      · right
        refine ⟨j, h1, by omega, h3, fun i hi => ?_, h5⟩
        by_cases e : i = k
        · rw [e]
          have : key (fl xs k) < key (fl xs j) := (key_lt_iff _ _).2 (.inl ⟨hn, h3⟩)
          omega
        · exact h4 i (by omega)
    · have hn1 : nanB (fl xs k) = false := by simpa using hn
      rcases ih with ⟨h1, h2⟩ | ⟨j, h1, h2, h3, h4, h5⟩
      · right
        have lt : ∀ i, i < k → key (fl xs i) < key (fl xs k) := fun i hi => (key_lt_iff _ _).2 (.inl ⟨h2 i hi, hn1⟩)
        refine ⟨k, bestOf_first xs k hn1 (by omega), by omega, hn1, fun i hi => ?_, lt⟩
        by_cases e : i = k
        · rw [e]; exact Int.le_refl _
        · have := lt i (by omega); omega
      · right
        rw [bestOf_next xs k j hn1 h1]
        by_cases hlt : key (fl xs j) < key (fl xs k)
        · rw [if_pos hlt]
          refine ⟨k, rfl, by omega, hn1, fun i hi => ?_, fun i hi => ?_⟩
          · by_cases e : i = k
            · rw [e]; exact Int.le_refl _
            · have := h4 i (by omega); omega
          · have := h4 i hi; omega
        · rw [if_neg hlt]
          refine ⟨j, rfl, by omega, h3, fun i hi => ?_, h5⟩
          by_cases e : i = k
          · rw [e]; omega
          · exact h4 i (by omega)

/-- what 'numbers' gives, as the law goes on with it -/
def NumSl (zs : List Int) (w : World) (e : Ending) (w' : World) : Prop :=
  ∃ a cap, e = .returned (.slice a zs.length cap) ∧ FAt w' a (bitsOf zs) ∧ Below w.heap.size w w' ∧ w'.ownsRow w.heap.size 27 1 (.slice a zs.length cap) zs.length ((bitsOf zs).map (Value.float .f64))
theorem numbers_sl (v : Value) (zs : List Int) (w : World) (hv : ISlice .u64 w v zs) (hl : zs.length ≤ 1000) :
    Calls Tryd.prog 5 #[v] w (NumSl zs w) := by
  refine (numbers_any v zs w hv hl).mono ?_
  rintro e w' ⟨u, rfl, ho, hb⟩
  have hf : ∀ x ∈ bitsOf zs, Fits x := by
    rcases hv with ⟨_, _, _, rfl⟩ | ⟨_, _, _, _, _, _, _, _, _, hw⟩
    · intro x hx; simp [bitsOf] at hx
    · exact bitsOf_fits hw
  obtain ⟨a, cap, rfl, hx⟩ := fat_of (own_floats ho hf)
  rw [bitsOf_length] at ho ⊢
  exact ⟨a, cap, rfl, hx, hb, ho⟩
end Go.Proofs.YtdnemlanahlnpaaDoor
