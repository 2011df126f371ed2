/-
  What differs in a sector: as a list of objects.
-/
import Derived.Test.YtcmomnfefaolaaaRla
namespace Go.Proofs.Ytcmomnfefaolaaa
open Go.RowKit BigFrame

/-- from i on so many bytes differ, and no more -/
structure IsDif (a b : List Nat) (i n : Nat) : Prop where
  le : i + n ≤ 128
  ne : ∀ j, j < n → bz a (i + j) ≠ bz b (i + j)
  stop : i + n = 128 ∨ bz a (i + n) = bz b (i + n)
theorem IsDif.uniq {a b : List Nat} {i n m : Nat} (h : IsDif a b i n) (k : IsDif a b i m) : n = m := by
  rcases Nat.lt_trichotomy n m with e | e | e
  · rcases h.stop with s | s
    · have := k.le; omega
    · exact absurd s (k.ne n e)
  · exact e
  · rcases k.stop with s | s
    · have := h.le; omega
    · exact absurd s (h.ne m e)
theorem dif_ex (a b : List Nat) : ∀ (d i : Nat), i + d = 128 → ∃ n, IsDif a b i n
  | 0, i, h => ⟨0, by omega, fun j hj => by omega, .inl (by omega)⟩
  | d + 1, i, h => by
    by_cases e : bz a i = bz b i
    · exact ⟨0, by omega, fun j hj => by omega, .inr e⟩
    · obtain ⟨n, h1, h2, h3⟩ := dif_ex a b d (i + 1) (by omega)
      refine ⟨n + 1, by omega, fun j hj => ?_, ?_⟩
      · cases j with
        | zero => exact e
        | succ j => have := h2 j (by omega); rwa [show i + 1 + j = i + (j + 1) by omega] at this
      · rw [show i + (n + 1) = i + 1 + n by omega]; exact h3
open Classical in
/-- how many bytes differ from i on -/
noncomputable def dif (a b : List Nat) (i : Nat) : Nat := if h : i ≤ 128 then (dif_ex a b (128 - i) i (by omega)).choose else 0
theorem dif_is {a b : List Nat} {i : Nat} (h : i ≤ 128) : IsDif a b i (dif a b i) := by
  unfold dif
  rw [dif_pos h]
  exact (dif_ex a b (128 - i) i (by omega)).choose_spec
theorem dif_eq {a b : List Nat} {i n : Nat} (h : IsDif a b i n) : dif a b i = n := (dif_is (by have := h.le; omega)).uniq h
/-- the objects from i on -/
noncomputable def dlist (s : Int) (a b : List Nat) (i : Nat) : List Ob :=
  if 128 ≤ i then [] else if dif a b i = 0 then dlist s a b (i + 1) else ⟨s, (i : Int), (b.drop i).take (dif a b i)⟩ :: dlist s a b (i + dif a b i + 1)
termination_by 128 - i
theorem dlist_end {s : Int} {a b : List Nat} {i : Nat} (h : 128 ≤ i) : dlist s a b i = [] := by rw [dlist, if_pos h]
theorem dlist_skip {s : Int} {a b : List Nat} {i : Nat} (h : i < 128) (hd : IsDif a b i 0) : dlist s a b i = dlist s a b (i + 1) := by
  rw [dlist, if_neg (by omega), if_pos (dif_eq hd)]
theorem dlist_some {s : Int} {a b : List Nat} {i n : Nat} (h : i < 128) (hd : IsDif a b i (n + 1)) : dlist s a b i = ⟨s, (i : Int), (b.drop i).take (n + 1)⟩ :: dlist s a b (i + (n + 1) + 1) := by
  conv => lhs; rw [dlist]
  rw [if_neg (by omega), dif_eq hd, if_neg (by omega)]
theorem dlist_len (s : Int) (a b : List Nat) : ∀ (d i : Nat), 128 - i ≤ d → (dlist s a b i).length ≤ d
  | 0, i, h => by rw [dlist_end (by omega)]; exact Nat.le_refl _
  | d + 1, i, h => by
    by_cases hi : 128 ≤ i
    · rw [dlist_end hi]; simp
    · have hd := dif_is (a := a) (b := b) (i := i) (by omega)
      cases hn : dif a b i with
      | zero =>
        rw [hn] at hd
        rw [dlist_skip (by omega) hd]
        exact Nat.le_trans (dlist_len s a b d (i + 1) (by omega)) (by omega)
      | succ n =>
        rw [hn] at hd
        rw [dlist_some (by omega) hd, List.length_cons]
        have := dlist_len s a b d (i + (n + 1) + 1) (by omega)
        omega
theorem dlist_small (s : Int) (a b : List Nat) (hb : b.length = 128) : ∀ (d i : Nat), 128 - i ≤ d → ∀ x ∈ dlist s a b i, x.b.length ≤ 128
  | 0, i, h, x, hx => by rw [dlist_end (by omega)] at hx; cases hx
  | d + 1, i, h, x, hx => by
    by_cases hi : 128 ≤ i
    · rw [dlist_end hi] at hx; cases hx
    · have hd := dif_is (a := a) (b := b) (i := i) (by omega)
      cases hn : dif a b i with
      | zero =>
        rw [hn] at hd
        rw [dlist_skip (by omega) hd] at hx
        exact dlist_small s a b hb d (i + 1) (by omega) x hx
      | succ n =>
        rw [hn] at hd
        rw [dlist_some (by omega) hd] at hx
        rcases List.mem_cons.1 hx with rfl | hx
        · have := hd.le
          simp only [List.length_take, List.length_drop]
          omega
        · exact dlist_small s a b hb d (i + (n + 1) + 1) (by omega) x hx
/-- what does not differ -/
theorem dlist_same (s : Int) (a : List Nat) : ∀ (d i : Nat), 128 - i ≤ d → dlist s a a i = []
  | 0, i, h => dlist_end (by omega)
  | d + 1, i, h => by
    by_cases hi : 128 ≤ i
    · exact dlist_end hi
    · rw [dlist_skip (by omega) ⟨by omega, fun j hj => by omega, .inr rfl⟩]
      exact dlist_same s a d (i + 1) (by omega)
theorem bz_out {l : List Nat} {k : Nat} (h : l.length ≤ k) : bz l k = 0 := by simp [bz, List.getD, List.getElem?_eq_none h]
/-- bytes laid over others, place by place -/
theorem bz_splice {L m : List Nat} {p j : Nat} (h : p + m.length ≤ L.length) : bz (splice L p m) j = if j < p then bz L j else if j < p + m.length then bz m (j - p) else bz L j := by
  unfold splice
  by_cases h1 : j < p
  · rw [if_pos h1, bz_append_left (by rw [List.length_take]; omega), bz_take h1]
  · rw [if_neg h1, bz_append_right (by rw [List.length_take]; omega), List.length_take, show min p L.length = p by omega]
    by_cases h2 : j < p + m.length
    · rw [if_pos h2, bz_append_left (by omega)]
    · rw [if_neg h2, bz_append_right (by omega), bz_drop]
      congr 1
      omega
/-- what differs, laid over the old, is the new -/
theorem lays_dlist (s : Int) (hs : 0 ≤ s) (a b : List Nat) (ha : a.length = 128) (hb : b.length = 128) : ∀ (d i : Nat) (L : List Nat), 128 - i ≤ d → L.length = 128 → (∀ j, j < i → bz L j = bz b j) → (∀ j, i ≤ j → bz L j = bz a j) → lays s L (dlist s a b i) = b
  | 0, i, L, h, hL, h1, h2 => by
    rw [dlist_end (by omega)]
    show L = b
    exact bz_ext (by rw [hL, hb]) fun k hk => h1 k (by omega)
  | d + 1, i, L, h, hL, h1, h2 => by
    by_cases hi : 128 ≤ i
    · rw [dlist_end hi]
      show L = b
      exact bz_ext (by rw [hL, hb]) fun k hk => h1 k (by omega)
    · have hd := dif_is (a := a) (b := b) (i := i) (by omega)
      cases hn : dif a b i with
      | zero =>
        rw [hn] at hd
        rw [dlist_skip (by omega) hd]
        refine lays_dlist s hs a b ha hb d (i + 1) L (by omega) hL (fun j hj => ?_) (fun j hj => h2 j (by omega))
        rcases Nat.lt_succ_iff_lt_or_eq.1 hj with e | e
        · exact h1 j e
        · subst e
          rw [h2 j (Nat.le_refl _)]
          rcases hd.stop with q | q
          · omega
          · exact q
      | succ n =>
        rw [hn] at hd
        have hle := hd.le
        rw [dlist_some (by omega) hd]
        have hlen : ((b.drop i).take (n + 1)).length = n + 1 := by rw [List.length_take, List.length_drop]; omega
        have hl1 : lay1 s L ⟨s, (i : Int), (b.drop i).take (n + 1)⟩ = splice L i ((b.drop i).take (n + 1)) := by
          unfold lay1
          rw [if_pos ⟨mayO_is.2 ⟨hs, by show (0 : Int) ≤ (i : Int); omega, by show 0 < ((b.drop i).take (n + 1)).length; omega, by show (i : Int) + (((b.drop i).take (n + 1)).length : Int) ≤ 128; omega⟩, rfl⟩]
          rfl
        show lays s (lay1 s L ⟨s, (i : Int), (b.drop i).take (n + 1)⟩) (dlist s a b (i + (n + 1) + 1)) = b
        rw [hl1]
        have hsl := splice_len (L := L) (m := (b.drop i).take (n + 1)) (k := i) (by rw [hlen, hL]; exact hle)
        refine lays_dlist s hs a b ha hb d (i + (n + 1) + 1) _ (by omega) (by rw [hsl, hL]) (fun j hj => ?_) (fun j hj => ?_)
        · rw [bz_splice (by rw [hlen, hL]; exact hle), hlen]
          split
          · rename_i e; exact h1 j e
          · split
            · rename_i e1 e2
              rw [bz_take (by omega), bz_drop]
              congr 1
              omega
            · have : j = i + (n + 1) := by omega
              subst this
              rw [h2 _ (by omega)]
              rcases hd.stop with q | q
              · rw [bz_out (by omega), bz_out (by omega)]
              · exact q
        · rw [bz_splice (by rw [hlen, hL]; exact hle), hlen, if_neg (by omega), if_neg (by omega)]
          exact h2 j (by omega)
end Go.Proofs.Ytcmomnfefaolaaa
