/-
  More slashes, and parts of one dot, change nothing; a part more, and .. behind it, nothing but the parts: the walk.
-/
import Derived.Test.YtkocjkndkkhogaaDoorKp
import Derived.Test.YtkocjkndkkhogaaDoorIt
import Derived.Test.YtkocjkndkkhogaaDoorLo
namespace Go.Proofs.YtkocjkndkkhogaaDoor
open Go.RowKit BigFrame

/-- where the slashes stand, ahead of k -/
def cutsL (l : List Nat) (k : Nat) : List Nat := (List.range k).filter fun i => decide (bz l i = 47)
theorem cuts_yes {l : List Nat} {k : Nat} (h : bz l k = 47) : cutsL l (k + 1) = cutsL l k ++ [k] := by
  unfold cutsL
  rw [List.range_succ, List.filter_append, List.filter_cons_of_pos (by simpa using h)]; rfl
theorem cuts_no {l : List Nat} {k : Nat} (h : bz l k ≠ 47) : cutsL l (k + 1) = cutsL l k := by
  unfold cutsL
  rw [List.range_succ, List.filter_append, List.filter_cons_of_neg (by simpa using h)]; simp
theorem cuts_len (l : List Nat) (k : Nat) : (cutsL l k).length ≤ k := by
  have := List.length_filter_le (fun i => decide (bz l i = 47)) (List.range k)
  rw [List.length_range] at this
  exact this
theorem cuts_at {l : List Nat} {n j : Nat} (h : j < (cutsL l n).length) : (cutsL l n).getD j 0 < n ∧ bz l ((cutsL l n).getD j 0) = 47 := by
  have hm : (cutsL l n).getD j 0 ∈ cutsL l n := by
    rw [List.getD, List.getElem?_eq_getElem h]
    exact List.getElem_mem h
  obtain ⟨h1, h2⟩ := List.mem_filter.1 hm
  exact ⟨List.mem_range.1 h1, of_decide_eq_true h2⟩
theorem cuts_some {l : List Nat} {n : Nat} (hn : 0 < n) (h : bz l 0 = 47) : 0 < (cutsL l n).length := by
  have hm : 0 ∈ cutsL l n := List.mem_filter.2 ⟨List.mem_range.2 hn, by simpa using h⟩
  exact List.length_pos_of_mem hm
def cutD (l : List Nat) (k : Nat) (j : Nat) : Int := (((cutsL l k).getD j 0 : Nat) : Int)
theorem cutD_join {l : List Nat} {k : Nat} (h : bz l k = 47) : ∀ p, p < (cutsL l k).length + 1 → joinI (cutD l k) (cutsL l k).length (fun _ => (k : Int)) p = cutD l (k + 1) p := by
  intro p hp
  unfold joinI cutD
  rw [cuts_yes h]
  by_cases e : p < (cutsL l k).length
  · rw [if_pos e, List.getD, List.getD, List.getElem?_append_left e]
  · obtain rfl : p = (cutsL l k).length := by omega
    rw [if_neg e, List.getD, List.getElem?_append_right (Nat.le_refl _)]
    simp
theorem drop_bz2 {l : List Nat} {k : Nat} (h : k < l.length) : l.drop k = bz l k :: l.drop (k + 1) := by rw [bz_get h, List.drop_eq_getElem_cons h]
/-- a slash, a dot, a slash put in -/
def mid4 (l : List Nat) (k : Nat) : List Nat := l.take k ++ [47, 46, 47] ++ l.drop k
theorem mid4_parts {l : List Nat} {k : Nat} (hk : k < l.length) (h : bz l k = 47) : partsL (mid4 l k) = partsL l := by
  have e1 : l = l.take k ++ 47 :: l.drop (k + 1) := by rw [← h, ← drop_bz2 hk, List.take_append_drop]
  have e2 : mid4 l k = l.take k ++ 47 :: ([46] ++ 47 :: l.drop k) := by unfold mid4; simp
  have e3 : l.drop k = 47 :: l.drop (k + 1) := by rw [drop_bz2 hk, h]
  rw [e2, partsL_cut, partsL_cut, e3, partsL_slash]
  conv => rhs; rw [e1]
  rw [partsL_cut]
  rfl
theorem mid4_code {l : List Nat} {k : Nat} (hk : k < l.length) (h : bz l k = 47) (hl : l.length ≤ 60) (hc : codeP l = 0) : codeP (mid4 l k) = 0 := by
  obtain ⟨⟨b, hb⟩, h2, _, h4⟩ := codeP_zero.1 hc
  refine codeP_zero.2 ⟨?_, ?_, ?_, by rw [mid4_parts hk h]; exact h4⟩
  · unfold mid4
    cases k with
    | zero => exact ⟨[46, 47] ++ l, by simp⟩
    | succ k => exact ⟨b.take k ++ ([47, 46, 47] ++ l.drop (k + 1)), by rw [hb]; simp⟩
  · unfold mid4
    intro h0
    simp only [List.mem_append, List.mem_cons, List.not_mem_nil, or_false] at h0
    rcases h0 with (h0 | h0) | h0
    · exact h2 (List.mem_of_mem_take h0)
    · omega
    · exact h2 (List.mem_of_mem_drop h0)
  · unfold mid4
    simp only [List.length_append, List.length_take, List.length_drop, List.length_cons, List.length_nil]
    omega
/-- a part more, and back -/
def more6 (l : List Nat) : List Nat := l ++ [47, 122, 122, 47, 46, 46]
theorem more6_parts (l : List Nat) : partsL (more6 l) = partsL l ++ [[122, 122], dots] := by
  unfold more6
  rw [show [47, 122, 122, 47, 46, 46] = 47 :: ([122, 122] ++ 47 :: [46, 46]) from rfl, partsL_cut, partsL_cut]
  rfl
theorem more6_code {l : List Nat} (hl : l.length ≤ 60) (hc : codeP l = 0) (hp : (partsL l).length + 2 ≤ 20) : codeP (more6 l) = 0 ∧ cleanL (more6 l) = cleanL l := by
  obtain ⟨⟨b, hb⟩, h2, _, h4⟩ := codeP_zero.1 hc
  have h5 : codeP (more6 l) = 0 := by
    refine codeP_zero.2 ⟨⟨b ++ [47, 122, 122, 47, 46, 46], by unfold more6; rw [hb]; rfl⟩, ?_, ?_, ?_⟩
    · unfold more6
      simp [h2]
    · unfold more6
      simp; omega
    · rw [more6_parts]
      refine longL_no.2 ⟨fun p hp => ?_, by rw [List.length_append]; exact hp⟩
      rcases List.mem_append.1 hp with hp | hp
      · exact (longL_no.1 h4).1 p hp
      · simp only [List.mem_cons, List.not_mem_nil, or_false] at hp
        rcases hp with rfl | rfl <;> decide
  refine ⟨h5, ?_⟩
  unfold cleanL
  rw [if_pos h5, if_pos hc, more6_parts, lasts_detour _ (by decide)]
end Go.Proofs.YtkocjkndkkhogaaDoor
