/-
  The stable sort of the library: what its merge does, said of places alone.
-/
import Derived.Test.YtdnemlanahlnpaaDoorIns
namespace Go.Proofs.YtdnemlanahlnpaaDoor
open Go.RowKit Fl

theorem ltk_le {K : Int → Int} {x y : Int} (h : ltk K x y) : K x ≤ K y := by rcases h with h | h <;> omega
theorem LS.le {K : Int → Int} {D : Nat → Int} {a b p q : Nat} (h : LS K D a b) (h1 : a ≤ p) (h2 : p ≤ q) (h3 : q < b) : K (D p) ≤ K (D q) := by
  by_cases e : p = q
  · rw [e]; exact Int.le_refl _
  · exact ltk_le (h p q h1 (by omega) h3)

/-- the a-th one brought behind, to place k -/
def shL (D : Nat → Int) (a k p : Nat) : Int := if p = k then D a else if a ≤ p ∧ p < k then D (p + 1) else D p
theorem shL_moves {D : Nat → Int} {a k b : Nat} (h1 : a ≤ k) (h2 : k < b) : Moves a b D (shL D a k) := by
  constructor
  · intro p hp
    unfold shL
    rw [if_neg (by omega), if_neg (by omega)]
  · intro p p1 p2
    unfold shL
    by_cases e : p = k
    · rw [if_pos e]; exact ⟨a, by omega, by omega, rfl⟩
    · rw [if_neg e]
      by_cases e2 : a ≤ p ∧ p < k
      · rw [if_pos e2]; exact ⟨p + 1, by omega, by omega, rfl⟩
      · rw [if_neg e2]; exact ⟨p, p1, p2, rfl⟩
theorem shL_step {D : Nat → Int} {a k : Nat} (h : a ≤ k) (p : Nat) : shL D a (k + 1) p = if p = k + 1 then D a else if p = k then D (k + 1) else shL D a k p := by
  unfold shL
  repeat' split
  all_goals first | omega | rfl | (congr 1; omega)
theorem shL_sorted {K : Int → Int} {D : Nat → Int} {a i b : Nat} (h1 : a + 1 ≤ i) (h2 : i ≤ b) (hs : LS K D (a + 1) b) (ht : Stab K D a b) (hp : ∀ q, a + 1 ≤ q → q < i → K (D q) < K (D a)) (hq : ∀ q, i ≤ q → q < b → K (D a) ≤ K (D q)) :
    LS K (shL D a (i - 1)) a b := by
  have hi : ∀ q, i ≤ q → q < b → ltk K (D a) (D q) := fun q q1 q2 => by
    have h := hq q q1 q2
    by_cases e : K (D a) = K (D q)
    · exact .inr ⟨e, ht a q (Nat.le_refl _) (by omega) q2 e⟩
    · exact .inl (by omega)
  intro p q p1 p2 p3
  unfold shL
  by_cases e1 : p = i - 1
  · rw [if_pos e1, if_neg (by omega), if_neg (by omega)]
    exact hi q (by omega) p3
  · rw [if_neg e1]
    by_cases e2 : a ≤ p ∧ p < i - 1
    · rw [if_pos e2]
      by_cases e3 : q = i - 1
      · rw [if_pos e3]; exact .inl (hp (p + 1) (by omega) (by omega))
      · rw [if_neg e3]
        by_cases e4 : a ≤ q ∧ q < i - 1
        · rw [if_pos e4]; exact hs (p + 1) (q + 1) (by omega) (by omega) (by omega)
        · rw [if_neg e4]; exact hs (p + 1) q (by omega) (by omega) p3
    · rw [if_neg e2, if_neg (by omega), if_neg (by omega)]
      exact hs p q (by omega) p2 p3

/-- what the search in the middle finds: how much of the left goes behind -/
structure Cut (K : Int → Int) (D : Nat → Int) (a m b mid s t : Nat) : Prop where
  sum : s + t = mid + m
  s1 : a ≤ s
  s2 : s ≤ m
  t1 : m ≤ t
  t2 : t ≤ b
  smid : s ≤ mid
  right : s < m → m < t → K (D (t - 1)) < K (D s)
  left : a < s → t < b → ¬ K (D t) < K (D (s - 1))

section
variable {K : Int → Int} {D : Nat → Int} {a m b mid s t : Nat}
theorem rot_at (h : Cut K D a m b mid s t) (p : Nat) : rotR D s m t p = if p < s then D p else if p < mid then D (p - s + m) else if p < t then D (p - mid + s) else D p := by
  have := h.sum
  have := h.t1
  unfold rotR
  repeat' split
  all_goals first | omega | rfl | (congr 1; omega)
theorem cut_moves (h : Cut K D a m b mid s t) : Moves a b D (rotR D s m t) := by
  have h0 := h.sum; have h1 := h.s1; have h2 := h.s2; have h3 := h.t1; have h4 := h.t2; have h5 := h.smid
  constructor
  · intro p hp
    rw [rot_at h]
    repeat' split
    all_goals first | omega | rfl
  · intro p p1 p2
    rw [rot_at h]
    by_cases e1 : p < s
    · rw [if_pos e1]; exact ⟨p, p1, p2, rfl⟩
    · rw [if_neg e1]
      by_cases e2 : p < mid
      · rw [if_pos e2]; exact ⟨p - s + m, by omega, by omega, rfl⟩
      · rw [if_neg e2]
        by_cases e3 : p < t
        · rw [if_pos e3]; exact ⟨p - mid + s, by omega, by omega, rfl⟩
        · rw [if_neg e3]; exact ⟨p, p1, p2, rfl⟩
theorem cut_sorted1 (h : Cut K D a m b mid s t) (hl : LS K D a m) : LS K (rotR D s m t) a s := by
  have h2 := h.s2
  intro p q p1 p2 p3
  rw [rot_at h, rot_at h, if_pos (by omega), if_pos p3]
  exact hl p q p1 p2 (by omega)
theorem cut_sorted2 (h : Cut K D a m b mid s t) (hr : LS K D m b) : LS K (rotR D s m t) s mid := by
  have h0 := h.sum; have h4 := h.t2; have h3 := h.t1
  intro p q p1 p2 p3
  rw [rot_at h, rot_at h, if_neg (by omega), if_pos (by omega), if_neg (by omega), if_pos p3]
  exact hr _ _ (by omega) (by omega) (by omega)
theorem cut_sorted3 (h : Cut K D a m b mid s t) (hl : LS K D a m) : LS K (rotR D s m t) mid t := by
  have h0 := h.sum; have h1 := h.s1; have h5 := h.smid
  intro p q p1 p2 p3
  rw [rot_at h, rot_at h, if_neg (by omega), if_neg (by omega), if_pos (by omega), if_neg (by omega), if_neg (by omega), if_pos p3]
  exact hl _ _ (by omega) (by omega) (by omega)
theorem cut_sorted4 (h : Cut K D a m b mid s t) (hr : LS K D m b) : LS K (rotR D s m t) t b := by
  have h0 := h.sum; have h2 := h.s2; have h5 := h.smid; have h3 := h.t1
  intro p q p1 p2 p3
  rw [rot_at h, rot_at h, if_neg (by omega), if_neg (by omega), if_neg (by omega), if_neg (by omega), if_neg (by omega), if_neg (by omega)]
  exact hr _ _ (by omega) p2 p3
/-- the left half stands ahead of the right one -/
theorem cut_apart (h : Cut K D a m b mid s t) (hl : LS K D a m) (hr : LS K D m b) (ht : Stab K D a b) : ∀ p q, a ≤ p → p < mid → mid ≤ q → q < b → ltk K (rotR D s m t p) (rotR D s m t q) := by
  have h0 := h.sum; have h1 := h.s1; have h2 := h.s2; have h3 := h.t1; have h4 := h.t2; have h5 := h.smid
  intro p q p1 p2 q1 q2
  rw [rot_at h, rot_at h, if_neg (show ¬ q < s by omega), if_neg (show ¬ q < mid by omega)]
  by_cases e1 : p < s
  · rw [if_pos e1]
    by_cases e2 : q < t
    · rw [if_pos e2]
      exact hl p _ p1 (by omega) (by omega)
    · rw [if_neg e2]
      have l1 : K (D p) ≤ K (D (s - 1)) := hl.le p1 (by omega) (by omega)
      have l2 := h.left (by omega) (by omega)
      have l3 : K (D t) ≤ K (D q) := hr.le (by omega) (by omega) q2
      by_cases e : K (D p) = K (D q)
      · exact .inr ⟨e, ht p q p1 (by omega) q2 e⟩
      · exact .inl (by omega)
  · rw [if_neg e1, if_pos p2]
    by_cases e2 : q < t
    · rw [if_pos e2]
      have l1 : K (D (p - s + m)) ≤ K (D (t - 1)) := hr.le (by omega) (by omega) (by omega)
      have l2 := h.right (by omega) (by omega)
      have l3 : K (D s) ≤ K (D (q - mid + s)) := hl.le (by omega) (by omega) (by omega)
      exact .inl (by omega)
    · rw [if_neg e2]
      exact hr _ q (by omega) (by omega) q2
theorem cut_stab1 (h : Cut K D a m b mid s t) (hl : LS K D a m) (hr : LS K D m b) (ht : Stab K D a b) : Stab K (rotR D s m t) a mid := by
  have h0 := h.sum; have h1 := h.s1; have h2 := h.s2; have h3 := h.t1; have h4 := h.t2; have h5 := h.smid
  intro p q p1 p2 p3 hk
  rw [rot_at h, rot_at h] at hk ⊢
  by_cases e1 : p < s
  · rw [if_pos e1] at hk ⊢
    by_cases e2 : q < s
    · rw [if_pos e2] at hk ⊢
      exact ht p q p1 p2 (by omega) hk
    · rw [if_neg e2, if_pos p3] at hk ⊢
      exact ht p _ p1 (by omega) (by omega) hk
  · rw [if_neg e1, if_pos (by omega), if_neg (by omega), if_pos p3] at hk ⊢
    exact ht _ _ (by omega) (by omega) (by omega) hk
theorem cut_stab2 (h : Cut K D a m b mid s t) (hl : LS K D a m) (hr : LS K D m b) (ht : Stab K D a b) : Stab K (rotR D s m t) mid b := by
  have h0 := h.sum; have h1 := h.s1; have h2 := h.s2; have h3 := h.t1; have h4 := h.t2; have h5 := h.smid
  intro p q p1 p2 p3 hk
  rw [rot_at h, rot_at h, if_neg (show ¬ p < s by omega), if_neg (show ¬ p < mid by omega), if_neg (show ¬ q < s by omega), if_neg (show ¬ q < mid by omega)] at hk ⊢
  by_cases e1 : p < t
  · rw [if_pos e1] at hk ⊢
    by_cases e2 : q < t
    · rw [if_pos e2] at hk ⊢
      exact ht _ _ (by omega) (by omega) (by omega) hk
    · rw [if_neg e2] at hk ⊢
      exact ht _ q (by omega) (by omega) p3 hk
  · rw [if_neg e1, if_neg (by omega)] at hk ⊢
    exact ht p q (by omega) p2 p3 hk

/-- both halves sorted, the whole is -/
theorem halves {E C : Nat → Int} (hm : a ≤ mid) (hb : mid ≤ b) (hap : ∀ p q, a ≤ p → p < mid → mid ≤ q → q < b → ltk K (D p) (D q)) (m1 : Moves a mid D E) (l1 : LS K E a mid) (m2 : Moves mid b E C) (l2 : LS K C mid b) : LS K C a b ∧ Moves a b D C := by
  refine ⟨fun p q p1 p2 p3 => ?_, (m1.wider (Nat.le_refl _) hb).trans (m2.wider hm (Nat.le_refl _))⟩
  by_cases e1 : q < mid
  · rw [m2.1 p (by omega), m2.1 q (by omega)]
    exact l1 p q p1 p2 e1
  · by_cases e2 : mid ≤ p
    · exact l2 p q e2 p2 p3
    · rw [m2.1 p (by omega)]
      obtain ⟨p', q1, q2, e⟩ := m1.2 p p1 (by omega)
      obtain ⟨q', q3, q4, e'⟩ := m2.2 q (by omega) p3
      rw [e, e', m1.1 q' (by omega)]
      exact hap p' q' q1 q2 q3 q4
end

theorem LS.congr {K : Int → Int} {D E : Nat → Int} {a b : Nat} (h : LS K D a b) (he : ∀ p, a ≤ p → p < b → E p = D p) : LS K E a b := fun p q p1 p2 p3 => by
  rw [he p p1 (by omega), he q (by omega) p3]; exact h p q p1 p2 p3
theorem rot_id {D : Nat → Int} {s m t : Nat} (h : s = m ∨ t = m) (p : Nat) : rotR D s m t p = D p := by
  unfold rotR
  repeat' split
  all_goals first | rfl | omega | (congr 1; omega)
/-- the whole, out of the search and the two halves -/
theorem merged {K : Int → Int} {D E C : Nat → Int} {a m b mid s t : Nat} (h : Cut K D a m b mid s t) (hl : LS K D a m) (hr : LS K D m b) (ht : Stab K D a b) (hm : a ≤ mid) (hb : mid ≤ b)
    (m1 : Moves a mid (rotR D s m t) E) (l1 : LS K E a mid) (m2 : Moves mid b E C) (l2 : LS K C mid b) : LS K C a b ∧ Moves a b D C := by
  have hh := halves hm hb (cut_apart h hl hr ht) m1 l1 m2 l2
  exact ⟨hh.1, (cut_moves h).trans hh.2⟩

theorem left_done {K : Int → Int} {D : Nat → Int} {a m b mid s t : Nat} (h : Cut K D a m b mid s t) (hl : LS K D a m) (hr : LS K D m b) (he : s = mid ∨ s = a) : LS K (rotR D s m t) a mid := by
  rcases he with he | he
  · have := cut_sorted1 h hl
    rw [he] at this ⊢; exact this
  · have := cut_sorted2 h hr
    rw [he] at this ⊢; exact this
theorem right_done {K : Int → Int} {E : Nat → Int} {b mid t : Nat} (h3 : LS K E mid t) (h4 : LS K E t b) (he : t = mid ∨ t = b) : LS K E mid b := by
  rcases he with he | he
  · rw [← he]; exact h4
  · rw [← he]; exact h3

/-- the search: whatever stands at s, all ahead of it are too great on the right, none from it on -/
theorem search_cut {K : Int → Int} {D : Nat → Int} {a m b s : Nat} (ham : a + 1 < m) (hmb : m + 1 < b) (s0 r0 : Nat) (hs0 : s0 = if (a + b) / 2 < m then (a + b) / 2 + m - b else a) (hr0 : r0 = if (a + b) / 2 < m then (a + b) / 2 else m)
    (h1 : s0 ≤ s) (h2 : s ≤ r0) (hlo : s0 < s → ¬ K (D ((a + b) / 2 + m - 1 - (s - 1))) < K (D (s - 1))) (hhi : s < r0 → K (D ((a + b) / 2 + m - 1 - s)) < K (D s)) :
    Cut K D a m b ((a + b) / 2) s ((a + b) / 2 + m - s) := by
  by_cases e : (a + b) / 2 < m
  · rw [if_pos e] at hs0 hr0
    refine ⟨by omega, by omega, by omega, by omega, by omega, by omega, fun _ _ => ?_, fun _ _ => ?_⟩
    · have := hhi (by omega)
      rw [show (a + b) / 2 + m - s - 1 = (a + b) / 2 + m - 1 - s by omega]; exact this
    · have := hlo (by omega)
      rw [show (a + b) / 2 + m - s = (a + b) / 2 + m - 1 - (s - 1) by omega]; exact this
  · rw [if_neg e] at hs0 hr0
    refine ⟨by omega, by omega, by omega, by omega, by omega, by omega, fun _ _ => ?_, fun _ _ => ?_⟩
    · have := hhi (by omega)
      rw [show (a + b) / 2 + m - s - 1 = (a + b) / 2 + m - 1 - s by omega]; exact this
    · have := hlo (by omega)
      rw [show (a + b) / 2 + m - s = (a + b) / 2 + m - 1 - (s - 1) by omega]; exact this
end Go.Proofs.YtdnemlanahlnpaaDoor
