/-
  Each sector is one thing alone: the numbers. (P sectors a group, h of them of inodes, i = 4 h inodes, b blocks.)
-/
import Derived.Test.YtlhcfjkheifnpaaIt
namespace Go.Proofs.Ytlhcfjkheifnpaa

/-- the group of a sector, and its place in it -/
def secQ (P s : Nat) : Nat := (s - 2) / P
def secR (P s : Nat) : Nat := (s - 2) % P
theorem sec_at {P q r : Nat} (hr : r < P) : secQ P (2 + q * P + r) = q ∧ secR P (2 + q * P + r) = r := by
  have e : 2 + q * P + r - 2 = P * q + r := by rw [Nat.mul_comm]; omega
  unfold secQ secR
  rw [e, Nat.mul_add_div (by omega), Nat.mul_add_mod, Nat.div_eq_of_lt hr, Nat.mod_eq_of_lt hr]
  exact ⟨rfl, rfl⟩
theorem sec_in {P g s : Nat} (h2 : 2 ≤ s) (hs : s < 2 + g * P) : ∃ q r, q < g ∧ r < P ∧ s = 2 + q * P + r ∧ secQ P s = q ∧ secR P s = r := by
  have hP : 0 < P := by
    rcases Nat.eq_zero_or_pos P with h | h
    · rw [h, Nat.mul_zero] at hs; omega
    · exact h
  have hq : secQ P s < g := by unfold secQ; exact Nat.div_lt_of_lt_mul (by rw [Nat.mul_comm]; omega)
  have hr : secR P s < P := Nat.mod_lt _ hP
  refine ⟨secQ P s, secR P s, hq, hr, ?_, rfl, rfl⟩
  have := Nat.div_add_mod (s - 2) P
  unfold secQ secR
  rw [Nat.mul_comm] at this
  omega
theorem sec_one {P q r q2 r2 : Nat} (hr : r < P) (hr2 : r2 < P) (h : q * P + r = q2 * P + r2) : q = q2 ∧ r = r2 := by
  have a := sec_at (q := q) hr
  have c := sec_at (q := q2) hr2
  have e : 2 + q * P + r = 2 + q2 * P + r2 := by omega
  rw [e] at a
  exact ⟨a.1.symm.trans c.1, a.2.symm.trans c.2⟩

/-- the counts behind k groups' bits -/
def cnt1 (P k s : Nat) : Int := if s < 2 then 1 else if secR P s = 0 ∧ secQ P s < k then 1 else 0
/-- behind m inodes -/
def cnt2 (P h i m s : Nat) : Int := if s < 2 then 1 else if secR P s = 0 then 1 else if secR P s ≤ h ∧ secQ P s * i + 4 * (secR P s - 1) < m then 1 else 0
/-- behind t sectors -/
def cnt3 (P h t s : Nat) : Int := if s < 2 then 1 else if secR P s ≤ h then 1 else if s < t then 1 else 0
/-- the blocks among the first t sectors -/
def blocksTo (P h b t : Nat) : Nat := if t < 2 then 0 else secQ P t * b + (secR P t - (1 + h))

theorem cnt1_new {P k : Nat} (hP : 0 < P) : cnt1 P k (2 + k * P) = 0 := by
  have h := sec_at (q := k) hP
  rw [Nat.add_zero] at h
  unfold cnt1
  rw [h.1, h.2, if_neg (by omega), if_neg (by omega)]
theorem cnt1_step {P g k s : Nat} (hk : k < g) (hs : s < 2 + g * P) : cnt1 P (k + 1) s = upd (cnt1 P k) (2 + k * P) 1 s := by
  unfold upd
  by_cases h2 : s < 2
  · rw [if_neg (by omega)]; unfold cnt1; rw [if_pos h2, if_pos h2]
  · obtain ⟨q, r, hq, hr, he, e1, e2⟩ := sec_in (by omega) hs
    by_cases e : s = 2 + k * P
    · rw [if_pos e]
      have := sec_one (q := q) (r := r) (q2 := k) (r2 := 0) hr (by omega) (by omega)
      unfold cnt1; rw [if_neg h2, e1, e2, if_pos (by omega)]
    · rw [if_neg e]
      unfold cnt1; rw [if_neg h2, if_neg h2, e1, e2]
      by_cases hr0 : r = 0
      · have hqk : q ≠ k := by
          intro hqk; subst hqk; omega
        by_cases hlt : q < k
        · rw [if_pos (by omega), if_pos (by omega)]
        · rw [if_neg (by omega), if_neg (by omega)]
      · rw [if_neg (by omega), if_neg (by omega)]
theorem cnt1_start {P s : Nat} : cnt1 P 0 s = if s < 2 then 1 else 0 := by
  unfold cnt1
  by_cases h : s < 2
  · rw [if_pos h, if_pos h]
  · rw [if_neg h, if_neg h, if_neg (by omega)]
theorem cnt12 {P h i g s : Nat} (hs : s < 2 + g * P) : cnt1 P g s = cnt2 P h i 0 s := by
  unfold cnt1 cnt2
  by_cases h2 : s < 2
  · rw [if_pos h2, if_pos h2]
  · obtain ⟨q, r, hq, hr, he, e1, e2⟩ := sec_in (by omega) hs
    rw [if_neg h2, if_neg h2, e1, e2]
    by_cases h0 : r = 0
    · rw [if_pos ⟨h0, hq⟩, if_pos h0]
    · rw [if_neg (by omega), if_neg h0, if_neg (by omega)]
/-- inode m's group and number -/
theorem cnt2_at {P h i k j : Nat} (hi : i = 4 * h) (hP : h < P) (hj : j < i) :
    secQ P (3 + k * P + j / 4) = k ∧ secR P (3 + k * P + j / 4) = 1 + j / 4 := by
  have e : 3 + k * P + j / 4 = 2 + k * P + (1 + j / 4) := by omega
  rw [e]
  exact sec_at (by omega)
theorem cnt2_new {P h i k j : Nat} (hi : i = 4 * h) (hP : h < P) (hj : j < i) (h0 : j % 4 = 0) : cnt2 P h i (k * i + j) (3 + k * P + j / 4) = 0 := by
  obtain ⟨e1, e2⟩ := cnt2_at (k := k) hi hP hj
  unfold cnt2
  rw [e1, e2, if_neg (by omega), if_neg (by omega), if_neg (by omega)]
theorem cnt2_step {P h i g k j s : Nat} (hi : i = 4 * h) (hP : h < P) (hj : j < i) (h0 : j % 4 = 0) (hs : s < 2 + g * P) :
    cnt2 P h i (k * i + j + 1) s = upd (cnt2 P h i (k * i + j)) (3 + k * P + j / 4) 1 s := by
  obtain ⟨a1, a2⟩ := cnt2_at (k := k) hi hP hj
  unfold upd
  by_cases e : s = 3 + k * P + j / 4
  · rw [if_pos e, e]
    unfold cnt2
    rw [a1, a2, if_neg (by omega), if_neg (by omega), if_pos (by omega)]
  · rw [if_neg e]
    unfold cnt2
    by_cases h2 : s < 2
    · rw [if_pos h2, if_pos h2]
    · obtain ⟨q, r, hq, hr, he, e1, e2⟩ := sec_in (by omega) hs
      rw [if_neg h2, if_neg h2, e1, e2]
      by_cases hr0 : r = 0
      · rw [if_pos hr0, if_pos hr0]
      · rw [if_neg hr0, if_neg hr0]
        by_cases hrh : r ≤ h
        · have hne : q * i + 4 * (r - 1) ≠ k * i + j := by
            intro hc
            obtain ⟨rfl, hj2⟩ := sec_one (P := i) (q := q) (r := 4 * (r - 1)) (q2 := k) (r2 := j) (by omega) hj hc
            omega
          by_cases hlt : q * i + 4 * (r - 1) < k * i + j
          · rw [if_pos (by omega), if_pos (by omega)]
          · rw [if_neg (by omega), if_neg (by omega)]
        · rw [if_neg (by omega), if_neg (by omega)]
theorem cnt2_same {P h i g k j s : Nat} (hi : i = 4 * h) (hj : j < i) (h0 : j % 4 ≠ 0) (hs : s < 2 + g * P) : cnt2 P h i (k * i + j + 1) s = cnt2 P h i (k * i + j) s := by
  unfold cnt2
  by_cases h2 : s < 2
  · rw [if_pos h2, if_pos h2]
  · obtain ⟨q, r, hq, hr, he, e1, e2⟩ := sec_in (by omega) hs
    rw [if_neg h2, if_neg h2, e1, e2]
    by_cases hr0 : r = 0
    · rw [if_pos hr0, if_pos hr0]
    · rw [if_neg hr0, if_neg hr0]
      by_cases hrh : r ≤ h
      · have hne : q * i + 4 * (r - 1) ≠ k * i + j := by
          intro hc
          obtain ⟨rfl, hj2⟩ := sec_one (P := i) (q := q) (r := 4 * (r - 1)) (q2 := k) (r2 := j) (by omega) hj hc
          omega
        by_cases hlt : q * i + 4 * (r - 1) < k * i + j
        · rw [if_pos (by omega), if_pos (by omega)]
        · rw [if_neg (by omega), if_neg (by omega)]
      · rw [if_neg (by omega), if_neg (by omega)]
theorem cnt23 {P h i g s : Nat} (hi : i = 4 * h) (hs : s < 2 + g * P) : cnt2 P h i (g * i) s = cnt3 P h 0 s := by
  unfold cnt2 cnt3
  by_cases h2 : s < 2
  · rw [if_pos h2, if_pos h2]
  · obtain ⟨q, r, hq, hr, he, e1, e2⟩ := sec_in (by omega) hs
    rw [if_neg h2, if_neg h2, e1, e2]
    by_cases hr0 : r = 0
    · rw [if_pos hr0, if_pos (by omega)]
    · rw [if_neg hr0]
      by_cases hrh : r ≤ h
      · have : (q + 1) * i ≤ g * i := Nat.mul_le_mul_right i hq
        rw [Nat.add_mul] at this
        rw [if_pos (by omega), if_pos hrh]
      · rw [if_neg (by omega), if_neg hrh, if_neg (by omega)]
theorem cnt3_new {P h t : Nat} (h2 : ¬ t < 2) (hr : ¬ secR P t ≤ h) : cnt3 P h t t = 0 := by
  unfold cnt3
  rw [if_neg h2, if_neg hr, if_neg (by omega)]
theorem cnt3_step {P h t s : Nat} (h2 : ¬ t < 2) (hr : ¬ secR P t ≤ h) : cnt3 P h (t + 1) s = upd (cnt3 P h t) t 1 s := by
  unfold upd
  by_cases e : s = t
  · rw [if_pos e, e]
    unfold cnt3
    rw [if_neg h2, if_neg hr, if_pos (by omega)]
  · rw [if_neg e]
    unfold cnt3
    by_cases hlt : s < t
    · rw [if_pos (show s < t + 1 by omega), if_pos hlt]
    · rw [if_neg (show ¬ s < t + 1 by omega), if_neg hlt]
theorem cnt3_same {P h t s : Nat} (ht : t < 2 ∨ secR P t ≤ h) : cnt3 P h (t + 1) s = cnt3 P h t s := by
  by_cases e : s = t
  · unfold cnt3
    rw [e]
    by_cases h2 : t < 2
    · rw [if_pos h2, if_pos h2]
    · rw [if_neg h2, if_neg h2, if_pos (by omega), if_pos (by omega)]
  · unfold cnt3
    by_cases hlt : s < t
    · rw [if_pos (show s < t + 1 by omega), if_pos hlt]
    · rw [if_neg (show ¬ s < t + 1 by omega), if_neg hlt]
theorem cnt3_end {P h n s : Nat} (hs : s < n) : cnt3 P h n s = 1 := by
  unfold cnt3
  by_cases h2 : s < 2
  · rw [if_pos h2]
  · rw [if_neg h2]
    by_cases hr : secR P s ≤ h
    · rw [if_pos hr]
    · rw [if_neg hr, if_pos hs]
theorem blocksTo_next {P h b g t : Nat} (hP : P = 1 + h + b) (hb : 0 < b) (ht : t < 2 + g * P) : blocksTo P h b (t + 1) = blocksTo P h b t + if t < 2 ∨ secR P t ≤ h then 0 else 1 := by
  unfold blocksTo
  by_cases h2 : t < 2
  · rw [if_pos h2, if_pos (show t < 2 ∨ secR P t ≤ h from .inl h2)]
    by_cases h1 : t + 1 < 2
    · rw [if_pos h1]
    · rw [if_neg h1]
      have e : t + 1 = 2 + 0 * P + 0 := by omega
      have a := sec_at (P := P) (q := 0) (r := 0) (by omega)
      rw [← e] at a
      rw [a.1, a.2]; omega
  · obtain ⟨q, r, hq, hr, he, e1, e2⟩ := sec_in (by omega) ht
    rw [if_neg h2, if_neg (show ¬ t + 1 < 2 by omega), e1, e2]
    by_cases hl : r + 1 < P
    · have e : t + 1 = 2 + q * P + (r + 1) := by omega
      have a := sec_at (q := q) hl
      rw [← e] at a
      rw [a.1, a.2]
      by_cases hrh : r ≤ h
      · rw [if_pos (show t < 2 ∨ r ≤ h from .inr hrh)]; omega
      · rw [if_neg (by omega)]; omega
    · have e : t + 1 = 2 + (q + 1) * P + 0 := by rw [Nat.add_mul]; omega
      have a := sec_at (P := P) (q := q + 1) (r := 0) (by omega)
      rw [← e] at a
      rw [a.1, a.2, Nat.add_mul, if_neg (by omega)]; omega
theorem blocksTo_le {P h b t : Nat} (hb : b ≤ P) : blocksTo P h b t ≤ t := by
  unfold blocksTo
  by_cases h2 : t < 2
  · rw [if_pos h2]; omega
  · have := Nat.div_add_mod (t - 2) P
    have h3 : secQ P t * b ≤ P * secQ P t := by rw [Nat.mul_comm P]; exact Nat.mul_le_mul_left _ hb
    rw [if_neg h2]
    unfold secQ secR at *
    omega
theorem block_in {P h b g t : Nat} (hP : P = 1 + h + b) (h2 : ¬ t < 2) (hr : ¬ secR P t ≤ h) (ht : t < 2 + g * P) : ∃ u j, u < g ∧ j < b ∧ t = 3 + h + u * P + j := by
  obtain ⟨q, r, hq, hr2, he, e1, e2⟩ := sec_in (by omega) ht
  exact ⟨q, r - (1 + h), hq, by omega, by omega⟩
theorem block_out {P h b g t : Nat} (hP : P = 1 + h + b) (hr : t < 2 ∨ secR P t ≤ h) (ht : t < 2 + g * P) : ∀ k : Nat, k < g → (t : Int) < ((3 + h + k * P : Nat) : Int) ∨ ((3 + h + k * P + b : Nat) : Int) ≤ (t : Int) := by
  intro k hk
  by_cases h2 : t < 2
  · left; omega
  · obtain ⟨q, r, hq, hr2, he, e1, e2⟩ := sec_in (by omega) ht
    have hrh : r ≤ h := by omega
    by_cases hlt : q ≤ k
    · have := Nat.mul_le_mul_right P hlt
      left; omega
    · have := Nat.mul_le_mul_right P (show k + 1 ≤ q by omega)
      rw [Nat.add_mul] at this
      right; omega
theorem blocksTo_end {P h b g : Nat} (hP : 0 < P) : blocksTo P h b (2 + g * P) = g * b := by
  have a := sec_at (q := g) hP
  rw [Nat.add_zero] at a
  unfold blocksTo
  rw [if_neg (by omega), a.1, a.2]; omega
end Go.Proofs.Ytlhcfjkheifnpaa
