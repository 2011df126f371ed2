/-
  The places of descriptors: as a list; the least that is free, what is held, which are open.
-/
import Derived.Test.YtgflccdplffjmaaRw
namespace Go.Proofs.Ytgflccdplffjmaa

/-- a place: is it open; its node, where it stands, its flags -/
structure Plc where
  on : Bool
  nd : Int
  off : Int
  fl : Int
theorem Plc.ext' {a b : Plc} (h1 : a.on = b.on) (h2 : a.nd = b.nd) (h3 : a.off = b.off) (h4 : a.fl = b.fl) : a = b := by
  cases a; cases b; simp only at h1 h2 h3 h4; rw [h1, h2, h3, h4]
/-- the zero one -/
def p0 : Plc := ⟨false, 0, 0, 0⟩
/-- the n-th of some places -/
def pl (L : List Plc) (k : Nat) : Plc := L.getD k p0
theorem pl_get {L : List Plc} {k : Nat} (h : k < L.length) : pl L k = L[k] := by simp [pl, List.getD, List.getElem?_eq_getElem h]
theorem pl_set {L : List Plc} {k j : Nat} {x : Plc} (h : k < L.length) : pl (L.set k x) j = if j = k then x else pl L j := by
  unfold pl
  simp only [List.getD, List.getElem?_set]
  by_cases e : k = j
  · subst e; simp [h]
  · rw [if_neg e, if_neg (Ne.symm e)]
theorem pl_rep (n k : Nat) : pl (List.replicate n p0) k = p0 := by
  unfold pl
  by_cases h : k < n <;> simp [List.getD, h]
theorem pl_cons_succ (s : Plc) (L : List Plc) (k : Nat) : pl (s :: L) (k + 1) = pl L k := by simp [pl]
/-- sixteen that are not open -/
def z16 : List Plc := List.replicate 16 p0

/-- the least that is free: k; 16, if none is -/
structure LeastP (L : List Plc) (k : Nat) : Prop where
  le : k ≤ 16
  on : ∀ j, j < k → (pl L j).on = true
  free : k < 16 → (pl L k).on = false
theorem least_upto (L : List Plc) : ∀ m, m ≤ 16 → (∀ j, j < m → (pl L j).on = true) ∨ ∃ k, k < m ∧ LeastP L k
  | 0, _ => .inl fun j h => by omega
  | m + 1, hm => by
    rcases least_upto L m (by omega) with h | ⟨k, hk, h⟩
    · cases e : (pl L m).on
      · exact .inr ⟨m, by omega, by omega, h, fun _ => e⟩
      · refine .inl fun j hj => ?_
        by_cases e2 : j = m
        · subst e2; exact e
        · exact h j (by omega)
    · exact .inr ⟨k, by omega, h⟩
theorem least_ex (L : List Plc) : ∃ k, LeastP L k := by
  rcases least_upto L 16 (Nat.le_refl _) with h | ⟨k, _, h⟩
  · exact ⟨16, Nat.le_refl _, h, fun h => by omega⟩
  · exact ⟨k, h⟩

/-- does one of the first m have the node? -/
def heldB (L : List Plc) (n : Int) (m : Nat) : Bool := (List.range m).any fun j => (pl L j).on && ((pl L j).nd == n)
theorem held_yes {L : List Plc} {n : Int} {m k : Nat} (hk : k < m) (h1 : (pl L k).on = true) (h2 : ((pl L k).nd == n) = true) : heldB L n m = true :=
  List.any_eq_true.2 ⟨k, List.mem_range.2 hk, by rw [h1, h2]; rfl⟩
theorem held_no {L : List Plc} {n : Int} {m : Nat} (h : ∀ j, j < m → ((pl L j).on && ((pl L j).nd == n)) = false) : heldB L n m = false := by
  unfold heldB
  rw [List.any_eq_false]
  intro j hj
  rw [h j (List.mem_range.1 hj)]
  decide

/-- those of the first m that are open -/
def openN (L : List Plc) (m : Nat) : List Nat := (List.range m).filter fun j => (pl L j).on
/-- how many -/
def openC (L : List Plc) (m : Nat) : Nat := (openN L m).length
/-- as integers -/
def zn (l : List Nat) (p : Nat) : Int := ((l.getD p 0 : Nat) : Int)
theorem openN_yes {L : List Plc} {k : Nat} (h : (pl L k).on = true) : openN L (k + 1) = openN L k ++ [k] := by
  unfold openN
  rw [List.range_succ, List.filter_append]
  simp [List.filter, h]
theorem openN_no {L : List Plc} {k : Nat} (h : (pl L k).on = false) : openN L (k + 1) = openN L k := by
  unfold openN
  rw [List.range_succ, List.filter_append]
  simp [List.filter, h]
theorem openC_le (L : List Plc) (k : Nat) : openC L k ≤ k := by
  unfold openC openN
  exact Nat.le_trans (List.length_filter_le _ _) (by simp)
theorem zn_left {l m : List Nat} {p : Nat} (h : p < l.length) : zn (l ++ m) p = zn l p := by simp [zn, List.getD, List.getElem?_append_left h]
theorem zn_one {l : List Nat} {x p : Nat} (h : p = l.length) : zn (l ++ [x]) p = (x : Int) := by subst h; simp [zn, List.getD]

/-- is fd one that is open? -/
def thereB (L : List Plc) (fd : Int) : Bool := decide (0 ≤ fd ∧ fd < 16) && (pl L fd.toNat).on
theorem there_out {L : List Plc} {fd : Int} (h : ¬ (0 ≤ fd ∧ fd < 16)) : thereB L fd = false := by unfold thereB; rw [decide_eq_false h]; rfl
theorem there_in {L : List Plc} {k : Nat} (h : k < 16) : thereB L (k : Int) = (pl L k).on := by
  unfold thereB
  rw [decide_eq_true (show 0 ≤ (k : Int) ∧ (k : Int) < 16 by omega), Bool.true_and, Int.toNat_natCast]
end Go.Proofs.Ytgflccdplffjmaa
