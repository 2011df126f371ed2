/-
  Directories one in the other: the runs, reckoned.
-/
import Derived.Test.YtgcodlicbdaddaaGreatDoorB45
set_option linter.unusedVariables false
set_option linter.unusedSimpArgs false
namespace Go.Proofs.YtgcodlicbdaddaaGreatDoor
set_option maxRecDepth 100000

/-- a name of L letters, behind its slash -/
def sL (L : Nat) : List Nat := 47 :: List.replicate L 120
/-- the path of the i-th directory -/
def pL (L : Nat) : Nat → List Nat
  | 0 => []
  | i + 1 => pL L i ++ sL L
def opMk (p : List Nat) : Opt := ⟨9, 0, 0, 0, 0, p, [], []⟩
def opSl (p : List Nat) : Opt := ⟨13, 0, 0, 0, 0, p, [47, 108], []⟩
def stM (L : Nat) : Nat → Tr
  | 0 => tr0
  | i + 1 => ((stM L i).do (opMk (pL L (i + 1)))).2
/-- how deep they go -/
def deepL (L : Nat) : Nat := min 20 (200 / (L + 1))
def stE (L : Nat) : Tr := ((stM L (deepL L)).do (opMk (pL L (deepL L + 1)))).2
theorem mk_all : ∀ n, n < 24 → ∀ i, i < deepL (n + 1) → ((stM (n + 1) i).do (opMk (pL (n + 1) (i + 1)))).1.code = 0 := by decide +kernel
theorem end_all : ∀ n, n < 24 → ((stM (n + 1) (deepL (n + 1))).do (opMk (pL (n + 1) (deepL (n + 1) + 1)))).1.code = 11 ∧ deepL (n + 1) ≤ (stE (n + 1)).nodes.length := by decide +kernel
theorem link_all : ∀ n, n < 24 → deepL (n + 1) * (n + 2) ≤ 100 → ((stE (n + 1)).do (opSl (pL (n + 1) (deepL (n + 1))))).1.code = 0 ∧ (((stE (n + 1)).do (opSl (pL (n + 1) (deepL (n + 1))))).2.do (opMk ([47, 108] ++ sL (n + 1)))).1.code = 11 := by decide +kernel
theorem run_of' {s s' : Tr} {o : Opt} {c : Int} (h : (s.do o).1.code = c) (h2 : (s.do o).2 = s') : ∃ n k l d m, s.do o = (⟨c, n, k, l, d, m⟩, s') := by
  rcases q : s.do o with ⟨⟨c1, n, k, l, d, m⟩, s1⟩
  rw [q] at h h2
  dsimp only at h h2
  subst h h2
  exact ⟨n, k, l, d, m, rfl⟩
theorem mk_run {n i : Nat} (h : n < 24) (hi : i < deepL (n + 1)) : ∃ a k l d m, (stM (n + 1) i).do (opMk (pL (n + 1) (i + 1))) = (⟨0, a, k, l, d, m⟩, stM (n + 1) (i + 1)) := run_of' (mk_all n h i hi) rfl
theorem last_run {n : Nat} (h : n < 24) : ∃ a k l d m, (stM (n + 1) (deepL (n + 1))).do (opMk (pL (n + 1) (deepL (n + 1) + 1))) = (⟨11, a, k, l, d, m⟩, stE (n + 1)) := run_of' (end_all n h).1 rfl
theorem nodes_many {n : Nat} (h : n < 24) : deepL (n + 1) ≤ (stE (n + 1)).nodes.length := (end_all n h).2
theorem link_run {n : Nat} (h : n < 24) (hp : deepL (n + 1) * (n + 2) ≤ 100) : ∃ a k l d m s a2 k2 l2 d2 m2 s2, (stE (n + 1)).do (opSl (pL (n + 1) (deepL (n + 1)))) = (⟨0, a, k, l, d, m⟩, s) ∧ s.do (opMk ([47, 108] ++ sL (n + 1))) = (⟨11, a2, k2, l2, d2, m2⟩, s2) := by
  obtain ⟨h1, h2⟩ := link_all n h hp
  obtain ⟨a, k, l, d, m, q⟩ := run_of' h1 rfl
  obtain ⟨a2, k2, l2, d2, m2, q2⟩ := run_of' h2 rfl
  exact ⟨a, k, l, d, m, _, a2, k2, l2, d2, m2, _, q, q2⟩
theorem deepL_is (n : Nat) (h : n < 24) : 1 ≤ deepL (n + 1) ∧ deepL (n + 1) ≤ 20 ∧ deepL (n + 1) * (n + 2) ≤ 200 ∧ (deepL (n + 1) = 20 ∨ 200 < (deepL (n + 1) + 1) * (n + 2)) := by
  have := (by decide +kernel : ∀ n, n < 24 → 1 ≤ deepL (n + 1) ∧ deepL (n + 1) ≤ 20 ∧ deepL (n + 1) * (n + 2) ≤ 200 ∧ (deepL (n + 1) = 20 ∨ 200 < (deepL (n + 1) + 1) * (n + 2)))
  exact this n h
theorem stM_zero (L : Nat) : stM L 0 = tr0 := rfl
attribute [irreducible] stM stE
theorem sL_len (L : Nat) : (sL L).length = L + 1 := by simp [sL]
theorem pL_len (L : Nat) : ∀ i, (pL L i).length = i * (L + 1)
  | 0 => by simp [pL]
  | i + 1 => by rw [pL, List.length_append, pL_len L i, sL_len, Nat.add_mul, Nat.one_mul]
theorem sL_octs (L : Nat) : Octs (sL L) := .cons (by decide) (Octs.rep L 120 (by decide))
theorem pL_octs (L : Nat) : ∀ i, Octs (pL L i)
  | 0 => .nil
  | i + 1 => (pL_octs L i).append (sL_octs L)
theorem sL_succ (L : Nat) : sL L ++ [120] = sL (L + 1) := by
  unfold sL
  rw [List.replicate_succ', List.cons_append]
end Go.Proofs.YtgcodlicbdaddaaGreatDoor
