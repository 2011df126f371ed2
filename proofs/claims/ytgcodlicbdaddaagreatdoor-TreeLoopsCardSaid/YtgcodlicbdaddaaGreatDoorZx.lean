/-
  Links in a row, and in a ring: the runs, reckoned.
-/
import Derived.Test.YtgcodlicbdaddaaGreatDoorB45
set_option linter.unusedVariables false
set_option linter.unusedSimpArgs false
namespace Go.Proofs.YtgcodlicbdaddaaGreatDoor
set_option maxRecDepth 100000

def pEnd : List Nat := [47, 101, 110, 100]
/-- where the i-th link of the row leads -/
def toL : Nat → List Nat
  | 0 => pEnd
  | i + 1 => [47, 97 + i]
def opEnd : Opt := ⟨9, 0, 0, 0, 0, pEnd, [], []⟩
def opSym (i : Nat) : Opt := ⟨13, 0, 0, 0, 0, toL i, [47, 97 + i], []⟩
def opStat (p : List Nat) : Opt := ⟨16, 0, 0, 0, 0, p, [], []⟩
def opLstat (p : List Nat) : Opt := ⟨17, 0, 0, 0, 0, p, [], []⟩
def opRing (ring i : Nat) : Opt := ⟨13, 0, 0, 0, 0, [114, 97 + (i + 1) % ring], [47, 114, 97 + i], []⟩
def pRa : List Nat := [47, 114, 97]
def stL : Nat → Tr
  | 0 => (tr0.do opEnd).2
  | i + 1 => ((stL i).do (opSym i)).2
def stR (many ring : Nat) : Nat → Tr
  | 0 => ((stL many).do (opStat (toL many))).2
  | i + 1 => ((stR many ring i).do (opRing ring i)).2
theorem end_ok : (tr0.do opEnd).1.code = 0 := by decide +kernel
theorem sym_ok : ∀ i, i < 12 → ((stL i).do (opSym i)).1.code = 0 := by decide +kernel
theorem stat_ok : ∀ m, m < 13 → ((stL m).do (opStat (toL m))).1.code = if m ≤ 8 then 0 else 12 := by decide +kernel
theorem ring_all : ∀ m, m < 13 → ∀ r, r < 4 → (∀ i, i < r + 1 → ((stR m (r + 1) i).do (opRing (r + 1) i)).1.code = 0) ∧ ((stR m (r + 1) (r + 1)).do (opStat pRa)).1.code = 12 ∧ (((stR m (r + 1) (r + 1)).do (opStat pRa)).2.do (opLstat pRa)).1.kind = 3 := by decide +kernel
theorem run_of {s s' : Tr} {o : Opt} {c : Int} (h : (s.do o).1.code = c) (h2 : (s.do o).2 = s') : ∃ n k l d m, s.do o = (⟨c, n, k, l, d, m⟩, s') := by
  rcases q : s.do o with ⟨⟨c1, n, k, l, d, m⟩, s1⟩
  rw [q] at h h2
  dsimp only at h h2
  subst h h2
  exact ⟨n, k, l, d, m, rfl⟩
theorem end_run : ∃ n k l d m, tr0.do opEnd = (⟨0, n, k, l, d, m⟩, stL 0) := run_of end_ok rfl
theorem sym_run {i : Nat} (h : i < 12) : ∃ n k l d m, (stL i).do (opSym i) = (⟨0, n, k, l, d, m⟩, stL (i + 1)) := run_of (sym_ok i h) rfl
theorem stat_run {m r : Nat} (h : m < 13) : ∃ n k l d q, (stL m).do (opStat (toL m)) = (⟨if m ≤ 8 then 0 else 12, n, k, l, d, q⟩, stR m r 0) := run_of (stat_ok m h) rfl
theorem ring_run {m r i : Nat} (h : m < 13) (hr : r < 4) (hi : i < r + 1) : ∃ n k l d q, (stR m (r + 1) i).do (opRing (r + 1) i) = (⟨0, n, k, l, d, q⟩, stR m (r + 1) (i + 1)) := run_of ((ring_all m h r hr).1 i hi) rfl
theorem ra_run {m r : Nat} (h : m < 13) (hr : r < 4) : ∃ s n k l d q c2 n2 l2 d2 q2 s2, (stR m (r + 1) (r + 1)).do (opStat pRa) = (⟨12, n, k, l, d, q⟩, s) ∧ s.do (opLstat pRa) = (⟨c2, n2, 3, l2, d2, q2⟩, s2) := by
  obtain ⟨_, h1, h2⟩ := ring_all m h r hr
  rcases q : (stR m (r + 1) (r + 1)).do (opStat pRa) with ⟨⟨c1, n, k, l, d, q1⟩, s1⟩
  rw [q] at h1 h2
  rcases q2 : s1.do (opLstat pRa) with ⟨⟨c2, n2, k2, l2, d2, m2⟩, s2⟩
  dsimp only at h1 h2
  rw [q2] at h2
  dsimp only at h2
  subst h1 h2
  exact ⟨s1, n, k, l, d, q1, c2, n2, l2, d2, m2, s2, rfl, q2⟩
attribute [irreducible] stL stR
end Go.Proofs.YtgcodlicbdaddaaGreatDoor
