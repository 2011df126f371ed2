/-
  Descriptors opened one behind the other; one that is closed, and opened anew.
-/
import Derived.Test.YtgflccdplffjmaaMf
namespace Go.Proofs.Ytgflccdplffjmaa
open Go.RowKit BigFrame

/-- the first k are opened: nodes from b on -/
def fillL (b : Nat) : Nat → List Plc
  | 0 => z16
  | k + 1 => openL (fillL b k) k ((b + k : Nat) : Int) ((k : Nat) : Int)
/-- the j-th of them -/
def fillP (b j : Nat) : Plc := ⟨true, ((b + j : Nat) : Int), 0, ((j : Nat) : Int)⟩
theorem fillL_length (b : Nat) : ∀ k, (fillL b k).length = 16
  | 0 => rfl
  | k + 1 => by
    show ((fillL b k).set k _).length = 16
    rw [List.length_set, fillL_length b k]
theorem fillL_at (b : Nat) : ∀ k j, k ≤ 16 → pl (fillL b k) j = if j < k then fillP b j else p0
  | 0, j, _ => by rw [if_neg (by omega)]; exact pl_rep 16 j
  | k + 1, j, h => by
    show pl ((fillL b k).set k _) j = _
    rw [pl_set (by rw [fillL_length]; omega), fillL_at b k j (by omega)]
    by_cases e : j = k
    · subst e; rw [if_pos rfl, if_pos (by omega)]; rfl
    · rw [if_neg e]
      by_cases e2 : j < k
      · rw [if_pos e2, if_pos (by omega)]
      · rw [if_neg e2, if_neg (by omega)]
theorem fillL_least (b : Nat) {k : Nat} (h : k ≤ 16) : LeastP (fillL b k) k :=
  ⟨h, fun j hj => by rw [fillL_at b k j h, if_pos hj]; rfl, fun _ => by rw [fillL_at b k k h, if_neg (by omega)]; rfl⟩
theorem least_set {L : List Plc} (hl : L.length = 16) {q m : Nat} (hm : LeastP L m) (hq : q < m) : LeastP (L.set q p0) q := by
  have hm16 := hm.le
  exact ⟨by omega, fun j hj => by rw [pl_set (by omega), if_neg (by omega)]; exact hm.on j (by omega), fun _ => by rw [pl_set (by omega), if_pos rfl]; rfl⟩
theorem open_at {L : List Plc} (hl : L.length = 16) {q : Nat} (hq : q < 16) (n f : Int) (j : Nat) : pl (openL (L.set q p0) q n f) j = if j = q then ⟨true, n, 0, f⟩ else pl L j := by
  unfold openL
  rw [pl_set (by rw [List.length_set]; omega)]
  by_cases e : j = q
  · rw [if_pos e, if_pos e]
  · rw [if_neg e, if_neg e, pl_set (by omega), if_neg e]
end Go.Proofs.Ytgflccdplffjmaa
