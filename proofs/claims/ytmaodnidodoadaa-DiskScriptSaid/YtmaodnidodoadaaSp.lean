/-
  Two lists of bytes' lists are the same.
-/
import Derived.Test.YtmaodnidodoadaaBv
import Derived.Test.YtmaodnidodoadaaRd
import Derived.Deep.LoopGhost
import Derived.Deep.RegionWith
namespace Go.Proofs.Ytmaodnidodoadaa
open Go.RowKit BigFrame

/-- slices of bytes that lie there -/
def Parts (w : World) (a : Option Addr) (n : Nat) (X : Nat → List Nat) : Prop :=
  n = 0 ∨ ∃ b off, a = some ⟨b, off, none⟩ ∧ ∀ i, i < n → ∃ v, w.cell? ⟨b, off + i, none⟩ = some v ∧ BV w v (X i) ∧ (X i).length ≤ 100000
theorem Parts.drew {w : World} {a : Option Addr} {n m : Nat} {X : Nat → List Nat} (h : Parts w a n X) : Parts (w.drewN m) a n X := h
theorem Sheet.parts {w : World} {B g n : Nat} {V : Nat → Value} {X : Nat → List Nat} {bk : Nat → Nat} (h : Sheet w B g n V X bk) (hl : ∀ i, i < n → (X i).length ≤ 100000) : Parts w (some ⟨g, 0, none⟩) n X :=
  .inr ⟨g, 0, rfl, fun i hi => ⟨V i, by rw [Nat.zero_add]; exact h.row.cell hi, by
    obtain ⟨a, cap, e, hb, _, _⟩ := (h.own i hi).1.slice
    exact ⟨a, _, cap, e, rfl, hb⟩, hl i hi⟩⟩
def SpRel (n : Nat) (w : World) (g : Nat) (i : Value) (wr : World) : Prop := ∃ k q : Nat, k + g = n ∧ i = .int .i64 k ∧ wr = w.drewN q

set_option maxHeartbeats 1000000 in
theorem parts_same (a b : Option Addr) (c1 c2 n : Nat) (X Y : Nat → List Nat) (w : World) (hn : n ≤ 100000) (hx : Parts w a n X) (hy : Parts w b n Y) (he : ∀ i, i < n → X i = Y i) :
    Calls Try.prog 11 #[.slice a n c1, .slice b n c2] w (Told (.bool true) w) := by
  have hx' := Lib.hid hx
  have hy' := Lib.hid hy
  have he' := Lib.hid he
  clear hx hy he
  go_enter Try.func11, Try.ntmps11
  go_wp2_with fail
  go_loopg [5] n (fun g i wr => SpRel n w g i wr)
  case atStart => exact ⟨0, 0, by omega, rfl, rfl⟩
  case round =>
    obtain ⟨k, q, hk, rfl, rfl⟩ := hrel
    by_cases hlt : k < n
    · obtain ⟨g, rfl⟩ : ∃ g, gk = g + 1 := ⟨gk - 1, by omega⟩
      obtain ⟨b1, o1, rfl, v1, q1, hv1, hl1⟩ : ∃ b1 o1, a = some ⟨b1, o1, none⟩ ∧ ∃ v1, w.cell? ⟨b1, o1 + k, none⟩ = some v1 ∧ BV w v1 (X k) ∧ (X k).length ≤ 100000 := by
        rcases hx'.out with h | ⟨b1, o1, e, h⟩
        · omega
        · exact ⟨b1, o1, e, h k hlt⟩
      obtain ⟨b2, o2, rfl, v2, q2, hv2, hl2⟩ : ∃ b2 o2, b = some ⟨b2, o2, none⟩ ∧ ∃ v2, w.cell? ⟨b2, o2 + k, none⟩ = some v2 ∧ BV w v2 (Y k) ∧ (Y k).length ≤ 100000 := by
        rcases hy'.out with h | ⟨b2, o2, e, h⟩
        · omega
        · exact ⟨b2, o2, e, h k hlt⟩
      obtain ⟨a1, n1, cc1, rfl, hn1, ha1⟩ := hv1
      obtain ⟨a2, n2, cc2, rfl, hn2, ha2⟩ := hv2
      obtain ⟨wq, hwq⟩ : ∃ wq, w.drewN q = wq := ⟨_, rfl⟩
      have hS := Lib.hid (fun p => show Calls Try.prog 24 #[.slice a1 n1 cc1, .slice a2 n2 cc2] (wq.drewN p) (Told (.bool true) (wq.drewN p)) by
        rw [← hwq]
        have := same_any a1 a2 cc1 cc2 n1 n2 (X k) (Y k) ((w.drewN q).drewN p) hn1 hn2 (by omega) ha1.drew.drew ha2.drew.drew
        rwa [show decide (X k = Y k) = true by rw [decide_eq_true_eq]; exact he'.out k hlt] at this)
      have q1' : wq.cell? ⟨b1, o1 + k, none⟩ = some (.slice a1 n1 cc1) := by rw [← hwq]; exact q1
      have q2' : wq.cell? ⟨b2, o2 + k, none⟩ = some (.slice a2 n2 cc2) := by rw [← hwq]; exact q2
      rw [hwq]
      have hwq' := Lib.hid hwq
      clear hn1 hn2 ha1 ha2 hl1 hl2 hwq q1 q2
      go_wp2_with fail
      go_quiet ((go_at_call 24; refine Calls.quiet_of (hS.out _)))
      go_wp2_with fail
      go_roundg g
      case measure => omega
      case rel => exact ⟨k + 1, _, by omega, by go_num, by rw [← hwq'.out]; exact World.drewN_drewN _ _ _⟩
    · obtain rfl : k = n := by omega
      go_wp2_with fail
      go_ret
      exact ⟨rfl, _, rfl⟩
end Go.Proofs.Ytmaodnidodoadaa
