/-
  The stable sort of the library, piece by piece: two stretches exchanged.
-/
import Derived.Test.YtdnemlanahlnpaaDoorBest
import Derived.RegionTactic
import Derived.BigRegion
import Derived.ChangeAlike
namespace Go.Proofs.YtdnemlanahlnpaaDoor
open Go.RowKit

/-- block g holds these numbers at its first n places -/
def At (g n : Nat) (D : Nat → Int) (w : World) : Prop := ∀ p, p < n → w.cell? ⟨g, p, none⟩ = some (.int .i64 (D p)) ∧ w.frozen? ⟨g, p, none⟩ = false
/-- nothing but block g has turned -/
structure Oth (g : Nat) (w w' : World) : Prop where
  os : w'.os = w.os
  tape : w'.tape = w.tape
  output : w'.output = w.output
  size : w'.heap.size = w.heap.size
  block : ∀ k, k ≠ g → w'.heap[k]? = w.heap[k]?

theorem Oth.refl (g : Nat) (w : World) : Oth g w w := ⟨rfl, rfl, rfl, rfl, fun _ _ => rfl⟩
theorem Oth.trans {g : Nat} {a b c : World} (h : Oth g a b) (k : Oth g b c) : Oth g a c :=
  ⟨k.os.trans h.os, k.tape.trans h.tape, k.output.trans h.output, k.size.trans h.size, fun i hi => (k.block i hi).trans (h.block i hi)⟩
theorem Oth.setCell {g p : Nat} {a w : World} (h : Oth g a w) (u : Value) : Oth g a (w.setCell ⟨g, p, none⟩ u) :=
  h.trans ⟨rfl, rfl, rfl, by simp [World.setCell], fun k hk => Below.heap_setCell _ _ _ _ hk⟩
theorem Oth.drewN {g n : Nat} {a w : World} (h : Oth g a w) : Oth g a (w.drewN n) := ⟨h.os, h.tape, h.output, h.size, h.block⟩
theorem Oth.drew {g : Nat} {a w : World} (h : Oth g a w) : Oth g a w.drew := ⟨h.os, h.tape, h.output, h.size, h.block⟩
theorem At.drewN {g n m : Nat} {D : Nat → Int} {w : World} (h : At g n D w) : At g n D (w.drewN m) := h
theorem At.drew {g n : Nat} {D : Nat → Int} {w : World} (h : At g n D w) : At g n D w.drew := h
theorem At.congr {g n : Nat} {D D' : Nat → Int} {w : World} (h : At g n D w) (he : ∀ p, p < n → D' p = D p) : At g n D' w := fun p hp => by rw [he p hp]; exact h p hp
/-- one place written -/
def upd (D : Nat → Int) (q : Nat) (v : Int) (p : Nat) : Int := if p = q then v else D p
theorem At.setCell {g n q : Nat} {D : Nat → Int} {w : World} (h : At g n D w) (hq : q < n) (v : Int) : At g n (upd D q v) (w.setCell ⟨g, q, none⟩ (.int .i64 v)) := by
  intro p hp
  unfold upd
  by_cases e : p = q
  · subst e
    rw [if_pos rfl]
    exact ⟨World.cell?_setCell_same _ _ _ (h p hp).1, by rw [World.frozen?_setCell]; exact (h p hp).2⟩
  · rw [if_neg e]
    exact ⟨by rw [World.cell?_setCell_other _ _ _ _ (by intro h; exact e (Addr.mk.inj h).2.1.symm)]; exact (h p hp).1, by rw [World.frozen?_setCell]; exact (h p hp).2⟩

/-- two places exchanged -/
theorem At.swap {g n p q : Nat} {D D' : Nat → Int} {w : World} (h : At g n D w) (hp : p < n) (hq : q < n) (x y : Int) (he : ∀ i, i < n → D' i = if i = q then x else if i = p then y else D i) :
    At g n D' ((w.setCell ⟨g, p, none⟩ (.int .i64 y)).setCell ⟨g, q, none⟩ (.int .i64 x)).drew :=
  (((h.setCell hp y).setCell hq x).congr fun i hi => by rw [he i hi]; rfl).drew

theorem At.swap0 {g n p q : Nat} {D D' : Nat → Int} {w : World} (h : At g n D w) (hp : p < n) (hq : q < n) (x y : Int) (he : ∀ i, i < n → D' i = if i = q then x else if i = p then y else D i) :
    At g n D' ((w.setCell ⟨g, p, none⟩ (.int .i64 y)).setCell ⟨g, q, none⟩ (.int .i64 x)) :=
  ((h.setCell hp y).setCell hq x).congr fun i hi => by rw [he i hi]; rfl

/-- two stretches of k exchanged -/
def swapR (D : Nat → Int) (a b k p : Nat) : Int := if a ≤ p ∧ p < a + k then D (p - a + b) else if b ≤ p ∧ p < b + k then D (p - b + a) else D p

def SwapRel (g n a b k : Nat) (D : Nat → Int) (w : World) (i : Value) (wr : World) : Prop :=
  ∃ j : Nat, j ≤ k ∧ i = .int .i64 j ∧ At g n (swapR D a b j) wr ∧ Oth g w wr
def SwapPost (g n a b k : Nat) (D : Nat → Int) (w : World) (e : Ending) (w' : World) : Prop :=
  e = .returned (.tuple #[]) ∧ At g n (swapR D a b k) w' ∧ Oth g w w'

set_option maxHeartbeats 1000000 in
theorem swapRange_any (g n cap a b k : Nat) (f : Value) (D : Nat → Int) (w : World) (hn : n ≤ 1000) (ha : a + k ≤ b) (hb : b + k ≤ n) (hD : At g n D w) :
    Calls Tryd.prog 53 #[.slice (some ⟨g, 0, none⟩) n cap, .int .i64 a, .int .i64 b, .int .i64 k, f] w (SwapPost g n a b k D w) := by
  have hD' := Lib.hid hD
  clear hD
  go_enter Tryd.func53, Tryd.ntmps53
  go_wp2_with fail
  go_loopw [10] (fun i wr => SwapRel g n a b k D w i wr) (fun i _ => k - (intOf i).toNat)
  case atStart => exact ⟨0, by omega, rfl, hD'.out.congr (fun p _ => by unfold swapR; rw [if_neg (by omega), if_neg (by omega)]), Oth.refl _ _⟩
  case round =>
    obtain ⟨j, hj, rfl, hA, hO⟩ := hrel
    by_cases hlt : j < k
    · have c1 := hA (a + j) (by omega)
      have c2 := hA (b + j) (by omega)
      obtain ⟨x, hx⟩ : ∃ x, swapR D a b j (a + j) = x := ⟨_, rfl⟩
      obtain ⟨y, hy⟩ : ∃ y, swapR D a b j (b + j) = y := ⟨_, rfl⟩
      rw [hx] at c1
      rw [hy] at c2
      obtain ⟨c1, f1⟩ := c1
      obtain ⟨c2, f2⟩ := c2
      have hx' := Lib.hid hx
      have hy' := Lib.hid hy
      have hA' := Lib.hid hA
      have hO' := Lib.hid hO
      have hne : ¬ a + j = b + j := by omega
      clear hx hy hA hO
      go_wp2_with fail
      go_region
      go_wp2_with fail
      refine ⟨⟨j + 1, by omega, by go_num, ?_, ((hO'.out.setCell _).setCell _).drew⟩, by simp [intOf]; omega⟩
      refine hA'.out.swap (by omega) (by omega) x y fun i hi => ?_
      have h1 := hx'.out
      have h2 := hy'.out
      unfold swapR at *
      rw [if_neg (by omega), if_neg (by omega)] at h1 h2
      by_cases e1 : i = b + j
      · subst e1
        rw [if_pos rfl, if_neg (by omega), if_pos (by omega), show b + j - b + a = a + j by omega]; exact h1
      · by_cases e2 : i = a + j
        · subst e2
          rw [if_neg e1, if_pos rfl, if_pos (by omega), show a + j - a + b = b + j by omega]; exact h2
        · rw [if_neg e1, if_neg e2]
          repeat' split
          all_goals first | rfl | omega
    · have e : j = k := by omega
      subst e
      go_wp2_with fail
      go_end0
      exact ⟨rfl, hA, hO⟩

/-- two stretches side by side, exchanged -/
def rotR (D : Nat → Int) (a m b p : Nat) : Int := if a ≤ p ∧ p < a + (b - m) then D (p - a + m) else if a + (b - m) ≤ p ∧ p < b then D (p - (a + (b - m)) + a) else D p
def RotRel (g n a m b : Nat) (D : Nat → Int) (w : World) (i j : Value) (wr : World) : Prop :=
  ∃ x y : Nat, ∃ C : Nat → Int, 0 < x ∧ 0 < y ∧ a + x ≤ m ∧ m + y ≤ b ∧ i = .int .i64 x ∧ j = .int .i64 y ∧ At g n C wr ∧ Oth g w wr ∧ ∀ p, rotR C (m - x) m (m + y) p = rotR D a m b p
def RotPost (g n a m b : Nat) (D : Nat → Int) (w : World) (e : Ending) (w' : World) : Prop :=
  e = .returned (.tuple #[]) ∧ At g n (rotR D a m b) w' ∧ Oth g w w'

theorem rot_left {C : Nat → Int} {m x y : Nat} (h1 : y < x) (h2 : x ≤ m) (p : Nat) : rotR (swapR C (m - x) m y) (m - (x - y)) m (m + y) p = rotR C (m - x) m (m + y) p := by
  unfold rotR swapR
  repeat' split
  all_goals first | omega | rfl | (congr 1; omega)
theorem rot_right {C : Nat → Int} {m x y : Nat} (h1 : x < y) (h2 : x ≤ m) (p : Nat) : rotR (swapR C (m - x) (m + y - x) x) (m - x) m (m + (y - x)) p = rotR C (m - x) m (m + y) p := by
  unfold rotR swapR
  repeat' split
  all_goals first | omega | rfl | (congr 1; omega)
theorem rot_same {C : Nat → Int} {m x : Nat} (h2 : x ≤ m) (p : Nat) : swapR C (m - x) m x p = rotR C (m - x) m (m + x) p := by
  unfold rotR swapR
  repeat' split
  all_goals first | omega | rfl | (congr 1; omega)

set_option maxHeartbeats 1000000 in
theorem rotate_any (g n cap a m b : Nat) (f : Value) (D : Nat → Int) (w : World) (hn : n ≤ 1000) (ha : a < m) (hb : m < b) (hbn : b ≤ n) (hD : At g n D w) :
    Calls Tryd.prog 47 #[.slice (some ⟨g, 0, none⟩) n cap, .int .i64 a, .int .i64 m, .int .i64 b, f] w (RotPost g n a m b D w) := by
  have hD' := Lib.hid hD
  clear hD
  go_enter Tryd.func47, Tryd.ntmps47
  go_wp2_with fail
  go_loopw [10, 11] (fun i j wr => RotRel g n a m b D w i j wr) (fun i j _ => (intOf i).toNat + (intOf j).toNat)
  case atStart => exact ⟨m - a, b - m, D, by omega, by omega, by omega, by omega, by congr 1; omega, by congr 1; omega, hD'.out, Oth.refl _ _, fun p => by rw [show m - (m - a) = a by omega, show m + (b - m) = b by omega]⟩
  case round =>
    obtain ⟨x, y, C, x0, y0, hx, hy, rfl, rfl, hA, hO, hR⟩ := hrel
    have hA' := Lib.hid hA
    have hO' := Lib.hid hO
    have hR' := Lib.hid hR
    clear hA hO hR
    by_cases hxy : x = y
    · subst hxy
      go_wp2_with fail
      rw [show ((m : Int) - (x : Int)) = ((m - x : Nat) : Int) from by omega]
      refine (swapRange_any g n cap (m - x) m x f C wr hn (by omega) (by omega) hA'.out).mono ?_
      rintro e w1 ⟨rfl, hA1, hO1⟩
      go_wp2_with fail
      go_end0
      exact ⟨rfl, hA1.congr fun p _ => by rw [rot_same (by omega) p, hR'.out], hO'.out.trans hO1⟩
    · have hne : ((x : Int) != y) = true := by rw [bne_iff_ne]; omega
      by_cases hgt : y < x
      · go_wp2_with fail
        rw [show ((m : Int) - (x : Int)) = ((m - x : Nat) : Int) from by omega]
        refine (swapRange_any g n cap (m - x) m y f C wr hn (by omega) (by omega) hA'.out).mono ?_
        rintro e w1 ⟨rfl, hA1, hO1⟩
        have hA1' := Lib.hid hA1
        have hO1' := Lib.hid hO1
        clear hA1 hO1
        go_wp2_with fail
        exact ⟨⟨x - y, y, swapR C (m - x) m y, by omega, by omega, by omega, by omega, by congr 1; omega, rfl, hA1'.out, hO'.out.trans hO1'.out, fun p => by rw [rot_left hgt (by omega), hR'.out]⟩, by simp [intOf]; omega⟩
      · go_wp2_with fail
        rw [show ((m : Int) - (x : Int)) = ((m - x : Nat) : Int) from by omega, show ((m : Int) + (y : Int) - (x : Int)) = ((m + y - x : Nat) : Int) from by omega]
        refine (swapRange_any g n cap (m - x) (m + y - x) x f C wr hn (by omega) (by omega) hA'.out).mono ?_
        rintro e w1 ⟨rfl, hA1, hO1⟩
        have hA1' := Lib.hid hA1
        have hO1' := Lib.hid hO1
        clear hA1 hO1
        go_wp2_with fail
        exact ⟨⟨x, y - x, swapR C (m - x) (m + y - x) x, by omega, by omega, by omega, by omega, rfl, by congr 1; omega, hA1'.out, hO'.out.trans hO1'.out, fun p => by rw [rot_right (by omega) (by omega), hR'.out]⟩, by simp [intOf]; omega⟩
end Go.Proofs.YtdnemlanahlnpaaDoor
