/-
  Bytes in a slice of the call's own: cell by cell, written, handed on.
-/
import Derived.Test.YtcmomnfefaolaaaAp
namespace Go.Proofs.Ytcmomnfefaolaaa
open Go.RowKit

theorem OwnB.cell {w : World} {base g n cap k : Nat} {l : List Nat} (h : OwnB w base (.slice (some ⟨g, 0, none⟩) n cap) l) (hk : k < l.length) : w.cell? ⟨g, k, none⟩ = some (.int .u8 ((bz l k : Nat) : Int)) :=
  World.ownsRow.cells h (g := g) rfl k _ (bv_get hk) |> fun h => by rwa [addr_add, Nat.zero_add] at h
theorem OwnB.frozen {w : World} {base g n cap : Nat} {l : List Nat} (h : OwnB w base (.slice (some ⟨g, 0, none⟩) n cap) l) (k : Nat) : w.frozen? ⟨g, k, none⟩ = false := by
  rcases h.2 with ⟨e, _⟩ | ⟨g', cap', cur, e, _, hg, _⟩
  · cases e
  · simp only [Value.slice.injEq, Option.some.injEq, Addr.mk.injEq, and_true] at e
    obtain ⟨rfl, _, rfl⟩ := e
    simp [World.frozen?, hg]
theorem OwnB.base {w : World} {base g n cap : Nat} {l : List Nat} (h : OwnB w base (.slice (some ⟨g, 0, none⟩) n cap) l) : base ≤ g ∧ g < w.heap.size := by
  rcases h.2 with ⟨e, _⟩ | ⟨g', cap', cur, e, hb, hg, _⟩
  · cases e
  · simp only [Value.slice.injEq, Option.some.injEq, Addr.mk.injEq, and_true] at e
    obtain ⟨rfl, _, rfl⟩ := e
    exact ⟨hb, (Array.getElem?_eq_some_iff.1 hg).1⟩
theorem OwnB.lower {w : World} {base base' : Nat} {v : Value} {l : List Nat} (h : OwnB w base v l) (hb : base' ≤ base) : OwnB w base' v l := by
  obtain ⟨h1, h2⟩ := h
  refine ⟨h1, ?_⟩
  rcases h2 with h2 | ⟨g, cap, cur, e, hg, rest⟩
  · exact .inl h2
  · exact .inr ⟨g, cap, cur, e, Nat.le_trans hb hg, rest⟩
theorem OwnB.drew {w : World} {base m : Nat} {v : Value} {l : List Nat} (h : OwnB w base v l) : OwnB (w.drewN m) base v l := h
theorem OwnB.bat {w : World} {base g n cap : Nat} {l : List Nat} (h : OwnB w base (.slice (some ⟨g, 0, none⟩) n cap) l) : BAt w (some ⟨g, 0, none⟩) l := .inr ⟨g, 0, rfl, fun k hk => by rw [Nat.zero_add]; exact h.cell hk⟩
theorem OwnB.set {w : World} {base g n cap : Nat} {l : List Nat} (h : OwnB w base (.slice (some ⟨g, 0, none⟩) n cap) l) (k x : Nat) : OwnB (w.setCell ⟨g, k, none⟩ (.int .u8 ((x : Nat) : Int))) base (.slice (some ⟨g, 0, none⟩) n cap) (l.set k x) := by
  rcases h.2 with ⟨e, _⟩ | ⟨g', cap', cur, e, hb, hg, hnc, hcm, hcs, ht⟩
  · cases e
  · simp only [Value.slice.injEq, Option.some.injEq, Addr.mk.injEq, and_true] at e
    obtain ⟨rfl, rfl, rfl⟩ := e
    have e := setCell_eq_setRow w g k _ _ _ (.int .u8 ((x : Nat) : Int)) hg
    refine ⟨by rw [bv_length, Nat.mul_one], .inr ⟨g, cap, cur.setIfInBounds k (.int .u8 ((x : Nat) : Int)), by rw [List.length_set], hb, ?_, by rw [List.length_set]; exact hnc, hcm, by simpa using hcs, ?_⟩⟩
    · rw [e]
      exact setRow_heap w g _ _ _ _ hg
    · rw [← bv_set, ← ht, List.length_set]
      simp [List.take_set]
theorem OwnB.at {w : World} {base n : Nat} {v : Value} {l : List Nat} (h : OwnB w base v l) (hn : l.length = n) (h0 : 0 < n) :
    ∃ g cap, v = .slice (some ⟨g, 0, none⟩) n cap ∧ n ≤ cap ∧ base ≤ g ∧ g < w.heap.size := by
  subst hn
  obtain ⟨g, cap, e, h1, h2, h3, _⟩ := h.form h0
  exact ⟨g, cap, e, h1, h2, h3⟩
theorem below_set {w : World} {g k B : Nat} {v : Value} (h : B ≤ g) : Below B w (w.setCell ⟨g, k, none⟩ v) := (Below.refl _ _).setCell (p := ⟨g, k, none⟩) h v

def GivesB (l : List Nat) (w : World) (e : Ending) (w' : World) : Prop := ∃ v, e = .returned v ∧ OwnB w' w.heap.size v l ∧ Below w.heap.size w w'
end Go.Proofs.Ytcmomnfefaolaaa
