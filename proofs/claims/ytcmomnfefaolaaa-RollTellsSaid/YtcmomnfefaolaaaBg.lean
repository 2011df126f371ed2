/-
  Rows of the call's own, and answers, kept side by side from call to call.
-/
import Derived.Test.YtcmomnfefaolaaaOb
namespace Go.Proofs.Ytcmomnfefaolaaa
open Go.RowKit

/-- since w0 nothing that was there has turned; and these rows stand -/
def Bag (w0 w : World) : List (Nat × List Nat) → Prop
  | [] => Below w0.heap.size w0 w
  | p :: R => (w0.heap.size ≤ p.1 ∧ Row w p.1 p.2) ∧ Bag w0 w R
theorem Bag.below {w0 w : World} : ∀ {R : List (Nat × List Nat)}, Bag w0 w R → Below w0.heap.size w0 w
  | [], h => h
  | _ :: _, h => Bag.below h.2
theorem Bag.on {w0 w w' : World} (hb : Below w.heap.size w w') : ∀ {R : List (Nat × List Nat)}, Bag w0 w R → Bag w0 w' R
  | [], h => Below.trans h (hb.mono h.size)
  | _ :: _, h => ⟨⟨h.1.1, h.1.2.on hb h.1.2.lt⟩, Bag.on hb h.2⟩
theorem Bag.add {w0 w w' : World} {g : Nat} {l : List Nat} {R : List (Nat × List Nat)} (h : Bag w0 w R) (hb : Below w.heap.size w w') (hg : w.heap.size ≤ g) (hr : Row w' g l) : Bag w0 w' ((g, l) :: R) :=
  ⟨⟨Nat.le_trans h.below.size hg, hr⟩, Bag.on hb h⟩
theorem Bag.start (w : World) : Bag w w [] := Below.refl _ _
theorem Bag.r0 {w0 w : World} {g : Nat} {l : List Nat} {R : List (Nat × List Nat)} (h : Bag w0 w ((g, l) :: R)) : Row w g l := h.1.2
theorem Bag.r1 {w0 w : World} {g : Nat} {l : List Nat} {p : Nat × List Nat} {R : List (Nat × List Nat)} (h : Bag w0 w (p :: (g, l) :: R)) : Row w g l := h.2.1.2
theorem Bag.r2 {w0 w : World} {g : Nat} {l : List Nat} {p q : Nat × List Nat} {R : List (Nat × List Nat)} (h : Bag w0 w (p :: q :: (g, l) :: R)) : Row w g l := h.2.2.1.2
theorem Bag.r3 {w0 w : World} {g : Nat} {l : List Nat} {p q r : Nat × List Nat} {R : List (Nat × List Nat)} (h : Bag w0 w (p :: q :: r :: (g, l) :: R)) : Row w g l := h.2.2.2.1.2
theorem Bag.r4 {w0 w : World} {g : Nat} {l : List Nat} {p q r s : Nat × List Nat} {R : List (Nat × List Nat)} (h : Bag w0 w (p :: q :: r :: s :: (g, l) :: R)) : Row w g l := h.2.2.2.2.1.2
theorem Bag.arg {w0 w : World} {a : Option Addr} {l : List Nat} {R : List (Nat × List Nat)} (h : Bag w0 w R) (hx : BAt w0 a l) : BAt w a l := hx.on h.below (Nat.le_refl _)
theorem Bag.low {w0 w w' : World} {R : List (Nat × List Nat)} (h : Bag w0 w R) (hb : Below w.heap.size w w') : Below w0.heap.size w0 w' := h.below.trans (hb.mono h.below.size)
theorem Bag.grown2 {w0 w w' : World} {g1 g2 M : Nat} {L1 L2 : List Nat} {r : Option Nat} (h : Bag w0 w [(g2, L2), (g1, L1)]) (hg : w.grownBy w' r) (h1 : g1 < M) (h2 : g2 < M) (hM : w0.heap.size ≤ M) (hr : ∀ k, r = some k → M ≤ k) : Bag w0 w' [(g2, L2), (g1, L1)] :=
  ⟨⟨h.1.1, h.1.2.grown hg (fun e => by have := hr g2 e.symm; omega)⟩, ⟨h.2.1.1, h.2.1.2.grown hg (fun e => by have := hr g1 e.symm; omega)⟩,
    h.below.trans (grownBy_below hg h.below.size (fun k hk => Nat.le_trans hM (hr k hk)))⟩
/-- v is a slice with these bytes -/
def BV (w : World) (v : Value) (X : List Nat) : Prop := ∃ a n cap, v = .slice a n cap ∧ X.length = n ∧ BAt w a X
/-- v is an answer: nothing, or a row of the call's own -/
def Ans (w0 w : World) (v : Value) (X : List Nat) : Prop := (v = .slice none 0 0 ∧ X = []) ∨ ∃ g n, v = .slice (some ⟨g, 0, none⟩) n n ∧ X.length = n ∧ w0.heap.size ≤ g ∧ Row w g X
theorem Ans.bv {w0 w : World} {v : Value} {X : List Nat} (h : Ans w0 w v X) : BV w v X := by
  rcases h with ⟨rfl, rfl⟩ | ⟨g, n, rfl, hn, _, hr⟩
  · exact ⟨none, 0, 0, rfl, rfl, .inl rfl⟩
  · exact ⟨_, n, n, rfl, hn, hr.bat⟩
theorem BV.on {w w' : World} {v : Value} {X : List Nat} (h : BV w v X) (hb : Below w.heap.size w w') : BV w' v X := by
  obtain ⟨a, n, cap, rfl, hn, hx⟩ := h
  exact ⟨a, n, cap, rfl, hn, hx.on hb (Nat.le_refl _)⟩
theorem Ans.on {w0 w w' : World} {v : Value} {X : List Nat} (h : Ans w0 w v X) (hb : Below w.heap.size w w') : Ans w0 w' v X := by
  rcases h with h | ⟨g, n, rfl, hn, hg, hr⟩
  · exact .inl h
  · exact .inr ⟨g, n, rfl, hn, hg, hr.on hb hr.lt⟩

theorem over_u {w0 : World} (v : Value) (X : List Nat) (w : World) (hl : X.length ≤ 100000) (h : Ans w0 w v X) :
    Calls Try.prog 23 #[v] w (OverPost v.ownBlock w) := by
  rcases h with ⟨rfl, rfl⟩ | ⟨g, n, rfl, hn, _, hr⟩
  · exact over_nil w
  · exact over_row g n X w hn (by omega) hr
theorem Ans.block {w0 w : World} {v : Value} {X : List Nat} (h : Ans w0 w v X) : ∀ k, v.ownBlock = some k → w0.heap.size ≤ k ∧ k < w.heap.size := by
  intro k hk
  rcases h with ⟨rfl, rfl⟩ | ⟨g, n, rfl, hn, hg, hr⟩
  · cases hk
  · have : g = k := Option.some.inj hk
    subst this
    exact ⟨hg, hr.lt⟩
theorem Ans.grown {w0 w w' : World} {v : Value} {X : List Nat} {r : Option Nat} (h : Ans w0 w v X) (hg : w.grownBy w' r) (hr : ∀ k, v.ownBlock = some k → some k ≠ r) : Ans w0 w' v X := by
  rcases h with h | ⟨g, n, rfl, hn, hgg, hrow⟩
  · exact .inl h
  · exact .inr ⟨g, n, rfl, hn, hgg, hrow.grown hg (hr g rfl)⟩

theorem ans_apart {w0 w1 w : World} {v1 v3 : Value} {X U : List Nat} (h1 : Ans w0 w1 v1 X) (h3 : Ans w1 w v3 U) : ∀ k, v3.ownBlock = some k → some k ≠ v1.ownBlock := fun k hk e => by
  have := (h3.block k hk).1
  have := (h1.block k e.symm).2
  omega
end Go.Proofs.Ytcmomnfefaolaaa
