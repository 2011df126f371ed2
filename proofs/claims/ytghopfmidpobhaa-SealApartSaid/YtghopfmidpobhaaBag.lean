/-
  Rows of the call's own, kept side by side from call to call.
-/
import Derived.Test.YtghopfmidpobhaaOver
import Derived.Test.YtghopfmidpobhaaAwake
namespace Go.Proofs.Ytghopfmidpobhaa
open Go.RowKit

/-- since w0 nothing that was there has turned; and these rows stand -/
def Bag (w0 w : World) : List (Nat × List Nat) → Prop
  | [] => Below w0.heap.size w0 w
  | p :: R => (w0.heap.size ≤ p.1 ∧ Row w p.1 p.2) ∧ Bag w0 w R
theorem Bag.below {w0 w : World} : ∀ {R : List (Nat × List Nat)}, Bag w0 w R → Below w0.heap.size w0 w
  | [], h => h
  | _ :: _, h => Bag.below h.2
theorem Bag.on {w0 w w' : World} (hb : Below w.heap.size w w') : ∀ {R : List (Nat × List Nat)}, Bag w0 w R → Bag w0 w' R
  | [], h => Below.trans h (hb.mono h.size)
  | _ :: _, h => ⟨⟨h.1.1, h.1.2.on hb h.1.2.lt⟩, Bag.on hb h.2⟩
theorem Bag.add {w0 w w' : World} {g : Nat} {l : List Nat} {R : List (Nat × List Nat)} (h : Bag w0 w R) (hb : Below w.heap.size w w') (hg : w.heap.size ≤ g) (hr : Row w' g l) : Bag w0 w' ((g, l) :: R) :=
  ⟨⟨Nat.le_trans h.below.size hg, hr⟩, Bag.on hb h⟩
theorem Bag.start (w : World) : Bag w w [] := Below.refl _ _
theorem Bag.r0 {w0 w : World} {g : Nat} {l : List Nat} {R : List (Nat × List Nat)} (h : Bag w0 w ((g, l) :: R)) : Row w g l := h.1.2
theorem Bag.r1 {w0 w : World} {g : Nat} {l : List Nat} {p : Nat × List Nat} {R : List (Nat × List Nat)} (h : Bag w0 w (p :: (g, l) :: R)) : Row w g l := h.2.1.2
theorem Bag.r2 {w0 w : World} {g : Nat} {l : List Nat} {p q : Nat × List Nat} {R : List (Nat × List Nat)} (h : Bag w0 w (p :: q :: (g, l) :: R)) : Row w g l := h.2.2.1.2
theorem Bag.r3 {w0 w : World} {g : Nat} {l : List Nat} {p q r : Nat × List Nat} {R : List (Nat × List Nat)} (h : Bag w0 w (p :: q :: r :: (g, l) :: R)) : Row w g l := h.2.2.2.1.2
theorem Bag.r4 {w0 w : World} {g : Nat} {l : List Nat} {p q r s : Nat × List Nat} {R : List (Nat × List Nat)} (h : Bag w0 w (p :: q :: r :: s :: (g, l) :: R)) : Row w g l := h.2.2.2.2.1.2
theorem Bag.arg {w0 w : World} {a : Option Addr} {l : List Nat} {R : List (Nat × List Nat)} (h : Bag w0 w R) (hx : BAt w0 a l) : BAt w a l := hx.on h.below (Nat.le_refl _)
theorem Bag.low {w0 w w' : World} {R : List (Nat × List Nat)} (h : Bag w0 w R) (hb : Below w.heap.size w w') : Below w0.heap.size w0 w' := h.below.trans (hb.mono h.below.size)
theorem Bag.grown2 {w0 w w' : World} {g1 g2 M : Nat} {L1 L2 : List Nat} {r : Option Nat} (h : Bag w0 w [(g2, L2), (g1, L1)]) (hg : w.grownBy w' r) (h1 : g1 < M) (h2 : g2 < M) (hM : w0.heap.size ≤ M) (hr : ∀ k, r = some k → M ≤ k) : Bag w0 w' [(g2, L2), (g1, L1)] :=
  ⟨⟨h.1.1, h.1.2.grown hg (fun e => by have := hr g2 e.symm; omega)⟩, ⟨h.2.1.1, h.2.1.2.grown hg (fun e => by have := hr g1 e.symm; omega)⟩,
    h.below.trans (grownBy_below hg h.below.size (fun k hk => Nat.le_trans hM (hr k hk)))⟩
theorem Told.below {v : Value} {w w' : World} {e : Ending} (h : Told v w e w') : e = .returned v ∧ Below w.heap.size w w' := by
  obtain ⟨he, m, rfl⟩ := h
  exact ⟨he, below_drewN w m⟩
theorem same_same (a b : Option Addr) (c1 c2 n : Nat) (l m : List Nat) (w : World) (hl : l.length = n) (hlm : l = m) (hn : n ≤ 100000) (ha : BAt w a l) (hb : BAt w b m) :
    Calls Try.prog 13 #[.slice a n c1, .slice b n c2] w fun e w' => e = .returned (.bool true) ∧ Below w.heap.size w w' := by
  subst hlm
  refine (same_any a b c1 c2 n n l l w hl hl hn ha hb).mono fun e w' h => ?_
  have := h.below
  rwa [show decide (l = l) = true by simp] at this
theorem kind_b {k n : Nat} (a : Option Addr) (cap : Nat) (l : List Nat) (w : World) (hk : kindOf l = k) (hn : l.length = n) (ho : Octs l) (hc : n ≤ cap) (hx : BAt w a l) :
    Calls Try.prog 14 #[.slice a n cap] w fun e w' => e = .returned (.int .u8 (k : Int)) ∧ Below w.heap.size w w' :=
  (kind_is a cap l w hk hn ho hc hx).mono fun _ _ h => h.below
end Go.Proofs.Ytghopfmidpobhaa
