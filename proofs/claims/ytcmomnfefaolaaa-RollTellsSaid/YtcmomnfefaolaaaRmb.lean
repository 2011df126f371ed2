/-
  What the law keeps side by side: two lists that it makes itself; and what stays while answers are written over.
-/
import Derived.Test.YtcmomnfefaolaaaRlq
import Derived.Test.YtcmomnfefaolaaaRlr
import Derived.Test.YtcmomnfefaolaaaLb
namespace Go.Proofs.Ytcmomnfefaolaaa
open Go.RowKit BigFrame
set_option maxRecDepth 100000
/-- two lists of the law's own, of objects that came in -/
structure SrAt (w0 wL : World) (v1 v2 : Value) (L1 L2 : List Op2) (w : World) : Prop where
  r1 : RowO w wL.heap.size v1 L1
  r2 : RowO w wL.heap.size v2 L2
  s1 : ∀ p ∈ L1, SlB w0 p.2 p.1.b
  s2 : ∀ p ∈ L2, SlB w0 p.2 p.1.b
  rr : ∀ g, v1.ownBlock = some g → v2.ownBlock ≠ some g
  bel : Below wL.heap.size wL w
section
variable {w0 wL w w' : World} {v1 v2 u v' : Value} {L1 L2 : List Op2} {x : Ob}
theorem SrAt.start (w0 wL : World) : SrAt w0 wL (.slice none 0 0) (.slice none 0 0) [] [] wL :=
  ⟨RowO.nil _ _, RowO.nil _ _, (fun p hp => by cases hp), (fun p hp => by cases hp), (fun g h => by cases h), Below.refl _ _⟩
theorem SrAt.on (h : SrAt w0 wL v1 v2 L1 L2 w) (hb : Below w.heap.size w w') : SrAt w0 wL v1 v2 L1 L2 w' :=
  ⟨h.r1.on hb, h.r2.on hb, h.s1, h.s2, h.rr, h.bel.trans (hb.mono h.bel.size)⟩
theorem SrAt.more1 (h : SrAt w0 wL v1 v2 L1 L2 w) (hu : SlB w0 u x.b) (hr : RowO w' wL.heap.size v' (L1 ++ [(x, u)])) (hg : w.grownBy w' v1.ownBlock) (hn : v'.ownBlock = v1.ownBlock ∨ v'.ownBlock = some w.heap.size) : SrAt w0 wL v' v2 (L1 ++ [(x, u)]) L2 w' := by
  refine ⟨hr, h.r2.kept hg fun k hk e => h.rr k e.symm hk, fun p hp => ?_, h.s2, ?_, h.bel.trans (grownBy_below hg h.bel.size fun k hk => (h.r1.block k hk).1)⟩
  · rcases List.mem_append.1 hp with hp | hp
    · exact h.s1 p hp
    · obtain rfl := List.mem_singleton.1 hp
      exact hu
  · intro g hk
    rcases hn with e | e
    · rw [e] at hk; exact h.rr g hk
    · rw [e] at hk
      intro h2
      have := (h.r2.block g h2).2
      have := Option.some.inj hk
      omega
theorem SrAt.more2 (h : SrAt w0 wL v1 v2 L1 L2 w) (hu : SlB w0 u x.b) (hr : RowO w' wL.heap.size v' (L2 ++ [(x, u)])) (hg : w.grownBy w' v2.ownBlock) (hn : v'.ownBlock = v2.ownBlock ∨ v'.ownBlock = some w.heap.size) : SrAt w0 wL v1 v' L1 (L2 ++ [(x, u)]) w' := by
  refine ⟨h.r1.kept hg fun k hk e => h.rr k hk e.symm, hr, h.s1, fun p hp => ?_, ?_, h.bel.trans (grownBy_below hg h.bel.size fun k hk => (h.r2.block k hk).1)⟩
  · rcases List.mem_append.1 hp with hp | hp
    · exact h.s2 p hp
    · obtain rfl := List.mem_singleton.1 hp
      exact hu
  · intro g hk
    rcases hn with e | e
    · rw [e]; exact h.rr g hk
    · rw [e]
      intro h2
      have := (h.r1.block g hk).2
      have := Option.some.inj h2
      omega
theorem SrAt.slo1 (h : SrAt w0 wL v1 v2 L1 L2 w) (hb : Below w0.heap.size w0 w) : SlO w v1 (L1.map (·.1)) := h.r1.slo fun p hp => (h.s1 p hp).on hb
theorem SrAt.slo2 (h : SrAt w0 wL v1 v2 L1 L2 w) (hb : Below w0.heap.size w0 w) : SlO w v2 (L2.map (·.1)) := h.r2.slo fun p hp => (h.s2 p hp).on hb
end
/-- what stays while answers are written over: the lent row, the law's second list, Split's second list -/
structure KeepT (w0 wL w8 : World) (g0 : Nat) (l : List Nat) (vr : Value) (Lr : List Op2) (v2 : Value) (L2 : List Op2) (w : World) : Prop where
  r0 : Row w g0 (marked l)
  rr : RowO w wL.heap.size vr Lr
  r2 : RowO w w8.heap.size v2 L2
  d2 : ∀ p ∈ L2, OwnB w w8.heap.size p.2 p.1.b
  bel : Below w0.heap.size w0 w
theorem KeepT.on {w0 wL w8 w w' : World} {g0 : Nat} {l : List Nat} {vr v2 : Value} {Lr L2 : List Op2} (h : KeepT w0 wL w8 g0 l vr Lr v2 L2 w) (hb : Below w.heap.size w w') : KeepT w0 wL w8 g0 l vr Lr v2 L2 w' :=
  ⟨h.r0.on hb h.r0.lt, h.rr.on hb, h.r2.on hb, fun p hp => (h.d2 p hp).on hb (Nat.le_refl _), h.bel.trans (hb.mono h.bel.size)⟩
theorem KeepT.grown {w0 wL w8 w w' : World} {g0 : Nat} {l : List Nat} {vr v2 : Value} {Lr L2 : List Op2} {r : Option Nat} (h : KeepT w0 wL w8 g0 l vr Lr v2 L2 w) (hg : w.grownBy w' r)
    (hr : ∀ k, r = some k → w0.heap.size ≤ k ∧ k ≠ g0 ∧ vr.ownBlock ≠ some k ∧ v2.ownBlock ≠ some k ∧ ∀ p ∈ L2, p.2.ownBlock ≠ some k) : KeepT w0 wL w8 g0 l vr Lr v2 L2 w' := by
  refine ⟨?_, h.rr.kept hg fun k hk e => ?_, h.r2.kept hg fun k hk e => ?_, fun p hp => (h.d2 p hp).kept hg fun k hk e => ?_, h.bel.trans (grownBy_below hg h.bel.size fun k hk => (hr k hk).1)⟩
  · unfold Row; rw [hg.block g0 h.r0.lt fun e => (hr g0 e.symm).2.1 rfl]; exact h.r0
  · exact (hr k e.symm).2.2.1 hk
  · exact (hr k e.symm).2.2.2.1 hk
  · exact (hr k e.symm).2.2.2.2 p hp hk
theorem RowO.cellOf {w : World} {base g n cap k : Nat} {L : List Op2} {p : Op2} (h : RowO w base (.slice (some ⟨g, 0, none⟩) n cap) L) (hp : L[k]? = some p) : ∀ j u, (oc p.1 p.2)[j]? = some u → w.cell? ⟨g, k * 3 + j, none⟩ = some u := by
  intro j u hj
  have hk : k < L.length := (List.getElem?_eq_some_iff.1 hp).1
  have hl : j < 3 := (List.getElem?_eq_some_iff.1 hj).1
  have hn : n = L.length := by
    rcases h.2 with ⟨e, _⟩ | ⟨_, _, _, e, _⟩
    · cases e
    · cases e; rfl
  subst hn
  rw [World.ownsRow.cellAt h _ (by omega)]
  exact osC_at hp j u hj
theorem RowO.ofSome {w : World} {base : Nat} {v : Value} {L : List Op2} (h : RowO w base v L) (h0 : 0 < L.length) : ∃ g cap, v = .slice (some ⟨g, 0, none⟩) L.length cap := by
  rcases h.2 with ⟨_, e⟩ | ⟨g, cap, _, e, _⟩
  · omega
  · exact ⟨g, cap, e⟩
/-- .. and Split's first list, whose bytes are written over one by one -/
structure KeepX (w0 wL w8 : World) (g0 : Nat) (l : List Nat) (vr : Value) (Lr : List Op2) (v2 : Value) (L2 : List Op2) (v1 : Value) (L1 : List Op2) (j : Nat) (w : World) : Prop where
  k : KeepT w0 wL w8 g0 l vr Lr v2 L2 w
  r1 : RowO w w8.heap.size v1 L1
  d1 : ∀ i p, j ≤ i → L1[i]? = some p → OwnB w w8.heap.size p.2 p.1.b
section
variable {w0 wL w8 w w' : World} {g0 j : Nat} {l : List Nat} {vr v2 v1 : Value} {Lr L2 L1 : List Op2} {r : Option Nat}
theorem KeepX.on (h : KeepX w0 wL w8 g0 l vr Lr v2 L2 v1 L1 j w) (hb : Below w.heap.size w w') : KeepX w0 wL w8 g0 l vr Lr v2 L2 v1 L1 j w' :=
  ⟨h.k.on hb, h.r1.on hb, fun i p hi hp => (h.d1 i p hi hp).on hb (Nat.le_refl _)⟩
/-- an elder block is written over -/
theorem KeepX.old (h : KeepX w0 wL w8 g0 l vr Lr v2 L2 v1 L1 j w) (h8 : wL.heap.size ≤ w8.heap.size) (hg : w.grownBy w' r) (hr : ∀ k, r = some k → w0.heap.size ≤ k ∧ k ≠ g0 ∧ k < wL.heap.size) : KeepX w0 wL w8 g0 l vr Lr v2 L2 v1 L1 j w' := by
  refine ⟨h.k.grown hg fun k hk => ⟨(hr k hk).1, (hr k hk).2.1, fun e => ?_, fun e => ?_, fun p hp e => ?_⟩, h.r1.kept hg fun k hk e => ?_, fun i p hi hp => (h.d1 i p hi hp).kept hg fun k hk e => ?_⟩
  · have := (h.k.rr.block k e).1; have := (hr k hk).2.2; omega
  · have := (h.k.r2.block k e).1; have := (hr k hk).2.2; omega
  · have := ((h.k.d2 p hp).blk k e).1; have := (hr k hk).2.2; omega
  · have := (h.r1.block k hk).1; have := (hr k e.symm).2.2; omega
  · have := ((h.d1 i p hi hp).blk k hk).1; have := (hr k e.symm).2.2; omega
/-- the j-th one's bytes are written over -/
theorem KeepX.next {p : Op2} (h : KeepX w0 wL w8 g0 l vr Lr v2 L2 v1 L1 j w) (hp : L1[j]? = some p) (h0 : w0.heap.size ≤ w8.heap.size) (hg0 : g0 < w8.heap.size) (hd : L1.Pairwise Ap2) (h12 : ∀ p ∈ L1, ∀ q ∈ L2, Ap2 p q) (hrt : ∀ g, p.2.ownBlock = some g → vr.ownBlock ≠ some g) (hg : w.grownBy w' p.2.ownBlock) :
    KeepX w0 wL w8 g0 l vr Lr v2 L2 v1 L1 (j + 1) w' := by
  have hb := h.d1 j p (Nat.le_refl _) hp
  refine ⟨h.k.grown hg fun k hk => ⟨?_, ?_, hrt k hk, fun e => h.k.r2.apart hb k hk e, fun q hq e => h12 p (List.mem_of_getElem? hp) q hq k hk e⟩, h.r1.kept hg fun k hk e => h.r1.apart hb k e.symm hk, fun i q hi hq => (h.d1 i q (by omega) hq).kept hg fun k hk e => ?_⟩
  · have := (hb.blk k hk).1; omega
  · have := (hb.blk k hk).1; omega
  · obtain ⟨h1, h2⟩ := List.getElem?_eq_some_iff.1 hp
    obtain ⟨h3, h4⟩ := List.getElem?_eq_some_iff.1 hq
    have := List.pairwise_iff_getElem.1 hd j i h1 h3 (by omega)
    rw [h2, h4] at this
    exact this k e.symm hk
theorem RowO.apart' {u : Value} {b b' : Nat} (h : RowO w b' v1 L1) (k : OwnB w b u l) : ∀ g, u.ownBlock = some g → v1.ownBlock ≠ some g :=
  (h.lower (Nat.zero_le _)).apart (k.lower (Nat.zero_le _))
end
end Go.Proofs.Ytcmomnfefaolaaa
