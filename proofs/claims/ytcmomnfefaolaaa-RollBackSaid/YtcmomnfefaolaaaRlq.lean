/-
  Objects parted in two lists of one's own.
-/
import Derived.Test.YtcmomnfefaolaaaRln
namespace Go.Proofs.Ytcmomnfefaolaaa
open Go.RowKit BigFrame
set_option maxRecDepth 100000
/-- those of the first k that a test takes -/
def pickN (f : Nat → Bool) (xs : List Ob) (k : Nat) : List Ob := ((List.range k).filter f).map (ob xs)
theorem pickN_yes {f : Nat → Bool} {xs : List Ob} {k : Nat} (h : f k = true) : pickN f xs (k + 1) = pickN f xs k ++ [ob xs k] := by
  unfold pickN; rw [List.range_succ, List.filter_append, List.map_append]; simp [h]
theorem pickN_no {f : Nat → Bool} {xs : List Ob} {k : Nat} (h : f k = false) : pickN f xs (k + 1) = pickN f xs k := by
  unfold pickN; rw [List.range_succ, List.filter_append, List.map_append]; simp [h]
theorem pickN_len (f : Nat → Bool) (xs : List Ob) (k : Nat) : (pickN f xs k).length ≤ k := by
  unfold pickN; rw [List.length_map]; exact Nat.le_trans (List.length_filter_le _ _) (by simp)
theorem pickN_all {f : Nat → Bool} {xs : List Ob} : ∀ {k : Nat}, k ≤ xs.length → (∀ j, j < k → f j = true) → pickN f xs k = xs.take k
  | 0, _, _ => by simp [pickN]
  | k + 1, h, hf => by rw [pickN_yes (hf k (by omega)), pickN_all (by omega) fun j hj => hf j (by omega), ob_take (by omega)]
theorem pickN_none {f : Nat → Bool} {xs : List Ob} : ∀ {k : Nat}, (∀ j, j < k → f j = false) → pickN f xs k = []
  | 0, _ => by simp [pickN]
  | k + 1, hf => by rw [pickN_no (hf k (by omega)), pickN_none fun j hj => hf j (by omega)]
/-- is j among the first k? -/
def askd (R : Nat → Int) (k j : Nat) : Bool := (List.range k).any fun q => decide (R q = (j : Int))
theorem askd_succ (R : Nat → Int) (k j : Nat) : askd R (k + 1) j = (askd R k j || decide (R k = (j : Int))) := by unfold askd; rw [List.range_succ, List.any_append]; simp
/-- two blocks apart -/
def Ap2 (p q : Op2) : Prop := ∀ g, p.2.ownBlock = some g → q.2.ownBlock ≠ some g
theorem Ap2.symm {p q : Op2} (h : Ap2 p q) : Ap2 q p := fun g hq hp => h g hp hq
/-- where Split stands -/
structure SpAt (w0 : World) (v1 v2 : Value) (L1 L2 : List Op2) (w : World) : Prop where
  r1 : RowO w w0.heap.size v1 L1
  r2 : RowO w w0.heap.size v2 L2
  d1 : ∀ p ∈ L1, OwnB w w0.heap.size p.2 p.1.b
  d2 : ∀ p ∈ L2, OwnB w w0.heap.size p.2 p.1.b
  p1 : L1.Pairwise Ap2
  p12 : ∀ p ∈ L1, ∀ q ∈ L2, Ap2 p q
  rr : ∀ g, v1.ownBlock = some g → v2.ownBlock ≠ some g
  bel : Below w0.heap.size w0 w
section
variable {w0 w w' : World} {v1 v2 u v' : Value} {L1 L2 : List Op2} {x : Ob} {t : TypeId} {g : Nat} {l : List Value}
theorem SpAt.start (w : World) {w1 : World} (h : Below w.heap.size w w1) : SpAt w (.slice none 0 0) (.slice none 0 0) [] [] w1 :=
  ⟨RowO.nil _ _, RowO.nil _ _, (fun p hp => by cases hp), (fun p hp => by cases hp), List.Pairwise.nil, (fun p hp => by cases hp), (fun g h => by cases h), h⟩
theorem SpAt.on (h : SpAt w0 v1 v2 L1 L2 w) (hb : Below w.heap.size w w') : SpAt w0 v1 v2 L1 L2 w' :=
  ⟨h.r1.on hb, h.r2.on hb, fun p hp => (h.d1 p hp).on hb (Nat.le_refl _), fun p hp => (h.d2 p hp).on hb (Nat.le_refl _), h.p1, h.p12, h.rr, h.bel.trans (hb.mono h.bel.size)⟩
theorem OwnB.blk {w : World} {base : Nat} {v : Value} {l : List Nat} (h : OwnB w base v l) : ∀ k, v.ownBlock = some k → base ≤ k ∧ k < w.heap.size := fun k hk => World.ownsRow.lt h k hk
/-- one more of the first list -/
theorem SpAt.more1 (h : SpAt w0 v1 v2 L1 L2 w) (hu : OwnB w w0.heap.size u x.b) (hf : ∀ g, u.ownBlock = some g → (∀ p ∈ L1, p.2.ownBlock ≠ some g) ∧ ∀ p ∈ L2, p.2.ownBlock ≠ some g)
    (hr : RowO w' w0.heap.size v' (L1 ++ [(x, u)])) (hg : w.grownBy w' v1.ownBlock) (hn : v'.ownBlock = v1.ownBlock ∨ v'.ownBlock = some w.heap.size) : SpAt w0 v' v2 (L1 ++ [(x, u)]) L2 w' := by
  refine ⟨hr, h.r2.kept hg fun k hk e => h.rr k e.symm hk, fun p hp => ?_, fun p hp => (h.d2 p hp).kept hg fun k hk e => h.r1.apart (h.d2 p hp) k hk e.symm, ?_, ?_, ?_, ?_⟩
  · rcases List.mem_append.1 hp with hp | hp
    · exact (h.d1 p hp).kept hg fun k hk e => h.r1.apart (h.d1 p hp) k hk e.symm
    · obtain rfl := List.mem_singleton.1 hp
      exact hu.kept hg fun k hk e => h.r1.apart hu k hk e.symm
  · rw [List.pairwise_append]
    refine ⟨h.p1, List.pairwise_singleton _ _, fun p hp q hq => ?_⟩
    obtain rfl := List.mem_singleton.1 hq
    exact Ap2.symm fun g hk => (hf g hk).1 p hp
  · intro p hp q hq
    rcases List.mem_append.1 hp with hp | hp
    · exact h.p12 p hp q hq
    · obtain rfl := List.mem_singleton.1 hp
      exact fun g hk => (hf g hk).2 q hq
  · intro g hk
    rcases hn with e | e
    · rw [e] at hk; exact h.rr g hk
    · rw [e] at hk
      intro h2
      have := (h.r2.block g h2).2
      have := Option.some.inj hk
      omega
  · exact h.bel.trans (grownBy_below hg h.bel.size fun k hk => (h.r1.block k hk).1)
/-- one more of the second -/
theorem SpAt.more2 (h : SpAt w0 v1 v2 L1 L2 w) (hu : OwnB w w0.heap.size u x.b) (hf : ∀ g, u.ownBlock = some g → (∀ p ∈ L1, p.2.ownBlock ≠ some g) ∧ ∀ p ∈ L2, p.2.ownBlock ≠ some g)
    (hr : RowO w' w0.heap.size v' (L2 ++ [(x, u)])) (hg : w.grownBy w' v2.ownBlock) (hn : v'.ownBlock = v2.ownBlock ∨ v'.ownBlock = some w.heap.size) : SpAt w0 v1 v' L1 (L2 ++ [(x, u)]) w' := by
  refine ⟨h.r1.kept hg fun k hk e => h.rr k hk e.symm, hr, fun p hp => (h.d1 p hp).kept hg fun k hk e => h.r2.apart (h.d1 p hp) k hk e.symm, fun p hp => ?_, h.p1, ?_, ?_, ?_⟩
  · rcases List.mem_append.1 hp with hp | hp
    · exact (h.d2 p hp).kept hg fun k hk e => h.r2.apart (h.d2 p hp) k hk e.symm
    · obtain rfl := List.mem_singleton.1 hp
      exact hu.kept hg fun k hk e => h.r2.apart hu k hk e.symm
  · intro p hp q hq
    rcases List.mem_append.1 hq with hq | hq
    · exact h.p12 p hp q hq
    · obtain rfl := List.mem_singleton.1 hq
      exact Ap2.symm fun g hk => (hf g hk).1 p hp
  · intro g hk
    rcases hn with e | e
    · rw [e]; exact h.rr g hk
    · rw [e]
      intro h2
      have := (h.r1.block g hk).2
      have := Option.some.inj h2
      omega
  · exact h.bel.trans (grownBy_below hg h.bel.size fun k hk => (h.r2.block k hk).1)
/-- new bytes are none of theirs -/
theorem SpAt.fresh (h : SpAt w0 v1 v2 L1 L2 w) (hu : OwnB w' w.heap.size u x.b) : ∀ g, u.ownBlock = some g → (∀ p ∈ L1, p.2.ownBlock ≠ some g) ∧ ∀ p ∈ L2, p.2.ownBlock ≠ some g := fun g hg =>
  ⟨fun p hp e => by have := ((h.d1 p hp).blk g e).2; have := (hu.blk g hg).1; omega, fun p hp e => by have := ((h.d2 p hp).blk g e).2; have := (hu.blk g hg).1; omega⟩
end
/-- booleans in a variable of one's own -/
def bools (n : Nat) (f : Nat → Bool) : List Value := (List.range n).map fun j => Value.bool (f j)
theorem bools_len (n : Nat) (f : Nat → Bool) : (bools n f).length = n := by simp [bools]
theorem bools_get {n k : Nat} {f : Nat → Bool} (h : k < n) : (bools n f)[k]? = some (.bool (f k)) := by simp [bools, h]
theorem bools_set {n k : Nat} {f : Nat → Bool} (b : Bool) (h : k < n) : (bools n f).set k (.bool b) = bools n fun j => if j = k then b else f j := by
  apply List.ext_getElem?
  intro j
  by_cases hj : j < n
  · rw [bools_get hj, List.getElem?_set]
    by_cases e : k = j
    · subst e; rw [if_pos rfl, if_pos (by rw [bools_len]; exact h), if_pos rfl]
    · rw [if_neg e, bools_get hj, if_neg (fun q => e q.symm)]
  · rw [List.getElem?_eq_none (by rw [List.length_set, bools_len]; omega), List.getElem?_eq_none (by rw [bools_len]; omega)]
theorem Try.infoK : (Try.prog.info? 4).map (fun i => (i.zero, i.size, i.bytes)) = some (some (.bool false), 1, 1) := by kernel_rfl
theorem made_bools (n : Nat) : madeCells #[Value.bool false] n = (bools n fun _ => false).toArray := by
  apply Array.ext
  · simp [size_madeCells, bools]
  · intro k h1 h2
    simp [madeCells, bools, Nat.mod_one]
theorem wpList_make_bools {w : World} {ops : Array Oper} {rest : List Oper} {o : Oper} {a : Act} {Q : Exit → Act → World → Prop} (hg : o.guard = none) (l c : Operand) (hop : o.op = Op.makeSlice 53 l c)
    (n : Nat) (hl : a.eval l = .int .i64 (n : Int)) (hc : a.eval c = .int .i64 (n : Int)) (hn : n ≤ 1000000)
    (hK : ∀ g w1, Hid (Vw w1 4 g (bools n fun _ => false)) → w.heap.size ≤ g → Below w.heap.size w w1 → wpList Try.prog ops Q rest (a.put o.dst (.slice (some ⟨g, 0, none⟩) n n)) w1) :
    wpList Try.prog ops Q (o :: rest) a w := by
  obtain ⟨i, hi, hz0, hz1, hz2⟩ := info_parts Try.infoK
  refine wpList_make_row w hg l c 53 hop 4 i (.bool false) Try.underlying53 hi hz0 hz1 rfl .i64 .i64 n hl hc (by rw [hz2]; omega) (by omega) ?_
  rw [made_bools]
  exact hK _ _ (heap_alloc_new w _) (Nat.le_refl _) ((Below.refl _ _).alloc (Nat.le_refl _) _)
end Go.Proofs.Ytcmomnfefaolaaa
