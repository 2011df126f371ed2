/-
  What differs in a sector.
-/
import Derived.Test.YtcmomnfefaolaaaRlf
import Derived.Test.YtcmomnfefaolaaaRlk
import Derived.Test.YtcmomnfefaolaaaRll
import Derived.Test.YtcmomnfefaolaaaRlj
import Derived.Test.YtcmomnfefaolaaaRlm
import Derived.Test.YtcmomnfefaolaaaShelf
namespace Go.Proofs.Ytcmomnfefaolaaa
open Go.RowKit BigFrame
set_option maxRecDepth 100000
/-- a copy of bytes -/
theorem clone_c (v : Value) (l : List Nat) (w : World) (hs : SlB w v l) (hl : l.length ≤ 100000) : Calls Try.prog 31 #[v] w fun e w' => ∃ v', e = .returned v' ∧ OwnB w' w.heap.size v' l ∧ Below w.heap.size w w' := by
  obtain ⟨a, cap, rfl, hc, hX, hnil⟩ := hs
  cases a with
  | none =>
    have hc0 := hnil rfl
    have hl0 : l = [] := List.eq_nil_of_length_eq_zero (by omega)
    subst hl0
    refine (Try.bytes_Clone_nil _ _ w).mono fun e w' ⟨he, hw⟩ => ?_
    subst hw
    exact ⟨_, he, OwnB.nil _ _, Below.refl _ _⟩
  | some ad =>
    refine (Try.bytes_Clone_at ad l.length cap (l.map fun (x : Nat) => (x : Int)) w (by simp) (by omega) (fun i hi => ?_)).mono fun e w' ⟨v', he, ho, _, hb⟩ => ⟨v', he, ?_, hb⟩
    · obtain ⟨b, off, hab⟩ := hX.addr (by omega)
      cases hab
      rw [addr_add, hX.cell hi, bz_get hi]
      simp [List.getD, hi]
    · have e1 : (l.map fun (x : Nat) => (x : Int)).map (Value.int .u8) = bv l := by simp [bv]
      rw [e1] at ho
      exact ho
theorem IsPre.uniq {l m : List Nat} {n k : Nat} (h : IsPre l m n) (q : IsPre l m k) : n = k := by
  rcases Nat.lt_trichotomy n k with e | e | e
  · rcases h.stop with s | s
    · have := q.le; omega
    · exact absurd s (q.ne n e)
  · exact e
  · rcases q.stop with s | s
    · have := h.le; omega
    · exact absurd s (h.ne k e)
theorem unlike_is (b1 o1 b2 o2 c1 c2 n d : Nat) (l m : List Nat) (w : World) (hl : l.length = n) (hm : m.length = n) (hn : n ≤ 100000) (hA : BAt w (some ⟨b1, o1, none⟩) l) (hB : BAt w (some ⟨b2, o2, none⟩) m) (hd : IsPre l m d) :
    Calls Try.prog 30 #[.slice (some ⟨b1, o1, none⟩) n c1, .slice (some ⟨b2, o2, none⟩) n c2] w (Told (.int .i64 (d : Int)) w) :=
  (unlike_c b1 o1 b2 o2 c1 c2 n l m w hl hm hn hA hB).mono fun e w' ⟨q, he, hq, r, hw⟩ => by
    rw [hq.uniq hd] at he
    exact ⟨he, r, hw⟩
theorem pre_dif {a b : List Nat} {i n : Nat} (ha : a.length = 128) (hb : b.length = 128) (h : IsDif a b i n) : IsPre ((a.drop i).take (128 - i)) ((b.drop i).take (128 - i)) n := by
  have hle := h.le
  refine ⟨by rw [List.length_take, List.length_drop]; omega, fun j hj => ?_, ?_⟩
  · rw [bz_take (by omega), bz_take (by omega), bz_drop, bz_drop]; exact h.ne j hj
  · by_cases e : i + n = 128
    · left; rw [List.length_take, List.length_drop]; omega
    · right
      rw [bz_take (by omega), bz_take (by omega), bz_drop, bz_drop]
      rcases h.stop with s | s
      · omega
      · exact s
/-- a row of objects is no variable of another type -/
theorem RowO.notT {w : World} {base g : Nat} {v : Value} {L : List Op2} {l : List Nat} {t : TypeId} (ht : ¬ 37 = t) (h : RowO w base v L) (k : RowT w t g l) : v.ownBlock ≠ some g := by
  intro hv
  rcases h.2 with ⟨rfl, _⟩ | ⟨g1, cap1, cur1, rfl, _, hh, _⟩
  · cases hv
  have e1 : g1 = g := Option.some.inj hv
  subst e1
  unfold RowT at k
  rw [hh] at k
  simp only [Option.some.injEq, Obj.cells.injEq] at k
  exact ht k.2.1
theorem RowT.grown {w w' : World} {t : TypeId} {r : Option Nat} {g : Nat} {l : List Nat} (h : RowT w t g l) (hg : w.grownBy w' r) (hr : some g ≠ r) : RowT w' t g l := by
  unfold RowT; rw [hg.block g h.lt hr]; exact h
theorem OwnB.kept {w w' : World} {base : Nat} {v : Value} {l : List Nat} {r : Option Nat} (h : OwnB w base v l) (hg : w.grownBy w' r) (hr : ∀ k, v.ownBlock = some k → some k ≠ r) : OwnB w' base v l :=
  World.ownsRow.kept h hg (by cases e : v.ownBlock with
    | none => exact .inl rfl
    | some k => exact .inr (hr k e))
/-- answered objects -/
def GivesO (D : List Ob) (w : World) (e : Ending) (w' : World) : Prop := ∃ v, e = .returned v ∧ SlO w' v D ∧ Below w.heap.size w w'
/-- where Diff stands -/
structure DfAt (t : TypeId) (w0 : World) (ga gb : Nat) (s : Int) (a b : List Nat) (i : Nat) (v : Value) (L : List Op2) (w : World) : Prop where
  row : RowO w w0.heap.size v L
  dat : ∀ p ∈ L, OwnB w w0.heap.size p.2 p.1.b
  said : L.map (·.1) ++ dlist s a b i = dlist s a b 0
  few : L.length ≤ i
  ra : RowT w t ga a
  rb : RowT w t gb b
  bel : Below w0.heap.size w0 w
theorem DfAt.on {t : TypeId} {w0 w w' : World} {ga gb i : Nat} {s : Int} {a b : List Nat} {v : Value} {L : List Op2} (h : DfAt t w0 ga gb s a b i v L w) (hb : Below w.heap.size w w') : DfAt t w0 ga gb s a b i v L w' :=
  ⟨h.row.on hb, fun p hp => (h.dat p hp).on hb (Nat.le_refl _), h.said, h.few, h.ra.on hb h.ra.lt, h.rb.on hb h.rb.lt, h.bel.trans (hb.mono h.bel.size)⟩
theorem DfAt.skip {t : TypeId} {w0 w : World} {ga gb i : Nat} {s : Int} {a b : List Nat} {v : Value} {L : List Op2} (h : DfAt t w0 ga gb s a b i v L w) (hi : i < 128) (hd : IsDif a b i 0) : DfAt t w0 ga gb s a b (i + 1) v L w :=
  ⟨h.row, h.dat, by rw [← dlist_skip hi hd]; exact h.said, by have := h.few; omega, h.ra, h.rb, h.bel⟩
/-- one more -/
theorem DfAt.more {t : TypeId} (ht : ¬ 37 = t) {w0 w w' : World} {ga gb i n : Nat} {s : Int} {a b : List Nat} {v v' u : Value} {L : List Op2} (h : DfAt t w0 ga gb s a b i v L w) (hi : i < 128) (hd : IsDif a b i (n + 1)) (hu : OwnB w w0.heap.size u ((b.drop i).take (n + 1)))
    (hr : RowO w' w0.heap.size v' (L ++ [(⟨s, (i : Int), (b.drop i).take (n + 1)⟩, u)])) (hg : w.grownBy w' v.ownBlock) : DfAt t w0 ga gb s a b (i + (n + 1) + 1) v' (L ++ [(⟨s, (i : Int), (b.drop i).take (n + 1)⟩, u)]) w' := by
  refine ⟨hr, fun p hp => ?_, ?_, ?_, h.ra.grown hg (fun e => h.row.notT ht h.ra e.symm), h.rb.grown hg (fun e => h.row.notT ht h.rb e.symm), ?_⟩
  · rcases List.mem_append.1 hp with hp | hp
    · exact (h.dat p hp).kept hg fun k hk e => h.row.apart (h.dat p hp) k hk e.symm
    · obtain rfl := List.mem_singleton.1 hp
      exact hu.kept hg fun k hk e => h.row.apart hu k hk e.symm
  · rw [List.map_append, List.append_assoc]
    show L.map (·.1) ++ (⟨s, (i : Int), (b.drop i).take (n + 1)⟩ :: dlist s a b (i + (n + 1) + 1)) = _
    rw [← dlist_some hi hd]
    exact h.said
  · rw [List.length_append]; have := h.few; simp only [List.length_cons, List.length_nil]; omega
  · exact h.bel.trans (grownBy_below hg h.bel.size fun k hk => (h.row.block k hk).1)
end Go.Proofs.Ytcmomnfefaolaaa
