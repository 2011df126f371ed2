/-
  Lists of booleans of a law's own: grown by append, or made; blocks that are taken, marked there.
-/
import Derived.Test.YtdkjmpicdkfgoaaQn
import Derived.Test.YtdkjmpicdkfgoaaQm
import Derived.Test.YtdkjmpicdkfgoaaGr
import Derived.Laws.AppendOwn
import Derived.Laws.AppendOwnNone

namespace Go.Proofs.Ytdkjmpicdkfgoaa
open Go.RowKit BigFrame Fl

/-- booleans as cells -/
def kb (l : List Bool) : List Value := l.map Value.bool
theorem kb_length (l : List Bool) : (kb l).length = l.length := by simp [kb]
theorem kb_one (l : List Bool) : ∀ v ∈ kb l, v.oneCell' = true := by
  intro v hv
  obtain ⟨n, _, rfl⟩ := List.mem_map.1 hv
  rfl
theorem kb_append (l m : List Bool) : kb (l ++ m) = kb l ++ kb m := by simp [kb]
theorem kb_set (l : List Bool) (k : Nat) (x : Bool) : (kb l).set k (.bool x) = kb (l.set k x) := by simp [kb, List.map_set]
/-- the n-th of some booleans -/
def bb (l : List Bool) (k : Nat) : Bool := l.getD k false
theorem bb_get {l : List Bool} {k : Nat} (h : k < l.length) : bb l k = l[k] := by simp [bb, List.getD, List.getElem?_eq_getElem h]
theorem kb_get {l : List Bool} {k : Nat} (h : k < l.length) : (kb l)[k]? = some (.bool (bb l k)) := by simp [kb, bb_get h, h]
theorem bb_set {l : List Bool} {k j : Nat} {x : Bool} (h : k < l.length) : bb (l.set k x) j = if j = k then x else bb l j := by
  unfold bb
  simp only [List.getD, List.getElem?_set]
  by_cases e : k = j
  · subst e; simp [h]
  · rw [if_neg e, if_neg (Ne.symm e)]
theorem bb_rep (n k : Nat) : bb (List.replicate n false) k = false := by
  unfold bb
  by_cases h : k < n <;> simp [List.getD, h]
theorem Try.infoBl : (Try.prog.info? 4).map (fun i => (i.zero, i.size, i.bytes)) = some (some (.bool false), 1, 1) := by kernel_rfl
theorem made_bools (n : Nat) : madeCells #[Value.bool false] n = (kb (List.replicate n false)).toArray := by
  apply Array.ext
  · simp [size_madeCells, kb]
  · intro k h1 h2
    simp [madeCells, kb, Nat.mod_one]
theorem wpList_make_bools {w : World} {ops : Array Oper} {rest : List Oper} {o : Oper} {a : Act} {Q : Exit → Act → World → Prop} (hg : o.guard = none) (l c : Operand) (hop : o.op = Op.makeSlice 45 l c)
    (n : Nat) (hl : a.eval l = .int .i64 (n : Int)) (hc : a.eval c = .int .i64 (n : Int)) (hn : n ≤ 1000000)
    (hK : ∀ g w1, Hid (Vw w1 4 g (kb (List.replicate n false))) → w.heap.size ≤ g → Below w.heap.size w w1 → wpList Try.prog ops Q rest (a.put o.dst (.slice (some ⟨g, 0, none⟩) n n)) w1) :
    wpList Try.prog ops Q (o :: rest) a w := by
  obtain ⟨i, hi, hz0, hz1, hz2⟩ := info_parts Try.infoBl
  refine wpList_make_row w hg l c 45 hop 4 i (.bool false) Try.underlying45 hi hz0 hz1 rfl .i64 .i64 n hl hc (by rw [hz2]; omega) (by omega) ?_
  rw [made_bools]
  exact hK _ _ (heap_alloc_new w _) (Nat.le_refl _) ((Below.refl _ _).alloc (Nat.le_refl _) _)
/-- a slice of booleans of the call's own -/
def OwnK (w : World) (base : Nat) (v : Value) (l : List Bool) : Prop := w.ownsRow base 4 1 v l.length (kb l)
theorem OwnK.nil (w : World) (base : Nat) : OwnK w base (.slice none 0 0) [] := World.ownsRow_nil _ _ _ _
theorem OwnK.grown {w w' : World} {base : Nat} {v : Value} {l : List Bool} (h : OwnK w base v l) (hg : w.grownBy w' v.ownBlock) (hb : base ≤ w.heap.size) : Below base w w' :=
  (Below.refl _ _).grown hg hb (fun k hk => (World.ownsRow.lt h k hk).1)
theorem OwnK.alloc {w : World} {base : Nat} {v : Value} {l : List Bool} (h : OwnK w base v l) (o : Obj) : OwnK (w.alloc o) base v l := World.ownsRow.alloc h o
theorem OwnK.on {w w' : World} {base : Nat} {v : Value} {l : List Bool} (h : OwnK w base v l) (hb : Below w.heap.size w w') : OwnK w' base v l :=
  World.ownsRow.kept h (row := none) ⟨hb.os, hb.tape, hb.output, hb.size, fun k hk _ => hb.block k hk⟩ (by cases v.ownBlock with
    | none => exact .inl rfl
    | some k => exact .inr (fun h => by cases h))
theorem OwnK.form {w : World} {base : Nat} {v : Value} {l : List Bool} (h : OwnK w base v l) (h0 : 0 < l.length) :
    ∃ g cap, v = .slice (some ⟨g, 0, none⟩) l.length cap ∧ base ≤ g ∧ g < w.heap.size ∧ ∀ k, k < l.length → w.cell? ⟨g, k, none⟩ = some (.bool (bb l k)) ∧ w.frozen? ⟨g, k, none⟩ = false := by
  have hc := fun g hg => World.ownsRow.cells h (g := g) hg
  rcases h.2 with ⟨_, e⟩ | ⟨g, cap, cur, rfl, hb, hh, hn, _, _, _⟩
  · omega
  · refine ⟨g, cap, rfl, hb, (Array.getElem?_eq_some_iff.1 hh).1, fun k hk => ⟨?_, by simp [World.frozen?, hh]⟩⟩
    have := hc g rfl k _ (kb_get hk)
    rwa [addr_add, Nat.zero_add] at this
theorem one_newK (w : World) (x : Value) (t : TypeId) : ∀ j u, [x][j]? = some u → (w.alloc (.cells #[x] t)).cell? ((⟨w.heap.size, 0, none⟩ : Addr).add j) = some u := by
  intro j u hj
  match j, hj with
  | 0, hj =>
    simp only [List.getElem?_cons_zero, Option.some.injEq] at hj
    subst hj
    simp [Addr.add]
theorem wpList_append_bool {w w1 : World} {ops : Array Oper} {rest : List Oper} {o : Oper} {a : Act} {Q : Exit → Act → World → Prop} (hgd : o.guard = none) (s x : Operand)
    (ho : o.op = .call { callee := .builtin .append, args := #[s, x], argTypes := #[45, 45] })
    (base : Nat) (v : Value) (L : List Bool) (y : Bool) (hs : a.eval s = v) (hown : OwnK w base v L) (e1 : w1 = w.alloc (.cells #[.bool y] 4)) (hx : a.eval x = .slice (some ⟨w.heap.size, 0, none⟩) 1 1)
    (hlen : L.length ≤ 100000) (hbase : base ≤ w.heap.size)
    (h : ∀ v' w', Hid (OwnK w' base v' (L ++ [y])) → w.grownBy w' v.ownBlock → Below base w w' → wpList Try.prog ops Q rest (a.put o.dst v') w') : wpList Try.prog ops Q (o :: rest) a w1 := by
  subst e1
  obtain ⟨i, hi, hz0, hz1, hz2⟩ := info_parts Try.infoBl
  have hO : OwnK (w.alloc (.cells #[.bool y] 4)) base v L := hown.alloc _
  refine wpList_append_own _ hgd s x _ ho base 4 i (.bool false) 1 1 Try.underlying45 hi hz0 hz1 hz2 rfl (by decide) v L.length (kb L) hs hO ⟨w.heap.size, 0, none⟩ 1 1 (kb [y]) hx rfl ?_ (kb_one [y]) (by unfold maxLen; omega) (by omega) (by simp; omega) ?_
  · exact one_newK w (.bool y) _
  · intro v' w' hv hg _
    have hg0 : w.grownBy w' v.ownBlock := grownBy_trans (World.grownBy_alloc w _ _) hg
    refine h v' w' ?_ hg0 (hown.grown hg0 hbase)
    show OwnK w' base v' (L ++ [y])
    unfold OwnK
    rw [kb_append, List.length_append]; exact hv

/-- booleans in a block -/
def KAt (w : World) (q : Nat) (l : List Bool) : Prop := ∀ k, k < l.length → w.cell? ⟨q, k, none⟩ = some (.bool (bb l k)) ∧ w.frozen? ⟨q, k, none⟩ = false
theorem KAt.same {w w' : World} {q : Nat} {l : List Bool} (h : KAt w q l) (e : w'.heap[q]? = w.heap[q]?) : KAt w' q l := fun k hk => by
  rw [World.cell?_of_block (w := w) (w' := w') (a := ⟨q, k, none⟩) e]
  refine ⟨(h k hk).1, ?_⟩
  have := (h k hk).2
  unfold World.frozen? at *
  rw [show w'.heap[(⟨q, k, none⟩ : Addr).block]? = w.heap[(⟨q, k, none⟩ : Addr).block]? from e]
  exact this
theorem KAt.set {w : World} {q : Nat} {l : List Bool} (h : KAt w q l) {p : Nat} (hp : p < l.length) (x : Bool) : KAt (w.setCell ⟨q, p, none⟩ (.bool x)) q (l.set p x) := fun k hk => by
  rw [List.length_set] at hk
  rw [bb_set hp, World.frozen?_setCell]
  refine ⟨?_, (h k hk).2⟩
  by_cases e : k = p
  · subst e
    rw [if_pos rfl]
    exact World.cell?_setCell_same _ _ _ (h k hk).1
  · rw [if_neg e, World.cell?_setCell_other _ _ _ _ (by intro h; exact e (Addr.mk.inj h).2.1.symm)]
    exact (h k hk).1
theorem Vw.kat {w : World} {q : Nat} {l : List Bool} (h : Vw w 4 q (kb l)) : KAt w q l := fun k hk => ⟨h.cell (kb_get hk), h.frozen k⟩

/-- more blocks that may turn: new ones -/
theorem Sp.grow {w w' : World} {F : List Nat} {s g i b : Nat} {X : Nat → List Nat} (h : Sp w F s g i b X) (hb : Below w.heap.size w w') (G : List Nat) (hG : ∀ f, f ∈ G → w.heap.size ≤ f ∧ f < w'.heap.size) : Sp w' (G ++ F) s g i b X := by
  have h2 := h.below hb
  obtain ⟨L, h⟩ := h
  refine ⟨L, h.row.on' hb, h.len, h.z0, h.z1, h.z2, h.z3, h.z4, h.z21, h.z22, List.mem_append_right _ h.on, fun f hf => ?_, fun c hc => ?_, h.oct, h.siz⟩
  · rcases List.mem_append.1 hf with hf | hf
    · exact (hG f hf).2
    · exact Nat.lt_of_lt_of_le (h.lt f hf) hb.size
  · obtain ⟨v, h1, q, cap, rfl, e1, e2, e3, e4⟩ := h.rd c hc
    refine ⟨_, h1, q, cap, rfl, e1, Nat.lt_of_lt_of_le e2 hb.size, fun hq => ?_, e4.same (hb.block q e2)⟩
    rcases List.mem_append.1 hq with hq | hq
    · have := (hG q hq).1; omega
    · exact e3 hq
/-- a space of a law's own, beside blocks that may turn -/
structure Lw (w0 w : World) (F : List Nat) (s g i b : Nat) (X : Nat → List Nat) : Prop where
  sp : Spc w F s g i b X
  lo : ∀ f, f ∈ F → w0.heap.size ≤ f
  bl : Below w0.heap.size w0 w
variable {w0 w w' : World} {F : List Nat} {s g i b : Nat} {X Y : Nat → List Nat}
theorem Lv.lw (h : Lv w0 w s g i b X) : Lw w0 w [s] s g i b X := ⟨h.sp, fun f hf => by simp at hf; rw [hf]; exact h.lo, h.bl⟩
theorem Lw.below (h : Lw w0 w F s g i b X) (hb : Below w.heap.size w w') : Lw w0 w' F s g i b X := ⟨h.sp.below hb, h.lo, h.bl.trans (hb.mono h.bl.size)⟩
theorem Lw.drew (h : Lw w0 w F s g i b X) (m : Nat) : Lw w0 (w.drewN m) F s g i b X := h.below (below_drewN w m)
theorem Lw.turn (h : Lw w0 w F s g i b X) (hS : Sp w' F s g i b Y) (hT : TurnF [s] w w') : Lw w0 w' F s g i b Y := ⟨⟨hS, h.sp.ok⟩, h.lo, h.bl.trans (hT.below h.bl.size (fun k hk => by simp at hk; rw [hk]; exact h.lo s h.sp.sp.onF))⟩
theorem Lw.other {q : Nat} (h : Lw w0 w F s g i b X) (hT : TurnF [q] w w') (hq : q ∈ F) (hn : q ≠ s) : Lw w0 w' F s g i b X :=
  ⟨h.sp.other hT (fun k hk => by simp at hk; rw [hk]; exact ⟨hq, hn⟩), h.lo, h.bl.trans (hT.below h.bl.size (fun k hk => by simp at hk; rw [hk]; exact h.lo q hq))⟩
theorem Lw.grow (h : Lw w0 w F s g i b X) (hb : Below w.heap.size w w') (G : List Nat) (hG : ∀ f, f ∈ G → w.heap.size ≤ f ∧ f < w'.heap.size) : Lw w0 w' (G ++ F) s g i b X :=
  ⟨⟨h.sp.sp.grow hb G hG, h.sp.ok⟩, fun f hf => by
    rcases List.mem_append.1 hf with hf | hf
    · exact Nat.le_trans h.bl.size (hG f hf).1
    · exact h.lo f hf, h.bl.trans (hb.mono h.bl.size)⟩
theorem Sp.step {F G : List Nat} (h : Sp w F s g i b X) (hT : TurnF G w w') (hs : ∀ k, k ∈ G → k ∈ F ∧ k ≠ s) (G2 : List Nat) (hG : ∀ f, f ∈ G2 → w.heap.size ≤ f ∧ f < w'.heap.size) : Sp w' (G2 ++ F) s g i b X := by
  obtain ⟨L, h⟩ := h
  refine ⟨L, h.row.turnF hT (fun hm => (hs s hm).2 rfl), h.len, h.z0, h.z1, h.z2, h.z3, h.z4, h.z21, h.z22, List.mem_append_right _ h.on, fun f hf => ?_, fun c hc => ?_, h.oct, h.siz⟩
  · rcases List.mem_append.1 hf with hf | hf
    · exact (hG f hf).2
    · exact Nat.lt_of_lt_of_le (h.lt f hf) hT.size
  · obtain ⟨v, h1, q, cap, rfl, e1, e2, e3, e4⟩ := h.rd c hc
    refine ⟨_, h1, q, cap, rfl, e1, Nat.lt_of_lt_of_le e2 hT.size, fun hq => ?_, e4.same (hT.block q e2 fun hg => e3 (hs q hg).1)⟩
    rcases List.mem_append.1 hq with hq | hq
    · have := (hG q hq).1; omega
    · exact e3 hq
theorem turn_grown {r : Option Nat} (h : w.grownBy w' r) : TurnF r.toList w w' := ⟨h.os, h.tape, h.output, h.size, fun k hk hn => h.block k hk (fun e => hn (by rw [← e]; simp))⟩
/-- one slice of the law's own has grown -/
theorem Lw.grew {r : Option Nat} (h : Lw w0 w F s g i b X) (hg : w.grownBy w' r) (hr : ∀ k, r = some k → k ∈ F ∧ k ≠ s) (G2 : List Nat) (hG : ∀ f, f ∈ G2 → w.heap.size ≤ f ∧ f < w'.heap.size) : Lw w0 w' (G2 ++ F) s g i b X :=
  ⟨⟨h.sp.sp.step (turn_grown hg) (fun k hk => hr k (by cases r <;> simp at hk; rw [hk])) G2 hG, h.sp.ok⟩, fun f hf => by
    rcases List.mem_append.1 hf with hf | hf
    · exact Nat.le_trans h.bl.size (hG f hf).1
    · exact h.lo f hf, h.bl.trans ((turn_grown hg).below h.bl.size (fun k hk => h.lo k (hr k (by cases r <;> simp at hk; rw [hk])).1))⟩
end Go.Proofs.Ytdkjmpicdkfgoaa
