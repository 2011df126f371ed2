/-
  The path of a visit in memory: nodes, and which link of each was looked at.
  A node is put in an order, ahead of it all that it needs.
  A visit under way: how it goes on.
-/
import Derived.Test.YtgkmmdkagiohgaaB6

section
set_option linter.unusedVariables false
set_option linter.unusedSimpArgs false
namespace Go.Proofs.Ytgkmmdkagiohgaa
open Go.RowKit BigFrame
set_option maxRecDepth 100000

theorem Try.infoVis : (Try.prog.info? 79).map (fun i => (i.zero, i.size, i.bytes)) = some (some (.agg #[.pointer none, .int .i64 0]), 2, 16) := by kernel_rfl
def flat (nb : Nat → Nat) : List (Nat × Nat) → List Value
  | [] => []
  | e :: r => pv (nb e.1) :: .int .i64 (e.2 : Int) :: flat nb r
theorem flat_len (nb : Nat → Nat) : ∀ L : List (Nat × Nat), (flat nb L).length = L.length * 2
  | [] => rfl
  | e :: r => by simp only [flat, List.length_cons, flat_len nb r]; omega
theorem flat_append (nb : Nat → Nat) : ∀ L K : List (Nat × Nat), flat nb (L ++ K) = flat nb L ++ flat nb K
  | [], K => rfl
  | e :: r, K => by simp only [List.cons_append, flat, flat_append nb r K]
theorem flat_one (nb : Nat → Nat) : ∀ L : List (Nat × Nat), ∀ v ∈ flat nb L, v.oneCell' = true
  | [], v, h => by simp [flat] at h
  | e :: r, v, h => by
    simp only [flat, List.mem_cons] at h
    rcases h with rfl | rfl | h
    · rfl
    · rfl
    · exact flat_one nb r v h
/-- the path: the one that was begun first stands first -/
def PathAt (w : World) (W : Nat) (nb : Nat → Nat) (v : Value) (L : List (Nat × Nat)) : Prop := w.ownsRow W 79 2 v L.length (flat nb L)
theorem PathAt.form {w : World} {W : Nat} {nb : Nat → Nat} {v : Value} {L : List (Nat × Nat)} {x n : Nat} (h : PathAt w W nb v (L ++ [(x, n)])) :
    ∃ g cap, v = .slice (some ⟨g, 0, none⟩) (L.length + 1) cap ∧ L.length + 1 ≤ cap ∧ W ≤ g ∧ g < w.heap.size ∧ w.cell? ⟨g, L.length * 2, none⟩ = some (pv (nb x)) ∧ w.cell? ⟨g, L.length * 2 + 1, none⟩ = some (.int .i64 (n : Int)) ∧ w.frozen? ⟨g, L.length * 2 + 1, none⟩ = false := by
  have h' := h
  rcases h.2 with ⟨rfl, h0⟩ | ⟨g, cap, cur, rfl, hb, hg, hn, hm, _⟩
  · simp at h0
  · have e : (L ++ [(x, n)]).length = L.length + 1 := by simp
    unfold PathAt at h'
    rw [e] at h' hn ⊢
    have e2 : flat nb (L ++ [(x, n)]) = flat nb L ++ [pv (nb x), .int .i64 (n : Int)] := by rw [flat_append]; rfl
    rw [e2] at h'
    refine ⟨g, cap, rfl, hn, hb, (Array.getElem?_eq_some_iff.1 hg).1, ?_, ?_, World.ownsRow.frozenAt h' _⟩
    · rw [World.ownsRow.cellAt h' _ (by omega), List.getElem?_append_right (by rw [flat_len]; omega), flat_len]
      simp
    · rw [World.ownsRow.cellAt h' _ (by omega), List.getElem?_append_right (by rw [flat_len]; omega), flat_len]
      simp
theorem PathAt.blk {w w' : World} {W : Nat} {nb : Nat → Nat} {v : Value} {L : List (Nat × Nat)} (h : PathAt w W nb v L) (e : ∀ k, v.ownBlock = some k → w'.heap[k]? = w.heap[k]?) : PathAt w' W nb v L := by
  obtain ⟨h1, h2⟩ := h
  refine ⟨h1, ?_⟩
  rcases h2 with h2 | ⟨g, cap, cur, rfl, hb, hg, r⟩
  · exact .inl h2
  · exact .inr ⟨g, cap, cur, rfl, hb, (e g rfl).trans hg, r⟩
theorem PathAt.own {w : World} {W : Nat} {nb : Nat → Nat} {v : Value} {L : List (Nat × Nat)} (h : PathAt w W nb v L) : ∀ k, v.ownBlock = some k → W ≤ k ∧ k < w.heap.size := fun k hk => World.ownsRow.lt h k hk
theorem PathAt.cell {w : World} {W : Nat} {nb : Nat → Nat} {v : Value} {L : List (Nat × Nat)} (h : PathAt w W nb v L) : ∀ k, v.ownBlock = some k → ∃ c, w.heap[k]? = some (.cells c 79 (0, 0)) := fun k hk => by
  rcases h.2 with ⟨rfl, _⟩ | ⟨g, cap, cur, rfl, hb, hg, r⟩
  · cases hk
  · cases hk; exact ⟨cur, hg⟩
theorem PathAt.alloc {w : World} {W : Nat} {nb : Nat → Nat} {v : Value} {L : List (Nat × Nat)} (h : PathAt w W nb v L) (x : Obj) : PathAt (w.alloc x) W nb v L := h.blk fun k hk => old_alloc w x k (h.own k hk).2
/-- the deepest one has looked at one link more -/
theorem PathAt.next {w : World} {W g cap : Nat} {nb : Nat → Nat} {L : List (Nat × Nat)} {x n : Nat} (h : PathAt w W nb (.slice (some ⟨g, 0, none⟩) (L.length + 1) cap) (L ++ [(x, n)])) (n' : Nat) :
    PathAt (w.setCell ⟨g, L.length * 2 + 1, none⟩ (.int .i64 (n' : Int))) W nb (.slice (some ⟨g, 0, none⟩) (L.length + 1) cap) (L ++ [(x, n')]) := by
  have e : (L ++ [(x, n)]).length = L.length + 1 := by simp
  have e' : (L ++ [(x, n')]).length = L.length + 1 := by simp
  unfold PathAt at h ⊢
  rw [e] at h
  rw [e']
  have h2 := World.ownsRow.stored h (L.length * 2 + 1) (.int .i64 (n' : Int))
  have e3 : (flat nb (L ++ [(x, n)])).set (L.length * 2 + 1) (.int .i64 (n' : Int)) = flat nb (L ++ [(x, n')]) := by
    rw [flat_append, flat_append, List.set_append_right _ _ (by rw [flat_len]; omega), flat_len]
    have : L.length * 2 + 1 - L.length * 2 = 1 := by omega
    rw [this]
    rfl
  rw [← e3]
  exact h2.1
/-- the deepest one is through -/
theorem PathAt.cut {w : World} {W g cap : Nat} {nb : Nat → Nat} {L : List (Nat × Nat)} {x n : Nat} (h : PathAt w W nb (.slice (some ⟨g, 0, none⟩) (L.length + 1) cap) (L ++ [(x, n)])) : PathAt w W nb (.slice (some ⟨g, 0, none⟩) L.length cap) L := by
  rcases h.2 with ⟨e, _⟩ | ⟨g', cap', cur, e, hb, hg, hnc, hcm, hcs, ht⟩
  · cases e
  · have e2 : (L ++ [(x, n)]).length = L.length + 1 := by simp
    rw [e2] at e hnc ht
    simp only [Value.slice.injEq, Option.some.injEq, Addr.mk.injEq, and_true, true_and] at e
    obtain ⟨rfl, rfl⟩ := e
    refine ⟨flat_len nb L, .inr ⟨g, cap, cur, rfl, hb, hg, by omega, hcm, hcs, ?_⟩⟩
    have h3 := congrArg (List.take (L.length * 2)) ht
    rw [List.take_take, flat_append, List.take_left' (flat_len nb L)] at h3
    rw [← h3]
    congr 1
    omega
theorem wpList_append_visit {w : World} {ops : Array Oper} {rest : List Oper} {o : Oper} {a : Act} {Q : Exit → Act → World → Prop} (hgd : o.guard = none) (s x : Operand)
    (ho : o.op = .call { callee := .builtin .append, args := #[s, x], argTypes := #[80, 80] })
    (W : Nat) (nb : Nat → Nat) (v : Value) (L : List (Nat × Nat)) (hs : a.eval s = v) (hown : PathAt w W nb v L) (g cap : Nat) (y n : Nat) (hx : a.eval x = .slice (some ⟨g, 0, none⟩) 1 cap) (h0 : w.cell? ⟨g, 0, none⟩ = some (pv (nb y))) (h1 : w.cell? ⟨g, 1, none⟩ = some (.int .i64 (n : Int)))
    (hlen : L.length + 1 ≤ 1000000) (hbase : W ≤ w.heap.size)
    (h : ∀ v' w', Hid (PathAt w' W nb v' (L ++ [(y, n)])) → Hid (w.grownBy w' v.ownBlock) → Hid (v'.ownBlock = v.ownBlock ∨ v'.ownBlock = some w.heap.size) → wpList Try.prog ops Q rest (a.put o.dst v') w') : wpList Try.prog ops Q (o :: rest) a w := by
  obtain ⟨i, hi, hz0, hz1, hz2⟩ := info_parts Try.infoVis
  refine wpList_append_own_at w hgd s x 80 ho W 79 i _ 2 16 Try.underlying80 hi hz0 hz1 hz2 rfl (by decide) v L.length (flat nb L) hs hown ⟨g, 0, none⟩ 1 cap (flat nb [(y, n)]) hx (by rw [flat_len]; rfl) ?_ (flat_one nb [(y, n)]) (by unfold maxLen; omega) (by omega) hbase ?_
  · intro j u hu
    have hj : j < 2 := by
      have := (List.getElem?_eq_some_iff.1 hu).1
      rw [flat_len] at this
      simpa using this
    rcases (show j = 0 ∨ j = 1 by omega) with rfl | rfl
    · have : u = pv (nb y) := by simpa [flat] using hu.symm
      rw [this]; exact h0
    · have : u = .int .i64 (n : Int) := by simpa [flat] using hu.symm
      rw [this]; exact h1
  · intro v' w' h1 h2 _ h4
    refine h v' w' ?_ h2 h4
    show PathAt w' W nb v' (L ++ [(y, n)])
    unfold PathAt
    rw [flat_append, List.length_append]; exact h1
end Go.Proofs.Ytgkmmdkagiohgaa
end

section
set_option linter.unusedVariables false
set_option linter.unusedSimpArgs false
namespace Go.Proofs.Ytgkmmdkagiohgaa
open Go.RowKit BigFrame
set_option maxRecDepth 100000
variable {w w' : World} {W B a M : Nat} {G : Gr} {ρ : Nat → Nat}

/-- an order in memory -/
structure OrdAt (w : World) (W : Nat) (nb : Nat → Nat) (b : Nat) (ns bs bm : Value) (O E : List Nat) : Prop where
  row : Vw w 71 b [ns, bs, bm]
  sl : SlAt w W nb ns O
  set : SetIs w W nb bs bm E
  lo : W ≤ b
  ap1 : ns.ownBlock ≠ some b
  ap2 : ¬ InS bs bm b
  ap3 : ∀ k, ns.ownBlock = some k → ¬ InS bs bm k
def OwnO (b : Nat) (ns bs bm : Value) (k : Nat) : Prop := k = b ∨ ns.ownBlock = some k ∨ InS bs bm k
variable {nb : Nat → Nat} {b : Nat} {ns bs bm : Value} {O E : List Nat}
theorem OrdAt.own (h : OrdAt w W nb b ns bs bm O E) : ∀ k, OwnO b ns bs bm k → W ≤ k ∧ k < w.heap.size := fun k hk => by
  rcases hk with rfl | hk | hk
  · exact ⟨h.lo, h.row.lt⟩
  · have := h.sl.block k hk; exact ⟨this.1, this.2.1⟩
  · exact h.set.block k hk
theorem OrdAt.turn {S : Nat → Prop} (h : OrdAt w W nb b ns bs bm O E) (hT : TurnS S w w') (hs : ∀ k, OwnO b ns bs bm k → ¬ S k) : OrdAt w' W nb b ns bs bm O E :=
  ⟨h.row.turnS hT (hs b (.inl rfl)), h.sl.blk fun k hk => hT.block k (h.sl.block k hk).2.1 (hs k (.inr (.inl hk))), h.set.turn hT fun k hk => hs k (.inr (.inr hk)), h.lo, h.ap1, h.ap2, h.ap3⟩
/-- one has been met -/
theorem OrdAt.met {y : Nat} {e : Ending} (h : OrdAt w W nb b ns bs bm O E) (hp : AddPost W nb b 1 71 [ns, bs, bm] bs bm E y w e w') (hy : y ∉ E) :
    ∃ bs' bm', OrdAt w' W nb b ns bs' bm' O (E ++ [y]) ∧ TurnS (OwnO b ns bs bm) w w' ∧ ∀ k, OwnO b ns bs' bm' k → OwnO b ns bs bm k ∨ w.heap.size ≤ k := by
  obtain ⟨bs', bm', hV, hS, hn⟩ := hp.post.2 hy
  have hT := hp.turn
  have hns : ∀ k, ns.ownBlock = some k → ¬ (k = b ∨ InS bs bm k) := fun k hk hh => by
    rcases hh with rfl | hh
    · exact h.ap1 hk
    · exact h.ap3 k hk hh
  refine ⟨bs', bm', ⟨hV, h.sl.blk fun k hk => hT.block k (h.sl.block k hk).2.1 (hns k hk), hS, h.lo, h.ap1, fun hh => ?_, fun k hk hh => ?_⟩, hT.mono fun k _ hk => ?_, fun k hk => ?_⟩
  · rcases hn b hh with h1 | h1
    · exact h.ap2 h1
    · have := h.row.lt; omega
  · rcases hn k hh with h1 | h1
    · exact h.ap3 k hk h1
    · have := (h.sl.block k hk).2.1; omega
  · rcases hk with rfl | hk
    · exact .inl rfl
    · exact .inr (.inr hk)
  · rcases hk with rfl | hk | hk
    · exact .inl (.inl rfl)
    · exact .inl (.inr (.inl hk))
    · rcases hn k hk with h1 | h1
      · exact .inl (.inr (.inr h1))
      · exact .inr h1
/-- one has got its place -/
theorem OrdAt.put {w3 w4 : World} {y : Nat} {c : Array Value} {ty : TypeId} {ns' : Value} (h : OrdAt w W nb b ns bs bm O E) (hw : w3 = w.alloc (.cells c ty)) (hs : SlAt w4 W nb ns' (O ++ [y])) (hg : w3.grownBy w4 ns.ownBlock) (hat : ns'.ownBlock = ns.ownBlock ∨ ns'.ownBlock = some w3.heap.size) :
    OrdAt (w4.setCell ⟨b, 0, none⟩ ns') W nb b ns' bs bm (O ++ [y]) E ∧ TurnS (OwnO b ns bs bm) w (w4.setCell ⟨b, 0, none⟩ ns') ∧ ∀ k, OwnO b ns' bs bm k → OwnO b ns bs bm k ∨ w.heap.size ≤ k := by
  have hsz : w3.heap.size = w.heap.size + 1 := by rw [hw]; exact size_alloc _ _
  have hT1 : TurnS (fun k => ns.ownBlock = some k) w w4 := (hw ▸ TurnS.alloc _ w _).trans (TurnS.grown hg fun k hk => hk)
  have hT2 := TurnS.set (fun k => k = b) w4 rfl 0 ns'
  have hr := h.row.turnS hT1 h.ap1
  have hn' : ∀ k, ns'.ownBlock = some k → ns.ownBlock = some k ∨ w.heap.size ≤ k := fun k hk => by
    rcases hat with h1 | h1
    · exact .inl (h1 ▸ hk)
    · have := Option.some.inj (hk.symm.trans h1); exact .inr (by omega)
  have hnb : ns'.ownBlock ≠ some b := fun e => by
    rcases hn' b e with h1 | h1
    · exact h.ap1 h1
    · have := h.row.lt; omega
  refine ⟨⟨hr.set 0 ns', hs.blk fun k hk => heap_set_other _ ⟨b, 0, none⟩ _ (fun e => hnb (hk.trans (congrArg some e))), (h.set.turn hT1 fun k hk hh => h.ap3 k hh hk).turn hT2 fun k hk e => h.ap2 (e ▸ hk), h.lo, hnb, h.ap2, fun k hk hh => ?_⟩, (hT1.mono fun k _ hk => .inr (.inl hk)).trans (hT2.mono fun k _ hk => .inl hk), fun k hk => ?_⟩
  · rcases hn' k hk with h1 | h1
    · exact h.ap3 k h1 hh
    · have := (h.set.block k hh).2; omega
  · rcases hk with rfl | hk | hk
    · exact .inl (.inl rfl)
    · rcases hn' k hk with h1 | h1
      · exact .inl (.inr (.inl h1))
      · exact .inr h1
    · exact .inl (.inr (.inr hk))

/-- what a visit leaves -/
structure VisPost (w : World) (W : Nat) (G : Gr) (b : Nat) (ns bs bm : Value) (O : List Nat) (x : Nat) (e : Ending) (w' : World) : Prop where
  ret : e = .returned (.tuple #[])
  ex : ∃ ns' bs' bm' O' E', OrdAt w' W G.nb b ns' bs' bm' O' E' ∧ OOk (G.lk 0) G.ids O' ∧ (∀ z, z ∈ E' ↔ z ∈ O') ∧ (∃ N, O' = O ++ N ∧ ∀ z ∈ N, Reach (G.lk 0) x z) ∧ x ∈ O' ∧ ∀ k, OwnO b ns' bs' bm' k → OwnO b ns bs bm k ∨ w.heap.size ≤ k
  turn : TurnS (OwnO b ns bs bm) w w'
/-- a visit under way, in memory: the path is P, the deepest one first -/
structure VisAt (w : World) (W B a M : Nat) (G : Gr) (ρ : Nat → Nat) (b : Nat) (ns bs bm : Value) (O0 : List Nat) (x : Nat) (wr : World) (v : Value) (ns' bs' bm' : Value) (O E : List Nat) (P : List (Nat × Nat)) : Prop where
  path : PathAt wr W G.nb v P.reverse
  ord : OrdAt wr W G.nb b ns' bs' bm' O E
  ok : VOk (G.lk 0) G.ids ρ x O0 O E P
  turn : TurnS (OwnO b ns bs bm) w wr
  own : ∀ k, OwnO b ns' bs' bm' k → OwnO b ns bs bm k ∨ w.heap.size ≤ k
  pnew : ∀ k, v.ownBlock = some k → w.heap.size ≤ k ∧ ¬ OwnO b ns' bs' bm' k
  gr : GrMem wr B a M G
def VisRel (w : World) (W B a M : Nat) (G : Gr) (ρ : Nat → Nat) (b : Nat) (ns bs bm : Value) (O0 : List Nat) (x : Nat) (g : Nat) (v : Value) (wr : World) : Prop :=
  ∃ ns' bs' bm' O E P, VisAt w W B a M G ρ b ns bs bm O0 x wr v ns' bs' bm' O E P ∧ 1100 < O.length + E.length + g
end Go.Proofs.Ytgkmmdkagiohgaa
end

section
set_option linter.unusedVariables false
set_option linter.unusedSimpArgs false
namespace Go.Proofs.Ytgkmmdkagiohgaa
open Go.RowKit BigFrame
set_option maxRecDepth 100000
variable {w w' wr : World} {W B a M : Nat} {G : Gr} {ρ : Nat → Nat} {b : Nat} {ns bs bm ns' bs' bm' v : Value} {O0 O E : List Nat} {x : Nat} {P : List (Nat × Nat)}

theorem own_gr (hG : ∀ k r, G.own k = some r → k < W) (h0 : ∀ k, OwnO b ns bs bm k → W ≤ k) : ∀ k, (∃ r, G.own k = some r) → ¬ OwnO b ns bs bm k := fun k ⟨r, hr⟩ hk => by
  have := hG k r hr
  have := h0 k hk
  omega
/-- what is in a block of the visit's own order, or of its path, lies from W on -/
theorem VisAt.lowO (h : VisAt w W B a M G ρ b ns bs bm O0 x wr v ns' bs' bm' O E P) : ∀ k, OwnO b ns' bs' bm' k → W ≤ k ∧ k < wr.heap.size := h.ord.own
theorem VisAt.grow (h : VisAt w W B a M G ρ b ns bs bm O0 x wr v ns' bs' bm' O E P) (hW : W ≤ w.heap.size) (hG : ∀ k r, G.own k = some r → k < W) {S : Nat → Prop} (hT : TurnS S wr w') (hs : ∀ k, S k → OwnO b ns' bs' bm' k ∨ v.ownBlock = some k) : TurnS (OwnO b ns bs bm) w w' ∧ GrMem w' B a M G := by
  refine ⟨h.turn.then hT fun j hj hh => ?_, h.gr.turn hT fun k ⟨r, hr⟩ hh => ?_⟩
  · rcases hs j hh with h1 | h1
    · rcases h.own j h1 with h2 | h2
      · exact h2
      · omega
    · have := (h.pnew j h1).1; omega
  · have hk := hG k r hr
    rcases hs k hh with h1 | h1
    · have := (h.ord.own k h1).1; omega
    · have := (h.pnew k h1).1; omega
theorem VisAt.drew (h : VisAt w W B a M G ρ b ns bs bm O0 x wr v ns' bs' bm' O E P) (m : Nat) : VisAt w W B a M G ρ b ns bs bm O0 x (wr.drewN m) v ns' bs' bm' O E P :=
  ⟨h.path.blk fun _ _ => rfl, h.ord.turn (TurnS.drew (fun _ => False) wr m) fun _ _ h => h, h.ok, h.turn.trans (TurnS.drew _ _ _), h.own, h.pnew, h.gr.drew m⟩
/-- the deepest one has looked at one link more, which is in the order -/
theorem VisAt.next {g cap p n : Nat} {r : List (Nat × Nat)} (h : VisAt w W B a M G ρ b ns bs bm O0 x wr v ns' bs' bm' O E ((p, n) :: r)) (hv : v = .slice (some ⟨g, 0, none⟩) (r.length + 1) cap) (n' : Nat) (ok : VOk (G.lk 0) G.ids ρ x O0 O E ((p, n') :: r)) (hW : W ≤ w.heap.size) (hG : ∀ k r, G.own k = some r → k < W) :
    VisAt w W B a M G ρ b ns bs bm O0 x (wr.setCell ⟨g, r.length * 2 + 1, none⟩ (.int .i64 (n' : Int))) v ns' bs' bm' O E ((p, n') :: r) := by
  have hT := TurnS.set (fun k => v.ownBlock = some k) wr (s := g) (by rw [hv]; rfl) (r.length * 2 + 1) (.int .i64 (n' : Int))
  obtain ⟨t1, t2⟩ := h.grow hW hG hT fun k hk => .inr hk
  have hp := h.path
  subst hv
  rw [List.reverse_cons] at hp
  have hl : r.reverse.length = r.length := List.length_reverse
  have hpn := h.pnew
  rw [← hl] at hp hT t1 t2 hpn ⊢
  refine ⟨?_, h.ord.turn hT fun k h1 h2 => (h.pnew k h2).2 h1, ok, t1, h.own, hpn, t2⟩
  rw [List.reverse_cons]
  exact hp.next n'
/-- one that was not met: the path is longer by it -/
theorem VisAt.push {w1 w2 w3 w4 : World} {g cap p n y : Nat} {r : List (Nat × Nat)} {c : Array Value} {ty : TypeId} {v' : Value} {e : Ending} (h : VisAt w W B a M G ρ b ns bs bm O0 x wr v ns' bs' bm' O E ((p, n) :: r)) (hv : v = .slice (some ⟨g, 0, none⟩) (r.length + 1) cap) (hW : W ≤ w.heap.size) (hG : ∀ k r, G.own k = some r → k < W)
    (hw1 : w1 = wr.setCell ⟨g, r.length * 2 + 1, none⟩ (.int .i64 ((n + 1 : Nat) : Int))) (hp : AddPost W G.nb b 1 71 [ns', bs', bm'] bs' bm' E y w1 e w2) (hy : y ∉ E)
    (hw3 : w3 = w2.alloc (.cells c ty)) (hp4 : PathAt w4 W G.nb v' ((r.reverse ++ [(p, n + 1)]) ++ [(y, 0)])) (hg4 : w3.grownBy w4 v.ownBlock) (hat : v'.ownBlock = v.ownBlock ∨ v'.ownBlock = some w3.heap.size)
    (ok : VOk (G.lk 0) G.ids ρ x O0 O (E ++ [y]) ((y, 0) :: (p, n + 1) :: r)) : ∃ bs2 bm2, VisAt w W B a M G ρ b ns bs bm O0 x w4 v' ns' bs2 bm2 O (E ++ [y]) ((y, 0) :: (p, n + 1) :: r) := by
  have hT0 := TurnS.set (fun k => v.ownBlock = some k) wr (s := g) (by rw [hv]; rfl) (r.length * 2 + 1) (.int .i64 ((n + 1 : Nat) : Int))
  rw [← hw1] at hT0
  have o1 := h.ord.turn hT0 fun k h1 h2 => (h.pnew k h2).2 h1
  obtain ⟨bs2, bm2, o2, hT2, hn2⟩ := o1.met hp hy
  have s1 : w1.heap.size = wr.heap.size := by rw [hw1]; exact size_set _ _ _
  have s2 := hT2.size
  have s3 : w3.heap.size = w2.heap.size + 1 := by rw [hw3]; exact size_alloc _ _
  have hwr : w.heap.size ≤ wr.heap.size := h.turn.size
  have hpb : ∀ k, v.ownBlock = some k → W ≤ k ∧ k < wr.heap.size := h.path.own
  have hT3 : TurnS (fun k => v.ownBlock = some k) w2 w4 := (hw3 ▸ TurnS.alloc _ w2 _).trans (TurnS.grown hg4 fun k hk => hk)
  have hvo2 : ∀ k, v.ownBlock = some k → ¬ OwnO b ns' bs2 bm2 k := fun k hk hh => by
    rcases hn2 k hh with h1 | h1
    · exact (h.pnew k hk).2 h1
    · have := (hpb k hk).2; omega
  have o4 := o2.turn hT3 fun k h1 h2 => hvo2 k h2 h1
  have hTall : TurnS (fun k => OwnO b ns' bs' bm' k ∨ v.ownBlock = some k) wr w4 := ((hT0.mono fun k _ hk => .inr hk).trans (hT2.mono fun k _ hk => .inl hk)).trans (hT3.mono fun k _ hk => .inr hk)
  obtain ⟨t1, t2⟩ := h.grow hW hG hTall fun k hk => hk
  refine ⟨bs2, bm2, by rw [List.reverse_cons, List.reverse_cons]; exact hp4, o4, ok, t1, fun k hk => ?_, fun k hk => ?_, t2⟩
  · rcases hn2 k hk with h1 | h1
    · exact h.own k h1
    · exact .inr (by omega)
  · rcases hat with h1 | h1
    · exact ⟨(h.pnew k (h1 ▸ hk)).1, hvo2 k (h1 ▸ hk)⟩
    · have hk2 := Option.some.inj (hk.symm.trans h1)
      refine ⟨by omega, fun hh => ?_⟩
      have := (o2.own k hh).2
      omega
/-- the deepest one gets its place -/
theorem VisAt.pop {w3 w4 : World} {g cap p n : Nat} {r : List (Nat × Nat)} {c : Array Value} {ty : TypeId} {ns2 : Value} (h : VisAt w W B a M G ρ b ns bs bm O0 x wr v ns' bs' bm' O E ((p, n) :: r)) (hv : v = .slice (some ⟨g, 0, none⟩) (r.length + 1) cap) (hW : W ≤ w.heap.size) (hG : ∀ k r, G.own k = some r → k < W)
    (hw3 : w3 = wr.alloc (.cells c ty)) (hs : SlAt w4 W G.nb ns2 (O ++ [p])) (hg : w3.grownBy w4 ns'.ownBlock) (hat : ns2.ownBlock = ns'.ownBlock ∨ ns2.ownBlock = some w3.heap.size)
    (ok : VOk (G.lk 0) G.ids ρ x O0 (O ++ [p]) E r) : VisAt w W B a M G ρ b ns bs bm O0 x (w4.setCell ⟨b, 0, none⟩ ns2) (.slice (some ⟨g, 0, none⟩) r.length cap) ns2 bs' bm' (O ++ [p]) E r := by
  obtain ⟨o4, hT4, hn4⟩ := h.ord.put hw3 hs hg hat
  obtain ⟨t1, t2⟩ := h.grow hW hG hT4 fun k hk => .inl hk
  have hl : r.reverse.length = r.length := List.length_reverse
  have hp := h.path
  have hpb : ∀ k, v.ownBlock = some k → W ≤ k ∧ k < wr.heap.size := h.path.own
  have hpn := h.pnew
  have hwr : w.heap.size ≤ wr.heap.size := h.turn.size
  subst hv
  rw [List.reverse_cons, ← hl] at hp
  refine ⟨by rw [← hl]; exact hp.cut.blk fun k hk => hT4.block k (hpb k hk).2 (hpn k hk).2, o4, ok, t1, fun k hk => ?_, fun k hk => ⟨(hpn k hk).1, fun hh => ?_⟩, t2⟩
  · rcases hn4 k hk with h1 | h1
    · exact h.own k h1
    · exact .inr (by omega)
  · rcases hn4 k hh with h1 | h1
    · exact (hpn k hk).2 h1
    · have := (hpb k hk).2; omega
end Go.Proofs.Ytgkmmdkagiohgaa
end
