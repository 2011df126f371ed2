/-
  The document's own disk: one more waits, one more is told.
-/
import Derived.Test.YtmaodnidodoadaaRa
import Derived.Deep.AppendLies
namespace Go.Proofs.Ytmaodnidodoadaa
open Go.RowKit BigFrame

theorem Try.infoQ : (Try.prog.info? 70).map (fun i => (i.zero, i.size, i.bytes)) = some (some (.agg #[.int .i64 0, .slice none 0 0]), 2, 32) := by kernel_rfl
def qcell (U : Nat → Value) (ws : List (Nat × List Nat)) (j : Nat) : List Value := [.int .i64 (((wtAt ws j).1 : Nat) : Int), U j]
def qcells (U : Nat → Value) (ws : List (Nat × List Nat)) : List Value := (List.range ws.length).flatMap (qcell U ws)
theorem qcells_length (U : Nat → Value) (ws : List (Nat × List Nat)) : (qcells U ws).length = ws.length * 2 := by
  rw [qcells, flat_length (qcell U ws) 2 _ (fun _ _ => rfl), List.length_range]
theorem qcells_at (U : Nat → Value) (ws : List (Nat × List Nat)) {i : Nat} (h : i < ws.length) {r : Nat} (hr : r < 2) : (qcells U ws)[i * 2 + r]? = (qcell U ws i)[r]? := by
  have e := flat_get (qcell U ws) 2 (List.range ws.length) (fun _ _ => rfl) i (by simpa using h) r hr
  rw [List.getElem_range] at e
  exact e
theorem qcells_get {U : Nat → Value} {ws : List (Nat × List Nat)} {j : Nat} {u : Value} (h : (qcells U ws)[j]? = some u) : ∃ i, i < ws.length ∧ ((j = i * 2 ∧ u = .int .i64 (((wtAt ws i).1 : Nat) : Int)) ∨ (j = i * 2 + 1 ∧ u = U i)) := by
  have hj : j < ws.length * 2 := by have := (List.getElem?_eq_some_iff.1 h).1; rwa [qcells_length] at this
  have hi : j / 2 < ws.length := by omega
  have e := qcells_at U ws hi (r := j % 2) (by omega)
  rw [show j / 2 * 2 + j % 2 = j by omega, h] at e
  refine ⟨j / 2, hi, ?_⟩
  rcases Nat.mod_two_eq_zero_or_one j with hr | hr
  · rw [hr] at e
    exact .inl ⟨by omega, by simpa [qcell] using e⟩
  · rw [hr] at e
    exact .inr ⟨by omega, by simpa [qcell] using e⟩
theorem qcells_one {U : Nat → Value} {ws : List (Nat × List Nat)} (hU : ∀ i, i < ws.length → (U i).oneCell' = true) : ∀ u ∈ qcells U ws, u.oneCell' = true := by
  intro u hu
  obtain ⟨j, hj⟩ := List.getElem?_of_mem hu
  obtain ⟨i, hi, ⟨_, rfl⟩ | ⟨_, rfl⟩⟩ := qcells_get hj
  · rfl
  · exact hU i hi
theorem WaitsAt.src {w : World} {M : List Nat} {G nw cap : Nat} {a : Option Addr} {ws : List (Nat × List Nat)} {U : Nat → Value} (h : WaitsAt w M G (.slice a nw cap) ws U) (hn : ws.length = nw) :
    (a = none → cap = 0 ∧ ws = []) ∧ (∀ ad, a = some ad → ∀ j u, (qcells U ws)[j]? = some u → w.cell? (ad.add j) = some u) ∧ (∀ i, i < ws.length → (U i).oneCell' = true) := by
  subst hn
  obtain ⟨a', cap', e, hc, hnil, h0⟩ := h
  cases e
  refine ⟨fun e => ⟨hnil e, ?_⟩, fun ad e j u hu => ?_, fun i hi => ?_⟩
  · rcases h0 with h0 | ⟨b, e2, _⟩
    · exact List.eq_nil_of_length_eq_zero h0
    · rw [e] at e2; cases e2
  · obtain ⟨i, hi, hc2⟩ := qcells_get hu
    rcases h0 with h0 | ⟨b, e2, _, hx⟩
    · omega
    · rw [e] at e2
      obtain rfl := Option.some.inj e2
      rcases hc2 with ⟨rfl, rfl⟩ | ⟨rfl, rfl⟩
      · rw [addr_add, Nat.zero_add]; exact (hx i hi).1
      · rw [addr_add, Nat.zero_add]; exact (hx i hi).2.1
  · rcases h0 with h0 | ⟨b, e2, _, hx⟩
    · omega
    · obtain ⟨_, _, e3, _⟩ := (hx i hi).2.2
      rw [e3]; rfl
theorem wpList_append_q {w : World} {ops : Array Oper} {rest : List Oper} {o : Oper} {a : Act} {Q : Exit → Act → World → Prop} (hgd : o.guard = none) (s x : Operand)
    (ho : o.op = .call { callee := .builtin .append, args := #[s, x], argTypes := #[37, 37] })
    (base : Nat) (hs : a.eval s = .slice none 0 0) (sp : Option Addr) (n sCap : Nat) (M : List Nat) (G : Nat) (ws : List (Nat × List Nat)) (U : Nat → Value) (hx : a.eval x = .slice sp n sCap) (hm : ws.length = n) (hsrc : WaitsAt w M G (.slice sp n sCap) ws U)
    (hlen : n ≤ 1000000) (hbase : base ≤ w.heap.size)
    (h : ∀ v' w', Hid (w'.ownsRow base 70 2 v' n (qcells U ws)) → Below base w w' → wpList Try.prog ops Q rest (a.put o.dst v') w') : wpList Try.prog ops Q (o :: rest) a w := by
  subst hm
  obtain ⟨i, hi, hz0, hz1, hz2⟩ := info_parts Try.infoQ
  obtain ⟨s1, s2, s3⟩ := hsrc.src rfl
  cases sp with
  | none =>
    obtain ⟨rfl, rfl⟩ := s1 rfl
    exact wpList_append_own_none hgd s x _ ho base 70 i 2 Try.underlying37 hi (.slice none 0 0) 0 [] hs (World.ownsRow_nil _ _ _ _) hx (h _ _ (Lib.hid (World.ownsRow_nil _ _ _ _)) (Below.refl _ _))
  | some ad =>
    refine wpList_append_own w hgd s x _ ho base 70 i _ 2 32 Try.underlying37 hi hz0 hz1 hz2 rfl (by decide) (.slice none 0 0) 0 [] hs (World.ownsRow_nil _ _ _ _) ad ws.length sCap (qcells U ws) hx (qcells_length _ _) (s2 ad rfl) (qcells_one s3) (by unfold maxLen; omega) (by omega) hbase ?_
    intro v' w' hv hg _
    refine h v' w' ?_ ((Below.refl _ _).grown hg hbase (fun k hk => by cases hk))
    have := hv
    rw [Nat.zero_add, List.nil_append] at this
    exact Lib.hid this
/-- the list with one more -/
theorem waits_more {w w1 : World} {M : List Nat} {G nw a : Nat} {v x : Value} {l : List Nat} {ws : List (Nat × List Nat)} {U : Nat → Value} (ho : w1.ownsRow w.heap.size 70 2 v (nw + 1) (qcells U ws ++ [.int .i64 (a : Int), x])) (hn : ws.length = nw) (hM : ∀ k ∈ M, k < w.heap.size)
    (hold : ∀ j, j < nw → Kept w1 M G (U j) (wtAt ws j).2) (hx : Kept w1 M G x l) : WaitsAt w1 M G v (ws ++ [(a, l)]) (fun j => if j = nw then x else U j) := by
  have hc := fun g hg => World.ownsRow.cells ho (g := g) hg
  have hlt := World.ownsRow.lt ho
  rcases ho.2 with ⟨_, e⟩ | ⟨g, cap, cur, rfl, hg, _, hnc, _⟩
  · omega
  · have hlen : (ws ++ [(a, l)]).length = nw + 1 := by simp [hn]
    refine ⟨_, cap, by rw [hlen], by rw [hlen]; exact hnc, (fun e => by cases e), .inr ⟨g, rfl, ⟨fun e => by have := hM g e; omega, (hlt g rfl).2⟩, fun j hj => ?_⟩⟩
    rw [hlen] at hj
    show _ ∧ w1.cell? ⟨g, j * 2 + 1, none⟩ = some (if j = nw then x else U j) ∧ Kept w1 M G (if j = nw then x else U j) _
    by_cases e : j = nw
    · subst e
      rw [if_pos rfl, wtAt_last hn]
      refine ⟨?_, ?_, hx⟩
      · have := hc g rfl (j * 2) (.int .i64 (a : Int)) (by rw [List.getElem?_append_right (by rw [qcells_length, hn]; exact Nat.le_refl _), qcells_length, hn, Nat.sub_self]; rfl)
        rwa [addr_add, Nat.zero_add] at this
      · have := hc g rfl (j * 2 + 1) x (by rw [List.getElem?_append_right (by rw [qcells_length, hn]; omega), qcells_length, hn, Nat.add_sub_cancel_left]; rfl)
        rwa [addr_add, Nat.zero_add] at this
    · have hj2 : j < ws.length := by omega
      rw [if_neg e, wtAt_append hj2]
      refine ⟨?_, ?_, hold j (by omega)⟩
      · have := hc g rfl (j * 2) (.int .i64 (((wtAt ws j).1 : Nat) : Int)) (by rw [List.getElem?_append_left (by rw [qcells_length]; omega)]; exact qcells_at U ws hj2 (r := 0) (by omega))
        rwa [addr_add, Nat.zero_add] at this
      · have := hc g rfl (j * 2 + 1) (U j) (by rw [List.getElem?_append_left (by rw [qcells_length]; omega)]; exact qcells_at U ws hj2 (r := 1) (by omega))
        rwa [addr_add, Nat.zero_add] at this
theorem IsRf.waited {w w1 : World} {B G a : Nat} {A : RLies} {R : List Nat} {d : Dk} {v : Value} {l : List Nat} {U' : Nat → Value} (h : IsRf w B G A R d) (hb : Below w.heap.size w w1) (hW : WaitsAt w1 (A.foot G ++ R) G v (d.waits ++ [(a, l)]) U') (ha : a < d.n) (hl : l.length = 128) (hm : d.waits.length < 1000) :
    IsRf (w1.setCell ⟨G, 1, none⟩ v) B G { A with vW := v, U := U' } R (d.waited (a, l)) ∧ Step w (A.foot G) (w1.setCell ⟨G, 1, none⟩ v) (A.foot G) := by
  have h1 := h.read hb
  have hst : Step w1 (A.foot G) (w1.setCell ⟨G, 1, none⟩ v) (A.foot G) := (Step.refl _ _).setCell _ _ _ (RLies.mem_G G A)
  refine ⟨h1.head (A' := { A with vW := v, U := U' }) ?_ hst (fun k hk => by rw [Below.heap_setCell _ _ _ _ hk]) rfl rfl rfl rfl rfl (hW.step (hst.beside R)) (fun e => (h1.keep e).step (hst.beside R)) (h.fine.waited ha hl hm) rfl (fun _ _ => rfl), (Step.of_below hb _).trans hst⟩
  rw [heap_setCell_same _ _ _ _ _ _ h1.hdr]
  simp [rcells, Dk.waited, leftN]
theorem IsRf.growL {w w1 w7 : World} {B G g m cap a : Nat} {A : RLies} {R : List Nat} {d : Dk} (h : IsRf w B G A R d) (hB : B ≤ w.heap.size) (hb : Below w.heap.size w w1) (hg : w1.grownBy w7 A.vL.ownBlock) (hat : A.vL.ownBlock = some g ∨ w.heap.size ≤ g) (hlt : g < w7.heap.size)
    (ho : w7.ownsRow B 3 1 (.slice (some ⟨g, 0, none⟩) m cap) m (icells d.log ++ [.int .i64 ((a : Nat) : Int)])) (hm : m = d.log.length + 1) (hlog : d.log.length < 1000) :
    IsRf (w7.setCell ⟨G, 6, none⟩ (.slice (some ⟨g, 0, none⟩) m cap)) B G { A with vL := .slice (some ⟨g, 0, none⟩) m cap } R (d.logged a) ∧
      Step w (A.foot G) (w7.setCell ⟨G, 6, none⟩ (.slice (some ⟨g, 0, none⟩) m cap)) (({ A with vL := .slice (some ⟨g, 0, none⟩) m cap } : RLies).foot G) := by
  obtain ⟨gn1, gn2⟩ := h.gne
  have hGlt := (h.over G (RLies.mem_G G A)).2.2
  have hglt := (h.over A.g (RLies.mem_g G A)).2.2
  have hw7 : ∀ k, k < w.heap.size → A.vL.ownBlock ≠ some k → w7.heap[k]? = w.heap[k]? := fun k hk hne => by
    rw [hg.block k (Nat.lt_of_lt_of_le hk hb.size) (fun e => hne (by simpa using e.symm)), hb.block k hk]
  have hsz : w.heap.size ≤ w7.heap.size := Nat.le_trans hb.size hg.size
  have hgg : g ≠ G ∧ g ≠ A.g ∧ B ≤ g ∧ g ∉ R := by
    rcases hat with e | e
    · have := h.over g (RLies.mem_l e)
      exact ⟨(gn2 g e).1, (gn2 g e).2, this.1, this.2.1⟩
    · exact ⟨by omega, by omega, by omega, fun e2 => by have := h.under g e2; omega⟩
  have hst : Step w (A.foot G) (w7.setCell ⟨G, 6, none⟩ (.slice (some ⟨g, 0, none⟩) m cap)) (({ A with vL := .slice (some ⟨g, 0, none⟩) m cap } : RLies).foot G) := by
    refine ⟨hg.os.trans hb.os, hg.tape.trans hb.tape, hg.output.trans hb.output, by simpa [World.setCell] using hsz, fun k hk hf => ?_, fun k hk => ?_⟩
    · have hkG : k ≠ G := fun e => hf (e ▸ RLies.mem_G G A)
      rw [Below.heap_setCell _ _ _ _ hkG]
      exact hw7 k hk (fun e => hf (RLies.mem_l e))
    · simp only [RLies.foot, Value.ownBlock, Option.toList, List.mem_cons, List.not_mem_nil, or_false] at hk
      rcases hk with e | e | e
      · rw [e]; exact .inl (RLies.mem_G G A)
      · rw [e]; exact .inl (RLies.mem_g G A)
      · rw [e]
        exact hat.imp RLies.mem_l id
  have hsx := hst.beside R
  refine ⟨⟨h.fine.logged hlog, ?_, ?_, h.room, fun i hi => (h.rows i hi).step hsx, h.waits.step hsx, fun e => (h.keep e).step hsx, ?_, ?_, fun k hk => ?_, fun k hk => Nat.lt_of_lt_of_le (h.under k hk) hst.size⟩, hst⟩
  · have hG7 : w7.heap[G]? = some (.cells (rcells A d) 39 (0, 0)) := by
      rw [hw7 G hGlt (fun e => (gn2 G e).1 rfl)]; exact h.hdr
    rw [heap_setCell_same _ _ _ _ _ _ hG7]
    simp [rcells, Dk.logged, leftN]
  · refine h.slots.block ?_
    rw [Below.heap_setCell _ _ _ _ gn1]
    exact hw7 _ hglt (fun e => (gn2 _ e).2 rfl)
  · have e : icells (d.logged a).log = icells d.log ++ [.int .i64 ((a : Nat) : Int)] := by simp [icells, Dk.logged]
    have e2 : (d.logged a).log.length = m := by simp [Dk.logged, hm]
    rw [e, e2]
    refine ownsRow_block ho (fun k hk => Below.heap_setCell _ _ _ _ ?_)
    have : k = g := by simpa [Value.ownBlock, eq_comm] using hk
    rw [this]; exact hgg.1
  · simp only [RLies.foot, Value.ownBlock, Option.toList, List.nodup_cons, List.mem_cons, List.not_mem_nil, or_false, not_or, not_false_eq_true, List.nodup_nil, and_true]
    exact ⟨⟨Ne.symm gn1, Ne.symm hgg.1⟩, Ne.symm hgg.2.1⟩
  · simp only [RLies.foot, Value.ownBlock, Option.toList, List.mem_cons, List.not_mem_nil, or_false] at hk
    have hs : ∀ k, k < w.heap.size → k < (w7.setCell ⟨G, 6, none⟩ (.slice (some ⟨g, 0, none⟩) m cap)).heap.size := fun k hk => Nat.lt_of_lt_of_le hk hst.size
    rcases hk with e | e | e
    · subst e; exact ⟨(h.over _ (RLies.mem_G _ A)).1, (h.over _ (RLies.mem_G _ A)).2.1, hs _ hGlt⟩
    · subst e; exact ⟨(h.over _ (RLies.mem_g G A)).1, (h.over _ (RLies.mem_g G A)).2.1, hs _ hglt⟩
    · subst e; exact ⟨hgg.2.2.1, hgg.2.2.2, by simpa [World.setCell] using hlt⟩
end Go.Proofs.Ytmaodnidodoadaa
