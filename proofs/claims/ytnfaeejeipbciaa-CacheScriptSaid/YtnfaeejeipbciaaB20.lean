/-
  The document's own disk: one more waits, one more is told.
  The document's own disk: Write.
  Steps that reach wider: a row grown beside a disk; a disk beside many blocks that turn.
  The document's own disk: New.
-/
import Derived.Test.YtnfaeejeipbciaaB19
import Derived.Deep.AppendLies
import Derived.Test.YtnfaeejeipbciaaB15
import Derived.Test.YtnfaeejeipbciaaB9

section
set_option linter.unusedVariables false
set_option linter.unusedSimpArgs false
namespace Go.Proofs.Ytnfaeejeipbciaa
open Go.RowKit BigFrame

theorem Try.infoQ : (Try.prog.info? 101).map (fun i => (i.zero, i.size, i.bytes)) = some (some (.agg #[.int .i64 0, .slice none 0 0]), 2, 32) := by kernel_rfl
def qcell (U : Nat → Value) (ws : List (Nat × List Nat)) (j : Nat) : List Value := [.int .i64 (((wtAt ws j).1 : Nat) : Int), U j]
def qcells (U : Nat → Value) (ws : List (Nat × List Nat)) : List Value := (List.range ws.length).flatMap (qcell U ws)
theorem qcells_length (U : Nat → Value) (ws : List (Nat × List Nat)) : (qcells U ws).length = ws.length * 2 := by
  rw [qcells, flat_length (qcell U ws) 2 _ (fun _ _ => rfl), List.length_range]
theorem qcells_at (U : Nat → Value) (ws : List (Nat × List Nat)) {i : Nat} (h : i < ws.length) {r : Nat} (hr : r < 2) : (qcells U ws)[i * 2 + r]? = (qcell U ws i)[r]? := by
  have e := flat_get (qcell U ws) 2 (List.range ws.length) (fun _ _ => rfl) i (by simpa using h) r hr
  rw [List.getElem_range] at e
  exact e
theorem qcells_get {U : Nat → Value} {ws : List (Nat × List Nat)} {j : Nat} {u : Value} (h : (qcells U ws)[j]? = some u) : ∃ i, i < ws.length ∧ ((j = i * 2 ∧ u = .int .i64 (((wtAt ws i).1 : Nat) : Int)) ∨ (j = i * 2 + 1 ∧ u = U i)) := by
  have hj : j < ws.length * 2 := by have := (List.getElem?_eq_some_iff.1 h).1; rwa [qcells_length] at this
  have hi : j / 2 < ws.length := by omega
  have e := qcells_at U ws hi (r := j % 2) (by omega)
  rw [show j / 2 * 2 + j % 2 = j by omega, h] at e
  refine ⟨j / 2, hi, ?_⟩
  rcases Nat.mod_two_eq_zero_or_one j with hr | hr
  · rw [hr] at e
    exact .inl ⟨by omega, by simpa [qcell] using e⟩
  · rw [hr] at e
    exact .inr ⟨by omega, by simpa [qcell] using e⟩
theorem qcells_one {U : Nat → Value} {ws : List (Nat × List Nat)} (hU : ∀ i, i < ws.length → (U i).oneCell' = true) : ∀ u ∈ qcells U ws, u.oneCell' = true := by
  intro u hu
  obtain ⟨j, hj⟩ := List.getElem?_of_mem hu
  obtain ⟨i, hi, ⟨_, rfl⟩ | ⟨_, rfl⟩⟩ := qcells_get hj
  · rfl
  · exact hU i hi
theorem WaitsAt.src {w : World} {M : List Nat} {G nw cap : Nat} {a : Option Addr} {ws : List (Nat × List Nat)} {U : Nat → Value} (h : WaitsAt w M G (.slice a nw cap) ws U) (hn : ws.length = nw) :
    (a = none → cap = 0 ∧ ws = []) ∧ (∀ ad, a = some ad → ∀ j u, (qcells U ws)[j]? = some u → w.cell? (ad.add j) = some u) ∧ (∀ i, i < ws.length → (U i).oneCell' = true) := by
  subst hn
  obtain ⟨a', cap', e, hc, hnil, h0⟩ := h
  cases e
  refine ⟨fun e => ⟨hnil e, ?_⟩, fun ad e j u hu => ?_, fun i hi => ?_⟩
  · rcases h0 with h0 | ⟨b, e2, _⟩
    · exact List.eq_nil_of_length_eq_zero h0
    · rw [e] at e2; cases e2
  · obtain ⟨i, hi, hc2⟩ := qcells_get hu
    rcases h0 with h0 | ⟨b, e2, _, hx⟩
    · omega
    · rw [e] at e2
      obtain rfl := Option.some.inj e2
      rcases hc2 with ⟨rfl, rfl⟩ | ⟨rfl, rfl⟩
      · rw [addr_add, Nat.zero_add]; exact (hx i hi).1
      · rw [addr_add, Nat.zero_add]; exact (hx i hi).2.1
  · rcases h0 with h0 | ⟨b, e2, _, hx⟩
    · omega
    · obtain ⟨_, _, e3, _⟩ := (hx i hi).2.2
      rw [e3]; rfl
theorem wpList_append_q {w : World} {ops : Array Oper} {rest : List Oper} {o : Oper} {a : Act} {Q : Exit → Act → World → Prop} (hgd : o.guard = none) (s x : Operand)
    (ho : o.op = .call { callee := .builtin .append, args := #[s, x], argTypes := #[41, 41] })
    (base : Nat) (hs : a.eval s = .slice none 0 0) (sp : Option Addr) (n sCap : Nat) (M : List Nat) (G : Nat) (ws : List (Nat × List Nat)) (U : Nat → Value) (hx : a.eval x = .slice sp n sCap) (hm : ws.length = n) (hsrc : WaitsAt w M G (.slice sp n sCap) ws U)
    (hlen : n ≤ 1000000) (hbase : base ≤ w.heap.size)
    (h : ∀ v' w', Hid (w'.ownsRow base 101 2 v' n (qcells U ws)) → Below base w w' → wpList Try.prog ops Q rest (a.put o.dst v') w') : wpList Try.prog ops Q (o :: rest) a w := by
  subst hm
  obtain ⟨i, hi, hz0, hz1, hz2⟩ := info_parts Try.infoQ
  obtain ⟨s1, s2, s3⟩ := hsrc.src rfl
  cases sp with
  | none =>
    obtain ⟨rfl, rfl⟩ := s1 rfl
    exact wpList_append_own_none hgd s x _ ho base 101 i 2 Try.underlying41 hi (.slice none 0 0) 0 [] hs (World.ownsRow_nil _ _ _ _) hx (h _ _ (Lib.hid (World.ownsRow_nil _ _ _ _)) (Below.refl _ _))
  | some ad =>
    refine wpList_append_own w hgd s x _ ho base 101 i _ 2 32 Try.underlying41 hi hz0 hz1 hz2 rfl (by decide) (.slice none 0 0) 0 [] hs (World.ownsRow_nil _ _ _ _) ad ws.length sCap (qcells U ws) hx (qcells_length _ _) (s2 ad rfl) (qcells_one s3) (by unfold maxLen; omega) (by omega) hbase ?_
    intro v' w' hv hg _
    refine h v' w' ?_ ((Below.refl _ _).grown hg hbase (fun k hk => by cases hk))
    have := hv
    rw [Nat.zero_add, List.nil_append] at this
    exact Lib.hid this
/-- the list with one more -/
theorem waits_more {w w1 : World} {M : List Nat} {G nw a : Nat} {v x : Value} {l : List Nat} {ws : List (Nat × List Nat)} {U : Nat → Value} (ho : w1.ownsRow w.heap.size 101 2 v (nw + 1) (qcells U ws ++ [.int .i64 (a : Int), x])) (hn : ws.length = nw) (hM : ∀ k ∈ M, k < w.heap.size)
    (hold : ∀ j, j < nw → Kept w1 M G (U j) (wtAt ws j).2) (hx : Kept w1 M G x l) : WaitsAt w1 M G v (ws ++ [(a, l)]) (fun j => if j = nw then x else U j) := by
  have hc := fun g hg => World.ownsRow.cells ho (g := g) hg
  have hlt := World.ownsRow.lt ho
  rcases ho.2 with ⟨_, e⟩ | ⟨g, cap, cur, rfl, hg, _, hnc, _⟩
  · omega
  · have hlen : (ws ++ [(a, l)]).length = nw + 1 := by simp [hn]
    refine ⟨_, cap, by rw [hlen], by rw [hlen]; exact hnc, (fun e => by cases e), .inr ⟨g, rfl, ⟨fun e => by have := hM g e; omega, (hlt g rfl).2⟩, fun j hj => ?_⟩⟩
    rw [hlen] at hj
    show _ ∧ w1.cell? ⟨g, j * 2 + 1, none⟩ = some (if j = nw then x else U j) ∧ Kept w1 M G (if j = nw then x else U j) _
    by_cases e : j = nw
    · subst e
      rw [if_pos rfl, wtAt_last hn]
      refine ⟨?_, ?_, hx⟩
      · have := hc g rfl (j * 2) (.int .i64 (a : Int)) (by rw [List.getElem?_append_right (by rw [qcells_length, hn]; exact Nat.le_refl _), qcells_length, hn, Nat.sub_self]; rfl)
        rwa [addr_add, Nat.zero_add] at this
      · have := hc g rfl (j * 2 + 1) x (by rw [List.getElem?_append_right (by rw [qcells_length, hn]; omega), qcells_length, hn, Nat.add_sub_cancel_left]; rfl)
        rwa [addr_add, Nat.zero_add] at this
    · have hj2 : j < ws.length := by omega
      rw [if_neg e, wtAt_append hj2]
      refine ⟨?_, ?_, hold j (by omega)⟩
      · have := hc g rfl (j * 2) (.int .i64 (((wtAt ws j).1 : Nat) : Int)) (by rw [List.getElem?_append_left (by rw [qcells_length]; omega)]; exact qcells_at U ws hj2 (r := 0) (by omega))
        rwa [addr_add, Nat.zero_add] at this
      · have := hc g rfl (j * 2 + 1) (U j) (by rw [List.getElem?_append_left (by rw [qcells_length]; omega)]; exact qcells_at U ws hj2 (r := 1) (by omega))
        rwa [addr_add, Nat.zero_add] at this
theorem IsRf.waited {w w1 : World} {B G a : Nat} {A : RLies} {R : List Nat} {d : Dk} {v : Value} {l : List Nat} {U' : Nat → Value} (h : IsRf w B G A R d) (hb : Below w.heap.size w w1) (hW : WaitsAt w1 (A.foot G ++ R) G v (d.waits ++ [(a, l)]) U') (ha : a < d.n) (hl : l.length = 128) (hm : d.waits.length < 1000) :
    IsRf (w1.setCell ⟨G, 1, none⟩ v) B G { A with vW := v, U := U' } R (d.waited (a, l)) ∧ Step w (A.foot G) (w1.setCell ⟨G, 1, none⟩ v) (A.foot G) := by
  have h1 := h.read hb
  have hst : Step w1 (A.foot G) (w1.setCell ⟨G, 1, none⟩ v) (A.foot G) := (Step.refl _ _).setCell _ _ _ (RLies.mem_G G A)
  refine ⟨h1.head (A' := { A with vW := v, U := U' }) ?_ hst (fun k hk => by rw [Below.heap_setCell _ _ _ _ hk]) rfl rfl rfl rfl rfl (hW.step (hst.beside R)) (fun e => (h1.keep e).step (hst.beside R)) (h.fine.waited ha hl hm) rfl (fun _ _ => rfl), (Step.of_below hb _).trans hst⟩
  rw [heap_setCell_same _ _ _ _ _ _ h1.hdr]
  simp [rcells, Dk.waited, leftN]
theorem IsRf.growL {w w1 w7 : World} {B G g m cap a : Nat} {A : RLies} {R : List Nat} {d : Dk} (h : IsRf w B G A R d) (hB : B ≤ w.heap.size) (hb : Below w.heap.size w w1) (hg : w1.grownBy w7 A.vL.ownBlock) (hat : A.vL.ownBlock = some g ∨ w.heap.size ≤ g) (hlt : g < w7.heap.size)
    (ho : w7.ownsRow B 3 1 (.slice (some ⟨g, 0, none⟩) m cap) m (icells d.log ++ [.int .i64 ((a : Nat) : Int)])) (hm : m = d.log.length + 1) (hlog : d.log.length < 1000) :
    IsRf (w7.setCell ⟨G, 6, none⟩ (.slice (some ⟨g, 0, none⟩) m cap)) B G { A with vL := .slice (some ⟨g, 0, none⟩) m cap } R (d.logged a) ∧
      Step w (A.foot G) (w7.setCell ⟨G, 6, none⟩ (.slice (some ⟨g, 0, none⟩) m cap)) (({ A with vL := .slice (some ⟨g, 0, none⟩) m cap } : RLies).foot G) := by
  obtain ⟨gn1, gn2⟩ := h.gne
  have hGlt := (h.over G (RLies.mem_G G A)).2.2
  have hglt := (h.over A.g (RLies.mem_g G A)).2.2
  have hw7 : ∀ k, k < w.heap.size → A.vL.ownBlock ≠ some k → w7.heap[k]? = w.heap[k]? := fun k hk hne => by
    rw [hg.block k (Nat.lt_of_lt_of_le hk hb.size) (fun e => hne (by simpa using e.symm)), hb.block k hk]
  have hsz : w.heap.size ≤ w7.heap.size := Nat.le_trans hb.size hg.size
  have hgg : g ≠ G ∧ g ≠ A.g ∧ B ≤ g ∧ g ∉ R := by
    rcases hat with e | e
    · have := h.over g (RLies.mem_l e)
      exact ⟨(gn2 g e).1, (gn2 g e).2, this.1, this.2.1⟩
    · exact ⟨by omega, by omega, by omega, fun e2 => by have := h.under g e2; omega⟩
  have hst : Step w (A.foot G) (w7.setCell ⟨G, 6, none⟩ (.slice (some ⟨g, 0, none⟩) m cap)) (({ A with vL := .slice (some ⟨g, 0, none⟩) m cap } : RLies).foot G) := by
    refine ⟨hg.os.trans hb.os, hg.tape.trans hb.tape, hg.output.trans hb.output, by simpa [World.setCell] using hsz, fun k hk hf => ?_, fun k hk => ?_⟩
    · have hkG : k ≠ G := fun e => hf (e ▸ RLies.mem_G G A)
      rw [Below.heap_setCell _ _ _ _ hkG]
      exact hw7 k hk (fun e => hf (RLies.mem_l e))
    · simp only [RLies.foot, Value.ownBlock, Option.toList, List.mem_cons, List.not_mem_nil, or_false] at hk
      rcases hk with e | e | e
      · rw [e]; exact .inl (RLies.mem_G G A)
      · rw [e]; exact .inl (RLies.mem_g G A)
      · rw [e]
        exact hat.imp RLies.mem_l id
  have hsx := hst.beside R
  refine ⟨⟨h.fine.logged hlog, ?_, ?_, h.room, fun i hi => (h.rows i hi).step hsx, h.waits.step hsx, fun e => (h.keep e).step hsx, ?_, ?_, fun k hk => ?_, fun k hk => Nat.lt_of_lt_of_le (h.under k hk) hst.size⟩, hst⟩
  · have hG7 : w7.heap[G]? = some (.cells (rcells A d) 44 (0, 0)) := by
      rw [hw7 G hGlt (fun e => (gn2 G e).1 rfl)]; exact h.hdr
    rw [heap_setCell_same _ _ _ _ _ _ hG7]
    simp [rcells, Dk.logged, leftN]
  · refine h.slots.block ?_
    rw [Below.heap_setCell _ _ _ _ gn1]
    exact hw7 _ hglt (fun e => (gn2 _ e).2 rfl)
  · have e : icells (d.logged a).log = icells d.log ++ [.int .i64 ((a : Nat) : Int)] := by simp [icells, Dk.logged]
    have e2 : (d.logged a).log.length = m := by simp [Dk.logged, hm]
    rw [e, e2]
    refine ownsRow_block ho (fun k hk => Below.heap_setCell _ _ _ _ ?_)
    have : k = g := by simpa [Value.ownBlock, eq_comm] using hk
    rw [this]; exact hgg.1
  · simp only [RLies.foot, Value.ownBlock, Option.toList, List.nodup_cons, List.mem_cons, List.not_mem_nil, or_false, not_or, not_false_eq_true, List.nodup_nil, and_true]
    exact ⟨⟨Ne.symm gn1, Ne.symm hgg.1⟩, Ne.symm hgg.2.1⟩
  · simp only [RLies.foot, Value.ownBlock, Option.toList, List.mem_cons, List.not_mem_nil, or_false] at hk
    have hs : ∀ k, k < w.heap.size → k < (w7.setCell ⟨G, 6, none⟩ (.slice (some ⟨g, 0, none⟩) m cap)).heap.size := fun k hk => Nat.lt_of_lt_of_le hk hst.size
    rcases hk with e | e | e
    · subst e; exact ⟨(h.over _ (RLies.mem_G _ A)).1, (h.over _ (RLies.mem_G _ A)).2.1, hs _ hGlt⟩
    · subst e; exact ⟨(h.over _ (RLies.mem_g G A)).1, (h.over _ (RLies.mem_g G A)).2.1, hs _ hglt⟩
    · subst e; exact ⟨hgg.2.2.1, hgg.2.2.2, by simpa [World.setCell] using hlt⟩
end Go.Proofs.Ytnfaeejeipbciaa
end

section
set_option linter.unusedVariables false
set_option linter.unusedSimpArgs false
namespace Go.Proofs.Ytnfaeejeipbciaa
open Go.RowKit BigFrame

theorem rwrite_off (w : World) (B : Nat) (G : Nat) (A : RLies) (R : List Nat) (d : Dk) (at' : Int) (v : Value) (h : IsRf w B G A R d) (hon : d.on = false) :
    Calls Try.prog 61 #[.pointer (some ⟨G, 0, none⟩), .int .i64 at', v] w (GivesRf (.int .i64 4) d B G A R w) := by
  have c2 := h.cell 2
  simp only [rcells, hon, Bool.not_false, List.getElem?_toArray, List.getElem?_cons_zero, List.getElem?_cons_succ] at c2
  have h' := Lib.hid h
  clear h hon
  go_enter Try.func61, Try.ntmps61
  go_wp2_with fail
  go_ret
  exact ⟨rfl, A, h'.out, Step.refl _ _⟩
theorem rwrite_far (w : World) (B : Nat) (G : Nat) (A : RLies) (R : List Nat) (d : Dk) (at' : Int) (ba : Option Addr) (bn bcap : Nat) (h : IsRf w B G A R d) (hon : d.on = true) (ha : at' < 0 ∨ (d.n : Int) ≤ at') :
    Calls Try.prog 61 #[.pointer (some ⟨G, 0, none⟩), .int .i64 at', .slice ba bn bcap] w (GivesRf (.int .i64 2) d B G A R w) := by
  have c0 := h.cell 0
  have c2 := h.cell 2
  obtain ⟨n, hn⟩ : ∃ n, d.n = n := ⟨_, rfl⟩
  simp only [rcells, hon, hn, Bool.not_true, List.getElem?_toArray, List.getElem?_cons_zero, List.getElem?_cons_succ] at c0 c2
  rw [hn] at ha
  have h' := Lib.hid h
  clear h hon hn
  by_cases h0 : at' < 0
  · have t1 : decide (at' < 0) = true := decide_eq_true h0
    go_enter Try.func61, Try.ntmps61
    go_wp2_with fail
    go_ret
    exact ⟨rfl, A, h'.out, Step.refl _ _⟩
  · have t1 : decide (at' < 0) = false := decide_eq_false h0
    have t2 : decide ((n : Int) ≤ at') = true := decide_eq_true (by omega)
    go_enter Try.func61, Try.ntmps61
    go_wp2_with fail
    go_ret
    exact ⟨rfl, A, h'.out, Step.refl _ _⟩
theorem rwrite_short (w : World) (B : Nat) (G : Nat) (A : RLies) (R : List Nat) (d : Dk) (at' : Int) (ba : Option Addr) (bn bcap : Nat) (h : IsRf w B G A R d) (hon : d.on = true) (ha : 0 ≤ at' ∧ at' < (d.n : Int)) (hb : bn ≠ 128) :
    Calls Try.prog 61 #[.pointer (some ⟨G, 0, none⟩), .int .i64 at', .slice ba bn bcap] w (GivesRf (.int .i64 2) d B G A R w) := by
  have c0 := h.cell 0
  have c2 := h.cell 2
  obtain ⟨n, hn⟩ : ∃ n, d.n = n := ⟨_, rfl⟩
  simp only [rcells, hon, hn, Bool.not_true, List.getElem?_toArray, List.getElem?_cons_zero, List.getElem?_cons_succ] at c0 c2
  rw [hn] at ha
  have h' := Lib.hid h
  clear h hon hn
  have t1 : decide (at' < 0) = false := decide_eq_false (by omega)
  have t2 : decide ((n : Int) ≤ at') = false := decide_eq_false (by omega)
  have t3 : ((bn : Int) != 128) = true := by rw [bne_iff_ne]; omega
  go_enter Try.func61, Try.ntmps61
  go_wp2_with fail
  go_ret
  exact ⟨rfl, A, h'.out, Step.refl _ _⟩
theorem rwrite_fall (w : World) (B : Nat) (G : Nat) (A : RLies) (R : List Nat) (d : Dk) (at' : Int) (ba : Option Addr) (bcap : Nat) (h : IsRf w B G A R d) (hon : d.on = true) (ha : 0 ≤ at' ∧ at' < (d.n : Int)) (hfall : d.fall = true) :
    Calls Try.prog 61 #[.pointer (some ⟨G, 0, none⟩), .int .i64 at', .slice ba 128 bcap] w (GivesRf (.int .i64 4) d.fell B G A R w) := by
  have c0 := h.cell 0
  have c2 := h.cell 2
  obtain ⟨n, hn⟩ : ∃ n, d.n = n := ⟨_, rfl⟩
  simp only [rcells, hon, hn, Bool.not_true, List.getElem?_toArray, List.getElem?_cons_zero, List.getElem?_cons_succ] at c0 c2
  rw [hn] at ha
  have h' := Lib.hid h
  have hf' := Lib.hid hfall
  clear h hon hn hfall
  have t1 : decide (at' < 0) = false := decide_eq_false (by omega)
  have t2 : decide ((n : Int) ≤ at') = false := decide_eq_false (by omega)
  go_enter Try.func61, Try.ntmps61
  go_wp2_with (go_at_call 69; refine (rfalls_any _ B G A R d h'.out).mono ?_; rw [hf'.out]; rintro e w1 ⟨rfl, A1, hD1, hS1⟩; have D1 := Lib.hid hD1; have S1 := Lib.hid hS1; clear hD1 hS1)
  go_ret
  exact ⟨rfl, A1, D1.out, S1.out⟩

theorem rwaits_wrote {w1 w2 w3 w5 : World} {B G nw a g3 cap3 : Nat} {A : RLies} {R : List Nat} {d : Dk} {v2 v5 : Value} {l : List Nat} {o : Obj} (h : IsRf w1 B G A R d) (hn : d.waits.length = nw) (ho2 : w2.ownsRow w1.heap.size 101 2 v2 nw (qcells A.U d.waits)) (hb2 : w1.heap.size ≤ w2.heap.size)
    (O3 : OwnB w3 w2.heap.size (.slice (some ⟨g3, 0, none⟩) 128 cap3) l) (hl : l.length = 128) (hc3 : 128 ≤ cap3) (hge3 : w2.heap.size ≤ g3) (hlt3 : g3 < w3.heap.size) (hg5 : (w3.alloc o).grownBy w5 v2.ownBlock) (B5 : Below w1.heap.size w1 w5)
    (ho5 : w5.ownsRow w1.heap.size 101 2 v5 (nw + 1) (qcells A.U d.waits ++ [.int .i64 (a : Int), .slice (some ⟨g3, 0, none⟩) 128 cap3])) :
    WaitsAt w5 (A.foot G ++ R) G v5 (d.waits ++ [(a, l)]) (fun j => if j = nw then .slice (some ⟨g3, 0, none⟩) 128 cap3 else A.U j) := by
  have hM : ∀ k ∈ A.foot G ++ R, k < w1.heap.size := fun k hk => by
    rcases List.mem_append.1 hk with hk | hk
    · exact (h.over k hk).2.2
    · exact h.under k hk
  refine waits_more ho5 hn hM (fun j hj => ?_) ?_
  · obtain ⟨_, _, _, _, _, h0⟩ := h.waits
    rcases h0 with h0 | ⟨b, _, _, hx⟩
    · omega
    · exact (hx j (by omega)).2.2.step (.of_below B5 _)
  · have e : w5.heap[g3]? = w3.heap[g3]? := by
      rw [hg5.block g3 (by simp; omega) (fun e => by have := (World.ownsRow.lt ho2 g3 e.symm).2; omega)]
      exact ((Below.refl w3.heap.size w3).alloc (Nat.le_refl _) o).block g3 hlt3
    have hs : w3.heap.size ≤ w5.heap.size := Nat.le_trans (by simp) hg5.size
    exact ⟨g3, cap3, rfl, hc3, hl, O3.bat.block e, ⟨fun e => by have := hM g3 e; omega, by omega⟩, by have := hM G (List.mem_append_left _ (RLies.mem_G G A)); omega⟩

set_option maxRecDepth 100000 in
set_option maxHeartbeats 4000000 in
theorem rwrite_go (w : World) (B : Nat) (G : Nat) (A : RLies) (R : List Nat) (d0 : Dk) (a bb bo bcap : Nat) (l : List Nat) (h : IsRf w B G A R d0) (hB : B ≤ w.heap.size) (hon : d0.on = true) (hf : d0.fall = false) (ha : a < d0.n) (hl : l.length = 128) (hx : BAt w (some ⟨bb, bo, none⟩) l) (hoff : Off w (A.foot G) bb)
    (hm1 : d0.fell.waits.length < 1000) (hm2 : d0.fell.log.length < 1000) (han : a < d0.fell.n) :
    Calls Try.prog 61 #[.pointer (some ⟨G, 0, none⟩), .int .i64 (a : Int), .slice (some ⟨bb, bo, none⟩) 128 bcap] w (GivesRf (.int .i64 0) (d0.fell.wrote a l) B G A R w) := by
  have c0 := h.cell 0
  have c2 := h.cell 2
  obtain ⟨n, hn⟩ : ∃ n, d0.n = n := ⟨_, rfl⟩
  simp only [rcells, hon, hn, Bool.not_true, List.getElem?_toArray, List.getElem?_cons_zero, List.getElem?_cons_succ] at c0 c2
  rw [hn] at ha
  have h' := Lib.hid h
  have hf' := Lib.hid hf
  have hl' := Lib.hid hl
  have hx' := Lib.hid hx
  have hoff' := Lib.hid hoff
  obtain ⟨d, hd⟩ : ∃ d, d0.fell = d := ⟨_, rfl⟩
  rw [hd] at hm1 hm2 han ⊢
  have hd' := Lib.hid hd
  have hm1' := Lib.hid hm1
  have hm2' := Lib.hid hm2
  have han' := Lib.hid han
  clear h hon hf hd hl hx hoff han hn
  have t1 : decide ((a : Int) < 0) = false := decide_eq_false (by omega)
  have t2 : decide ((n : Int) ≤ (a : Int)) = false := decide_eq_false (by omega)
  go_enter Try.func61, Try.ntmps61
  have hB' := Lib.hid hB
  obtain ⟨iq, hiq, hq0, hq1, hq2⟩ := info_parts Try.infoQ
  have hiq' := Lib.hid hiq
  have hq0' := Lib.hid hq0
  have hq1' := Lib.hid hq1
  have hq2' := Lib.hid hq2
  obtain ⟨ii, hii, hi0, hi1, hi2⟩ := info_parts Try.infoI
  have hii' := Lib.hid hii
  have hi0' := Lib.hid hi0
  have hi1' := Lib.hid hi1
  have hi2' := Lib.hid hi2
  clear hiq hq0 hq1 hq2 hii hi0 hi1 hi2 hB
  go_wp2_with (first
    | (go_at_call 69; refine (rfalls_any _ B G A R d0 h'.out).mono ?_; rw [hf'.out, hd'.out]; rintro e w1 ⟨rfl, A1, hD1, hS1⟩; have D1 := Lib.hid hD1; have S1 := Lib.hid hS1; have x1 := Lib.hid (show BAt w1 (some ⟨bb, bo, none⟩) l by (rcases hx'.out with hz | ⟨b, o, e, hz⟩; (exact .inl hz); (refine .inr ⟨b, o, e, fun k hk => ?_⟩; cases e; rw [World.cell?_of_block (w := w) (a := ⟨bb, bo + k, none⟩) (hS1.same hoff'.out)]; exact hz k hk))); obtain ⟨aw, cw, hvw, hcw, _⟩ := id hD1.waits; obtain ⟨nw, hnw⟩ : ∃ nw, d.waits.length = nw := ⟨_, rfl⟩; have hnb : nw < 1000 := (by rw [← hnw]; exact hm1); rw [hnw] at hvw hcw; have W1 := Lib.hid (show WaitsAt w1 (A1.foot G ++ R) G (.slice aw nw cw) d.waits A1.U by rw [← hvw]; exact hD1.waits); have c1 := hD1.cell 1; simp only [rcells, hvw, List.getElem?_toArray, List.getElem?_cons_zero, List.getElem?_cons_succ] at c1; have hvw' := Lib.hid hvw; have hnw' := Lib.hid hnw; obtain ⟨nl, hnl⟩ : ∃ nl, d.log.length = nl := ⟨_, rfl⟩; have hlb : nl < 1000 := (by rw [← hnl]; exact hm2); have hnl' := Lib.hid hnl; clear hD1 hS1 c0 c2 hvw hnw hnl)
    | (at_builtin; refine wpList_append_q rfl (.const (.slice none 0 0)) (.tmp 36) rfl w1.heap.size rfl aw nw cw (A1.foot G ++ R) G d.waits A1.U rfl hnw'.out W1.out (by omega) (Nat.le_refl _) ?_; intro v2 w2 ho2 hb2; obtain ⟨a2, cap2, rfl, _, _⟩ := own_form ho2.out; have B2 := Lib.hid hb2; have x2 := Lib.hid (x1.out.on hb2 (Nat.le_refl _)); clear hb2 c1)
    | (at_builtin; refine wpList_append_bytes rfl (.const (.slice none 0 0)) (.tmp 39) rfl w2.heap.size (.slice none 0 0) [] rfl (OwnB.nil _ _) (some ⟨bb, bo, none⟩) 128 bcap l rfl hl'.out x2.out (by intro h; cases h) (by simp) (Nat.le_refl _) ?_; intro v3 w3 ho3 hg3 hb3; obtain ⟨g3, cap3, rfl, hc3, hge3, hlt3⟩ := OwnB.at (l := l) ho3.out hl'.out (by omega); have O3 := Lib.hid (show OwnB w3 w2.heap.size _ l from ho3.out); have B3 := Lib.hid (B2.out.trans (hb3.mono B2.out.size)); have P3 := Lib.hid (ownsRow_block (w' := w3) ho2.out (fun k hk => hb3.block k (World.ownsRow.lt ho2.out k hk).2)); have P4 := Lib.hid (World.ownsRow.alloc P3.out (.cells #[.int .i64 (a : Int), .slice (some ⟨g3, 0, none⟩) 128 cap3] 101)); have N4 := Lib.hid (show ∀ j u, [Value.int .i64 (a : Int), .slice (some ⟨g3, 0, none⟩) 128 cap3][j]? = some u → (w3.alloc (.cells #[.int .i64 (a : Int), .slice (some ⟨g3, 0, none⟩) 128 cap3] 101)).cell? ((⟨w3.heap.size, 0, none⟩ : Addr).add j) = some u from fun j u hu => World.news_of_block (cs := #[.int .i64 (a : Int), .slice (some ⟨g3, 0, none⟩) 128 cap3]) (heap_alloc_new w3 _) j u (by simpa using hu)); have B4 := Lib.hid (B3.out.trans (((Below.refl w3.heap.size w3).alloc (Nat.le_refl _) (.cells #[.int .i64 (a : Int), .slice (some ⟨g3, 0, none⟩) 128 cap3] 101)).mono B3.out.size)); have one2 := Lib.hid (show ∀ u ∈ [Value.int .i64 (a : Int), .slice (some ⟨g3, 0, none⟩) 128 cap3], u.oneCell' = true by (intro u hu; simp at hu; rcases hu with rfl | rfl <;> rfl)); clear hb3 hg3)
    | (at_builtin; refine wpList_append_own _ rfl (.tmp 37) (.tmp 42) 41 rfl w1.heap.size 101 iq _ 2 32 Try.underlying41 hiq'.out hq0'.out hq1'.out hq2'.out rfl (by decide) _ nw (qcells A1.U d.waits) rfl P4.out ⟨w3.heap.size, 0, none⟩ 1 1 [.int .i64 (a : Int), .slice (some ⟨g3, 0, none⟩) 128 cap3] rfl (by rfl) N4.out one2.out (by unfold maxLen; omega) (by omega) B4.out.size ?_; intro v5 w5 ho5 hg5 _; obtain ⟨a5, cap5, rfl, _, _⟩ := own_form ho5; have B5 := Lib.hid (B4.out.trans ((Below.refl _ _).grown hg5 B4.out.size (fun k hk => (World.ownsRow.lt P4.out k hk).1))); have W5 := rwaits_wrote D1.out hnw'.out ho2.out B2.out.size O3.out hl'.out hc3 hge3 hlt3 hg5 B5.out ho5; obtain ⟨hd6, hs6⟩ := D1.out.waited B5.out W5 han'.out hl'.out hm1'.out; have D6 := Lib.hid hd6; have S6 := Lib.hid hs6; have c1 := (D1.out.read B5.out).cell 1; have f1 := (D1.out.read B5.out).frozen 1; have c6 := hd6.cell 6; have f6 := hd6.frozen 6; simp only [rcells, hvw'.out, List.getElem?_toArray, List.getElem?_cons_zero, List.getElem?_cons_succ] at c1 c6; have P6 := Lib.hid (show (w5.setCell ⟨G, 1, none⟩ (.slice a5 (nw + 1) cap5)).ownsRow B 3 1 A1.vL nl (icells d.log) by rw [← hnl'.out]; exact hd6.log); have P7 := Lib.hid (World.ownsRow.alloc P6.out (.cells #[.int .i64 (a : Int)] 3)); have es := Lib.hid (show (w5.setCell ⟨G, 1, none⟩ (.slice a5 (nw + 1) cap5)).heap.size = w5.heap.size by simp [World.setCell]); have N7 := Lib.hid (show ∀ j u, [Value.int .i64 (a : Int)][j]? = some u → ((w5.setCell ⟨G, 1, none⟩ (.slice a5 (nw + 1) cap5)).alloc (.cells #[.int .i64 (a : Int)] 3)).cell? ((⟨w5.heap.size, 0, none⟩ : Addr).add j) = some u from fun j u hu => (by have := World.news_of_block (cs := #[.int .i64 (a : Int)]) (heap_alloc_new (w5.setCell ⟨G, 1, none⟩ (.slice a5 (nw + 1) cap5)) (.cells #[.int .i64 (a : Int)] 3)) j u (by simpa using hu); rw [es.out] at this; exact this)); have B6 := Lib.hid (show B ≤ (w5.setCell ⟨G, 1, none⟩ (.slice a5 (nw + 1) cap5)).heap.size from Nat.le_trans (Nat.le_trans hB'.out S1.out.size) S6.out.size); have B7 := Lib.hid (show B ≤ ((w5.setCell ⟨G, 1, none⟩ (.slice a5 (nw + 1) cap5)).alloc (.cells #[.int .i64 (a : Int)] 3)).heap.size by (have := B6.out; simp; simp at this; omega)); have s7 := Lib.hid (show ((w5.setCell ⟨G, 1, none⟩ (.slice a5 (nw + 1) cap5)).alloc (.cells #[.int .i64 (a : Int)] 3)).heap.size = w5.heap.size + 1 by simp [World.setCell]); have hgG := Lib.hid (show some G ≠ A1.vL.ownBlock from fun e => (D1.out.gne.2 G e.symm).1 rfl); clear hd6 hs6 W5 ho5 hg5)
    | (at_builtin; refine wpList_append_lies _ rfl (.tmp 50) (.tmp 52) 37 rfl B 3 ii _ 1 8 Try.underlying37 hii'.out hi0'.out hi1'.out hi2'.out (by rfl) (by decide) _ nl (icells d.log) rfl P7.out ⟨w5.heap.size, 0, none⟩ 1 1 [.int .i64 (a : Int)] rfl (by rfl) N7.out one_int (by decide) (by unfold maxLen; omega) (by omega) B7.out (w5.heap.size + 1) s7.out ?_; intro g8 cap8 w8 hown8 hgrow8 hat8 hlt8; have q6 := cell_grown (cell_alloc c6 (.cells #[.int .i64 (a : Int)] 3)) hgrow8 hgG.out; have q7 : w8.frozen? ⟨G, 6, none⟩ = false := frozen_grown ((World.frozen?_alloc_past _ _ _ (D6.out.over G (RLies.mem_G G _)).2.2).trans f6) (by show G < _; rw [s7.out]; have := (D6.out.over G (RLies.mem_G G _)).2.2; rw [es.out] at this; omega) hgrow8 hgG.out; obtain ⟨hD9, hS9⟩ := D6.out.growL B6.out ((Below.refl _ _).alloc (Nat.le_refl _) (.cells #[.int .i64 (a : Int)] 3)) hgrow8 (hat8.imp id (fun h => by rw [es.out]; omega)) hlt8 hown8 (by show nl + 1 = d.log.length + 1; rw [hnl'.out]) hm2'.out; have D9 := Lib.hid hD9; have S9 := Lib.hid hS9; clear hD9 hS9 hown8 hgrow8 hat8 hlt8 c1 f1 c6 f6))
  go_ret
  exact ⟨rfl, _, D9.out, (S1.out.trans S6.out).trans S9.out⟩
end Go.Proofs.Ytnfaeejeipbciaa
end

section
set_option linter.unusedVariables false
set_option linter.unusedSimpArgs false
namespace Go.Proofs.Ytnfaeejeipbciaa
open Go.RowKit BigFrame

theorem step_grown {w w1 w8 : World} {r : Option Nat} {g : Nat} (hb : Below w.heap.size w w1) (hg : w1.grownBy w8 r) (hat : r = some g ∨ w.heap.size ≤ g) (R1 R2 : List Nat) : Step w (R1 ++ (r.toList ++ R2)) w8 (R1 ++ ([g] ++ R2)) :=
  ⟨hg.os.trans hb.os, hg.tape.trans hb.tape, hg.output.trans hb.output, Nat.le_trans hb.size hg.size, fun k hk hf => by
    rw [hg.block k (Nat.lt_of_lt_of_le hk hb.size) (fun e => hf (by simp [← e])), hb.block k hk], fun k hk => by
    simp only [List.mem_append, List.mem_singleton] at hk ⊢
    rcases hk with h | h | h
    · exact .inl (.inl h)
    · subst h
      rcases hat with e | e
      · exact .inl (.inr (.inl (by simp [e])))
      · exact .inr e
    · exact .inl (.inr (.inr h))⟩
/-- blocks beside the disk turn -/
theorem Live.many {w0 w w' : World} {G : Nat} {A : Lies} {d : Dk} {R R' : List Nat} (h : Live w0 w G A d) (hs : Step w R w' R') (hR : ∀ k ∈ R, Off w (A.foot G) k ∧ w0.heap.size ≤ k) : Live w0 w' G A d :=
  ⟨h.below.trans (hs.below h.below.size (fun k hk => (hR k hk).2)), IsDkS.carry h.disk hs.size (fun k hk => hs.block k (h.lt k hk) (fun e => (hR k e).1.1 hk))⟩
end Go.Proofs.Ytnfaeejeipbciaa
end

section
set_option linter.unusedVariables false
set_option linter.unusedSimpArgs false
namespace Go.Proofs.Ytnfaeejeipbciaa
open Go.RowKit BigFrame

theorem one_slice' {a : Option Addr} {n c : Nat} : ∀ u ∈ [Value.slice a n c], u.oneCell' = true := by
  intro u hu
  rw [List.mem_singleton] at hu
  subst hu; rfl
def ncells (v : Value) : Array Value := #[v, .slice none 0 0, .bool false, .int .i64 (-1), .int .i64 0, .slice none 0 0, .slice none 0 0]
def RnRel (w : World) (R : List Nat) (n : Nat) (g : Nat) (i : Value) (wr : World) : Prop :=
  ∃ (k : Nat) (vF : Value) (V : Nat → Value), k + g = n ∧ i = .int .i64 k ∧ wr.heap[w.heap.size]? = some (.cells (ncells vF) 44 (0, 0)) ∧ wr.ownsRow w.heap.size 54 1 vF k ((List.range k).map V) ∧ vF.ownBlock ≠ some w.heap.size ∧
    (∀ j, j < k → Kept wr ([w.heap.size] ++ (vF.ownBlock.toList ++ R)) w.heap.size (V j) (zs 128)) ∧ Below w.heap.size w wr
theorem rn_push {wr w1 w8 : World} {B G k g cap : Nat} {R : List Nat} {vF x : Value} {V : Nat → Value} (hG : wr.heap[G]? = some (.cells (ncells vF) 44 (0, 0))) (hGl : G < wr.heap.size) (hne : vF.ownBlock ≠ some G) (hk : ∀ j, j < k → Kept wr ([G] ++ (vF.ownBlock.toList ++ R)) G (V j) (zs 128))
    (hx : Kept wr ([G] ++ (vF.ownBlock.toList ++ R)) G x (zs 128)) (hb1 : Below wr.heap.size wr w1) (hg : w1.grownBy w8 vF.ownBlock) (hat : vF.ownBlock = some g ∨ wr.heap.size ≤ g)
    (ho : w8.ownsRow B 54 1 (.slice (some ⟨g, 0, none⟩) (k + 1) cap) (k + 1) ((List.range k).map V ++ [x])) :
    (w8.setCell ⟨G, 0, none⟩ (.slice (some ⟨g, 0, none⟩) (k + 1) cap)).heap[G]? = some (.cells (ncells (.slice (some ⟨g, 0, none⟩) (k + 1) cap)) 44 (0, 0)) ∧
      (w8.setCell ⟨G, 0, none⟩ (.slice (some ⟨g, 0, none⟩) (k + 1) cap)).ownsRow B 54 1 (.slice (some ⟨g, 0, none⟩) (k + 1) cap) (k + 1) ((List.range (k + 1)).map fun j => if j = k then x else V j) ∧ (Value.slice (some ⟨g, 0, none⟩) (k + 1) cap).ownBlock ≠ some G ∧
      ∀ j, j < k + 1 → Kept (w8.setCell ⟨G, 0, none⟩ (.slice (some ⟨g, 0, none⟩) (k + 1) cap)) ([G] ++ ((Value.slice (some ⟨g, 0, none⟩) (k + 1) cap).ownBlock.toList ++ R)) G (if j = k then x else V j) (zs 128) := by
  have hgG : g ≠ G := by
    rcases hat with e | e
    · exact fun e2 => hne (e2 ▸ e)
    · omega
  have h8 : w8.heap[G]? = some (.cells (ncells vF) 44 (0, 0)) := by
    rw [hg.block G (Nat.lt_of_lt_of_le hGl hb1.size) (fun e => hne e.symm), hb1.block G hGl]; exact hG
  have hst : Step wr ([G] ++ (vF.ownBlock.toList ++ R)) (w8.setCell ⟨G, 0, none⟩ (.slice (some ⟨g, 0, none⟩) (k + 1) cap)) ([G] ++ ((Value.slice (some ⟨g, 0, none⟩) (k + 1) cap).ownBlock.toList ++ R)) :=
    (step_grown hb1 hg hat [G] R).setCell _ _ _ (by simp)
  refine ⟨?_, ?_, fun e => hgG (by simpa [Value.ownBlock] using e), fun j hj => ?_⟩
  · rw [heap_setCell_same _ _ _ _ _ _ h8]; simp [ncells]
  · have e : (List.range (k + 1)).map (fun j => if j = k then x else V j) = (List.range k).map V ++ [x] := by
      rw [List.range_succ, List.map_append]
      congr 1
      · exact List.map_congr_left (fun j hj => by rw [if_neg (by have := List.mem_range.1 hj; omega)])
      · simp
    rw [e]
    exact ownsRow_block ho (fun j hj => Below.heap_setCell _ _ _ _ (by
      have : j = g := by simpa [Value.ownBlock, eq_comm] using hj
      rw [this]; exact hgG))
  · by_cases e : j = k
    · rw [if_pos e]; exact hx.step hst
    · rw [if_neg e]; exact (hk j (by omega)).step hst
theorem rnew_none (n : Int) (w : World) (hn : n < 1 ∨ 2048 < n) :
    Calls Try.prog 9 #[.int .i64 n] w fun e w' => e = .returned (.pointer none) ∧ w = w' := by
  by_cases h1 : n < 1
  · go_enter Try.func9, Try.ntmps9
    go_wp2_with fail
    go_ret
    exact ⟨rfl, rfl⟩
  · have h2 : 2048 < n := by omega
    clear hn
    go_enter Try.func9, Try.ntmps9
    go_wp2_with fail
    go_ret
    exact ⟨rfl, rfl⟩

set_option maxRecDepth 100000 in
set_option maxHeartbeats 2000000 in
theorem rnew_some (n : Nat) (R : List Nat) (w : World) (h0 : 0 < n) (hn : n ≤ 2048) (hR : ∀ k ∈ R, k < w.heap.size) :
    Calls Try.prog 9 #[.int .i64 (n : Int)] w fun e w' => ∃ (G : Nat) (A : RLies), e = .returned (.pointer (some ⟨G, 0, none⟩)) ∧ IsRf w' w.heap.size G A R (.fresh n fun _ => zs 128) ∧ Below w.heap.size w w' := by
  have hmk := make_zrow
  have t1 : decide ((n : Int) < 1) = false := decide_eq_false (by omega)
  have t2 : decide (2048 < (n : Int)) = false := decide_eq_false (by omega)
  have hR' := Lib.hid hR
  clear hR
  obtain ⟨ip, hip, hp0, hp1, hp2⟩ := info_parts Try.infoP
  have hip' := Lib.hid hip
  have hp0' := Lib.hid hp0
  have hp1' := Lib.hid hp1
  have hp2' := Lib.hid hp2
  clear hip hp0 hp1 hp2
  go_enter Try.func9, Try.ntmps9
  go_wp2_with fail
  go_loopg [4] n (fun g i wr => RnRel w R n g i wr)
  case atStart =>
    refine ⟨0, .slice none 0 0, fun _ => nilV, by omega, rfl, heap_alloc_new _ _, World.ownsRow_nil _ _ _ _, by simp [Value.ownBlock], fun j hj => by omega, (Below.refl _ _).alloc (Nat.le_refl _) _⟩
  case round =>
    obtain ⟨k, vF, V, hk, rfl, hG, ho, hne, hkp, hb⟩ := hrel
    have hGl : w.heap.size < wr.heap.size := by
      rcases Nat.lt_or_ge w.heap.size wr.heap.size with h | h
      · exact h
      · rw [Array.getElem?_eq_none h] at hG; cases hG
    have c0 := cell_of_row wr w.heap.size 0 _ _ _ hG
    have f0 : wr.frozen? ⟨w.heap.size, 0, none⟩ = false := frozen_of_row _ _ _ _ _ hG
    simp only [ncells, List.getElem?_toArray, List.getElem?_cons_zero] at c0
    obtain ⟨aF, cF, rfl, hcF, _⟩ := own_form ho
    have hG' := Lib.hid hG
    have ho' := Lib.hid ho
    have hne' := Lib.hid hne
    have hkp' := Lib.hid hkp
    have hb' := Lib.hid hb
    have hGl' := Lib.hid hGl
    clear hG ho hne hkp hb
    by_cases hlt : k < n
    · obtain ⟨g, rfl⟩ : ∃ g, gk = g + 1 := ⟨gk - 1, by omega⟩
      have c0a : (wr.alloc (.cells zrow 5)).cell? ⟨w.heap.size, 0, none⟩ = some (.slice aF k cF) := cell_alloc c0 _
      have c0b : ((wr.alloc (.cells zrow 5)).alloc (.cells #[.slice (some ⟨wr.heap.size, 0, none⟩) 128 128] 54)).cell? ⟨w.heap.size, 0, none⟩ = some (.slice aF k cF) := cell_alloc c0a _
      have f0b := Lib.hid (show ((wr.alloc (.cells zrow 5)).alloc (.cells #[.slice (some ⟨wr.heap.size, 0, none⟩) 128 128] 54)).frozen? ⟨w.heap.size, 0, none⟩ = false from (World.frozen?_alloc_past _ _ _ (by show w.heap.size < _; have := hGl'.out; simp; omega)).trans ((World.frozen?_alloc_past _ _ _ hGl'.out).trans f0))
      have b6 := Lib.hid (show Below wr.heap.size wr ((wr.alloc (.cells zrow 5)).alloc (.cells #[.slice (some ⟨wr.heap.size, 0, none⟩) 128 128] 54)).drew from (((Below.refl wr.heap.size wr).alloc (Nat.le_refl _) _).alloc (by simp) _).drew)
      have O6 := Lib.hid (show ((wr.alloc (.cells zrow 5)).alloc (.cells #[.slice (some ⟨wr.heap.size, 0, none⟩) 128 128] 54)).drew.ownsRow w.heap.size 54 1 (.slice aF k cF) k ((List.range k).map V) from World.ownsRow.alloc (World.ownsRow.alloc ho'.out _) _)
      have N6 := Lib.hid (show ∀ j u, [Value.slice (some ⟨wr.heap.size, 0, none⟩) 128 128][j]? = some u → ((wr.alloc (.cells zrow 5)).alloc (.cells #[.slice (some ⟨wr.heap.size, 0, none⟩) 128 128] 54)).drew.cell? ((⟨wr.heap.size + 1, 0, none⟩ : Addr).add j) = some u from fun j u hu => (by
        have := World.news_of_block (cs := #[Value.slice (some ⟨wr.heap.size, 0, none⟩) 128 128]) (heap_alloc_new (wr.alloc (.cells zrow 5)) (.cells #[.slice (some ⟨wr.heap.size, 0, none⟩) 128 128] 54)) j u (by simpa using hu)
        rw [show (wr.alloc (.cells zrow 5)).heap.size = wr.heap.size + 1 by simp] at this
        exact this))
      have s6 := Lib.hid (show ((wr.alloc (.cells zrow 5)).alloc (.cells #[.slice (some ⟨wr.heap.size, 0, none⟩) 128 128] 54)).drew.heap.size = wr.heap.size + 2 by simp)
      have B6 := Lib.hid (show w.heap.size ≤ ((wr.alloc (.cells zrow 5)).alloc (.cells #[.slice (some ⟨wr.heap.size, 0, none⟩) 128 128] 54)).drew.heap.size by have := hGl'.out; have := s6.out; omega)
      go_wp2_with fail
      go_region_law (refine step_append_lies _ (by rfl) (.tmp 22) (.tmp 24) 40 (by rfl) w.heap.size 54 ip _ 1 24 Try.underlying40 hip'.out hp0'.out hp1'.out hp2'.out (by rfl) (by decide) (.slice aF k cF) k ((List.range k).map V) (by simp [Act.eval]) O6.out ⟨wr.heap.size + 1, 0, none⟩ 1 1 [.slice (some ⟨wr.heap.size, 0, none⟩) 128 128] (by simp [Act.eval]) (by rfl) N6.out one_slice' (by decide) (by unfold maxLen; omega) (by omega) B6.out (wr.heap.size + 2) s6.out ?_; intro g7 cap7 w7 hown7 hgrow7 hat7 hlt7; have q3 : w7.cell? ⟨w.heap.size, 0, none⟩ = some (.slice aF k cF) := cell_grown (w := ((wr.alloc (.cells zrow 5)).alloc (.cells #[.slice (some ⟨wr.heap.size, 0, none⟩) 128 128] 54)).drew) c0b hgrow7 (fun e => hne'.out e.symm); have q5 : w7.frozen? ⟨w.heap.size, 0, none⟩ = false := frozen_grown (w := ((wr.alloc (.cells zrow 5)).alloc (.cells #[.slice (some ⟨wr.heap.size, 0, none⟩) 128 128] 54)).drew) f0b.out (by show w.heap.size < _; have := hGl'.out; have := s6.out; omega) hgrow7 (fun e => hne'.out e.symm); have W7 := Lib.hid hown7; have R7 := Lib.hid hgrow7; have A7 := Lib.hid hat7; have L7 := Lib.hid hlt7; clear hown7 hgrow7 hat7 hlt7)
      all_goals go_wp2_with fail
      all_goals (
        have hMl : ∀ j ∈ ([w.heap.size] ++ ((Value.slice aF k cF).ownBlock.toList ++ R)), j < wr.heap.size := fun j hj => by
          rcases List.mem_append.1 hj with hj | hj
          · have := hGl'.out; simp at hj; omega
          · rcases List.mem_append.1 hj with hj | hj
            · exact (World.ownsRow.lt ho'.out j (by simpa using hj)).2
            · have := hR'.out j hj; have := hGl'.out; omega
        have hab := (Below.refl wr.heap.size wr).alloc (Nat.le_refl _) (.cells zrow 5)
        obtain ⟨p1, p2, p3, p4⟩ := rn_push (w1 := ((wr.alloc (.cells zrow 5)).alloc (.cells #[.slice (some ⟨wr.heap.size, 0, none⟩) 128 128] 54)).drew) ((hab.block _ hGl'.out).trans hG'.out) (by have := hGl'.out; simp; omega) hne'.out (fun j hj => (hkp'.out j hj).step (.of_below hab _)) (row_kept hMl hGl'.out) ((Below.refl _ _).alloc (Nat.le_refl _) _).drew R7.out (A7.out.imp id (fun h => by simp; omega)) W7.out
        have hbb := (hb'.out.trans ((b6.out.mono hb'.out.size).trans ((Below.refl _ _).grown R7.out B6.out (fun j hj => (World.ownsRow.lt O6.out j hj).1)))).setCell (p := ⟨w.heap.size, 0, none⟩) (Nat.le_refl _) (.slice (some ⟨g7, 0, none⟩) (k + 1) cap7)
        go_roundg g
        case measure => omega
        case rel => exact ⟨k + 1, _, _, by omega, by go_num, p1, p2, p3, p4, hbb⟩)
    · obtain rfl : k = n := by omega
      go_wp2_with fail
      go_ret
      rcases ho'.out.2 with ⟨_, e⟩ | ⟨gF, cap, cur, e, hgF, hh, hnc, _⟩
      · omega
      · cases e
        have hgG : gF ≠ w.heap.size := fun e => hne'.out (by rw [← e]; rfl)
        have hgl := (World.ownsRow.lt ho'.out gF rfl).2
        refine ⟨w.heap.size, ⟨gF, cF, .slice none 0 0, .slice none 0 0, .slice none 0 0, V, fun _ => nilV⟩, rfl, ⟨.fresh hn (fun i _ => zs_length 128), hG'.out, fun i hi => ⟨?_, frozen_of_row _ _ _ _ _ hh⟩, hnc, fun i hi => hkp'.out i hi, .nil _ _ _ _, (fun e => by cases e), World.ownsRow_nil _ _ _ _, ?_, fun j hj => ?_, fun j hj => Nat.lt_of_lt_of_le (hR'.out j hj) hb'.out.size⟩, hb'.out⟩
        · have := World.ownsRow.cells ho'.out (g := gF) rfl i (V i) (by
            have : i < k := hi
            simp [this])
          rwa [addr_add, Nat.zero_add] at this
        · simp [RLies.foot, Value.ownBlock]; omega
        · simp only [RLies.foot, Value.ownBlock, Option.toList, List.mem_cons, List.not_mem_nil, or_false] at hj
          rcases hj with e | e
          · subst e; exact ⟨Nat.le_refl _, fun e => by have := hR'.out _ e; omega, hGl'.out⟩
          · subst e; exact ⟨hgF, fun e => by have := hR'.out _ e; omega, hgl⟩
end Go.Proofs.Ytnfaeejeipbciaa
end
