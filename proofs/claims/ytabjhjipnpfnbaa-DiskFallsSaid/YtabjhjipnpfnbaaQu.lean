/-
  What is wanted, in an array; and what waits, as a law keeps it: where, and which bytes.
-/
import Derived.Test.YtabjhjipnpfnbaaPx
import Derived.Test.YtabjhjipnpfnbaaTw
namespace Go.Proofs.Ytabjhjipnpfnbaa
open Go.RowKit BigFrame

/-- N of them in one array, the first k laid -/
def WantsA (w : World) (M : List Nat) (base gw N k : Nat) (X : Nat → List Nat) : Prop :=
  ∃ V, w.rowIs gw 57 N V ∧ Off w M gw ∧ base ≤ gw ∧ ∀ i, i < k → Kept w M gw (V i) (X i)
theorem WantsA.step {w w' : World} {M M' : List Nat} {base gw N k : Nat} {X : Nat → List Nat} (h : WantsA w M base gw N k X) (hs : Step w M w' M') : WantsA w' M' base gw N k X := by
  obtain ⟨V, hr, ho, hb, hk⟩ := h
  exact ⟨V, hr.of_block (hs.same ho), hs.off ho, hb, fun i hi => (hk i hi).step hs⟩
theorem WantsA.below {w w' : World} {M : List Nat} {base gw N k : Nat} {X : Nat → List Nat} (h : WantsA w M base gw N k X) (hb : Below w.heap.size w w') : WantsA w' M base gw N k X := h.step (.of_below hb M)
theorem WantsA.congr {w : World} {M : List Nat} {base gw N k : Nat} {X Y : Nat → List Nat} (h : WantsA w M base gw N k X) (e : ∀ i, i < k → Y i = X i) : WantsA w M base gw N k Y := by
  obtain ⟨V, hr, ho, hb, hk⟩ := h
  exact ⟨V, hr, ho, hb, fun i hi => by rw [e i hi]; exact hk i hi⟩
theorem WantsA.put {w : World} {M : List Nat} {base gw N k i : Nat} {X : Nat → List Nat} {v : Value} {Y : List Nat} (h : WantsA w M base gw N k X) (_hi : i < k) (hv : Kept w M gw v Y) : WantsA (w.setCell ⟨gw, i, none⟩ v) M base gw N k (updF X i Y) := by
  obtain ⟨V, hr, ho, hb, hk⟩ := h
  refine ⟨_, hr.set i v, ⟨ho.1, by simpa [World.setCell] using ho.2⟩, hb, fun j hj => ?_⟩
  by_cases e : j = i
  · subst e
    rw [if_pos rfl, updF_same]; exact hv.set
  · rw [if_neg e, updF_other e]; exact (hk j hj).set
theorem WantsA.push {w : World} {M : List Nat} {base gw N k : Nat} {X : Nat → List Nat} {v : Value} (h : WantsA w M base gw N k X) (hv : Kept w M gw v (X k)) : WantsA (w.setCell ⟨gw, k, none⟩ v) M base gw N (k + 1) X := by
  obtain ⟨V, hr, ho, hb, hk⟩ := h
  refine ⟨_, hr.set k v, ⟨ho.1, by simpa [World.setCell] using ho.2⟩, hb, fun j hj => ?_⟩
  by_cases e : j = k
  · subst e
    rw [if_pos rfl]; exact hv.set
  · rw [if_neg e]; exact (hk j (by omega)).set
theorem WantsA.cellAt {w : World} {M : List Nat} {base gw N k i : Nat} {X : Nat → List Nat} (h : WantsA w M base gw N k X) (hi : i < N) : (∃ v, w.cell? ⟨gw, i, none⟩ = some v) ∧ w.frozen? ⟨gw, i, none⟩ = false := by
  obtain ⟨V, hr, ho, hb, hk⟩ := h
  exact ⟨⟨_, hr.cell hi⟩, hr.frozen i⟩
theorem WantsA.get {w : World} {M : List Nat} {base gw N k i : Nat} {X : Nat → List Nat} (h : WantsA w M base gw N k X) (hi : i < k) (hN : k ≤ N) : ∃ g cap, w.cell? ⟨gw, i, none⟩ = some (.slice (some ⟨g, 0, none⟩) 128 cap) ∧ (X i).length = 128 ∧ BAt w (some ⟨g, 0, none⟩) (X i) := by
  obtain ⟨V, hr, ho, hb, hk⟩ := h
  obtain ⟨g, cap, e, _, hl, hx, _⟩ := hk i hi
  exact ⟨g, cap, by rw [hr.cell (by omega), e], hl, hx⟩
theorem WantsA.parts {w : World} {M : List Nat} {base gw N : Nat} {X : Nat → List Nat} (h : WantsA w M base gw N N X) : Parts w (some ⟨gw, 0, none⟩) N X := by
  obtain ⟨V, hr, ho, hb, hk⟩ := h
  refine .inr ⟨gw, 0, rfl, fun i hi => ⟨V i, by rw [Nat.zero_add]; exact hr.cell hi, ?_, by obtain ⟨g, cap, _, _, hl, _⟩ := hk i hi; omega⟩⟩
  obtain ⟨g, cap, e, _, hl, hx, _⟩ := hk i hi
  exact ⟨_, 128, cap, e, hl, hx⟩
theorem WantsA.off {w : World} {M : List Nat} {base gw N k : Nat} {X : Nat → List Nat} (h : WantsA w M base gw N k X) : Off w M gw ∧ base ≤ gw := by
  obtain ⟨V, hr, ho, hb, hk⟩ := h
  exact ⟨ho, hb⟩
theorem WantsA.left {w : World} {F R : List Nat} {base gw N k : Nat} {X : Nat → List Nat} (h : WantsA w (F ++ R) base gw N k X) : WantsA w F base gw N k X := by
  obtain ⟨V, hr, ho, hb, hk⟩ := h
  refine ⟨V, hr, ho.left, hb, fun i hi => ?_⟩
  obtain ⟨g, cap, e, hc, hl, hx, hof, hne⟩ := hk i hi
  exact ⟨g, cap, e, hc, hl, hx, hof.left, hne⟩
theorem fell_tick {d : Dk} (h : d.set = true) (ha : 0 < d.after) : d.fell = d.ticked ∧ d.fall = false := by
  simp [Dk.fell, Dk.fall, h]; omega
theorem fell_now {d : Dk} (h : d.set = true) (ha : d.after = 0) : d.fell = d.crashed d.keep ∧ d.fall = true := by
  simp [Dk.fell, Dk.fall, h, ha]
theorem write_tk (w : World) (B : Nat) (G : Nat) (A : Lies) (d : Dk) (C : Int) (a : Nat) (bb bo bn bcap : Nat) (l : List Nat) (hC : C = (a : Int)) (hbn : bn = 128) (h : IsDk w B G A d) (hon : d.on = true) (hset : d.set = true) (haf : 0 < d.after) (ha : a < d.n) (hl : l.length = 128) (hbc : 128 ≤ bcap) (hx : BAt w (some ⟨bb, bo, none⟩) l) (hoff : Off w (A.foot G) bb) (hm1 : d.waits.length < 1000) (hm2 : d.log.length < 1000) :
    Calls Try.prog 25 #[.pointer (some ⟨G, 0, none⟩), .int .i64 C, .slice (some ⟨bb, bo, none⟩) bn bcap] w (GivesS (.int .i64 0) (d.ticked.wrote a l) B G A w) := by
  subst hC
  subst hbn
  obtain ⟨e1, e2⟩ := fell_tick hset haf
  have := write_go w B G A d a bb bo bcap l h hon ha hl hbc hx hoff e2 (by rw [e1]; exact hm1) (by rw [e1]; exact hm2)
  rwa [e1] at this
theorem write_dead (w : World) (B : Nat) (G : Nat) (A : Lies) (d : Dk) (C : Int) (a : Nat) (ba : Option Addr) (bn bcap : Nat) (hC : C = (a : Int)) (hbn : bn = 128) (h : IsDk w B G A d) (hon : d.on = true) (hset : d.set = true) (haf : d.after = 0) (ha : a < d.n) :
    Calls Try.prog 25 #[.pointer (some ⟨G, 0, none⟩), .int .i64 C, .slice ba bn bcap] w (GivesS (.int .i64 4) (d.crashed d.keep) B G A w) := by
  subst hC
  subst hbn
  obtain ⟨e1, e2⟩ := fell_now hset haf
  have := write_fall w B G A d a ba bcap h hon (by omega) e2
  rwa [e1] at this
theorem flush_tk (w : World) (B : Nat) (G : Nat) (A : Lies) (d : Dk) (h : IsDk w B G A d) (hon : d.on = true) (hset : d.set = true) (haf : 0 < d.after) (hf : d.flushes < 1000) :
    Calls Try.prog 26 #[.pointer (some ⟨G, 0, none⟩)] w (GivesS (.int .i64 0) d.ticked.flushed B G A w) := by
  obtain ⟨e1, e2⟩ := fell_tick hset haf
  have := flush_go w B G A d h hon e2 (by rw [e1]; exact hf)
  rwa [e1] at this
theorem flush_dead (w : World) (B : Nat) (G : Nat) (A : Lies) (d : Dk) (h : IsDk w B G A d) (hon : d.on = true) (hset : d.set = true) (haf : d.after = 0) :
    Calls Try.prog 26 #[.pointer (some ⟨G, 0, none⟩)] w (GivesS (.int .i64 4) (d.crashed d.keep) B G A w) := by
  obtain ⟨e1, e2⟩ := fell_now hset haf
  have := flush_fall w B G A d h hon e2
  rwa [e1] at this

/-! ### What waits, as a law keeps it -/
def rest2 (u v : Value) : List Nat := u.ownBlock.toList ++ v.ownBlock.toList
structure Queue (B : Nat) (w : World) (F : List Nat) (gF : Nat) (u v : Value) (zz : List Nat) (n : Nat) (V : Nat → Value) (X : Nat → List Nat) : Prop where
  at' : w.ownsRow B 3 1 u zz.length (icells zz)
  bs : w.ownsRow B 43 1 v n ((List.range n).map V)
  rows : ∀ j, j < n → Kept w (F ++ rest2 u v) gF (V j) (X j)
  offs : ∀ k ∈ rest2 u v, Off w F k ∧ B ≤ k ∧ k ≠ gF
  apart : ∀ k, u.ownBlock = some k → v.ownBlock ≠ some k
theorem Queue.nil (B : Nat) (w : World) (F : List Nat) (gF : Nat) (V : Nat → Value) (X : Nat → List Nat) : Queue B w F gF (.slice none 0 0) (.slice none 0 0) [] 0 V X :=
  ⟨World.ownsRow_nil _ _ _ _, World.ownsRow_nil _ _ _ _, fun j h => by omega, fun k h => by simp [rest2, Value.ownBlock] at h, fun k h => by cases h⟩
theorem Queue.step {B gF n : Nat} {w w' : World} {F F' zz : List Nat} {u v : Value} {V : Nat → Value} {X : Nat → List Nat} (h : Queue B w F gF u v zz n V X) (hs : Step w F w' F') : Queue B w' F' gF u v zz n V X :=
  ⟨ownsRow_block h.at' (fun k hk => hs.same (h.offs k (by simp [rest2, hk])).1), ownsRow_block h.bs (fun k hk => hs.same (h.offs k (by simp [rest2, hk])).1), fun j hj => (h.rows j hj).step (hs.beside _),
    fun k hk => ⟨hs.off (h.offs k hk).1, (h.offs k hk).2⟩, h.apart⟩
theorem Queue.read {B gF n : Nat} {w w' : World} {F zz : List Nat} {u v : Value} {V : Nat → Value} {X : Nat → List Nat} (h : Queue B w F gF u v zz n V X) (hb : Below w.heap.size w w') : Queue B w' F gF u v zz n V X := h.step (.of_below hb F)
theorem Queue.set {B gF k n : Nat} {w : World} {F zz : List Nat} {u v x : Value} {V : Nat → Value} {X : Nat → List Nat} (h : Queue B w F gF u v zz n V X) : Queue B (w.setCell ⟨gF, k, none⟩ x) F gF u v zz n V X :=
  ⟨ownsRow_block h.at' (fun j hj => Below.heap_setCell _ _ _ _ (h.offs j (by simp [rest2, hj])).2.2), ownsRow_block h.bs (fun j hj => Below.heap_setCell _ _ _ _ (h.offs j (by simp [rest2, hj])).2.2), fun j hj => (h.rows j hj).set,
    fun j hj => ⟨⟨(h.offs j hj).1.1, by simpa [World.setCell] using (h.offs j hj).1.2⟩, (h.offs j hj).2⟩, h.apart⟩
/-- the place of a write that waits, and its bytes -/
theorem Queue.get {B gF k n : Nat} {w : World} {F zz : List Nat} {u v : Value} {V : Nat → Value} {X : Nat → List Nat} (h : Queue B w F gF u v zz n V X) (hn : zz.length = n) (hk : k < n) :
    ∃ ga ca gb cb, u = .slice (some ⟨ga, 0, none⟩) n ca ∧ v = .slice (some ⟨gb, 0, none⟩) n cb ∧ ga ≠ gF ∧ gb ≠ gF ∧ w.cell? ⟨ga, k, none⟩ = some (.int .i64 ((zz.getD k 0 : Nat) : Int)) ∧ w.cell? ⟨gb, k, none⟩ = some (V k) := by
  have hu := fun g hg => World.ownsRow.cells h.at' (g := g) hg
  have hv := fun g hg => World.ownsRow.cells h.bs (g := g) hg
  rcases h.at'.2 with ⟨_, e⟩ | ⟨ga, ca, _, e, _⟩
  · omega
  · rcases h.bs.2 with ⟨_, e2⟩ | ⟨gb, cb, _, e2, _⟩
    · omega
    · refine ⟨ga, ca, gb, cb, by rw [e, hn], e2, (h.offs ga (by simp [rest2, e, Value.ownBlock])).2.2, (h.offs gb (by simp [rest2, e2, Value.ownBlock])).2.2, ?_, ?_⟩
      · have := hu ga (by rw [e]; rfl) k (.int .i64 ((zz.getD k 0 : Nat) : Int)) (by simp [icells, List.getD, hn, hk])
        rwa [addr_add, Nat.zero_add] at this
      · have := hv gb (by rw [e2]; rfl) k (V k) (by simp [hk])
        rwa [addr_add, Nat.zero_add] at this
theorem step_grown {w w1 w8 : World} {r : Option Nat} {g : Nat} (hb : Below w.heap.size w w1) (hg : w1.grownBy w8 r) (hat : r = some g ∨ w.heap.size ≤ g) (R1 R2 : List Nat) : Step w (R1 ++ (r.toList ++ R2)) w8 (R1 ++ ([g] ++ R2)) :=
  ⟨hg.os.trans hb.os, hg.tape.trans hb.tape, hg.output.trans hb.output, Nat.le_trans hb.size hg.size, fun k hk hf => by
    rw [hg.block k (Nat.lt_of_lt_of_le hk hb.size) (fun e => hf (by simp [← e])), hb.block k hk], fun k hk => by
    simp only [List.mem_append, List.mem_singleton] at hk ⊢
    rcases hk with h | h | h
    · exact .inl (.inl h)
    · subst h
      rcases hat with e | e
      · exact .inl (.inr (.inl (by simp [e])))
      · exact .inr e
    · exact .inl (.inr (.inr h))⟩
/-- blocks beside the disk turn -/
theorem Live.many {w0 w w' : World} {G : Nat} {A : Lies} {d : Dk} {R R' : List Nat} (h : Live w0 w G A d) (hs : Step w R w' R') (hR : ∀ k ∈ R, Off w (A.foot G) k ∧ w0.heap.size ≤ k) : Live w0 w' G A d :=
  ⟨h.below.trans (hs.below h.below.size (fun k hk => (hR k hk).2)), IsDkS.carry h.disk hs.size (fun k hk => hs.block k (h.lt k hk) (fun e => (hR k e).1.1 hk))⟩
theorem Queue.growA {B gF n g m cap s : Nat} {w w1 w8 : World} {F zz : List Nat} {u v : Value} {V : Nat → Value} {X : Nat → List Nat} (h : Queue B w F gF u v zz n V X) (hF : ∀ k ∈ F, k < w.heap.size) (hgF : gF < w.heap.size) (hBw : B ≤ w.heap.size) (hb : Below w.heap.size w w1) (hg : w1.grownBy w8 u.ownBlock) (hat : u.ownBlock = some g ∨ w.heap.size ≤ g) (hlt : g < w8.heap.size)
    (ho : w8.ownsRow B 3 1 (.slice (some ⟨g, 0, none⟩) m cap) m (icells zz ++ [.int .i64 ((s : Nat) : Int)])) (hm : m = zz.length + 1) :
    Queue B w8 F gF (.slice (some ⟨g, 0, none⟩) m cap) v (zz ++ [s]) n V X ∧ Step w (rest2 u v) w8 (rest2 (.slice (some ⟨g, 0, none⟩) m cap) v) := by
  have hS : Step w (rest2 u v) w8 (rest2 (.slice (some ⟨g, 0, none⟩) m cap) v) := step_grown hb hg hat [] v.ownBlock.toList
  have hSF := hS.wide F
  have hsz := hS.size
  have hgo : g ∉ F ∧ B ≤ g ∧ g ≠ gF := by
    rcases hat with e | e
    · have := h.offs g (by simp [rest2, e]); exact ⟨this.1.1, this.2.1, this.2.2⟩
    · exact ⟨fun e2 => by have := hF g e2; omega, by omega, by omega⟩
  have hvlt := World.ownsRow.lt h.bs
  refine ⟨⟨?_, ownsRow_block h.bs (fun k hk => ?_), fun j hj => (h.rows j hj).step hSF, fun k hk => ?_, fun k hk e => ?_⟩, hS⟩
  · have e : icells (zz ++ [s]) = icells zz ++ [.int .i64 ((s : Nat) : Int)] := by simp [icells]
    have e2 : (zz ++ [s]).length = m := by simp [hm]
    rw [e, e2]; exact ho
  · have hk2 := (hvlt k hk).2
    rw [hg.block k (Nat.lt_of_lt_of_le hk2 hb.size) (fun e => h.apart k e.symm hk), hb.block k hk2]
  · rcases List.mem_append.1 hk with h2 | h2
    · have : k = g := by simpa [Value.ownBlock, eq_comm] using h2
      subst this
      exact ⟨⟨hgo.1, hlt⟩, hgo.2⟩
    · have := h.offs k (List.mem_append_right _ h2)
      exact ⟨⟨this.1.1, Nat.lt_of_lt_of_le this.1.2 hsz⟩, this.2⟩
  · have : k = g := by simpa [Value.ownBlock, eq_comm] using hk
    subst this
    rcases hat with e2 | e2
    · exact h.apart k e2 e
    · have := (hvlt k e).2; omega
theorem Queue.growB {B gF n g cap : Nat} {w w1 w8 : World} {F zz : List Nat} {u v x : Value} {V : Nat → Value} {X : Nat → List Nat} {l : List Nat} (h : Queue B w F gF u v zz n V X) (hF : ∀ k ∈ F, k < w.heap.size) (hgF : gF < w.heap.size) (hBw : B ≤ w.heap.size) (hb : Below w.heap.size w w1) (hg : w1.grownBy w8 v.ownBlock) (hat : v.ownBlock = some g ∨ w.heap.size ≤ g) (hlt : g < w8.heap.size)
    (ho : w8.ownsRow B 43 1 (.slice (some ⟨g, 0, none⟩) (n + 1) cap) (n + 1) ((List.range n).map V ++ [x])) (hx : Kept w (F ++ rest2 u v) gF x l) :
    Queue B w8 F gF u (.slice (some ⟨g, 0, none⟩) (n + 1) cap) zz (n + 1) (fun j => if j = n then x else V j) (updF X n l) ∧ Step w (rest2 u v) w8 (rest2 u (.slice (some ⟨g, 0, none⟩) (n + 1) cap)) := by
  have hS : Step w (rest2 u v) w8 (rest2 u (.slice (some ⟨g, 0, none⟩) (n + 1) cap)) := by
    have := step_grown hb hg hat u.ownBlock.toList []
    simpa [rest2, Value.ownBlock] using this
  have hSF := hS.wide F
  have hsz := hS.size
  have hgo : g ∉ F ∧ B ≤ g ∧ g ≠ gF := by
    rcases hat with e | e
    · have := h.offs g (by simp [rest2, e]); exact ⟨this.1.1, this.2.1, this.2.2⟩
    · exact ⟨fun e2 => by have := hF g e2; omega, by omega, by omega⟩
  have hult := World.ownsRow.lt h.at'
  refine ⟨⟨ownsRow_block h.at' (fun k hk => ?_), ?_, fun j hj => ?_, fun k hk => ?_, fun k hk e => ?_⟩, hS⟩
  · have hk2 := (hult k hk).2
    rw [hg.block k (Nat.lt_of_lt_of_le hk2 hb.size) (fun e => h.apart k hk e.symm), hb.block k hk2]
  · have e : (List.range (n + 1)).map (fun j => if j = n then x else V j) = (List.range n).map V ++ [x] := by
      rw [List.range_succ, List.map_append]
      congr 1
      · exact List.map_congr_left (fun j hj => by rw [if_neg (by have := List.mem_range.1 hj; omega)])
      · simp
    rw [e]; exact ho
  · by_cases e : j = n
    · subst e
      rw [if_pos rfl, updF_same]; exact hx.step hSF
    · rw [if_neg e, updF_other e]; exact (h.rows j (by omega)).step hSF
  · rcases List.mem_append.1 hk with h2 | h2
    · have := h.offs k (List.mem_append_left _ h2)
      exact ⟨⟨this.1.1, Nat.lt_of_lt_of_le this.1.2 hsz⟩, this.2⟩
    · have : k = g := by simpa [Value.ownBlock, eq_comm] using h2
      subst this
      exact ⟨⟨hgo.1, hlt⟩, hgo.2⟩
  · have : k = g := by simpa [Value.ownBlock, eq_comm] using e
    subst this
    rcases hat with e2 | e2
    · exact h.apart k hk e2
    · have := (hult k hk).2; omega
theorem Queue.congr {B gF n : Nat} {w : World} {F zz zz' : List Nat} {u v : Value} {V : Nat → Value} {X X' : Nat → List Nat} (h : Queue B w F gF u v zz n V X) (ha : zz' = zz) (hX : ∀ j, j < n → X' j = X j) : Queue B w F gF u v zz' n V X' := by
  subst ha
  exact ⟨h.at', h.bs, fun j hj => by rw [hX j hj]; exact h.rows j hj, h.offs, h.apart⟩
/-- of these writes -/
def Waits (B : Nat) (w : World) (F : List Nat) (gF : Nat) (u v : Value) (ws : List (Nat × List Nat)) (V : Nat → Value) : Prop := Queue B w F gF u v (ws.map Prod.fst) ws.length V (fun j => (wtAt ws j).2)
theorem map_fst_get (ws : List (Nat × List Nat)) {k : Nat} (h : k < ws.length) : (ws.map Prod.fst).getD k 0 = (wtAt ws k).1 := by
  simp [List.getD, wtAt_get h, h]
end Go.Proofs.Ytabjhjipnpfnbaa
