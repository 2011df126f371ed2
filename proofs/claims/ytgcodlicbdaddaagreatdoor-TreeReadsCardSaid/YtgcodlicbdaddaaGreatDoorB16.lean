/-
  How far a path goes: with a name more; is it too far? What names nothing.
  A node made longer, or shorter.
  How far a directory's path goes; does it lie within another?
  Does a directory lie within another?
-/
import Derived.Test.YtgcodlicbdaddaaGreatDoorB6
import Derived.Test.YtgcodlicbdaddaaGreatDoorB3
import Derived.Test.YtgcodlicbdaddaaGreatDoorB4
import Derived.Test.YtgcodlicbdaddaaGreatDoorB1
import Derived.Test.YtgcodlicbdaddaaGreatDoorB9
import Derived.Deep.RegionWith
import Derived.Deep.RegionHeld3
import Derived.StillTailTactics
import Derived.Test.YtgcodlicbdaddaaGreatDoorB15
import Derived.LaidEqlPtr

section
set_option linter.unusedVariables false
set_option linter.unusedSimpArgs false
namespace Go.Proofs.YtgcodlicbdaddaaGreatDoor
open Go.RowKit BigFrame
set_option maxRecDepth 100000

/-- a variable of a struct's type, handed back -/
theorem cell_ret1 {fn : Func} {p : Tmp} {T : TypeId} {fs : Array Field} (h : fn.results = #[.cell p T]) {tmps : Array Value} {w : World} {a : Nat} {l : List Value} (hp : tmps.getD p undef = .pointer (some ⟨a, 0, none⟩)) (hV : Vw w T a l)
    (hu : Tryz.prog.underlying T = some (.struct fs)) (hi : (Tryz.prog.info? T).map (·.size) = some l.length) : (results fn tmps).run Tryz.prog w = .ok (.agg l.toArray) w := by
  have hp' : tmps[p]?.getD undef = .pointer (some ⟨a, 0, none⟩) := by simpa using hp
  simp [results, h, hp', asAddr, run_loadVar_row w a _ T _ _ _ hV hu rfl (by rw [hi]; simp)]
theorem cell_ret2 {fn : Func} {p u : Tmp} {T : TypeId} {fs : Array Field} (h : fn.results = #[.cell p T, .tmp u]) {tmps : Array Value} {w : World} {a : Nat} {l : List Value} (hp : tmps.getD p undef = .pointer (some ⟨a, 0, none⟩)) (hV : Vw w T a l)
    (hu : Tryz.prog.underlying T = some (.struct fs)) (hi : (Tryz.prog.info? T).map (·.size) = some l.length) : (results fn tmps).run Tryz.prog w = .ok (.tuple #[.agg l.toArray, tmps.getD u undef]) w := by
  have hp' : tmps[p]?.getD undef = .pointer (some ⟨a, 0, none⟩) := by simpa using hp
  simp [results, h, hp', asAddr, run_loadVar_row w a _ T _ _ _ hV hu rfl (by rw [hi]; simp)]
theorem Tryz.sizeR : (Tryz.prog.info? 212).map (·.size) = some 2 := by kernel_rfl
theorem Tryz.sizeP : (Tryz.prog.info? 171).map (·.size) = some 3 := by kernel_rfl
theorem Tryz.sizeA : (Tryz.prog.info? 38).map (·.size) = some 6 := by kernel_rfl
/-- a reach -/
def reV (a n : Nat) : Value := .agg #[.int .i64 ((a : Nat) : Int), .int .i64 ((n : Nat) : Int)]
theorem Vw.alloc2 (w : World) (o : Obj) (l : List Value) (t : TypeId) : Vw ((w.alloc o).alloc (.cells l.toArray t)) t (w.heap.size + 1) l := by
  have := Vw.alloc (w.alloc o) l t
  rwa [show (w.alloc o).heap.size = w.heap.size + 1 by simp] at this
theorem with_any (a n : Nat) (p : List Nat) (w : World) (ha : a ≤ 1000000) (hn : n ≤ 1000000) (hp : p.length ≤ 1000000) :
    Calls Tryz.prog 177 #[.agg #[.int .i64 ((a : Nat) : Int), .int .i64 ((n : Nat) : Int)], .string (strOf p)] w (Tells (.agg #[.int .i64 ((a + 1 + p.length : Nat) : Int), .int .i64 ((n + 1 : Nat) : Int)]) w) := by
  have hs : (strOf p).size = p.length := by simp [strOf, ByteArray.size]
  go_enter Tryz.func177, Tryz.ntmps177
  go_wp2_with fail
  refine bodyPost_ret (cell_ret1 (l := [.int .i64 ((a : Int) + 1 + (p.length : Nat)), .int .i64 ((n : Int) + 1)]) rfl rfl (Vw.alloc2 _ _ _ 212) Tryz.underlying212 Tryz.sizeR) rfl ⟨?_, ?_⟩
  · have e1 : ((a : Int) + 1 + (p.length : Nat)) = ((a + 1 + p.length : Nat) : Int) := by omega
    have e2 : ((n : Int) + 1) = ((n + 1 : Nat) : Int) := by omega
    rw [e1, e2]
  · exact ((Below.refl w.heap.size w).alloc (Nat.le_refl _) _).alloc (by simp) _
theorem far_any (a n : Nat) (w : World) : Calls Tryz.prog 178 #[.agg #[.int .i64 ((a : Nat) : Int), .int .i64 ((n : Nat) : Int)]] w (Tells (.bool (far a n)) w) := by
  unfold far
  by_cases h : 200 < a
  · have t0 : decide (200 < a) = true := decide_eq_true h
    have t1 : decide ((200 : Int) < (a : Int)) = true := decide_eq_true (by omega)
    go_enter Tryz.func178, Tryz.ntmps178
    go_wp2_with fail
    go_ret
    rw [t0, Bool.true_or]
    exact ⟨rfl, (Below.refl w.heap.size w).alloc (Nat.le_refl _) _⟩
  · have t0 : decide (200 < a) = false := decide_eq_false h
    have t1 : decide ((200 : Int) < (a : Int)) = false := decide_eq_false (by omega)
    by_cases h2 : 20 < n
    · have t2 : decide (20 < n) = true := decide_eq_true h2
      have t3 : decide ((20 : Int) < (n : Int)) = true := decide_eq_true (by omega)
      go_enter Tryz.func178, Tryz.ntmps178
      go_wp2_with fail
      go_ret
      rw [t0, t2]
      exact ⟨rfl, (Below.refl w.heap.size w).alloc (Nat.le_refl _) _⟩
    · have t2 : decide (20 < n) = false := decide_eq_false h2
      have t3 : decide ((20 : Int) < (n : Int)) = false := decide_eq_false (by omega)
      go_enter Tryz.func178, Tryz.ntmps178
      go_wp2_with fail
      go_ret
      rw [t0, t2]
      exact ⟨rfl, (Below.refl w.heap.size w).alloc (Nat.le_refl _) _⟩
/-- an answer -/
def ansV (c n k l : Int) (d ns : Value) : Value := .agg #[.int .i64 c, .int .i64 n, .int .i64 k, .int .i64 l, d, ns]
theorem only_any (c : Int) (w : World) : Calls Tryz.prog 79 #[.int .i64 c] w (Tells (.tuple #[ansV 0 0 0 0 (.slice none 0 0) (.slice none 0 0), .int .i64 c]) w) := by
  go_enter Tryz.func79, Tryz.ntmps79
  go_wp2_with fail
  refine bodyPost_ret (cell_ret2 rfl rfl (Vw.alloc _ [.int .i64 0, .int .i64 0, .int .i64 0, .int .i64 0, .slice none 0 0, .slice none 0 0] 38) Tryz.underlying38 (by rw [Tryz.sizeA]; rfl)) rfl ⟨rfl, ?_⟩
  exact (Below.refl w.heap.size w).alloc (Nat.le_refl _) _
theorem notBelow_any (n : Int) (w : World) : Calls Tryz.prog 97 #[.int .i64 n] w fun e w' => e = .returned (.int .i64 (if n < 0 then 2 else 0)) ∧ w = w' := by
  by_cases h : n < 0
  · have t0 : decide (n < 0) = true := decide_eq_true h
    go_enter Tryz.func97, Tryz.ntmps97
    go_wp2_with fail
    go_ret
    exact ⟨rfl, rfl⟩
  · have t0 : decide (n < 0) = false := decide_eq_false h
    go_enter Tryz.func97, Tryz.ntmps97
    go_wp2_with fail
    go_ret
    exact ⟨rfl, rfl⟩
end Go.Proofs.YtgcodlicbdaddaaGreatDoor
end

section
set_option linter.unusedVariables false
set_option linter.unusedSimpArgs false
namespace Go.Proofs.YtgcodlicbdaddaaGreatDoor
open Go.RowKit BigFrame
set_option maxRecDepth 100000

/-- nothing has turned but a node, its bytes, and new blocks -/
structure NStep (w w' : World) (a : Nat) (v v' : Value) : Prop where
  os : w'.os = w.os
  tape : w'.tape = w.tape
  output : w'.output = w.output
  size : w.heap.size ≤ w'.heap.size
  block : ∀ k, k < w.heap.size → k ≠ a → v.ownBlock ≠ some k → w'.heap[k]? = w.heap[k]?
  row : ∀ g, v'.ownBlock = some g → v.ownBlock = some g ∨ w.heap.size ≤ g
def NodePost (w : World) (B a i : Nat) (x : Nd) (v en : Value) (e : Ending) (w' : World) : Prop := e = .returned (.tuple #[]) ∧ ∃ v', NodeAt w' B a i x v' en ∧ NStep w w' a v v'
theorem step_append_zeros {w : World} {ops : Array Oper} {o : Oper} {a : Act} {K : Act → World → Prop} {Q : Exit → Act → World → Prop} {F : Prop} (hgd : o.guard = none) (s x : Operand)
    (ho : o.op = .call { callee := .builtin .append, args := #[s, x], argTypes := #[31, 3] })
    (base k : Nat) (v : Value) (L : List Nat) (hs : a.eval s = v) (hown : OwnB w base v L) (hx : a.eval x = .int .i64 (k : Int))
    (hlen : L.length + k ≤ 1000000) (hbase : base ≤ w.heap.size)
    (h : ∀ v' w', OwnB w' base v' (L ++ zs k) → w.grownBy w' v.ownBlock → (∀ g, v'.ownBlock = some g → v.ownBlock = some g ∨ w.heap.size ≤ g) → K (a.put o.dst v') w') :
    if Region.wanted o (yielded ops a.tmps) = true then Oper.wp Tryz.prog o a w K Q else F := by
  have hw : Region.wanted o (yielded ops a.tmps) = true := by simp [Region.wanted, hgd]
  rw [if_pos hw]
  have key : ∃ v' w', (Builtin.append_ #[31, 3] o.type #[v, .int .i64 (k : Int)]).run Tryz.prog w = .ok v' w' ∧ OwnB w' base v' (L ++ zs k) ∧ w.grownBy w' v.ownBlock ∧ (∀ g, v'.ownBlock = some g → v.ownBlock = some g ∨ w.heap.size ≤ g) := by
    have hown2 := hown
    rcases hown2.2 with ⟨rfl, e⟩ | ⟨g, cap, cur, rfl, _⟩
    · obtain rfl : L = [] := List.eq_nil_of_length_eq_zero e
      obtain ⟨v', w', h1, h2, h3, h4⟩ := run_append_zeros_nil_new (w := w) base k o.type (by simpa using hlen) hbase
      exact ⟨v', w', h1, h2, h3, fun g e => .inr (h4 g e)⟩
    · obtain ⟨v', w', h1, h2, h3, h4⟩ := run_append_zeros_new base g L.length cap k L o.type hown rfl hlen hbase
      exact ⟨v', w', h1, h2, h3, h4⟩
  obtain ⟨v', w', hr, h1, h2, h3⟩ := key
  unfold Oper.wp
  simp [execOp, ho, resolve, invoke, builtin, hs, hx, hr, Result.andThen]
  exact h v' w' h1 h2 h3
section
variable {B a i : Nat} {x : Nd} {v en : Value}
theorem EntsAt.blk {w w' : World} {x' : Nd} (h : EntsAt w B x en) (hk : x'.kind = x.kind) (he : x'.ents = x.ents) (e : ∀ b, en = .map (some b) → w'.heap[b]? = w.heap[b]?) : EntsAt w' B x' en :=
  ⟨fun h2 => by
    rw [hk] at h2
    obtain ⟨b, eb, hb, hm⟩ := h.dir h2
    exact ⟨b, eb, hb, by rw [he]; exact hm.blk (e b eb)⟩, fun h2 => by
    rw [hk] at h2
    rw [he]
    exact h.other h2⟩
theorem ndc_set_dat (v' : Value) : (ndc i x v en).set 3 v' = ndc i x v' en := rfl
theorem heap_set_other (w : World) (p : Addr) (u : Value) {k : Nat} (h : k ≠ p.block) : (w.setCell p u).heap[k]? = w.heap[k]? := Below.heap_setCell _ _ _ _ h
theorem size_set (w : World) (p : Addr) (u : Value) : (w.setCell p u).heap.size = w.heap.size := by simp [World.setCell]
theorem resize_more (n : Nat) (w : World) (h : NodeAt w B a i x v en) (hk3 : x.kind ≠ 3) (hn : x.data.length < n) (hm : n ≤ 20736) (hB : B ≤ w.heap.size) (hap : v.ownBlock ≠ some a) (hen : ∀ b, en = .map (some b) → b ≠ a ∧ v.ownBlock ≠ some b) :
    Calls Tryz.prog 131 #[.pointer (some ⟨a, 0, none⟩), .int .i64 ((n : Nat) : Int)] w (NodePost w B a i (x.resize n) v en) := by
  have cd := h.dat
  have cf := h.frozen 3
  obtain ⟨p, cap, rfl, hp, hnil, hle⟩ := h.data.slice
  have d0 : decide (x.data.length < n) = true := decide_eq_true hn
  have h' := Lib.hid h
  clear h hp
  go_enter Tryz.func131, Tryz.ntmps131
  go_wp2_with fail
  obtain ⟨k, hk⟩ : ∃ k, n - x.data.length = k := ⟨_, rfl⟩
  have hk' := Lib.hid hk
  have hB' := Lib.hid hB
  have hsum : IntKind.i64.wrap ((n : Int) - ((x.data.length : Nat) : Int)) = ((k : Nat) : Int) := by rw [wrap_in (by omega)]; omega
  have cd1 : w.drew.cell? ⟨a, 3, none⟩ = some (.slice p x.data.length cap) := cd
  have hd1 := Lib.hid (show OwnB w.drew B (.slice p x.data.length cap) x.data from h'.out.own hk3)
  have hap' := Lib.hid (show some a ≠ (Value.slice p x.data.length cap).ownBlock from fun e => hap e.symm)
  have hs := Lib.hid (show x.data.length + k ≤ 1000000 by omega)
  have hn' := Lib.hid hn
  have hm' := Lib.hid hm
  have hen' := Lib.hid hen
  clear hk hB hn hm hap hen
  go_region_law (refine step_append_zeros (by rfl) (.tmp 15) (.tmp 22) (by rfl) B k (.slice p x.data.length cap) x.data (by simp [Act.eval, Act.put]) hd1.out (by simp [Act.eval, Act.put]) hs.out (by exact hB'.out) ?_; intro v1 w1 o1 g1 n1; obtain ⟨p1, cap1, rfl, _, _, _⟩ := o1.slice; have c1 := g1.cell cd1 hap'.out; have f1 := (World.frozen?_of_block (a := ⟨a, 3, none⟩) (g1.block a h'.out.lt hap'.out)).trans cf; have O1 := Lib.hid o1; have G1 := Lib.hid g1; have N1 := Lib.hid n1; clear o1 g1 n1)
  all_goals (
    have hend := Lib.hid (show NodePost w B a i (x.resize n) (.slice p x.data.length cap) en (.returned (.tuple #[])) (w1.setCell ⟨a, 3, none⟩ (.slice p1 (x.data ++ zs k).length cap1)) from by
      have hx : x.resize n = { x with data := x.data ++ zs k } := by
        unfold Nd.resize
        rw [if_pos hn'.out, hk'.out]
        rfl
      rw [hx]
      have hg := G1.out
      have hn0 := h'.out
      have hgsz := hg.size
      have ha : w1.heap[a]? = w.heap[a]? := hg.block a hn0.lt hap'.out
      have hrow : Vw w1 76 a (ndc i x (.slice p x.data.length cap) en) := by have := hn0.row; unfold Vw at this ⊢; rw [ha]; exact this
      have hne : ∀ g, (Value.slice p1 (x.data ++ zs k).length cap1).ownBlock = some g → g ≠ a := fun g e e2 => by
        rcases N1.out g e with h1 | h1
        · exact hap'.out (by rw [← e2]; exact h1.symm)
        · have := hn0.lt; have h3 : w.heap.size ≤ g := h1; omega
      have hown := O1.out.blk (w' := w1.setCell ⟨a, 3, none⟩ (.slice p1 (x.data ++ zs k).length cap1)) fun g e => heap_set_other w1 ⟨a, 3, none⟩ _ (hne g e)
      refine ⟨rfl, .slice p1 (x.data ++ zs k).length cap1, ⟨?_, hown.rd, hn0.wrl, ?_, ?_, ?_, fun _ => hown⟩, ⟨hg.os, hg.tape, hg.output, by rw [size_set]; exact hgsz, fun j hj h1 h2 => ?_, fun g e => N1.out g e⟩⟩
      · exact hrow.set 3 _
      · exact hn0.oct.append (Octs.rep k 0 (by omega))
      · show (x.data ++ zs k).length ≤ 20736
        rw [List.length_append, zs_length]
        have := hm'.out
        have := hn'.out
        have := hk'.out
        omega
      · refine hn0.ents.blk rfl rfl fun b e => ?_
        obtain ⟨h1, h2⟩ := hen'.out b e
        rw [heap_set_other w1 ⟨a, 3, none⟩ _ h1]
        exact hg.block b (hn0.entB e).2.1 (fun e2 => h2 e2.symm)
      · rw [heap_set_other w1 ⟨a, 3, none⟩ _ h1]
        exact hg.block j hj (fun e2 => h2 e2.symm))
    go_wp2_with fail
    go_end0
    have h9 := hend.out
    rw [List.length_append] at h9
    exact h9)

theorem needZ_nat {n : Nat} (h : n ≤ 20736) : needZ ((n : Nat) : Int) = ((needB n : Nat) : Int) := by
  unfold needZ needB
  split
  · obtain rfl : n = 0 := by omega
    rfl
  · split
    · obtain rfl : n = 20736 := by omega
      rfl
    · omega
theorem needB_le {n : Nat} (h : n ≤ 20736) : needB n ≤ 162 := by unfold needB; omega
theorem zero_bool (w : World) : (zeroValue 4).run Tryz.prog w = .ok (.bool false) w := by kernel_rfl
theorem splice_mid {α : Type} (H W T R : List α) (q : Nat) (hq : q + R.length = W.length) : splice (H ++ (W ++ T)) (H.length + q) R = H ++ ((W.take q ++ R) ++ T) := by
  unfold splice
  rw [List.take_length_add_append, List.take_append_of_le_length (by omega), List.drop_append, List.drop_of_length_le (by omega), List.nil_append, List.drop_append, List.drop_of_length_le (by omega), List.nil_append,
    show H.length + q + R.length - H.length - W.length = 0 by omega, List.drop_zero, List.append_assoc, List.append_assoc]
theorem own_slice (p : Option Addr) (n c n' c' : Nat) : (Value.slice p n c).ownBlock = (Value.slice p n' c').ownBlock := by cases p <;> rfl
theorem less_end {w w9 : World} {n q cap : Nat} {p : Option Addr} (h : NodeAt w B a i x (.slice p x.data.length cap) en) (hk3 : x.kind ≠ 3) (hn : n ≤ x.data.length) (hq : q ≤ 162) (hap : (Value.slice p x.data.length cap).ownBlock ≠ some a) (hen : ∀ b, en = .map (some b) → b ≠ a ∧ (Value.slice p x.data.length cap).ownBlock ≠ some b)
    (hx : x.resize n = { x with data := x.data.take n, wr := x.wr.take q ++ List.replicate (162 - q) false })
    (V9 : Vw w9 76 a (splice (ndc i x (.slice p n cap) en) (4 + q) (List.replicate (162 - q) (.bool false)))) (h1 : w9.os = w.os) (h2 : w9.tape = w.tape) (h3 : w9.output = w.output) (h4 : w9.heap.size = w.heap.size) (h5 : ∀ k, k ≠ a → w9.heap[k]? = w.heap[k]?) :
    NodePost w B a i (x.resize n) (.slice p x.data.length cap) en (.returned (.tuple #[])) w9 := by
  rw [hx]
  have e : splice (ndc i x (.slice p n cap) en) (4 + q) (List.replicate (162 - q) (.bool false)) = ndc i { x with data := x.data.take n, wr := x.wr.take q ++ List.replicate (162 - q) false } (.slice p n cap) en := by
    have hs := splice_mid (ndh i x (.slice p n cap)) (x.wr.map Value.bool) (ndt x en) (List.replicate (162 - q) (.bool false)) q (by rw [List.length_replicate, List.length_map, h.wrl]; omega)
    show splice (ndh i x (.slice p n cap) ++ (x.wr.map Value.bool ++ ndt x en)) ((ndh i x (.slice p n cap)).length + q) _ = _
    rw [hs]
    show _ = ndh i x (.slice p n cap) ++ ((x.wr.take q ++ List.replicate (162 - q) false).map Value.bool ++ ndt x en)
    rw [List.map_append, List.map_take, List.map_replicate]
  rw [e] at V9
  have hown := ((h.own hk3).cut rfl hn).blk (w' := w9) fun g e => h5 g (fun e2 => hap (by rw [← e2]; exact (own_slice p _ _ _ _).trans e))
  refine ⟨rfl, .slice p n cap, ⟨V9, hown.rd, ?_, h.oct.take n, ?_, ?_, fun _ => hown⟩, ⟨h1, h2, h3, Nat.le_of_eq h4.symm, fun k _ hk _ => h5 k hk, fun g e => .inl ((own_slice p _ _ _ _).symm.trans e)⟩⟩
  · show (x.wr.take q ++ List.replicate (162 - q) false).length = 162
    rw [List.length_append, List.length_take, List.length_replicate, h.wrl]; omega
  · show (x.data.take n).length ≤ 20736
    rw [List.length_take]
    have := h.dl
    omega
  · exact h.ents.blk rfl rfl fun b e => h5 b (hen b e).1
theorem setCells_keeps (a : Nat) : ∀ (m : List Value) (w : World) (o : Nat), (w.setCells a o m).os = w.os ∧ (w.setCells a o m).tape = w.tape ∧ (w.setCells a o m).output = w.output ∧ (w.setCells a o m).heap.size = w.heap.size ∧ ∀ k, k ≠ a → (w.setCells a o m).heap[k]? = w.heap[k]?
  | [], w, o => ⟨rfl, rfl, rfl, rfl, fun _ _ => rfl⟩
  | x :: m, w, o => by
    obtain ⟨h1, h2, h3, h4, h5⟩ := setCells_keeps a m (w.setCell ⟨a, o, none⟩ x) (o + 1)
    exact ⟨h1, h2, h3, by rw [World.setCells, h4, size_set], fun k hk => by rw [World.setCells, h5 k hk, heap_set_other w ⟨a, o, none⟩ x hk]⟩
set_option maxHeartbeats 1000000 in
theorem resize_less (n : Nat) (w : World) (h : NodeAt w B a i x v en) (hk3 : x.kind ≠ 3) (hn : n ≤ x.data.length) (hap : v.ownBlock ≠ some a) (hen : ∀ b, en = .map (some b) → b ≠ a ∧ v.ownBlock ≠ some b) :
    Calls Tryz.prog 131 #[.pointer (some ⟨a, 0, none⟩), .int .i64 ((n : Nat) : Int)] w (NodePost w B a i (x.resize n) v en) := by
  have cd := h.dat
  have cf := h.frozen 3
  obtain ⟨p, cap, e, hp, hnil, hle⟩ := h.data.slice
  subst e
  have d0 : decide (x.data.length < n) = false := decide_eq_false (by omega)
  have hdl := h.dl
  have hx := Lib.hid (show x.resize n = { x with data := x.data.take n, wr := x.wr.take (needB n) ++ List.replicate (162 - needB n) false } by unfold Nd.resize; rw [if_neg (by omega)])
  have hq := Lib.hid (needZ_nat (n := n) (by omega))
  have hq2 := needB_le (n := n) (by omega)
  obtain ⟨q, hqq⟩ : ∃ q, needB n = q := ⟨_, rfl⟩
  rw [hqq] at hx hq hq2
  have hn2 : n ≤ cap := by omega
  have h' := Lib.hid h
  clear h hp
  go_enter Tryz.func131, Tryz.ntmps131
  go_wp2_with fail
  obtain ⟨w2, hw2⟩ : ∃ w2, w.setCell ⟨a, 3, none⟩ (.slice p n cap) = w2 := ⟨_, rfl⟩
  rw [hw2]
  have V2 := Lib.hid (show Vw w2 76 a (ndc i x (.slice p n cap) en) by rw [← hw2]; exact h'.out.row.set 3 _)
  have hw2' := Lib.hid hw2
  have hl2 := Lib.hid (show (ndc i x (.slice p n cap) en).length = 170 from ndc_length h'.out.wrl)
  clear hw2 cd cf
  by_cases e : q = 162
  · subst e
    have hcl : (Builtin.clear_ #[80] 0 #[.slice (some ⟨a, 4, none⟩) 0 0]).run Tryz.prog w2.drew = .ok (.tuple #[]) w2.drew := by simp [Builtin.clear_, run_underlying Tryz.underlying80]
    go_region_with ((go_at_call 172; refine (need_any _ _).mono ?_; rw [hq.out]; rintro e w3 ⟨rfl, rfl⟩))
    go_end0
    refine less_end h'.out hk3 hn (by omega) hap hen hx.out (w9 := w2.drew) ?_ ?_ ?_ ?_ ?_ ?_
    · show Vw w2 _ a _
      rw [Nat.sub_self, List.replicate_zero, splice, List.nil_append, List.length_nil, Nat.add_zero, List.take_append_drop]
      exact V2.out
    all_goals rw [← hw2'.out]
    · rfl
    · rfl
    · rfl
    · exact size_set _ _ _
    · exact fun k hk => heap_set_other w ⟨a, 3, none⟩ _ hk
  · have hcl : (Builtin.clear_ #[80] 0 #[.slice (some ⟨a, 4 + q, none⟩) (162 - q) (162 - q)]).run Tryz.prog w2.drew = .ok (.tuple #[]) (w2.drew.setCells a (4 + q) (List.replicate (162 - q) (.bool false))) := by
      have ht := V2.out.drew1.there (o := 4 + q) (n := 162 - q) (by rw [hl2.out]; omega)
      exact Lib.run_clear_slice (P := Tryz.prog) w2.drew 80 4 0 (.bool false) Tryz.underlying80 zero_bool rfl rfl a (4 + q) (162 - q) (162 - q) (by omega) (fun j hj => (ht j hj).1) (fun j hj => (ht j hj).2)
    have q3 : ¬ 162 = q := fun h => e h.symm
    have q0 : (0 : Int) ≤ ((q : Nat) : Int) := by omega
    have q1 : ((q : Nat) : Int) ≤ 162 := by omega
    go_region_with ((go_at_call 172; refine (need_any _ _).mono ?_; rw [hq.out]; rintro e w3 ⟨rfl, rfl⟩))
    go_end0
    obtain ⟨h1, h2, h3, h4, h5⟩ := setCells_keeps a (List.replicate (162 - q) (.bool false)) w2.drew (4 + q)
    refine less_end h'.out hk3 hn hq2 hap hen hx.out (V2.out.drew1.put (List.replicate (162 - q) (.bool false)) (4 + q) (by rw [hl2.out, List.length_replicate]; omega)) ?_ ?_ ?_ ?_ ?_
    · rw [h1, ← hw2'.out]; rfl
    · rw [h2, ← hw2'.out]; rfl
    · rw [h3, ← hw2'.out]; rfl
    · rw [h4, ← hw2'.out]; exact size_set _ _ _
    · intro k hk
      rw [h5 k hk, ← hw2'.out]
      exact heap_set_other w ⟨a, 3, none⟩ _ hk
theorem resize_any (n : Nat) (w : World) (h : NodeAt w B a i x v en) (hk3 : x.kind ≠ 3) (hm : n ≤ 20736) (hB : B ≤ w.heap.size) (hap : v.ownBlock ≠ some a) (hen : ∀ b, en = .map (some b) → b ≠ a ∧ v.ownBlock ≠ some b) :
    Calls Tryz.prog 131 #[.pointer (some ⟨a, 0, none⟩), .int .i64 ((n : Nat) : Int)] w (NodePost w B a i (x.resize n) v en) := by
  by_cases hn : x.data.length < n
  · exact resize_more n w h hk3 hn hm hB hap hen
  · exact resize_less n w h hk3 (by omega) hap hen
end
end Go.Proofs.YtgcodlicbdaddaaGreatDoor
end

section
set_option linter.unusedVariables false
set_option linter.unusedSimpArgs false
namespace Go.Proofs.YtgcodlicbdaddaaGreatDoor
open Go.RowKit BigFrame
set_option maxRecDepth 100000

section
variable {w : World} {B b : Nat} {A : Ad} {s : Tr}
def ReRel (A : Ad) (s : Tr) (i : Nat) (w : World) (g : Nat) (v : Value) (wr : World) : Prop :=
  ∃ (j : Nat) (y : Nd) (rest : List (List Nat)), g = (s.path j).length + 1 ∧ v = .pointer (some ⟨A.nd j, 0, none⟩) ∧ s.opt j = some y ∧ s.path i = s.path j ++ rest ∧
    Vw wr 212 w.heap.size [.int .i64 0, .int .i64 0] ∧ Vw wr 212 (w.heap.size + 1) [.int .i64 ((sizeL rest : Nat) : Int), .int .i64 ((rest.length : Nat) : Int)] ∧ Below w.heap.size w wr
set_option maxHeartbeats 1000000 in
theorem reach_any (h : TreeAt w B A s) (ho : Ok b s) (hb : b ≤ 1000000) (i : Nat) (x : Nd) (hi : s.opt i = some x) :
    Calls Tryz.prog 176 #[.pointer (some ⟨A.t, 0, none⟩), .pointer (some ⟨A.nd i, 0, none⟩)] w (Tells (.agg #[.int .i64 ((sizeL (s.path i) : Nat) : Int), .int .i64 (((s.path i).length : Nat) : Int)]) w) := by
  have hh := Lib.hid h
  clear h
  go_enter Tryz.func176, Tryz.ntmps176
  go_wp2_with fail
  go_loopg [1] ((s.path i).length + 1) (fun g v wr => ReRel A s i w g v wr)
  case atStart => exact ⟨i, x, [], rfl, rfl, hi, by rw [List.append_nil], (Vw.alloc _ _ _).on' ((Below.refl _ _).alloc (Nat.le_refl _) _), Vw.alloc2 _ _ _ _, ((Below.refl w.heap.size w).alloc (Nat.le_refl _) _).alloc (by simp) _⟩
  case round =>
    obtain ⟨j, y, rest, rfl, rfl, hy, hp, V4, V5, hB⟩ := hrel
    have hB' := Lib.hid hB
    have hwr := Lib.hid (hh.out.below hB)
    have hN := hwr.out.node j y hy
    have cu := hN.up
    have V4' := Lib.hid V4
    have V5' := Lib.hid V5
    have hp' := Lib.hid hp
    have c50 := V5.cell (k := 0) rfl
    have c51 := V5.cell (k := 1) rfl
    by_cases hu : y.up = 0
    · rw [hu] at cu
      have hend := Lib.hid (show rest = s.path i by rw [hp, Tr.path_root (by rw [Tr.at_of hy]; exact hu), List.nil_append])
      have c40 := V4.cell (k := 0) rfl
      have c41 := V4.cell (k := 1) rfl
      have f40 := V4.frozen 0
      have f41 := V4.frozen 1
      clear hN V4 V5 hB hp
      go_wp2_with fail
      have V6 := Lib.hid ((V4'.out.set 0 (.int .i64 ((sizeL rest : Nat) : Int))).set 1 (.int .i64 ((rest.length : Nat) : Int)))
      refine bodyPost_ret (cell_ret1 rfl rfl V6.out Tryz.underlying212 Tryz.sizeR) rfl ⟨?_, ?_⟩
      · rw [← hend.out]; rfl
      · exact (hB'.out.setCell (p := ⟨w.heap.size, 0, none⟩) (Nat.le_refl _) _).setCell (p := ⟨w.heap.size, 1, none⟩) (Nat.le_refl _) _
    · have cn := hN.nm
      have hpe := Lib.hid (show s.path i = s.path y.up ++ (y.nm :: rest) by rw [hp, ho.path_up hy hu, List.append_assoc]; rfl)
      have hlen := Lib.hid (show (s.path j).length + 1 = (s.path y.up).length + 1 + 1 by rw [ho.path_up hy hu, List.length_append]; rfl)
      obtain ⟨z, hz, _⟩ := ho.up j y hy hu
      have t0 : (((y.up : Nat) : Int) == 0) = false := nat_beq_ne (b := 0) hu
      have t1 : (((y.up : Nat) : Int) != 0) = true := by rw [bne_iff_ne]; omega
      have hpl := Tr.path_len s i
      have hsz : sizeL rest ≤ 525 := by have := ho.path_size i; rw [hp, sizeL_append] at this; omega
      have hrl : rest.length ≤ 21 := by rw [hp, List.length_append] at hpl; omega
      have hnl : y.nm.length ≤ 24 := (ho.each j y hy).nml
      have hlt : y.up < 1000000000 := by have := Tr.opt_lt hz; have := ho.len.2; omega
      have hz' := Lib.hid hz
      clear hN V4 V5 hB hp hz hpl
      go_wp2_with fail
      go_region_with ((go_at_call 177; refine (with_any _ _ y.nm _ (by omega) (by omega) (by omega)).mono ?_; rintro e w3 ⟨rfl, hb3⟩; have V53 := Lib.hid (V5'.out.drew1.on' hb3); have c0 := V53.out.cell (k := 0) rfl; have c1 := V53.out.cell (k := 1) rfl; have f0 := V53.out.frozen 0; have f1 := V53.out.frozen 1; have V43 := Lib.hid (V4'.out.drew1.on' hb3); have hB3 := Lib.hid (hB'.out.drew.trans (hb3.mono hB'.out.size)); clear hb3))
      all_goals (
        obtain ⟨w4, hw4⟩ : ∃ w4, (w3.setCell ⟨w.heap.size + 1, 0, none⟩ (.int .i64 (((sizeL rest : Nat) : Int) + 1 + ((y.nm.length : Nat) : Int)))).setCell ⟨w.heap.size + 1, 1, none⟩ (.int .i64 (((rest.length : Nat) : Int) + 1)) = w4 := ⟨_, rfl⟩
        rw [hw4]
        have V54 := Lib.hid (show Vw w4 212 (w.heap.size + 1) [.int .i64 (((sizeL rest : Nat) : Int) + 1 + ((y.nm.length : Nat) : Int)), .int .i64 (((rest.length : Nat) : Int) + 1)] by rw [← hw4]; exact (V53.out.set 0 _).set 1 _)
        have V44 := Lib.hid (show Vw w4 212 w.heap.size [.int .i64 0, .int .i64 0] by
          have := V43.out
          unfold Vw at this ⊢
          rw [← hw4, heap_set_other _ _ _ (by simp), heap_set_other _ _ _ (by simp)]
          exact this)
        have hB4 := Lib.hid (show Below w.heap.size w w4 by rw [← hw4]; exact (hB3.out.setCell (p := ⟨w.heap.size + 1, 0, none⟩) (Nat.le_succ _) _).setCell (p := ⟨w.heap.size + 1, 1, none⟩) (Nat.le_succ _) _)
        have hT4 := hh.out.below hB4.out
        have cm := hT4.drew.maps
        have cu4 := (hT4.drew.node j y hy).up
        have hl := hT4.drew.get y.up hlt
        rw [show ptrO A s y.up = .pointer (some ⟨A.nd y.up, 0, none⟩) by unfold ptrO; rw [hz'.out]; rfl] at hl
        clear hw4 hT4
        go_wp2_with fail
        go_region
        go_wp2_with fail
        go_roundg ((s.path y.up).length + 1)
        case measure => have := hlen.out; omega
        case rel => exact ⟨y.up, z, y.nm :: rest, rfl, rfl, hz'.out, hpe.out, V44.out.drew1, by
          have e1 : (((sizeL rest : Nat) : Int) + 1 + ((y.nm.length : Nat) : Int)) = ((sizeL (y.nm :: rest) : Nat) : Int) := by simp only [sizeL]; omega
          have e2 : (((rest.length : Nat) : Int) + 1) = (((y.nm :: rest).length : Nat) : Int) := by rw [List.length_cons]; omega
          rw [← e1, ← e2]
          exact V54.out.drew1, hB4.out.drew⟩)
end
end Go.Proofs.YtgcodlicbdaddaaGreatDoor
end

section
set_option linter.unusedVariables false
set_option linter.unusedSimpArgs false
namespace Go.Proofs.YtgcodlicbdaddaaGreatDoor
open Go.RowKit BigFrame
set_option maxRecDepth 100000

theorem Tryz.infoNd : (Tryz.prog.info? 76).map (·.size) = some 170 := by kernel_rfl
section
variable {w : World} {B b : Nat} {A : Ad} {s : Tr}
theorem TreeAt.nd_inj (h : TreeAt w B A s) {i j : Nat} {x y : Nd} (hx : s.opt i = some x) (hy : s.opt j = some y) (e : A.nd i = A.nd j) : i = j := by
  have h1 := h.rn i x hx
  have h2 := h.rn j y hy
  rw [e, h2] at h1
  have := Option.some.inj h1
  omega
theorem equal_ptr (h : TreeAt w B A s) {i j : Nat} {x y : Nd} (hx : s.opt i = some x) (hy : s.opt j = some y) (d : Nat) :
    (Op.equalIn (d + 1) 77 (.pointer (some ⟨A.nd i, 0, none⟩)) (.pointer (some ⟨A.nd j, 0, none⟩))).run Tryz.prog w = .ok (decide (i = j)) w := by
  obtain ⟨q, hq, hz⟩ : ∃ q, Tryz.prog.info? 76 = some q ∧ q.size = 170 := by
    have := Tryz.infoNd
    cases hq : Tryz.prog.info? 76 with
    | none => rw [hq] at this; cases this
    | some q => rw [hq] at this; exact ⟨q, rfl, Option.some.inj this⟩
  by_cases e : i = j
  · subst e
    simp [Op.equalIn, run_underlying Tryz.underlying77, sizeOf, typeInfo, hq, run_sameAddr_same]
  · have hne : (⟨A.nd i, 0, none⟩ : Addr) ≠ ⟨A.nd j, 0, none⟩ := fun h2 => e (h.nd_inj hx hy (by simpa using h2))
    have h1 := (h.node i x hx).row
    have h2 := (h.node j y hy).row
    unfold Vw at h1 h2
    simp [Op.equalIn, run_underlying Tryz.underlying77, sizeOf, typeInfo, hq, hz, run_sameAddr_other w hne h1 h2, e]
theorem eql_ptr (h : TreeAt w B A s) {i j : Nat} {x y : Nd} (hx : s.opt i = some x) (hy : s.opt j = some y) :
    (binOp .eql 77 (.pointer (some ⟨A.nd i, 0, none⟩)) (.pointer (some ⟨A.nd j, 0, none⟩))).run Tryz.prog w = .ok (.bool (decide (i = j))) w := by
  simp only [binOp]
  simp [Op.equal, Op.maxDepth, equal_ptr h hx hy 9999]
theorem neq_ptr (h : TreeAt w B A s) {i j : Nat} {x y : Nd} (hx : s.opt i = some x) (hy : s.opt j = some y) :
    (binOp .neq 77 (.pointer (some ⟨A.nd i, 0, none⟩)) (.pointer (some ⟨A.nd j, 0, none⟩))).run Tryz.prog w = .ok (.bool (!decide (i = j))) w := by
  simp only [binOp]
  simp [Op.equal, Op.maxDepth, equal_ptr h hx hy 9999]
theorem withinF_more {d : Nat → Nat} (ho : Ok b s) (hd : ∀ i x, s.opt i = some x → x.up ≠ 0 → d i = d x.up + 1 ∧ d i ≤ 20) (top : Nat) :
    ∀ (n i : Nat) (x : Nd), s.opt i = some x → (x.up = 0 ∨ d i ≤ n) → ∀ k, n < k → s.withinF k i top = s.withinF (n + 1) i top
  | n, i, x, hx, hu, k, hk => by
    obtain ⟨k, rfl⟩ : ∃ j, k = j + 1 := ⟨k - 1, by omega⟩
    have ha := Tr.at_of hx
    unfold Tr.withinF
    rw [ha]
    by_cases h0 : i ≠ top ∧ x.up ≠ 0
    · rw [if_pos h0, if_pos h0]
      obtain ⟨h1, h2⟩ := hd i x hx h0.2
      obtain ⟨y, hy, _⟩ := ho.up i x hx h0.2
      match n, hu, hk with
      | 0, hu, _ => omega
      | n + 1, hu, hk => rw [withinF_more ho hd top n x.up y hy (by omega) k (by omega)]
    · rw [if_neg h0, if_neg h0]
theorem Ok.within_up (ho : Ok b s) {i top : Nat} {x : Nd} (hx : s.opt i = some x) (hu : x.up ≠ 0) (ht : i ≠ top) : s.within i top = s.within x.up top := by
  obtain ⟨d, hd⟩ := ho.dep
  obtain ⟨h1, h2⟩ := hd i x hx hu
  obtain ⟨y, hy, _⟩ := ho.up i x hx hu
  unfold Tr.within
  rw [show (21 : Nat) = 20 + 1 from rfl, Tr.withinF, Tr.at_of hx, if_pos ⟨ht, hu⟩]
  rw [withinF_more ho hd top 19 x.up y hy (by omega) 20 (by omega), withinF_more ho hd top 19 x.up y hy (by omega) 21 (by omega)]
theorem Tr.within_end {i top : Nat} (h : i = top ∨ (s.at i).up = 0) : s.within i top = decide (i = top) := by
  unfold Tr.within
  rw [show (21 : Nat) = 20 + 1 from rfl, Tr.withinF, if_neg (by rintro ⟨h1, h2⟩; rcases h with h | h; exact h1 h; exact h2 h)]
def WiRel (A : Ad) (s : Tr) (i top : Nat) (w : World) (g : Nat) (v : Value) (wr : World) : Prop :=
  ∃ (j : Nat) (y : Nd), g = (s.path j).length + 1 ∧ v = .pointer (some ⟨A.nd j, 0, none⟩) ∧ s.opt j = some y ∧ s.within i top = s.within j top ∧ Below w.heap.size w wr
set_option maxHeartbeats 1000000 in
theorem within_any (h : TreeAt w B A s) (ho : Ok b s) (hb : b ≤ 1000000) (i top : Nat) (x t : Nd) (hi : s.opt i = some x) (ht : s.opt top = some t) :
    Calls Tryz.prog 179 #[.pointer (some ⟨A.t, 0, none⟩), .pointer (some ⟨A.nd i, 0, none⟩), .pointer (some ⟨A.nd top, 0, none⟩)] w (Tells (.bool (s.within i top)) w) := by
  have hh := Lib.hid h
  clear h
  go_enter Tryz.func179, Tryz.ntmps179
  go_wp2_with fail
  go_loopg [1] ((s.path i).length + 1) (fun g v wr => WiRel A s i top w g v wr)
  case atStart => exact ⟨i, x, rfl, rfl, hi, rfl, Below.refl _ _⟩
  case round =>
    obtain ⟨j, y, rfl, rfl, hy, hp, hB⟩ := hrel
    have hB' := Lib.hid hB
    have hwr := Lib.hid (hh.out.below hB)
    have cu := (hwr.out.node j y hy).up
    have hp' := Lib.hid hp
    have q0 := eql_ptr hwr.out hy ht
    have q1 := neq_ptr hwr.out hy ht
    by_cases hj : j = top
    · have hend := Lib.hid (show s.within i top = true by rw [hp, Tr.within_end (.inl hj), decide_eq_true hj])
      rw [decide_eq_true hj] at q0 q1
      subst hj
      clear hp hB
      go_wp2_with fail
      go_ret
      rw [hend.out]
      exact ⟨rfl, hB'.out⟩
    · rw [decide_eq_false hj] at q0 q1
      by_cases hu : y.up = 0
      · rw [hu] at cu
        have hend := Lib.hid (show s.within i top = false by rw [hp, Tr.within_end (.inr (by rw [Tr.at_of hy]; exact hu)), decide_eq_false hj])
        clear hp hB
        go_wp2_with fail
        go_ret
        rw [hend.out]
        exact ⟨rfl, hB'.out⟩
      · have hnx := Lib.hid (show s.within i top = s.within y.up top by rw [hp, ho.within_up hy hu hj])
        have hlen := Lib.hid (show (s.path j).length + 1 = (s.path y.up).length + 1 + 1 by rw [ho.path_up hy hu, List.length_append]; rfl)
        obtain ⟨z, hz, _⟩ := ho.up j y hy hu
        have t0 : (((y.up : Nat) : Int) == 0) = false := nat_beq_ne (b := 0) hu
        have t1 : (((y.up : Nat) : Int) != 0) = true := by rw [bne_iff_ne]; omega
        have hlt : y.up < 1000000000 := by have := Tr.opt_lt hz; have := ho.len.2; omega
        have cm := hwr.out.drew.maps
        have cu4 := (hwr.out.drew.node j y hy).up
        have hl := hwr.out.drew.get y.up hlt
        rw [show ptrO A s y.up = .pointer (some ⟨A.nd y.up, 0, none⟩) by unfold ptrO; rw [hz]; rfl] at hl
        have hz' := Lib.hid hz
        clear hp hB hz
        go_wp2_with fail
        go_region
        go_wp2_with fail
        go_roundg ((s.path y.up).length + 1)
        case measure => have := hlen.out; omega
        case rel => exact ⟨y.up, z, rfl, rfl, hz'.out, hnx.out, hB'.out.drew⟩
end
end Go.Proofs.YtgcodlicbdaddaaGreatDoor
end
