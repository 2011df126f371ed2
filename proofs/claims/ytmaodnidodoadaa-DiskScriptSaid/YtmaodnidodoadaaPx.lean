/-
  What is kept of what waits, told by a number; flags that grow beside a disk.
-/
import Derived.Test.YtmaodnidodoadaaWn
namespace Go.Proofs.Ytmaodnidodoadaa
open Go.RowKit BigFrame

/-- of the first k those below m -/
def keptB (m : Nat) (l : List (Nat × List Nat)) : Nat → List (Nat × List Nat)
  | 0 => []
  | k + 1 => keptB m l k ++ (if k < m then [wtAt l k] else [])
theorem wtAt_append {l r : List (Nat × List Nat)} {j : Nat} (h : j < l.length) : wtAt (l ++ r) j = wtAt l j := by
  simp [wtAt, List.getD, List.getElem?_append_left h]
theorem wtAt_last {l : List (Nat × List Nat)} {p : Nat × List Nat} {k : Nat} (h : l.length = k) : wtAt (l ++ [p]) k = p := by
  subst h; simp [wtAt]
theorem keptB_append (m : Nat) (l r : List (Nat × List Nat)) : ∀ k, k ≤ l.length → keptB m (l ++ r) k = keptB m l k
  | 0, _ => rfl
  | k + 1, h => by rw [keptB, keptB, keptB_append m l r k (by omega), wtAt_append (by omega)]
def kl (m k : Nat) : List Bool := (List.range k).map fun i => decide (i < m)
theorem kl_length (m k : Nat) : (kl m k).length = k := by simp [kl]
theorem kl_succ (m k : Nat) : kl m (k + 1) = kl m k ++ [decide (k < m)] := by simp [kl, List.range_succ]
theorem keptN_kl (m c : Nat) (l : List (Nat × List Nat)) : ∀ k, k ≤ c → keptN (kl m c) l k = keptB m l k
  | 0, _ => rfl
  | k + 1, h => by
    rw [keptN, keptB, keptN_kl m c l k (by omega)]
    have : keepAt (kl m c) k = decide (k < m) := by
      have h1 : k % (kl m c).length = k := by rw [kl_length, Nat.mod_eq_of_lt (by omega)]
      rw [keepAt, h1, kl_length, show decide (0 < c) = true by simp; omega, Bool.true_and]
      simp [kl, List.getD, show k < c by omega]
    rw [this]
    simp

/-- a slice of the law's own grows beside a disk -/
theorem beside_grown {w0 w3 w4 w5 : World} {G g5 : Nat} {A : Lies} {d : Dk} {kv : Value} (L : Live w0 w3 G A d) (hb : Below w3.heap.size w3 w4) (hg : w4.grownBy w5 kv.ownBlock) (hat : kv.ownBlock = some g5 ∨ w3.heap.size ≤ g5) (hlt : g5 < w5.heap.size) (hk : ∀ b, kv.ownBlock = some b → Off w3 (A.foot G) b ∧ w0.heap.size ≤ b) :
    Live w0 w5 G A d ∧ Step w3 (A.foot G ++ kv.ownBlock.toList) w5 (A.foot G ++ [g5]) ∧ Off w5 (A.foot G) g5 ∧ w0.heap.size ≤ g5 := by
  have h0 : ∀ k, k < w3.heap.size → some k ≠ kv.ownBlock → w5.heap[k]? = w3.heap[k]? := fun k hk hne => by
    rw [hg.block k (Nat.lt_of_lt_of_le hk hb.size) hne, hb.block k hk]
  have hsz : w3.heap.size ≤ w5.heap.size := Nat.le_trans hb.size hg.size
  have hfo : ∀ k, k ∈ A.foot G → some k ≠ kv.ownBlock := fun k hk2 e => (hk k e.symm).1.1 hk2
  refine ⟨⟨?_, IsDkS.carry L.disk hsz (fun k hk => h0 k (L.lt k hk) (hfo k hk))⟩, ⟨hg.os.trans hb.os, hg.tape.trans hb.tape, hg.output.trans hb.output, hsz, fun k hk hf => h0 k hk (fun e => hf (List.mem_append_right _ (by simp [← e]))), fun k hk2 => ?_⟩, ?_, ?_⟩
  · exact (L.below.trans (hb.mono L.below.size)).grown hg (Nat.le_trans L.below.size hb.size) (fun k hk2 => (hk k hk2).2)
  · rcases List.mem_append.1 hk2 with h | h
    · exact .inl (List.mem_append_left _ h)
    · rw [List.mem_singleton] at h
      subst h
      rcases hat with e | e
      · exact .inl (List.mem_append_right _ (by simp [e]))
      · exact .inr e
  · refine ⟨fun e => ?_, hlt⟩
    rcases hat with e2 | e2
    · exact (hk _ e2).1.1 e
    · have := L.lt _ e; omega
  · rcases hat with e2 | e2
    · exact (hk _ e2).2
    · exact Nat.le_trans L.below.size e2
theorem own_kat {w : World} {B n : Nat} {v : Value} {K : List Bool} (h : w.ownsRow B 4 1 v n (kcells K)) (hn : K.length = n) : ∃ a cap, v = .slice a n cap ∧ n ≤ cap ∧ KAt w a K ∧ ∀ b o, 0 < n → a = some ⟨b, o, none⟩ → v.ownBlock = some b := by
  have hc := fun g hg => World.ownsRow.cells h (g := g) hg
  rcases h.2 with ⟨rfl, e⟩ | ⟨g, cap, cur, rfl, _, _, hle, _⟩
  · exact ⟨none, 0, by rw [e], by omega, .inl (by omega), fun b o _ h => by cases h⟩
  · refine ⟨_, cap, rfl, hle, .inr ⟨g, 0, rfl, fun k hk => ?_⟩, fun b o _ h2 => ?_⟩
    · have := hc g rfl k _ (kcells_get hk)
      rwa [addr_add] at this
    · simp only [Option.some.injEq, Addr.mk.injEq, and_true] at h2
      obtain ⟨rfl, -⟩ := h2
      rfl
theorem make_nils5 (w : World) : (Instr.makeSlice 32 (.int .i64 5) (.int .i64 5)).run Try.prog w = .ok (.slice (some ⟨w.heap.size, 0, none⟩) 5 5) (w.alloc (.cells (nils 5) 43)) := make_nils 5 (by omega) w
/-- a disk of five sectors, without a trap, on which so much was written -/
structure Law5 (d : Dk) (k : Nat) : Prop where
  on : d.on = true
  set : d.set = false
  n : d.n = 5
  waits : d.waits.length = k
  log : d.log.length = k
  firm : d.firm = fun _ => zs 128
theorem Law5.start : Law5 (Dk.fresh 5 fun _ => zs 128) 0 := ⟨rfl, rfl, rfl, rfl, rfl, rfl⟩
theorem Law5.wrote {d : Dk} {k : Nat} (h : Law5 d k) (a : Nat) (l : List Nat) : Law5 (d.wrote a l) (k + 1) :=
  ⟨h.on, h.set, h.n, by simp [Dk.wrote, h.waits], by simp [Dk.wrote, h.log], h.firm⟩
theorem keptN_nil (l : List (Nat × List Nat)) : ∀ k, keptN [] l k = []
  | 0 => rfl
  | k + 1 => by rw [keptN, keptN_nil l k]; simp [keepAt]
/-- flags of the law's own, beside a disk -/
structure Flags (B : Nat) (w : World) (F : List Nat) (kv : Value) (n : Nat) (K : List Bool) : Prop where
  own : w.ownsRow B 4 1 kv n (kcells K)
  off : ∀ b, kv.ownBlock = some b → Off w F b ∧ B ≤ b
theorem Flags.nil (B : Nat) (w : World) (F : List Nat) : Flags B w F (.slice none 0 0) 0 [] := ⟨World.ownsRow_nil _ _ _ _, fun b h => by cases h⟩
theorem Flags.step {B n : Nat} {w w' : World} {F F' : List Nat} {kv : Value} {K : List Bool} (h : Flags B w F kv n K) (hs : Step w F w' F') : Flags B w' F' kv n K :=
  ⟨ownsRow_block h.own (fun k hk => hs.same (h.off k hk).1), fun b hb => ⟨hs.off (h.off b hb).1, (h.off b hb).2⟩⟩
theorem Flags.read {B n : Nat} {w w' : World} {F : List Nat} {kv : Value} {K : List Bool} (h : Flags B w F kv n K) (hb : Below w.heap.size w w') : Flags B w' F kv n K := h.step (.of_below hb F)
theorem Flags.set {B n g k : Nat} {w : World} {F : List Nat} {kv u : Value} {K : List Bool} (h : Flags B w F kv n K) (hg : g ∉ kv.ownBlock.toList) : Flags B (w.setCell ⟨g, k, none⟩ u) F kv n K :=
  ⟨ownsRow_block h.own (fun j hj => Below.heap_setCell _ _ _ _ (fun e => hg (by simp [hj, e]))), fun b hb => ⟨⟨(h.off b hb).1.1, by simpa [World.setCell] using (h.off b hb).1.2⟩, (h.off b hb).2⟩⟩
theorem Flags.grown {w0 w3 w4 w5 : World} {G g5 n cap : Nat} {A : Lies} {d : Dk} {kv : Value} {K K' : List Bool} (h : Flags w0.heap.size w3 (A.foot G) kv n K) (L : Live w0 w3 G A d) (hb : Below w3.heap.size w3 w4) (hg : w4.grownBy w5 kv.ownBlock) (hat : kv.ownBlock = some g5 ∨ w3.heap.size ≤ g5) (hlt : g5 < w5.heap.size)
    (ho : w5.ownsRow w0.heap.size 4 1 (.slice (some ⟨g5, 0, none⟩) (n + 1) cap) (n + 1) (kcells K')) : Flags w0.heap.size w5 (A.foot G) (.slice (some ⟨g5, 0, none⟩) (n + 1) cap) (n + 1) K' := by
  obtain ⟨_, _, h3, h4⟩ := beside_grown L hb hg hat hlt h.off
  exact ⟨ho, fun b hb => by
    have : g5 = b := Option.some.inj hb
    subst this; exact ⟨h3, h4⟩⟩
end Go.Proofs.Ytmaodnidodoadaa
