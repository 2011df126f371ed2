/-
  What is kept of what waits, told by a number; flags that grow beside a disk.
  The document's own disk: the power goes.
  The document's own disk: does the power go now?
  The document's own disk: Flush.
  The document's own disk: Read.
  The document's own cache: Get of what is not held.
-/
import Derived.Test.YtnfaeejeipbciaaB9
import Derived.Test.YtnfaeejeipbciaaB14
import Derived.BigRegion
import Derived.Test.YtnfaeejeipbciaaB8

section
set_option linter.unusedVariables false
set_option linter.unusedSimpArgs false
namespace Go.Proofs.Ytnfaeejeipbciaa
open Go.RowKit BigFrame

/-- of the first k those below m -/
def keptB (m : Nat) (l : List (Nat × List Nat)) : Nat → List (Nat × List Nat)
  | 0 => []
  | k + 1 => keptB m l k ++ (if k < m then [wtAt l k] else [])
theorem wtAt_append {l r : List (Nat × List Nat)} {j : Nat} (h : j < l.length) : wtAt (l ++ r) j = wtAt l j := by
  simp [wtAt, List.getD, List.getElem?_append_left h]
theorem wtAt_last {l : List (Nat × List Nat)} {p : Nat × List Nat} {k : Nat} (h : l.length = k) : wtAt (l ++ [p]) k = p := by
  subst h; simp [wtAt]
theorem keptB_append (m : Nat) (l r : List (Nat × List Nat)) : ∀ k, k ≤ l.length → keptB m (l ++ r) k = keptB m l k
  | 0, _ => rfl
  | k + 1, h => by rw [keptB, keptB, keptB_append m l r k (by omega), wtAt_append (by omega)]
def kl (m k : Nat) : List Bool := (List.range k).map fun i => decide (i < m)
theorem kl_length (m k : Nat) : (kl m k).length = k := by simp [kl]
theorem kl_succ (m k : Nat) : kl m (k + 1) = kl m k ++ [decide (k < m)] := by simp [kl, List.range_succ]
theorem keptN_kl (m c : Nat) (l : List (Nat × List Nat)) : ∀ k, k ≤ c → keptN (kl m c) l k = keptB m l k
  | 0, _ => rfl
  | k + 1, h => by
    rw [keptN, keptB, keptN_kl m c l k (by omega)]
    have : keepAt (kl m c) k = decide (k < m) := by
      have h1 : k % (kl m c).length = k := by rw [kl_length, Nat.mod_eq_of_lt (by omega)]
      rw [keepAt, h1, kl_length, show decide (0 < c) = true by simp; omega, Bool.true_and]
      simp [kl, List.getD, show k < c by omega]
    rw [this]
    simp

/-- a slice of the law's own grows beside a disk -/
theorem beside_grown {w0 w3 w4 w5 : World} {G g5 : Nat} {A : Lies} {d : Dk} {kv : Value} (L : Live w0 w3 G A d) (hb : Below w3.heap.size w3 w4) (hg : w4.grownBy w5 kv.ownBlock) (hat : kv.ownBlock = some g5 ∨ w3.heap.size ≤ g5) (hlt : g5 < w5.heap.size) (hk : ∀ b, kv.ownBlock = some b → Off w3 (A.foot G) b ∧ w0.heap.size ≤ b) :
    Live w0 w5 G A d ∧ Step w3 (A.foot G ++ kv.ownBlock.toList) w5 (A.foot G ++ [g5]) ∧ Off w5 (A.foot G) g5 ∧ w0.heap.size ≤ g5 := by
  have h0 : ∀ k, k < w3.heap.size → some k ≠ kv.ownBlock → w5.heap[k]? = w3.heap[k]? := fun k hk hne => by
    rw [hg.block k (Nat.lt_of_lt_of_le hk hb.size) hne, hb.block k hk]
  have hsz : w3.heap.size ≤ w5.heap.size := Nat.le_trans hb.size hg.size
  have hfo : ∀ k, k ∈ A.foot G → some k ≠ kv.ownBlock := fun k hk2 e => (hk k e.symm).1.1 hk2
  refine ⟨⟨?_, IsDkS.carry L.disk hsz (fun k hk => h0 k (L.lt k hk) (hfo k hk))⟩, ⟨hg.os.trans hb.os, hg.tape.trans hb.tape, hg.output.trans hb.output, hsz, fun k hk hf => h0 k hk (fun e => hf (List.mem_append_right _ (by simp [← e]))), fun k hk2 => ?_⟩, ?_, ?_⟩
  · exact (L.below.trans (hb.mono L.below.size)).grown hg (Nat.le_trans L.below.size hb.size) (fun k hk2 => (hk k hk2).2)
  · rcases List.mem_append.1 hk2 with h | h
    · exact .inl (List.mem_append_left _ h)
    · rw [List.mem_singleton] at h
      subst h
      rcases hat with e | e
      · exact .inl (List.mem_append_right _ (by simp [e]))
      · exact .inr e
  · refine ⟨fun e => ?_, hlt⟩
    rcases hat with e2 | e2
    · exact (hk _ e2).1.1 e
    · have := L.lt _ e; omega
  · rcases hat with e2 | e2
    · exact (hk _ e2).2
    · exact Nat.le_trans L.below.size e2
theorem own_kat {w : World} {B n : Nat} {v : Value} {K : List Bool} (h : w.ownsRow B 4 1 v n (kcells K)) (hn : K.length = n) : ∃ a cap, v = .slice a n cap ∧ n ≤ cap ∧ KAt w a K ∧ ∀ b o, 0 < n → a = some ⟨b, o, none⟩ → v.ownBlock = some b := by
  have hc := fun g hg => World.ownsRow.cells h (g := g) hg
  rcases h.2 with ⟨rfl, e⟩ | ⟨g, cap, cur, rfl, _, _, hle, _⟩
  · exact ⟨none, 0, by rw [e], by omega, .inl (by omega), fun b o _ h => by cases h⟩
  · refine ⟨_, cap, rfl, hle, .inr ⟨g, 0, rfl, fun k hk => ?_⟩, fun b o _ h2 => ?_⟩
    · have := hc g rfl k _ (kcells_get hk)
      rwa [addr_add] at this
    · simp only [Option.some.injEq, Addr.mk.injEq, and_true] at h2
      obtain ⟨rfl, -⟩ := h2
      rfl
theorem make_nils5 (w : World) : (Instr.makeSlice 40 (.int .i64 5) (.int .i64 5)).run Try.prog w = .ok (.slice (some ⟨w.heap.size, 0, none⟩) 5 5) (w.alloc (.cells (nils 5) 54)) := make_nils 5 (by omega) w
/-- a disk of five sectors, without a trap, on which so much was written -/
structure Law5 (d : Dk) (k : Nat) : Prop where
  on : d.on = true
  set : d.set = false
  n : d.n = 5
  waits : d.waits.length = k
  log : d.log.length = k
  firm : d.firm = fun _ => zs 128
theorem Law5.start : Law5 (Dk.fresh 5 fun _ => zs 128) 0 := ⟨rfl, rfl, rfl, rfl, rfl, rfl⟩
theorem Law5.wrote {d : Dk} {k : Nat} (h : Law5 d k) (a : Nat) (l : List Nat) : Law5 (d.wrote a l) (k + 1) :=
  ⟨h.on, h.set, h.n, by simp [Dk.wrote, h.waits], by simp [Dk.wrote, h.log], h.firm⟩
theorem keptN_nil (l : List (Nat × List Nat)) : ∀ k, keptN [] l k = []
  | 0 => rfl
  | k + 1 => by rw [keptN, keptN_nil l k]; simp [keepAt]
/-- flags of the law's own, beside a disk -/
structure Flags (B : Nat) (w : World) (F : List Nat) (kv : Value) (n : Nat) (K : List Bool) : Prop where
  own : w.ownsRow B 4 1 kv n (kcells K)
  off : ∀ b, kv.ownBlock = some b → Off w F b ∧ B ≤ b
theorem Flags.nil (B : Nat) (w : World) (F : List Nat) : Flags B w F (.slice none 0 0) 0 [] := ⟨World.ownsRow_nil _ _ _ _, fun b h => by cases h⟩
theorem Flags.step {B n : Nat} {w w' : World} {F F' : List Nat} {kv : Value} {K : List Bool} (h : Flags B w F kv n K) (hs : Step w F w' F') : Flags B w' F' kv n K :=
  ⟨ownsRow_block h.own (fun k hk => hs.same (h.off k hk).1), fun b hb => ⟨hs.off (h.off b hb).1, (h.off b hb).2⟩⟩
theorem Flags.read {B n : Nat} {w w' : World} {F : List Nat} {kv : Value} {K : List Bool} (h : Flags B w F kv n K) (hb : Below w.heap.size w w') : Flags B w' F kv n K := h.step (.of_below hb F)
theorem Flags.set {B n g k : Nat} {w : World} {F : List Nat} {kv u : Value} {K : List Bool} (h : Flags B w F kv n K) (hg : g ∉ kv.ownBlock.toList) : Flags B (w.setCell ⟨g, k, none⟩ u) F kv n K :=
  ⟨ownsRow_block h.own (fun j hj => Below.heap_setCell _ _ _ _ (fun e => hg (by simp [hj, e]))), fun b hb => ⟨⟨(h.off b hb).1.1, by simpa [World.setCell] using (h.off b hb).1.2⟩, (h.off b hb).2⟩⟩
theorem Flags.grown {w0 w3 w4 w5 : World} {G g5 n cap : Nat} {A : Lies} {d : Dk} {kv : Value} {K K' : List Bool} (h : Flags w0.heap.size w3 (A.foot G) kv n K) (L : Live w0 w3 G A d) (hb : Below w3.heap.size w3 w4) (hg : w4.grownBy w5 kv.ownBlock) (hat : kv.ownBlock = some g5 ∨ w3.heap.size ≤ g5) (hlt : g5 < w5.heap.size)
    (ho : w5.ownsRow w0.heap.size 4 1 (.slice (some ⟨g5, 0, none⟩) (n + 1) cap) (n + 1) (kcells K')) : Flags w0.heap.size w5 (A.foot G) (.slice (some ⟨g5, 0, none⟩) (n + 1) cap) (n + 1) K' := by
  obtain ⟨_, _, h3, h4⟩ := beside_grown L hb hg hat hlt h.off
  exact ⟨ho, fun b hb => by
    have : g5 = b := Option.some.inj hb
    subst this; exact ⟨h3, h4⟩⟩
end Go.Proofs.Ytnfaeejeipbciaa
end

section
set_option linter.unusedVariables false
set_option linter.unusedSimpArgs false
namespace Go.Proofs.Ytnfaeejeipbciaa
open Go.RowKit BigFrame

def RcRel (w : World) (B G : Nat) (A : RLies) (R : List Nat) (d : Dk) (Z : Nat → Nat → List Nat) (g : Nat) (i : Value) (wr : World) : Prop :=
  ∃ (k : Nat) (V : Nat → Value), k + g = d.waits.length ∧ i = .int .i64 k ∧ IsRf wr B G { A with V := V } R (d.withFirm (Z k)) ∧ Step w (A.foot G) wr (A.foot G)
/-- one that waits -/
theorem IsRf.waitAt {w : World} {B G nw k : Nat} {A : RLies} {R : List Nat} {d : Dk} {a : Option Addr} {cap : Nat} (h : IsRf w B G A R d) (hv : A.vW = .slice a nw cap) (hn : d.waits.length = nw) (hk : k < nw) :
    ∃ b gv cv, a = some ⟨b, 0, none⟩ ∧ (wtAt d.waits k).1 < d.n ∧ A.U k = .slice (some ⟨gv, 0, none⟩) 128 cv ∧ w.cell? ⟨b, k * 2, none⟩ = some (.int .i64 (((wtAt d.waits k).1 : Nat) : Int)) ∧ w.cell? ⟨b, k * 2 + 1, none⟩ = some (A.U k) ∧ Kept w (A.foot G ++ R) G (A.U k) (wtAt d.waits k).2 := by
  subst hn
  obtain ⟨a', cap', e, _, _, h0⟩ := h.waits
  rw [hv] at e
  cases e
  rcases h0 with h0 | ⟨b, rfl, _, hx⟩
  · omega
  · obtain ⟨h1, h2, h3⟩ := hx k hk
    obtain ⟨gv, cv, e, _⟩ := id h3
    exact ⟨b, gv, cv, rfl, (h.fine.waits _ (wtAt_mem hk)).1, e, h1, h2, h3⟩
theorem rcrash_end {w w' : World} {B G : Nat} {A : RLies} {R : List Nat} {d : Dk} {K : List Bool} {f : Nat → List Nat} (h : IsRf w B G A R (d.withFirm f)) (hd : d.Fine) (hf : f = appl d.firm (keptN K d.waits d.waits.length))
    (hdr : w'.heap[G]? = some (.cells (rcells { A with vW := .slice none 0 0 } (d.crashed K)) 44 (0, 0))) (hst : Step w (A.foot G) w' (A.foot G)) (hb : ∀ k, k ≠ G → w'.heap[k]? = w.heap[k]?) :
    IsRf w' B G { A with vW := .slice none 0 0 } R (d.crashed K) :=
  h.head (A' := { A with vW := .slice none 0 0 }) hdr hst hb rfl rfl rfl rfl rfl (.nil _ _ _ _) (fun e => by cases e) (hd.crashed K) rfl (fun i _ => by rw [Dk.crashed, Dk.withFirm, hf])

set_option maxRecDepth 100000 in
set_option maxHeartbeats 4000000 in
theorem rcrash_any (w : World) (B : Nat) (G : Nat) (A : RLies) (R : List Nat) (d : Dk) (h : IsRf w B G A R d) (ka : Option Addr) (nk kcap : Nat) (K : List Bool) (hK : K.length = nk) (hkb : nk ≤ 1000) (hka : KeepAt w (A.foot G ++ R) (.slice ka nk kcap) K) :
    Calls Try.prog 40 #[.pointer (some ⟨G, 0, none⟩), .slice ka nk kcap] w (GivesRf (.tuple #[]) (d.crashed K) B G A R w) := by
  obtain ⟨n, hn⟩ : ∃ n, d.n = n := ⟨_, rfl⟩
  obtain ⟨nw, hnw⟩ : ∃ nw, d.waits.length = nw := ⟨_, rfl⟩
  obtain ⟨aw, cw, hvw, _⟩ := h.waits
  rw [hnw] at hvw
  have hc1 := h.room
  have hn1 := h.fine.n
  have hm1 := h.fine.many
  rw [hn] at hc1 hn1
  rw [hnw] at hm1
  have h' := Lib.hid h
  have hf' := Lib.hid h.fine
  have hK' := Lib.hid hK
  have hka' := Lib.hid hka
  have hn' := Lib.hid hn
  have hnw' := Lib.hid hnw
  have hvw' := Lib.hid hvw
  clear h hK hka hn hnw hvw
  go_enter Try.func40, Try.ntmps40
  go_wp2_with fail
  go_loopg [4] nw (fun g i wr => RcRel w B G A R d (fun k => appl d.firm (keptN K d.waits k)) g i wr)
  case atStart => exact ⟨0, A.V, by rw [hnw'.out]; omega, rfl, h'.out, Step.refl _ _⟩
  case round =>
    obtain ⟨k, V, hk, rfl, hD, hS⟩ := hrel
    have hg1 := hD.gne.1
    have c0 := hD.cell 0
    have c1 := hD.cell 1
    have c2 := hD.cell 2
    have c3 := hD.cell 3
    have f1 := hD.frozen 1
    have f2 := hD.frozen 2
    have f3 := hD.frozen 3
    simp only [rcells, Dk.withFirm, hvw'.out, hn'.out, List.getElem?_toArray, List.getElem?_cons_zero, List.getElem?_cons_succ] at c0 c1 c2 c3
    have hD' := Lib.hid hD
    have hS' := Lib.hid hS
    rw [hnw'.out] at hk
    clear hD hS
    by_cases hlt : k < nw
    · obtain ⟨g, rfl⟩ : ∃ g, gk = g + 1 := ⟨gk - 1, by omega⟩
      by_cases hnk : nk = 0
      · subst hnk
        go_wp2_with fail
        go_roundg g
        case measure => omega
        case rel =>
          refine ⟨k + 1, V, by rw [hnw'.out]; omega, by go_num, ?_, hS'.out⟩
          have he : keptN K d.waits (k + 1) = keptN K d.waits k := by rw [keptN, show keepAt K k = false by simp [keepAt, hK'.out]]; simp
          show IsRf _ _ _ _ _ (d.withFirm (appl d.firm (keptN K d.waits (k + 1))))
          rw [he]
          exact hD'.out
      · have hq : k % nk < nk := Nat.mod_lt _ (by omega)
        have hq0 : (0 : Int) ≤ (k : Int) % (nk : Int) := by omega
        have hq1 : (k : Int) % (nk : Int) < (nk : Int) := by omega
        have hkr := hka'.out.step (hS'.out.beside R)
        obtain ⟨kb, ko, rfl, hkc2⟩ : ∃ kb ko, ka = some ⟨kb, ko, none⟩ ∧ wr.cell? ⟨kb, ko + k % nk, none⟩ = some (.bool (K.getD (k % nk) false)) := by
          obtain ⟨a2, c2, e2, _, hx, _⟩ := hkr
          simp only [Value.slice.injEq] at e2
          obtain ⟨rfl, _, _⟩ := e2
          rcases hx with h | ⟨b, off, rfl, h⟩
          · have := hK'.out; omega
          · exact ⟨b, off, rfl, h (k % nk) (by rw [hK'.out]; exact hq)⟩
        have hkat := Lib.hid (show keepAt K k = K.getD (k % nk) false by rw [keepAt, hK'.out, show decide (0 < nk) = true by simp; omega]; rfl)
        obtain ⟨kq, hkq⟩ : ∃ kq, K.getD (k % nk) false = kq := ⟨_, rfl⟩
        rw [hkq] at hkc2
        have hkat2 := Lib.hid (hkat.out.trans hkq)
        clear hkq hkat hkr
        have hnk0 : 0 < nk := by omega
        cases kq
        · go_wp2_with fail
          go_roundg g
          case measure => omega
          case rel =>
            refine ⟨k + 1, V, by rw [hnw'.out]; omega, by go_num, ?_, hS'.out⟩
            have he : keptN K d.waits (k + 1) = keptN K d.waits k := by rw [keptN, hkat2.out]; simp
            show IsRf _ _ _ _ _ (d.withFirm (appl d.firm (keptN K d.waits (k + 1))))
            rw [he]
            exact hD'.out
        · obtain ⟨b, gv, cv, rfl, hat, hU, u1, u2, u3⟩ := IsRf.waitAt (A := { A with V := V }) hD'.out hvw'.out hnw'.out hlt
          obtain ⟨at', hat'⟩ : ∃ at', (wtAt d.waits k).1 = at' := ⟨_, rfl⟩
          simp only [Dk.withFirm] at hat hU u1 u2 u3
          rw [hU] at u2 u3
          rw [hat'] at u1 hat
          have u3' := Lib.hid u3
          have hat2 := Lib.hid hat'
          have hsl := hD'.out.slots at' hat
          have s1 : wr.cell? ⟨A.g, at', none⟩ = some (V at') := hsl.1
          have s2 : wr.frozen? ⟨A.g, at', none⟩ = false := hsl.2
          rw [hn'.out] at hat
          clear u3 hU hat' hsl
          go_wp2_with fail
          go_region
          go_wp2_with fail
          go_roundg g
          case measure => omega
          case rel =>
            have hl := IsRf.lay (hD'.out.drewN (m := 1)) (i := at') (by show at' < d.n; rw [hn'.out]; exact hat) (Kept.step u3'.out (.of_below (below_drewN wr 1) _)) (appl d.firm (keptN K d.waits (k + 1))) (fun j _ => by
              rw [keptN, hkat2.out, if_pos rfl, appl_snoc, hat2.out]; rfl)
            exact ⟨k + 1, _, by rw [hnw'.out]; omega, by go_num, hl.1, (hS'.out.more (below_drewN wr 1)).trans hl.2⟩
    · obtain rfl : k = nw := by omega
      go_wp2_with fail
      go_end0
      have hst : Step wr (A.foot G) (((wr.setCell ⟨G, 1, none⟩ (.slice none 0 0)).setCell ⟨G, 2, none⟩ (.bool true)).setCell ⟨G, 3, none⟩ (.int .i64 (-1))) (A.foot G) := (((Step.refl _ _).setCell _ _ _ (RLies.mem_G G A)).setCell _ _ _ (RLies.mem_G G A)).setCell _ _ _ (RLies.mem_G G A)
      refine ⟨rfl, { A with V := V, vW := .slice none 0 0 }, rcrash_end (A := { A with V := V }) hD'.out hf'.out (by rw [hnw'.out]) ?_ hst (fun k hk => by rw [Below.heap_setCell _ _ _ _ hk, Below.heap_setCell _ _ _ _ hk, Below.heap_setCell _ _ _ _ hk]), hS'.out.trans hst⟩
      rw [heap_setCell_same _ _ _ _ _ _ (heap_setCell_same _ _ _ _ _ _ (heap_setCell_same _ _ _ _ _ _ hD'.out.hdr))]
      simp [rcells, Dk.crashed, Dk.withFirm, leftN]
end Go.Proofs.Ytnfaeejeipbciaa
end

section
set_option linter.unusedVariables false
set_option linter.unusedSimpArgs false
namespace Go.Proofs.Ytnfaeejeipbciaa
open Go.RowKit BigFrame

theorem rtick_end {w : World} {B G : Nat} {A : RLies} {R : List Nat} {d : Dk} (h : IsRf w B G A R d) (hs : d.set = true) (ha : 0 < d.after) : IsRf (w.setCell ⟨G, 3, none⟩ (.int .i64 ((d.after : Int) - 1))) B G A R d.ticked ∧ Step w (A.foot G) (w.setCell ⟨G, 3, none⟩ (.int .i64 ((d.after : Int) - 1))) (A.foot G) := by
  have hst : Step w (A.foot G) (w.setCell ⟨G, 3, none⟩ (.int .i64 ((d.after : Int) - 1))) (A.foot G) := (Step.refl _ _).setCell _ _ _ (RLies.mem_G G A)
  refine ⟨h.head (A' := A) ?_ hst (fun k hk => Below.heap_setCell _ _ _ _ hk) rfl rfl rfl rfl rfl (h.waits.step (hst.beside R)) (fun e => (h.keep e).step (hst.beside R)) h.fine.ticked rfl (fun _ _ => rfl), hst⟩
  rw [heap_setCell_same _ _ _ _ _ _ h.hdr]
  have e : ((d.after - 1 : Nat) : Int) = (d.after : Int) - 1 := by omega
  simp [rcells, Dk.ticked, leftN, hs, e]

set_option maxHeartbeats 400000 in
theorem rfalls_any (w : World) (B : Nat) (G : Nat) (A : RLies) (R : List Nat) (d : Dk) (h : IsRf w B G A R d) :
    Calls Try.prog 69 #[.pointer (some ⟨G, 0, none⟩)] w (GivesRf (.bool d.fall) d.fell B G A R w) := by
  have c3 := h.cell 3
  have c5 := h.cell 5
  have f3 := h.frozen 3
  have haft := h.fine.aft
  obtain ⟨st, hst⟩ : ∃ st, d.set = st := ⟨_, rfl⟩
  obtain ⟨af, haf⟩ : ∃ af, d.after = af := ⟨_, rfl⟩
  simp only [rcells, leftN, hst, haf, List.getElem?_toArray, List.getElem?_cons_zero, List.getElem?_cons_succ] at c3 c5
  rw [haf] at haft
  have h' := Lib.hid h
  have haf' := Lib.hid haf
  have hst' := Lib.hid hst
  cases st
  · have e1 : d.fall = false := by simp [Dk.fall, hst]
    have e2 : d.fell = d := by simp [Dk.fell, hst]
    rw [e1, e2]
    simp only [cond_false] at c3
    clear h haf hst e1 e2
    go_enter Try.func69, Try.ntmps69
    go_wp2_with fail
    go_ret
    exact ⟨rfl, A, h'.out, Step.refl _ _⟩
  · simp only [cond_true] at c3
    by_cases h0 : af = 0
    · have e1 : d.fall = true := by simp [Dk.fall, hst, haf, h0]
      have e2 : d.fell = d.crashed d.keep := by simp [Dk.fell, hst, haf, h0]
      rw [e1, e2]
      obtain ⟨ka, kcap, hvk, hkc, hkx⟩ := h.keep hst
      have hkx' := Lib.hid (show KeepAt w (A.foot G ++ R) (.slice ka d.keep.length kcap) d.keep from ⟨ka, kcap, rfl, hkc, hkx⟩)
      have hkb := h.fine.keeps
      obtain ⟨nk, hnk⟩ : ∃ nk, d.keep.length = nk := ⟨_, rfl⟩
      have hnk' := Lib.hid hnk
      rw [hvk, hnk] at c5
      rw [hnk] at hkb hkc
      subst h0
      clear h haf hst e1 e2 hvk hkx hnk
      go_enter Try.func69, Try.ntmps69
      go_wp2_with (go_at_call 40; refine (rcrash_any _ B G A R d h'.out ka nk kcap d.keep hnk'.out hkb (by rw [← hnk'.out]; exact hkx'.out)).mono ?_; rintro e w1 ⟨rfl, A1, hD1, hS1⟩; have D1 := Lib.hid hD1; have S1 := Lib.hid hS1; clear hD1 hS1)
      go_ret
      exact ⟨rfl, A1, D1.out, S1.out⟩
    · have e1 : d.fall = false := by simp [Dk.fall, hst, haf, h0]
      have e2 : d.fell = d.ticked := by simp [Dk.fell, hst, haf, h0]
      rw [e1, e2]
      have t1 : decide ((af : Int) = 0) = false := by simp; omega
      have t2 : decide (0 < (af : Int)) = true := by simp; omega
      have ht := Lib.hid (rtick_end h hst (by omega))
      rw [haf] at ht
      clear h haf hst e1 e2
      go_enter Try.func69, Try.ntmps69
      go_wp2_with fail
      go_ret
      exact ⟨rfl, A, ht.out⟩
end Go.Proofs.Ytnfaeejeipbciaa
end

section
set_option linter.unusedVariables false
set_option linter.unusedSimpArgs false
namespace Go.Proofs.Ytnfaeejeipbciaa
open Go.RowKit BigFrame

def RgRel (w : World) (B G : Nat) (A : RLies) (R : List Nat) (d : Dk) (g : Nat) (i : Value) (wr : World) : Prop :=
  ∃ (k : Nat) (V : Nat → Value), k + g = d.waits.length ∧ i = .int .i64 k ∧ IsRf wr B G { A with V := V } R (d.withFirm (appl d.firm (d.waits.take k))) ∧ Step w (A.foot G) wr (A.foot G)
theorem rflush_end {w w' : World} {B G : Nat} {A : RLies} {R : List Nat} {d : Dk} {f : Nat → List Nat} (h : IsRf w B G A R (d.withFirm f)) (hd : d.Fine) (hf : f = d.seen) (hm : d.flushes < 1000)
    (hdr : w'.heap[G]? = some (.cells (rcells { A with vW := .slice none 0 0 } d.flushed) 44 (0, 0))) (hst : Step w (A.foot G) w' (A.foot G)) (hb : ∀ k, k ≠ G → w'.heap[k]? = w.heap[k]?) :
    IsRf w' B G { A with vW := .slice none 0 0 } R d.flushed :=
  h.head (A' := { A with vW := .slice none 0 0 }) hdr hst hb rfl rfl rfl rfl rfl (.nil _ _ _ _) (fun e => (h.keep e).step (hst.beside R)) (hd.flushed hm) rfl (fun i _ => by rw [Dk.flushed, Dk.withFirm, hf])

end Go.Proofs.Ytnfaeejeipbciaa
end

section
set_option linter.unusedVariables false
set_option linter.unusedSimpArgs false
namespace Go.Proofs.Ytnfaeejeipbciaa
open Go.RowKit BigFrame

theorem appl_last (f : Nat → List Nat) (ws : List (Nat × List Nat)) (a j : Nat) (hj : j < ws.length) (he : (wtAt ws j).1 = a) (h : ∀ i, j + 1 ≤ i → i < ws.length → (wtAt ws i).1 ≠ a) : appl f ws a = (wtAt ws j).2 := by
  have e : ws = ws.take (j + 1) ++ ws.drop (j + 1) := (List.take_append_drop _ _).symm
  rw [e, appl_append, appl_away _ _ _ (fun p hp => ?_), take_succ_wt hj, appl_snoc, he, updF_same]
  · rw [← take_succ_wt hj, ← e]
  · obtain ⟨i, hi, rfl⟩ := List.getElem_of_mem hp
    rw [List.getElem_drop]
    have hi2 : j + 1 + i < ws.length := by simp at hi; omega
    have := h (j + 1 + i) (by omega) hi2
    rwa [wtAt_get hi2] at this
theorem appl_none (f : Nat → List Nat) (ws : List (Nat × List Nat)) (a : Nat) (h : ∀ i, i < ws.length → (wtAt ws i).1 ≠ a) : appl f ws a = f a :=
  appl_away _ _ _ (fun p hp => by
    obtain ⟨i, hi, rfl⟩ := List.getElem_of_mem hp
    have := h i hi
    rwa [wtAt_get hi] at this)
theorem rread_off (w : World) (B : Nat) (G : Nat) (A : RLies) (R : List Nat) (d : Dk) (at' : Int) (h : IsRf w B G A R d) (hon : d.on = false) :
    Calls Try.prog 59 #[.pointer (some ⟨G, 0, none⟩), .int .i64 at'] w (GivesR [] 4 w) := by
  have c2 := h.cell 2
  simp only [rcells, hon, Bool.not_false, List.getElem?_toArray, List.getElem?_cons_zero, List.getElem?_cons_succ] at c2
  clear h hon
  go_enter Try.func59, Try.ntmps59
  go_wp2_with fail
  go_ret2
  exact ⟨_, rfl, OwnB.nil _ _, Below.refl _ _⟩
theorem rread_far (w : World) (B : Nat) (G : Nat) (A : RLies) (R : List Nat) (d : Dk) (at' : Int) (h : IsRf w B G A R d) (hon : d.on = true) (ha : at' < 0 ∨ (d.n : Int) ≤ at') :
    Calls Try.prog 59 #[.pointer (some ⟨G, 0, none⟩), .int .i64 at'] w (GivesR [] 2 w) := by
  have c0 := h.cell 0
  have c2 := h.cell 2
  obtain ⟨n, hn⟩ : ∃ n, d.n = n := ⟨_, rfl⟩
  simp only [rcells, hon, hn, Bool.not_true, List.getElem?_toArray, List.getElem?_cons_zero, List.getElem?_cons_succ] at c0 c2
  rw [hn] at ha
  clear h hon hn
  by_cases h0 : at' < 0
  · have t1 : decide (at' < 0) = true := by simp; omega
    go_enter Try.func59, Try.ntmps59
    go_wp2_with fail
    go_ret2
    exact ⟨_, rfl, OwnB.nil _ _, Below.refl _ _⟩
  · have t1 : decide (at' < 0) = false := by simp; omega
    have t2 : decide ((n : Int) ≤ at') = true := by simp; omega
    go_enter Try.func59, Try.ntmps59
    go_wp2_with fail
    go_ret2
    exact ⟨_, rfl, OwnB.nil _ _, Below.refl _ _⟩

def RrRel (w : World) (d : Dk) (a : Nat) (g : Nat) (i : Value) (wr : World) : Prop :=
  ∃ q : Nat, g ≤ d.waits.length ∧ i = .int .i64 ((g : Int) - 1) ∧ wr = w.drewN q ∧ ∀ j, g ≤ j → j < d.waits.length → (wtAt d.waits j).1 ≠ a
set_option maxRecDepth 100000 in
set_option maxHeartbeats 1000000 in
theorem rread_go (w : World) (B : Nat) (G : Nat) (A : RLies) (R : List Nat) (d : Dk) (a : Nat) (h : IsRf w B G A R d) (hon : d.on = true) (ha : a < d.n) :
    Calls Try.prog 59 #[.pointer (some ⟨G, 0, none⟩), .int .i64 (a : Int)] w (GivesR (d.seen a) 0 w) := by
  obtain ⟨gr, cr, hra, hrc, hrl, hrb, _⟩ := h.rows a ha
  have hsl := (h.slots a ha).1
  rw [hra] at hsl
  have c0 := h.cell 0
  have c1 := h.cell 1
  have c2 := h.cell 2
  obtain ⟨n, hn⟩ : ∃ n, d.n = n := ⟨_, rfl⟩
  obtain ⟨nw, hnw⟩ : ∃ nw, d.waits.length = nw := ⟨_, rfl⟩
  obtain ⟨aw, cw, hvw, _⟩ := h.waits
  rw [hnw] at hvw
  have hc1 := h.room
  have hn1 := h.fine.n
  have hm1 := h.fine.many
  rw [hn] at hc1 hn1 ha
  rw [hnw] at hm1
  simp only [rcells, hvw, hon, hn, Bool.not_true, List.getElem?_toArray, List.getElem?_cons_zero, List.getElem?_cons_succ] at c0 c1 c2
  have t1 : decide ((a : Int) < 0) = false := decide_eq_false (by omega)
  have t2 : decide ((n : Int) ≤ (a : Int)) = false := by simp; omega
  have h' := Lib.hid h
  have hnw' := Lib.hid hnw
  have hvw' := Lib.hid hvw
  have hrb' := Lib.hid hrb
  have hrl' := Lib.hid hrl
  clear h hon hn hnw hvw hrb hrl hra
  go_enter Try.func59, Try.ntmps59
  go_wp2_with fail
  go_loopg [6] nw (fun g i wr => RrRel w d a g i wr)
  case atStart => exact ⟨0, by rw [hnw'.out]; exact Nat.le_refl _, rfl, rfl, fun j h1 h2 => by rw [hnw'.out] at h2; omega⟩
  case round =>
    obtain ⟨q, hg, hi, rfl, hno⟩ := hrel
    rw [hnw'.out] at hg
    have hno' := Lib.hid hno
    clear hno
    rcases gk with _ | k
    · have hi2 := hi.trans (show Value.int .i64 (((0 : Nat) : Int) - 1) = .int .i64 (-1) from rfl)
      clear hi
      subst hi2
      go_wp2_with (at_builtin; refine wpList_append_bytes rfl (.const (.slice none 0 0)) (.tmp 59) rfl w.heap.size (.slice none 0 0) [] rfl (OwnB.nil _ _) (some ⟨gr, 0, none⟩) 128 cr (d.firm a) rfl hrl'.out hrb'.out (by intro h; cases h) (by simp) (Nat.le_refl _) ?_; intro v5 w5 ho5 hg5 hb5)
      go_ret2
      refine ⟨v5, rfl, ?_, (below_drewN w _).trans hb5⟩
      rw [Dk.seen, appl_none _ _ _ (fun i hi => hno'.out i (Nat.zero_le _) hi)]
      exact ho5.out
    · have hi2 := hi.trans (show Value.int .i64 (((k + 1 : Nat) : Int) - 1) = .int .i64 (k : Int) by congr 1; omega)
      clear hi
      subst hi2
      obtain ⟨b, gv, cv, rfl, hat, hU, u1, u2, u3⟩ := IsRf.waitAt h'.out hvw'.out hnw'.out (k := k) (by omega)
      obtain ⟨at', hat'⟩ : ∃ at', (wtAt d.waits k).1 = at' := ⟨_, rfl⟩
      rw [hU] at u2 u3
      rw [hat'] at u1 hat
      obtain ⟨gv', cv', hev, _, hul, hub, _⟩ := u3
      cases hev
      have hul' := Lib.hid hul
      have hub' := Lib.hid hub
      have hat2 := Lib.hid hat'
      clear hU hat' hul hub hat
      by_cases hea : at' = a
      · subst hea
        go_wp2_with (at_builtin; refine wpList_append_bytes rfl (.const (.slice none 0 0)) (.tmp 51) rfl w.heap.size (.slice none 0 0) [] rfl (OwnB.nil _ _) (some ⟨gv, 0, none⟩) 128 cv (wtAt d.waits k).2 rfl hul'.out hub'.out (by intro h; cases h) (by simp) (Nat.le_refl _) ?_; intro v5 w5 ho5 hg5 hb5)
        go_ret2
        refine ⟨v5, rfl, ?_, (below_drewN w _).trans hb5⟩
        rw [Dk.seen, appl_last _ _ _ k (by rw [hnw'.out]; omega) hat2.out (fun i h1 h2 => hno'.out i h1 h2)]
        exact ho5.out
      · have t3 : decide ((at' : Int) = (a : Int)) = false := by simp; omega
        go_wp2_with fail
        go_roundg k
        case measure => omega
        case rel =>
          refine ⟨_, by rw [hnw'.out]; omega, by go_num, rfl, fun j h1 h2 => ?_⟩
          by_cases ej : j = k
          · subst ej
            rw [hat2.out]; exact hea
          · exact hno'.out j (by omega) h2
end Go.Proofs.Ytnfaeejeipbciaa
end

section
set_option linter.unusedVariables false
set_option linter.unusedSimpArgs false
namespace Go.Proofs.Ytnfaeejeipbciaa
open Go.RowKit BigFrame Go.Lib
set_option maxRecDepth 100000

section
variable {w w' wr : World} {B : Nat} {M M' : List Nat} {c : RC} {L : List Rr}
set_option maxHeartbeats 4000000 in
/-- its disk reads nothing -/
theorem rget_no (h : RcAt w B M c) {a : Int} (ha : I64 a) (hno : ∀ r ∈ c.L, (r.pos : Int) ≠ a) {z : Int} (hz : z ≠ 0) (hrd : ∀ w', Below w.heap.size w w' → Calls Try.prog 59 #[pv c.G, .int .i64 a] w' (GivesR [] z w')) :
    Calls Try.prog 30 #[pv c.W, .int .i64 a] w fun e w' => e = .returned (.tuple #[.slice none 0 0, .int .i64 z]) ∧ Below w.heap.size w w' := by
  have hat := Lib.hid (rat_none h ha hno)
  have bA := Lib.hid ((Below.refl w.heap.size w).alloc (Nat.le_refl _) (Obj.cells #[.int .i64 a, .slice none 0 0, .bool false, .bool false] 88))
  have hA := h.read bA.out
  have c0 : (w.alloc (Obj.cells #[.int .i64 a, .slice none 0 0, .bool false, .bool false] 88)).cell? ⟨c.W, 0, none⟩ = some (pv c.G) := hA.hdr.cell rfl
  have hrd' := Lib.hid (hrd _ bA.out)
  have t1 : (z != 0) = true := by simpa using hz
  have hz' := Lib.hid hz
  clear hA h hrd hz
  unfold pv at hat c0 hrd' ⊢
  go_enter Try.func30, Try.ntmps30
  go_wp2_with (first
    | (go_at_call 47; refine hat.out.mono ?_; rintro e w1 ⟨rfl, rfl⟩)
    | (go_at_call 59; refine hrd'.out.mono ?_; rintro e w2 ⟨v2, rfl, ho2, hb2⟩; have b2 := Lib.hid hb2; clear ho2 hb2))
  go_ret2
  exact ⟨rfl, bA.out.trans (b2.out.mono bA.out.size)⟩
set_option maxHeartbeats 4000000 in
theorem rget_go (h : RcAt w B M c) {p : Nat} {l : List Nat} (hp : p < 2048) (hl : l.length = 128) (hno : ∀ r ∈ c.L, r.pos ≠ p) (hm : c.most ≤ 100000) (hBw : B ≤ w.heap.size) (hM : ∀ k ∈ M, k < w.heap.size) (hrd : ∀ w', Below w.heap.size w w' → Calls Try.prog 59 #[pv c.G, .int .i64 ((p : Nat) : Int)] w' (GivesR l 0 w')) :
    Calls Try.prog 30 #[pv c.W, .int .i64 ((p : Nat) : Int)] w fun e w' => ∃ v, GotR c B M (trimR c.most (newR ⟨p, l, false, false, v⟩ c.L)) l w e w' := by
  have hat := Lib.hid (rat_none h (a := ((p : Nat) : Int)) (by unfold I64; omega) (fun r hr e => hno r hr (by omega)))
  have bA := Lib.hid ((Below.refl w.heap.size w).alloc (Nat.le_refl _) (Obj.cells #[.int .i64 (p : Int), .slice none 0 0, .bool false, .bool false] 88))
  have hA := h.read bA.out
  have hlen := h.few
  have c0 : (w.alloc (Obj.cells #[.int .i64 (p : Int), .slice none 0 0, .bool false, .bool false] 88)).cell? ⟨c.W, 0, none⟩ = some (pv c.G) := hA.hdr.cell rfl
  have hnA := Lib.hid (Vw.alloc w [.int .i64 (p : Int), .slice none 0 0, .bool false, .bool false] 88)
  have hrd' := Lib.hid (hrd _ bA.out)
  obtain ⟨m, hmm⟩ : ∃ m, c.most = m := ⟨_, rfl⟩
  rw [hmm] at hm
  have hh := Lib.hid h
  have hmm' := Lib.hid hmm
  have sA := Lib.hid (size_alloc w (Obj.cells #[.int .i64 (p : Int), .slice none 0 0, .bool false, .bool false] 88))
  clear hA h hrd hmm hno
  unfold pv at hat c0 hrd' ⊢
  go_enter Try.func30, Try.ntmps30
  go_upto_region 9 with (first
    | (go_at_call 47; refine hat.out.mono ?_; rintro e w1 ⟨rfl, rfl⟩)
    | (go_at_call 59; refine hrd'.out.mono ?_; rintro e w2 ⟨v2, rfl, ho2, hb2⟩; obtain ⟨gv, cv, hv2, hcv, hge, hlt⟩ := OwnB.at ho2 hl (by omega); subst hv2; have b2 := Lib.hid hb2; have o2 := Lib.hid ho2; have n2 := Lib.hid (hnA.out.on' hb2); have e1 := n2.out.cell (k := 1) rfl; have f1 := n2.out.frozen 1; clear ho2 hb2))
  obtain ⟨x, hx⟩ : ∃ x : Rr, x = ⟨p, l, false, false, .slice (some ⟨gv, 0, none⟩) 128 cv⟩ := ⟨_, rfl⟩
  have hxc := Lib.hid (show x.cells.toArray = #[.int .i64 (p : Int), .slice (some ⟨gv, 0, none⟩) 128 cv, .bool false, .bool false] by rw [hx]; rfl)
  have hv' := Lib.hid (show x.v = .slice (some ⟨gv, 0, none⟩) 128 cv by rw [hx])
  have hvl : x.b.length = 128 := by rw [hx]; exact hl
  have hs2 := b2.out.size
  have hsA := sA.out
  rw [hsA] at hge hs2
  have hlw := Lib.hid hh.out.lt
  have BB := Lib.hid (show Below w.heap.size w (w2.setCell ⟨w.heap.size, 1, none⟩ (.slice (some ⟨gv, 0, none⟩) 128 cv)) from (bA.out.trans (b2.out.mono bA.out.size)).setCell (Nat.le_refl _) _)
  have n3 := Lib.hid (n2.out.set 1 (.slice (some ⟨gv, 0, none⟩) 128 cv))
  have o3 := Lib.hid (show OwnB (w2.setCell ⟨w.heap.size, 1, none⟩ (.slice (some ⟨gv, 0, none⟩) 128 cv)) (w.heap.size + 1) (.slice (some ⟨gv, 0, none⟩) 128 cv) l from OwnB.block (by rw [← hsA]; exact o2.out) fun k hk => by
    cases hk
    exact heap_set_other _ ⟨w.heap.size, 1, none⟩ _ (show gv ≠ w.heap.size by omega))
  have sB : (w2.setCell ⟨w.heap.size, 1, none⟩ (.slice (some ⟨gv, 0, none⟩) 128 cv)).heap.size = w2.heap.size := size_set _ _ _
  obtain ⟨wB, hwB⟩ : ∃ wB, w2.setCell ⟨w.heap.size, 1, none⟩ (.slice (some ⟨gv, 0, none⟩) 128 cv) = wB := ⟨_, rfl⟩
  rw [hwB] at BB n3 o3 sB ⊢
  have RB := Lib.hid (hh.out.read BB.out)
  have KB := Lib.hid (show Kept wB (c.foot ++ M) c.W x.v x.b by
    rw [hx]
    obtain ⟨a', cap', e', hb', _⟩ := o3.out.slice
    simp only [Value.slice.injEq] at e'
    obtain ⟨rfl, _, rfl⟩ := e'
    refine ⟨gv, cv, rfl, hcv, hl, hb', ⟨fun e => ?_, by omega⟩, fun e => ?_⟩
    · rcases List.mem_append.1 e with e | e
      · have := hlw.out _ e; omega
      · have := hM _ e; omega
    · have := hlw.out _ (RC.foot_w c); omega)
  have b0 : wB.cell? ⟨w.heap.size, 0, none⟩ = some (.int .i64 (p : Int)) := n3.out.cell rfl
  have b1 : wB.cell? ⟨w.heap.size, 1, none⟩ = some (.slice (some ⟨gv, 0, none⟩) 128 cv) := n3.out.cell rfl
  have b2x : wB.cell? ⟨w.heap.size, 2, none⟩ = some (.bool false) := n3.out.cell rfl
  have b3 : wB.cell? ⟨w.heap.size, 3, none⟩ = some (.bool false) := n3.out.cell rfl
  have b1' := Lib.hid b1
  have OB := Lib.hid (show Off wB c.foot w.heap.size from ⟨fun e => by have := hlw.out _ e; omega, by omega⟩)
  have hx' := Lib.hid hx
  clear hwB c0 hat e1 f1 hx hrd' b2 n2 n3 o2 o3
  have hnw := Lib.hid (newest_r RB.out x KB.out (by rw [hx'.out]; exact hp) (Nat.le_trans hBw BB.out.size) (fun k hk => Nat.lt_of_lt_of_le (hM k hk) BB.out.size))
  rw [hxc.out] at hnw
  obtain ⟨L1, hL1⟩ : ∃ L1, newR x c.L = L1 := ⟨_, rfl⟩
  rw [hL1] at hnw
  have hL1' := Lib.hid hL1
  unfold pv at hnw
  clear hL1
  go_upto_region 10 with (go_at_call 60; refine hnw.out.mono ?_; rintro e w2 ⟨rfl, v2, hR2, hS2⟩; have R2 := Lib.hid hR2; have S2 := Lib.hid hS2; clear hR2 hS2)
  have d2 : w2.cell? ⟨c.W, 2, none⟩ = some v2 := R2.out.hdr.cell rfl
  have d1 : w2.cell? ⟨c.W, 1, none⟩ = some (.int .i64 ((c.most : Nat) : Int)) := R2.out.hdr.cell rfl
  rw [hmm'.out] at d1
  have hn2 : L1.length ≤ 2048 := R2.out.few
  obtain ⟨n2, hn2e⟩ : ∃ n2, L1.length = n2 := ⟨_, rfl⟩
  obtain ⟨ap2, cap2, hv2⟩ : ∃ ap cap, v2 = .slice ap n2 cap := by
    rw [← hn2e]
    rcases R2.out.form with ⟨e, e0⟩ | ⟨g, cap, e, _⟩
    · have e0' : L1 = [] := e0
      exact ⟨none, 0, by rw [e0']; exact e⟩
    · exact ⟨_, _, e⟩
  have hv2' := Lib.hid hv2
  rw [hv2] at d2
  rw [hn2e] at hn2
  have hn2' := Lib.hid hn2e
  have hsz2 : wB.heap.size ≤ w2.heap.size := S2.out.size
  have hdr := Lib.hid (drop_r (R2.out.read (below_drewN w2 1)) ((n2 : Int) - (m : Int)) (by omega) (by have := BB.out.size; show B ≤ w2.heap.size; omega) (fun k hk => by have := hM k hk; have := BB.out.size; show k < w2.heap.size; omega))
  rw [show ((n2 : Int) - (m : Int)).toNat = n2 - m by omega] at hdr
  unfold pv at hdr
  have hF2 := Lib.hid (S2.out.off OB.out)
  obtain ⟨L2, hL2⟩ : ∃ L2, dropR L1 (n2 - m) = L2 := ⟨_, rfl⟩
  have hL2' := Lib.hid hL2
  change Hid (Calls _ _ _ _ fun e w' => e = .returned (.int .i64 ((goneR L1 (n2 - m) : Nat) : Int)) ∧ LaidR (c.lay v2 L1) B M (dropR L1 (n2 - m)) (w2.drewN 1) w') at hdr
  rw [hL2] at hdr
  clear hv2 hn2e hL2 b0 b1 b2x b3 hnw
  go_still_tail 11, (by kernel_rfl)
  change wpList _ _ _ _ _ (w2.drewN 1)
  have hcl : ∀ w3 v3, RcAt w3 B M ((c.lay v2 L1).lay v3 L2) → Step (w2.drewN 1) (c.lay v2 L1).foot w3 ((c.lay v2 L1).lay v3 L2).foot → Step w c.foot w3 (c.lay v3 L2).foot ∧ w3.cell? ⟨w.heap.size, 1, none⟩ = some (.slice (some ⟨gv, 0, none⟩) 128 cv) ∧ BAt w3 (some ⟨gv, 0, none⟩) x.b := fun w3 v3 hR3 hS3 => by
    have hS23 : Step w2 (c.lay v2 L1).foot w3 (c.lay v3 L2).foot := (Step.of_below (below_drewN w2 1) _).trans hS3
    have hSB : Step wB c.foot w3 (c.lay v3 L2).foot := S2.out.trans hS23
    refine ⟨(Step.of_below BB.out c.foot).trans hSB, ?_, ?_⟩
    · rw [World.cell?_of_block (w := wB) (a := ⟨w.heap.size, 1, none⟩) (hSB.same OB.out)]
      exact b1'.out
    · obtain ⟨g', c', e', _, _, hb, _⟩ := KB.out.step (hSB.beside M)
      rw [hv'.out] at e'
      cases e'
      exact hb
  have hcl' := Lib.hid hcl
  clear hcl
  go_wp2_with (first
    | (go_at_call 36; refine hdr.out.mono ?_; rintro e w3 ⟨rfl, v3, hR3, hS3⟩; obtain ⟨hT, x1, xb⟩ := hcl'.out w3 v3 hR3 hS3; have R3 := Lib.hid hR3; have T3 := Lib.hid hT; have xb' := Lib.hid xb; clear hR3 hS3 hT xb)
    | (at_builtin; refine wpList_append_bytes rfl (.const (.slice none 0 0)) (.tmp 54) rfl w3.heap.size (.slice none 0 0) [] rfl (OwnB.nil _ _) (some ⟨gv, 0, none⟩) 128 cv x.b rfl hvl xb'.out (by intro h; cases h) (by simp) (Nat.le_refl _) ?_; intro v5 w5 ho5 hg5 hb5))
  go_ret2
  have hz3 := T3.out.size
  have hL : L2 = trimR c.most (newR x c.L) := by unfold trimR; rw [hL1'.out, hn2'.out, hmm'.out, hL2'.out]
  refine ⟨.slice (some ⟨gv, 0, none⟩) 128 cv, ?_⟩
  rw [← hx'.out]
  rw [show l = x.b by rw [hx'.out]]
  refine ⟨v5, v3, rfl, OwnB.lower (by simpa using ho5.out) hz3, fun k hk e => ?_, ?_, ?_⟩
  · have h1 := (OwnB.lt ho5.out k hk).1
    rw [← hL] at e
    have h2 := R3.out.lt k e
    omega
  · rw [← hL]; exact R3.out.read hb5
  · rw [← hL]; exact T3.out.trans (Step.of_below hb5 _)
end
end Go.Proofs.Ytnfaeejeipbciaa
end
