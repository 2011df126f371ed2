/-
  The document's own disk in memory: its rows are never written again.
-/
import Derived.Test.YtmaodnidodoadaaFa
import Derived.Test.YtmaodnidodoadaaWn
namespace Go.Proofs.Ytmaodnidodoadaa
open Go.RowKit BigFrame

structure RLies where
  g : Nat
  c : Nat
  vW : Value
  vK : Value
  vL : Value
  V : Nat → Value
  U : Nat → Value
def RLies.foot (A : RLies) (G : Nat) : List Nat := G :: A.g :: A.vL.ownBlock.toList
def leftN (d : Dk) : Int := bif d.set then (d.after : Int) else -1
def rcells (A : RLies) (d : Dk) : Array Value := #[.slice (some ⟨A.g, 0, none⟩) d.n A.c, A.vW, .bool (!d.on), .int .i64 (leftN d), .int .i64 ((d.flushes : Nat) : Int), A.vK, A.vL]
/-- n places that may be written -/
def Slots (w : World) (g n : Nat) (V : Nat → Value) : Prop := ∀ i, i < n → w.cell? ⟨g, i, none⟩ = some (V i) ∧ w.frozen? ⟨g, i, none⟩ = false
/-- what waits -/
def WaitsAt (w : World) (M : List Nat) (G : Nat) (v : Value) (ws : List (Nat × List Nat)) (U : Nat → Value) : Prop :=
  ∃ a cap, v = .slice a ws.length cap ∧ ws.length ≤ cap ∧ (a = none → cap = 0) ∧ (ws.length = 0 ∨ ∃ b, a = some ⟨b, 0, none⟩ ∧ Off w M b ∧
    ∀ j, j < ws.length → w.cell? ⟨b, j * 2, none⟩ = some (.int .i64 (((wtAt ws j).1 : Nat) : Int)) ∧ w.cell? ⟨b, j * 2 + 1, none⟩ = some (U j) ∧ Kept w M G (U j) (wtAt ws j).2)
def KeepAt (w : World) (M : List Nat) (v : Value) (K : List Bool) : Prop :=
  ∃ a cap, v = .slice a K.length cap ∧ K.length ≤ cap ∧ KAt w a K ∧ ∀ b o, 0 < K.length → a = some ⟨b, o, none⟩ → Off w M b
theorem Slots.block {w w' : World} {g n : Nat} {V : Nat → Value} (h : Slots w g n V) (e : w'.heap[g]? = w.heap[g]?) : Slots w' g n V := fun i hi => by
  rw [World.cell?_of_block (w := w) (a := ⟨g, i, none⟩) e, World.frozen?_of_block (w := w) (a := ⟨g, i, none⟩) e]; exact h i hi
theorem WaitsAt.step {w w' : World} {M M' : List Nat} {G : Nat} {v : Value} {ws : List (Nat × List Nat)} {U : Nat → Value} (h : WaitsAt w M G v ws U) (hs : Step w M w' M') : WaitsAt w' M' G v ws U := by
  obtain ⟨a, cap, e, hc, hn, h⟩ := h
  refine ⟨a, cap, e, hc, hn, h.imp id ?_⟩
  rintro ⟨b, rfl, ho, hx⟩
  refine ⟨b, rfl, hs.off ho, fun j hj => ?_⟩
  rw [World.cell?_of_block (w := w) (a := ⟨b, j * 2, none⟩) (hs.same ho), World.cell?_of_block (w := w) (a := ⟨b, j * 2 + 1, none⟩) (hs.same ho)]
  exact ⟨(hx j hj).1, (hx j hj).2.1, (hx j hj).2.2.step hs⟩
theorem WaitsAt.nil (w : World) (M : List Nat) (G : Nat) (U : Nat → Value) : WaitsAt w M G (.slice none 0 0) [] U := ⟨none, 0, rfl, Nat.le_refl _, fun _ => rfl, .inl rfl⟩
theorem KeepAt.step {w w' : World} {M M' : List Nat} {v : Value} {K : List Bool} (h : KeepAt w M v K) (hs : Step w M w' M') : KeepAt w' M' v K := by
  obtain ⟨a, cap, e, hc, hx, ho⟩ := h
  refine ⟨a, cap, e, hc, ?_, fun b o h0 e => hs.off (ho b o h0 e)⟩
  rcases hx with h | ⟨b, o, rfl, hx⟩
  · exact .inl h
  · refine .inr ⟨b, o, rfl, fun k hk => ?_⟩
    rw [World.cell?_of_block (w := w) (a := ⟨b, o + k, none⟩) (hs.same (ho b o (by omega) rfl))]
    exact hx k hk

structure IsRf (w : World) (B : Nat) (G : Nat) (A : RLies) (R : List Nat) (d : Dk) : Prop where
  fine : d.Fine
  hdr : w.heap[G]? = some (.cells (rcells A d) 39 (0, 0))
  slots : Slots w A.g d.n A.V
  room : d.n ≤ A.c
  rows : ∀ i, i < d.n → Kept w (A.foot G ++ R) G (A.V i) (d.firm i)
  waits : WaitsAt w (A.foot G ++ R) G A.vW d.waits A.U
  keep : d.set = true → KeepAt w (A.foot G ++ R) A.vK d.keep
  log : w.ownsRow B 3 1 A.vL d.log.length (icells d.log)
  apart : (A.foot G).Nodup
  over : ∀ k ∈ A.foot G, B ≤ k ∧ Off w R k
  under : ∀ k ∈ R, k < w.heap.size
theorem RLies.mem_G (G : Nat) (A : RLies) : G ∈ A.foot G := by simp [RLies.foot]
theorem RLies.mem_g (G : Nat) (A : RLies) : A.g ∈ A.foot G := by simp [RLies.foot]
theorem RLies.mem_l {G k : Nat} {A : RLies} (h : A.vL.ownBlock = some k) : k ∈ A.foot G := by simp [RLies.foot, h]
theorem IsRf.cell {w : World} {B G : Nat} {A : RLies} {R : List Nat} {d : Dk} (h : IsRf w B G A R d) (k : Nat) : w.cell? ⟨G, k, none⟩ = (rcells A d)[k]? := cell_of_row _ _ _ _ _ _ h.hdr
theorem IsRf.frozen {w : World} {B G : Nat} {A : RLies} {R : List Nat} {d : Dk} (h : IsRf w B G A R d) (k : Nat) : w.frozen? ⟨G, k, none⟩ = false := frozen_of_row _ _ _ _ _ h.hdr
theorem IsRf.gne {w : World} {B G : Nat} {A : RLies} {R : List Nat} {d : Dk} (h : IsRf w B G A R d) : A.g ≠ G ∧ ∀ k, A.vL.ownBlock = some k → k ≠ G ∧ k ≠ A.g := by
  have := h.apart
  simp only [RLies.foot, List.nodup_cons, List.mem_cons, not_or] at this
  exact ⟨fun e => this.1.1 e.symm, fun k hk => ⟨fun e => this.1.2 (by simp [← e, hk]), fun e => this.2.1 (by simp [← e, hk])⟩⟩
/-- what is beside turns -/
theorem IsRf.other {w w' : World} {B G : Nat} {A : RLies} {R R' : List Nat} {d : Dk} (h : IsRf w B G A R d) (hs : Step w R w' R') (hR : ∀ k ∈ R', k < w'.heap.size) : IsRf w' B G A R' d where
  fine := h.fine
  hdr := by rw [hs.same (h.over G (RLies.mem_G G A)).2]; exact h.hdr
  slots := h.slots.block (hs.same (h.over A.g (RLies.mem_g G A)).2)
  room := h.room
  rows := fun i hi => (h.rows i hi).step ⟨hs.os, hs.tape, hs.output, hs.size, fun k hk hf => hs.block k hk (fun e => hf (List.mem_append_right _ e)), fun k hk => by
    rcases List.mem_append.1 hk with hk | hk
    · exact .inl (List.mem_append_left _ hk)
    · exact (hs.foot k hk).imp (List.mem_append_right _) id⟩
  waits := h.waits.step ⟨hs.os, hs.tape, hs.output, hs.size, fun k hk hf => hs.block k hk (fun e => hf (List.mem_append_right _ e)), fun k hk => by
    rcases List.mem_append.1 hk with hk | hk
    · exact .inl (List.mem_append_left _ hk)
    · exact (hs.foot k hk).imp (List.mem_append_right _) id⟩
  keep := fun e => (h.keep e).step ⟨hs.os, hs.tape, hs.output, hs.size, fun k hk hf => hs.block k hk (fun e => hf (List.mem_append_right _ e)), fun k hk => by
    rcases List.mem_append.1 hk with hk | hk
    · exact .inl (List.mem_append_left _ hk)
    · exact (hs.foot k hk).imp (List.mem_append_right _) id⟩
  log := ownsRow_block h.log (fun k hk => hs.same (h.over k (RLies.mem_l hk)).2)
  apart := h.apart
  over := fun k hk => ⟨(h.over k hk).1, hs.off (h.over k hk).2⟩
  under := hR
theorem IsRf.read {w w' : World} {B G : Nat} {A : RLies} {R : List Nat} {d : Dk} (h : IsRf w B G A R d) (hb : Below w.heap.size w w') : IsRf w' B G A R d :=
  h.other (.of_below hb R) (fun k hk => Nat.lt_of_lt_of_le (h.under k hk) hb.size)
theorem IsRf.drewN {w : World} {B G m : Nat} {A : RLies} {R : List Nat} {d : Dk} (h : IsRf w B G A R d) : IsRf (w.drewN m) B G A R d := h.read (below_drewN w m)
/-- its own cells are written, and nothing else -/
theorem IsRf.head {w w' : World} {B G : Nat} {A A' : RLies} {R : List Nat} {d d' : Dk} (h : IsRf w B G A R d) (hdr : w'.heap[G]? = some (.cells (rcells A' d') 39 (0, 0)))
    (hst : Step w (A.foot G) w' (A.foot G)) (hb : ∀ k, k ≠ G → w'.heap[k]? = w.heap[k]?) (hg : A'.g = A.g) (hc : A'.c = A.c) (hV : A'.V = A.V) (hL : A'.vL = A.vL) (hlog : d'.log = d.log)
    (hW : WaitsAt w' (A.foot G ++ R) G A'.vW d'.waits A'.U) (hK : d'.set = true → KeepAt w' (A.foot G ++ R) A'.vK d'.keep)
    (fine : d'.Fine) (hn : d'.n = d.n) (hfi : ∀ i, i < d.n → d'.firm i = d.firm i) : IsRf w' B G A' R d' := by
  have hft : A'.foot G = A.foot G := by simp [RLies.foot, hg, hL]
  have hsx := hst.beside R
  refine ⟨fine, hdr, ?_, by rw [hn, hc]; exact h.room, ?_, ?_, ?_, ?_, by rw [hft]; exact h.apart, ?_, fun k hk => Nat.lt_of_lt_of_le (h.under k hk) hst.size⟩
  · rw [hg, hn, hV]; exact h.slots.block (hb _ h.gne.1)
  · intro i hi
    rw [hn] at hi
    rw [hft, hV, hfi i hi]; exact (h.rows i hi).step hsx
  · rw [hft]; exact hW
  · rw [hft]; exact hK
  · rw [hL, hlog]; exact ownsRow_block h.log (fun k hk => hb k (h.gne.2 k hk).1)
  · intro k hk
    rw [hft] at hk
    exact ⟨(h.over k hk).1, (h.over k hk).2.1, Nat.lt_of_lt_of_le (h.over k hk).2.2 hst.size⟩
/-- a row is laid in another's place -/
theorem IsRf.lay {w : World} {B G i : Nat} {A : RLies} {R : List Nat} {d : Dk} {x : Value} {X : List Nat} (h : IsRf w B G A R d) (hi : i < d.n) (hx : Kept w (A.foot G ++ R) G x X) (f' : Nat → List Nat) (hf : ∀ j, j < d.n → f' j = updF d.firm i X j) :
    IsRf (w.setCell ⟨A.g, i, none⟩ x) B G { A with V := fun j => if j = i then x else A.V j } R (d.withFirm f') ∧ Step w (A.foot G) (w.setCell ⟨A.g, i, none⟩ x) (A.foot G) := by
  have hst : Step w (A.foot G) (w.setCell ⟨A.g, i, none⟩ x) (A.foot G) := (Step.refl _ _).setCell _ _ _ (RLies.mem_g G A)
  have hsx := hst.beside R
  have hb : ∀ k, k ≠ A.g → (w.setCell ⟨A.g, i, none⟩ x).heap[k]? = w.heap[k]? := fun k hk => Below.heap_setCell _ _ _ _ hk
  have hX : X.length = 128 := by obtain ⟨_, _, _, _, e, _⟩ := hx; exact e
  refine ⟨⟨⟨h.fine.n, fun j hj => ?_, h.fine.waits, h.fine.many, h.fine.logs, h.fine.flush, h.fine.keeps, h.fine.aft⟩, by rw [hb _ (Ne.symm h.gne.1)]; exact h.hdr, fun j hj => ?_, h.room, fun j hj => ?_, h.waits.step hsx, fun e => (h.keep e).step hsx,
    ownsRow_block h.log (fun k hk => hb k (h.gne.2 k hk).2), h.apart, fun k hk => ⟨(h.over k hk).1, (h.over k hk).2.1, Nat.lt_of_lt_of_le (h.over k hk).2.2 hst.size⟩, fun k hk => Nat.lt_of_lt_of_le (h.under k hk) hst.size⟩, hst⟩
  · show (f' j).length = 128
    rw [hf j hj]
    unfold updF
    split
    · exact hX
    · exact h.fine.firm j hj
  · show (w.setCell ⟨A.g, i, none⟩ x).cell? ⟨A.g, j, none⟩ = some (if j = i then x else A.V j) ∧ (w.setCell ⟨A.g, i, none⟩ x).frozen? ⟨A.g, j, none⟩ = false
    by_cases e : j = i
    · subst e
      rw [if_pos rfl]
      exact ⟨World.cell?_setCell_same _ _ _ (h.slots j hj).1, by rw [World.frozen?_setCell]; exact (h.slots j hj).2⟩
    · rw [if_neg e]
      exact ⟨by rw [World.cell?_setCell_other _ _ _ _ (by intro h; exact e (Addr.mk.inj h).2.1.symm)]; exact (h.slots j hj).1, by rw [World.frozen?_setCell]; exact (h.slots j hj).2⟩
  · show Kept _ _ G (if j = i then x else A.V j) (f' j)
    rw [hf j hj]
    by_cases e : j = i
    · subst e
      rw [if_pos rfl, updF_same]; exact hx.step hsx
    · rw [if_neg e, updF_other e]; exact (h.rows j hj).step hsx
def GivesRf (v : Value) (d' : Dk) (B G : Nat) (A : RLies) (R : List Nat) (w : World) (e : Ending) (w' : World) : Prop :=
  e = .returned v ∧ ∃ A', IsRf w' B G A' R d' ∧ Step w (A.foot G) w' (A'.foot G)
end Go.Proofs.Ytmaodnidodoadaa
