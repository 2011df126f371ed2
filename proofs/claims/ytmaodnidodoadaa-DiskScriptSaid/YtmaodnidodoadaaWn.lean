/-
  What is wanted: a list of sectors' bytes of the law's own, beside the disk.
-/
import Derived.Test.YtmaodnidodoadaaLv
import Derived.Test.YtmaodnidodoadaaSp
import Derived.Test.YtmaodnidodoadaaAk
namespace Go.Proofs.Ytmaodnidodoadaa
open Go.RowKit BigFrame

theorem Step.beside {w w' : World} {F F' : List Nat} (h : Step w F w' F') (R : List Nat) : Step w (F ++ R) w' (F' ++ R) :=
  ⟨h.os, h.tape, h.output, h.size, fun k hk hf => h.block k hk (fun e => hf (List.mem_append_left _ e)), fun k hk => by
    rcases List.mem_append.1 hk with hk | hk
    · exact (h.foot k hk).imp (List.mem_append_left _) id
    · exact .inl (List.mem_append_right _ hk)⟩
theorem Off.left {w : World} {F R : List Nat} {k : Nat} (h : Off w (F ++ R) k) : Off w F k := ⟨fun e => h.1 (List.mem_append_left _ e), h.2⟩
/-- a sector's bytes, as a slice that stands beside what may turn -/
def Kept (w : World) (M : List Nat) (gw : Nat) (v : Value) (X : List Nat) : Prop :=
  ∃ g cap, v = .slice (some ⟨g, 0, none⟩) 128 cap ∧ 128 ≤ cap ∧ X.length = 128 ∧ BAt w (some ⟨g, 0, none⟩) X ∧ Off w M g ∧ g ≠ gw
theorem BAt.block {w w' : World} {g : Nat} {l : List Nat} (h : BAt w (some ⟨g, 0, none⟩) l) (e : w'.heap[g]? = w.heap[g]?) : BAt w' (some ⟨g, 0, none⟩) l := by
  rcases h with h | ⟨b, o, e2, h⟩
  · exact .inl h
  · simp only [Option.some.injEq, Addr.mk.injEq, and_true] at e2
    obtain ⟨rfl, rfl⟩ := e2
    exact .inr ⟨g, 0, rfl, fun k hk => by rw [World.cell?_of_block (w := w) (a := ⟨g, 0 + k, none⟩) e]; exact h k hk⟩
theorem Kept.step {w w' : World} {M M' : List Nat} {gw : Nat} {v : Value} {X : List Nat} (h : Kept w M gw v X) (hs : Step w M w' M') : Kept w' M' gw v X := by
  obtain ⟨g, cap, rfl, hc, hl, hx, ho, hne⟩ := h
  exact ⟨g, cap, rfl, hc, hl, hx.block (hs.same ho), hs.off ho, hne⟩
theorem Kept.set {w : World} {M : List Nat} {gw k : Nat} {v u : Value} {X : List Nat} (h : Kept w M gw v X) : Kept (w.setCell ⟨gw, k, none⟩ u) M gw v X := by
  obtain ⟨g, cap, rfl, hc, hl, hx, ho, hne⟩ := h
  exact ⟨g, cap, rfl, hc, hl, hx.block (Below.heap_setCell _ _ _ _ hne), ⟨ho.1, by simpa [World.setCell] using ho.2⟩, hne⟩
/-- N of them in one list, the first k laid -/
def Wants (w : World) (M : List Nat) (base gw N k : Nat) (X : Nat → List Nat) : Prop :=
  ∃ V, w.rowIs gw 43 N V ∧ Off w M gw ∧ base ≤ gw ∧ ∀ i, i < k → Kept w M gw (V i) (X i)
theorem Wants.step {w w' : World} {M M' : List Nat} {base gw N k : Nat} {X : Nat → List Nat} (h : Wants w M base gw N k X) (hs : Step w M w' M') : Wants w' M' base gw N k X := by
  obtain ⟨V, hr, ho, hb, hk⟩ := h
  exact ⟨V, hr.of_block (hs.same ho), hs.off ho, hb, fun i hi => (hk i hi).step hs⟩
theorem Wants.below {w w' : World} {M : List Nat} {base gw N k : Nat} {X : Nat → List Nat} (h : Wants w M base gw N k X) (hb : Below w.heap.size w w') : Wants w' M base gw N k X := h.step (.of_below hb M)
theorem Wants.congr {w : World} {M : List Nat} {base gw N k : Nat} {X Y : Nat → List Nat} (h : Wants w M base gw N k X) (e : ∀ i, i < k → Y i = X i) : Wants w M base gw N k Y := by
  obtain ⟨V, hr, ho, hb, hk⟩ := h
  exact ⟨V, hr, ho, hb, fun i hi => by rw [e i hi]; exact hk i hi⟩
theorem Wants.put {w : World} {M : List Nat} {base gw N k i : Nat} {X : Nat → List Nat} {v : Value} {Y : List Nat} (h : Wants w M base gw N k X) (_hi : i < k) (hv : Kept w M gw v Y) : Wants (w.setCell ⟨gw, i, none⟩ v) M base gw N k (updF X i Y) := by
  obtain ⟨V, hr, ho, hb, hk⟩ := h
  refine ⟨_, hr.set i v, ⟨ho.1, by simpa [World.setCell] using ho.2⟩, hb, fun j hj => ?_⟩
  by_cases e : j = i
  · subst e
    rw [if_pos rfl, updF_same]; exact hv.set
  · rw [if_neg e, updF_other e]; exact (hk j hj).set
theorem Wants.push {w : World} {M : List Nat} {base gw N k : Nat} {X : Nat → List Nat} {v : Value} (h : Wants w M base gw N k X) (hv : Kept w M gw v (X k)) : Wants (w.setCell ⟨gw, k, none⟩ v) M base gw N (k + 1) X := by
  obtain ⟨V, hr, ho, hb, hk⟩ := h
  refine ⟨_, hr.set k v, ⟨ho.1, by simpa [World.setCell] using ho.2⟩, hb, fun j hj => ?_⟩
  by_cases e : j = k
  · subst e
    rw [if_pos rfl]; exact hv.set
  · rw [if_neg e]; exact (hk j (by omega)).set
theorem Wants.cellAt {w : World} {M : List Nat} {base gw N k i : Nat} {X : Nat → List Nat} (h : Wants w M base gw N k X) (hi : i < N) : (∃ v, w.cell? ⟨gw, i, none⟩ = some v) ∧ w.frozen? ⟨gw, i, none⟩ = false := by
  obtain ⟨V, hr, ho, hb, hk⟩ := h
  exact ⟨⟨_, hr.cell hi⟩, hr.frozen i⟩
theorem Wants.get {w : World} {M : List Nat} {base gw N k i : Nat} {X : Nat → List Nat} (h : Wants w M base gw N k X) (hi : i < k) (hN : k ≤ N) : ∃ g cap, w.cell? ⟨gw, i, none⟩ = some (.slice (some ⟨g, 0, none⟩) 128 cap) ∧ (X i).length = 128 ∧ BAt w (some ⟨g, 0, none⟩) (X i) := by
  obtain ⟨V, hr, ho, hb, hk⟩ := h
  obtain ⟨g, cap, e, _, hl, hx, _⟩ := hk i hi
  exact ⟨g, cap, by rw [hr.cell (by omega), e], hl, hx⟩
theorem Wants.parts {w : World} {M : List Nat} {base gw N : Nat} {X : Nat → List Nat} (h : Wants w M base gw N N X) : Parts w (some ⟨gw, 0, none⟩) N X := by
  obtain ⟨V, hr, ho, hb, hk⟩ := h
  refine .inr ⟨gw, 0, rfl, fun i hi => ⟨V i, by rw [Nat.zero_add]; exact hr.cell hi, ?_, by obtain ⟨g, cap, _, _, hl, _⟩ := hk i hi; omega⟩⟩
  obtain ⟨g, cap, e, _, hl, hx, _⟩ := hk i hi
  exact ⟨_, 128, cap, e, hl, hx⟩
theorem Wants.off {w : World} {M : List Nat} {base gw N k : Nat} {X : Nat → List Nat} (h : Wants w M base gw N k X) : Off w M gw ∧ base ≤ gw := by
  obtain ⟨V, hr, ho, hb, hk⟩ := h
  exact ⟨ho, hb⟩
/-- bytes that a call gave are kept -/
theorem OwnB.kept {w w' : World} {M : List Nat} {gw : Nat} {v : Value} {l : List Nat} (h : OwnB w' w.heap.size v l) (hl : l.length = 128) (hM : ∀ k ∈ M, k < w.heap.size) (hgw : gw < w.heap.size) : Kept w' M gw v l := by
  obtain ⟨g, cap, rfl, hc, hg, hlt⟩ := h.at hl (by omega)
  exact ⟨g, cap, rfl, hc, hl, h.bat, ⟨fun e => by have := hM g e; omega, hlt⟩, by omega⟩
theorem row_kept {w : World} {M : List Nat} {gw : Nat} (hM : ∀ k ∈ M, k < w.heap.size) (hgw : gw < w.heap.size) : Kept (w.alloc (.cells zrow 5)) M gw (.slice (some ⟨w.heap.size, 0, none⟩) 128 128) (zs 128) :=
  ⟨w.heap.size, 128, rfl, Nat.le_refl _, zs_length 128, (zrow_row w).bat, ⟨fun e => by have := hM _ e; omega, by simp⟩, by omega⟩
/-- so many nils, as cells -/
def nils (n : Nat) : Array Value := madeCells #[.slice none 0 0] n
theorem make_nils (n : Nat) (hn : n ≤ 1000) (w : World) : (Instr.makeSlice 32 (.int .i64 (n : Int)) (.int .i64 (n : Int))).run Try.prog w = .ok (.slice (some ⟨w.heap.size, 0, none⟩) n n) (w.alloc (.cells (nils n) 43)) :=
  run_make_row' (P := Try.prog) 32 43 (.slice none 0 0) 24 Try.underlying32 Try.infoP rfl .i64 .i64 n (by omega) (by omega) w
theorem wants_new {w : World} {M : List Nat} {base : Nat} (hM : ∀ k ∈ M, k < w.heap.size) (hb : base ≤ w.heap.size) (n : Nat) (X : Nat → List Nat) : Wants (w.alloc (.cells (nils n) 43)) M base w.heap.size n 0 X :=
  ⟨_, World.rowIs_made w (.slice none 0 0) n 43, ⟨fun e => by have := hM _ e; omega, by simp⟩, hb, fun i h => by omega⟩
theorem Wants.left {w : World} {F R : List Nat} {base gw N k : Nat} {X : Nat → List Nat} (h : Wants w (F ++ R) base gw N k X) : Wants w F base gw N k X := by
  obtain ⟨V, hr, ho, hb, hk⟩ := h
  refine ⟨V, hr, ho.left, hb, fun i hi => ?_⟩
  obtain ⟨g, cap, e, hc, hl, hx, hof, hne⟩ := hk i hi
  exact ⟨g, cap, e, hc, hl, hx, hof.left, hne⟩
theorem image_n (w : World) (B : Nat) (G : Nat) (A : Lies) (d : Dk) (n : Nat) (X : Nat → List Nat) (h : IsDk w B G A d) (hn : d.n = n) (hX : ∀ i, i < n → d.firm i = X i) :
    Calls Try.prog 8 #[.pointer (some ⟨G, 0, none⟩)] w (GivesI n X w) := by
  subst hn
  refine (image_any w B G A d h).mono fun e w' ⟨g, V, bk, he, hs, hb⟩ => ⟨g, V, bk, he, ⟨hs.row, hs.base, fun i hi => by rw [← hX i hi]; exact hs.own i hi, hs.rise⟩, hb⟩
theorem writes_n (w : World) (B : Nat) (G : Nat) (A : Lies) (d : Dk) (n : Nat) (h : IsDk w B G A d) (hn : d.log.length = n) :
    Calls Try.prog 10 #[.pointer (some ⟨G, 0, none⟩)] w (GivesZ n (logD d) w) := by
  subst hn; exact writes_any w B G A d h
theorem Live.lt {w0 w : World} {G : Nat} {A : Lies} {d : Dk} (h : Live w0 w G A d) : ∀ k ∈ A.foot G, k < w.heap.size := fun k hk => (IsDkS.over h.disk k hk).2
end Go.Proofs.Ytmaodnidodoadaa
