/-
  A disk in memory: where it lies, what lies there, and what stays of it when other memory turns.
  Frames by a predicate on blocks; maps with numbers as keys.
-/
import Derived.Test.YtnfaeejeipbciaaB3
import Derived.Deep.MidRow
import Derived.Deep.AppendLies
import Derived.Test.YtnfaeejeipbciaaB1
import Derived.Test.YtnfaeejeipbciaaB2
import Derived.Maps.AppendAt

section
set_option linter.unusedVariables false
set_option linter.unusedSimpArgs false
namespace Go.Proofs.Ytnfaeejeipbciaa
open Go.RowKit

/-! ### What stays -/
/-- from w to w' nothing has turned but the blocks of F, which are those of F' now, and new ones -/
structure Step (w : World) (F : List Nat) (w' : World) (F' : List Nat) : Prop where
  os : w'.os = w.os
  tape : w'.tape = w.tape
  output : w'.output = w.output
  size : w.heap.size ≤ w'.heap.size
  block : ∀ k, k < w.heap.size → k ∉ F → w'.heap[k]? = w.heap[k]?
  foot : ∀ k ∈ F', k ∈ F ∨ w.heap.size ≤ k
theorem Step.refl (w : World) (F : List Nat) : Step w F w F := ⟨rfl, rfl, rfl, Nat.le_refl _, fun _ _ _ => rfl, fun _ h => .inl h⟩
theorem Step.trans {a b c : World} {F G H : List Nat} (h : Step a F b G) (k : Step b G c H) : Step a F c H :=
  ⟨k.os.trans h.os, k.tape.trans h.tape, k.output.trans h.output, Nat.le_trans h.size k.size, fun i hi hf =>
    (k.block i (Nat.lt_of_lt_of_le hi h.size) (fun e => by rcases h.foot i e with e | e <;> first | exact hf e | omega)).trans (h.block i hi hf),
    fun i hi => by
      rcases k.foot i hi with e | e
      · exact h.foot i e
      · exact .inr (Nat.le_trans h.size e)⟩
theorem Step.of_below {w w' : World} (h : Below w.heap.size w w') (F : List Nat) : Step w F w' F := ⟨h.os, h.tape, h.output, h.size, fun k hk _ => h.block k hk, fun _ h => .inl h⟩
theorem Step.below {w w' : World} {F F' : List Nat} {B : Nat} (h : Step w F w' F') (hB : B ≤ w.heap.size) (hF : ∀ k ∈ F, B ≤ k) : Below B w w' :=
  ⟨h.os, h.tape, h.output, h.size, fun k hk => h.block k (by omega) (fun e => by have := hF k e; omega)⟩
/-- block k is none of F, and there -/
def Off (w : World) (F : List Nat) (k : Nat) : Prop := k ∉ F ∧ k < w.heap.size
theorem Step.off {w w' : World} {F F' : List Nat} {k : Nat} (h : Step w F w' F') (hk : Off w F k) : Off w' F' k :=
  ⟨fun e => by have := hk.2; rcases h.foot k e with e | e <;> first | exact hk.1 e | omega, Nat.lt_of_lt_of_le hk.2 h.size⟩
theorem Step.same {w w' : World} {F F' : List Nat} {k : Nat} (h : Step w F w' F') (hk : Off w F k) : w'.heap[k]? = w.heap[k]? := h.block k hk.2 hk.1

/-! ### Ranges -/
theorem rangeAt_block {w w' : World} {b o : Nat} {cs : List Value} (h : w.rangeAt b o cs) (e : w'.heap[b]? = w.heap[b]?) : w'.rangeAt b o cs := fun j v hv => by
  rw [World.cell?_of_block (w := w) (a := ⟨b, o + j, none⟩) e]; exact h j v hv
theorem there_block {w w' : World} {b o n : Nat} (h : w.there b o n) (e : w'.heap[b]? = w.heap[b]?) : w'.there b o n := fun j hj => by
  rw [World.cell?_of_block (w := w) (a := ⟨b, o + j, none⟩) e, World.frozen?_of_block (w := w) (a := ⟨b, o + j, none⟩) e]; exact h j hj
/-- block g holds n sectors -/
def Secs (w : World) (g n : Nat) (f : Nat → List Nat) : Prop := ∀ i, i < n → w.rangeAt g (i * 128) (bv (f i)) ∧ w.there g (i * 128) 128
theorem Secs.block {w w' : World} {g n : Nat} {f : Nat → List Nat} (h : Secs w g n f) (e : w'.heap[g]? = w.heap[g]?) : Secs w' g n f :=
  fun i hi => ⟨rangeAt_block (h i hi).1 e, there_block (h i hi).2 e⟩
theorem setCells_block (b : Nat) : ∀ (vs : List Value) (o : Nat) (w : World) (k : Nat), k ≠ b → (w.setCells b o vs).heap[k]? = w.heap[k]?
  | [], _, _, _, _ => rfl
  | v :: r, o, w, k, h => by
    rw [World.setCells, setCells_block b r (o + 1) _ k h]
    exact Below.heap_setCell _ _ _ _ h
theorem setCells_os (b : Nat) : ∀ (vs : List Value) (o : Nat) (w : World), (w.setCells b o vs).os = w.os ∧ (w.setCells b o vs).tape = w.tape ∧ (w.setCells b o vs).output = w.output ∧ (w.setCells b o vs).heap.size = w.heap.size
  | [], _, _ => ⟨rfl, rfl, rfl, rfl⟩
  | v :: r, o, w => by
    rw [World.setCells]
    obtain ⟨h1, h2, h3, h4⟩ := setCells_os b r (o + 1) (w.setCell ⟨b, o, none⟩ v)
    exact ⟨h1, h2, h3, by rw [h4]; simp [World.setCell]⟩
/-- a sector written -/
theorem Secs.store {w : World} {g n : Nat} {f : Nat → List Nat} (h : Secs w g n f) (hl : ∀ i, i < n → (f i).length = 128) {a : Nat} (_ha : a < n) {b : List Nat} (hb : b.length = 128) :
    Secs (w.setCells g (a * 128) (bv b)) g n (updF f a b) := fun i hi => by
  refine ⟨?_, World.there_setCells (h i hi).2 _ _ _⟩
  by_cases e : i = a
  · subst e
    rw [updF_same]
    exact World.rangeAt_setCells_same _ _ _ _ (by rw [bv_length, hb]; exact (h i hi).2)
  · rw [updF_other e]
    refine World.rangeAt_setCells_apart (h i hi).1 _ _ _ (.inr ?_)
    rw [bv_length, bv_length, hl i hi, hb]
    rcases Nat.lt_or_gt_of_ne e with e | e
    · left; have := Nat.mul_le_mul_right 128 (show i + 1 ≤ a from e); omega
    · right; have := Nat.mul_le_mul_right 128 (show a + 1 ≤ i from e); omega
theorem Secs.congr {w : World} {g n : Nat} {f f' : Nat → List Nat} (h : Secs w g n f) (e : ∀ i, i < n → f' i = f i) : Secs w g n f' := fun i hi => by rw [e i hi]; exact h i hi

/-! ### Lists of equal parts, as cells -/
theorem flat_get {α : Type} (c : α → List Value) (m : Nat) : ∀ (l : List α), (∀ x ∈ l, (c x).length = m) → ∀ (i : Nat) (hi : i < l.length) (j : Nat), j < m → (l.flatMap c)[i * m + j]? = (c l[i])[j]?
  | [], _, _, hi, _, _ => by simp at hi
  | x :: l, h, 0, _, j, hj => by
    have := h x List.mem_cons_self
    simp only [List.flatMap_cons, Nat.zero_mul, Nat.zero_add, List.getElem_cons_zero]
    rw [List.getElem?_append_left (by omega)]
  | x :: l, h, i + 1, hi, j, hj => by
    have e := h x List.mem_cons_self
    have ih := flat_get c m l (fun y hy => h y (List.mem_cons_of_mem _ hy)) i (by simpa using hi) j hj
    simp only [List.flatMap_cons, List.getElem_cons_succ]
    rw [List.getElem?_append_right (by rw [e, Nat.succ_mul]; omega), ← ih, e]
    congr 1
    rw [Nat.succ_mul]; omega
theorem flat_length {α : Type} (c : α → List Value) (m : Nat) : ∀ (l : List α), (∀ x ∈ l, (c x).length = m) → (l.flatMap c).length = l.length * m
  | [], _ => by simp
  | x :: l, h => by
    rw [List.flatMap_cons, List.length_append, h x List.mem_cons_self, flat_length c m l (fun y hy => h y (List.mem_cons_of_mem _ hy)), List.length_cons, Nat.succ_mul]
    omega
/-- a write's cells -/
def wcell (p : Nat × List Nat) : List Value := .int .i64 ((p.1 : Nat) : Int) :: bv p.2
def wcells (l : List (Nat × List Nat)) : List Value := l.flatMap wcell
def icells (l : List Nat) : List Value := l.map fun n => .int .i64 ((n : Nat) : Int)
def kcells (l : List Bool) : List Value := l.map fun b => .bool b
theorem wcell_length {p : Nat × List Nat} (h : p.2.length = 128) : (wcell p).length = 129 := by simp [wcell, bv_length, h]
theorem wcell_one (p : Nat × List Nat) : ∀ v ∈ wcell p, v.oneCell' = true := by
  intro v hv
  rcases List.mem_cons.1 hv with rfl | hv
  · rfl
  · exact bv_one _ v hv

/-! ### Where a disk lies -/
structure Lies where
  f : Nat
  s : Nat
  vw : Value
  vl : Value
  vk : Value
def Lies.foot (A : Lies) (G : Nat) : List Nat := G :: A.f :: A.s :: (A.vw.ownBlock.toList ++ (A.vl.ownBlock.toList ++ A.vk.ownBlock.toList))
def hcells (A : Lies) (d : Dk) : Array Value := #[.bool d.on, .slice (some ⟨A.f, 0, none⟩) d.n d.n, .slice (some ⟨A.s, 0, none⟩) d.n d.n, A.vw, A.vl, .int .i64 ((d.flushes : Nat) : Int), .bool d.set, .int .i64 ((d.after : Nat) : Int), A.vk]

/-- a disk that reads as sn -/
structure IsDkS (w : World) (B : Nat) (G : Nat) (A : Lies) (d : Dk) (sn : Nat → List Nat) : Prop where
  fine : d.Fine
  hdr : w.heap[G]? = some (.cells (hcells A d) 69 (0, 0))
  firm : Secs w A.f d.n d.firm
  seen : Secs w A.s d.n sn
  waits : w.ownsRow B 99 129 A.vw d.waits.length (wcells d.waits)
  log : w.ownsRow B 3 1 A.vl d.log.length (icells d.log)
  keep : w.ownsRow B 4 1 A.vk d.keep.length (kcells d.keep)
  apart : (A.foot G).Nodup
  over : ∀ k ∈ A.foot G, B ≤ k ∧ k < w.heap.size

/-- a disk: what it has, and what is read -/
def IsDk (w : World) (B : Nat) (G : Nat) (A : Lies) (d : Dk) : Prop := IsDkS w B G A d d.seen
theorem ownsRow_block {w w' : World} {B : Nat} {e : TypeId} {size n : Nat} {v : Value} {xs : List Value} (h : w.ownsRow B e size v n xs) (hb : ∀ k, v.ownBlock = some k → w'.heap[k]? = w.heap[k]?) : w'.ownsRow B e size v n xs := by
  refine ⟨h.1, ?_⟩
  rcases h.2 with hn | ⟨g, cap, cur, rfl, hg, hh, rest⟩
  · exact .inl hn
  · exact .inr ⟨g, cap, cur, rfl, hg, by rw [hb g rfl]; exact hh, rest⟩
theorem mem_foot_w {G : Nat} {A : Lies} {k : Nat} (h : A.vw.ownBlock = some k) : k ∈ A.foot G := by simp [Lies.foot, h]
theorem mem_foot_l {G : Nat} {A : Lies} {k : Nat} (h : A.vl.ownBlock = some k) : k ∈ A.foot G := by simp [Lies.foot, h]
theorem mem_foot_k {G : Nat} {A : Lies} {k : Nat} (h : A.vk.ownBlock = some k) : k ∈ A.foot G := by simp [Lies.foot, h]
theorem mem_foot_g (G : Nat) (A : Lies) : G ∈ A.foot G := by simp [Lies.foot]
theorem mem_foot_f (G : Nat) (A : Lies) : A.f ∈ A.foot G := by simp [Lies.foot]
theorem mem_foot_s (G : Nat) (A : Lies) : A.s ∈ A.foot G := by simp [Lies.foot]
theorem IsDkS.carry {w w' : World} {B : Nat} {G : Nat} {A : Lies} {d : Dk} {sn : Nat → List Nat} (h : IsDkS w B G A d sn) (hs : w.heap.size ≤ w'.heap.size) (hb : ∀ k ∈ A.foot G, w'.heap[k]? = w.heap[k]?) : IsDkS w' B G A d sn where
  fine := h.fine
  hdr := by rw [hb _ (mem_foot_g G A)]; exact h.hdr
  firm := h.firm.block (hb _ (mem_foot_f G A))
  seen := h.seen.block (hb _ (mem_foot_s G A))
  waits := ownsRow_block h.waits (fun k hk => hb k (mem_foot_w hk))
  log := ownsRow_block h.log (fun k hk => hb k (mem_foot_l hk))
  keep := ownsRow_block h.keep (fun k hk => hb k (mem_foot_k hk))
  apart := h.apart
  over := fun k hk => ⟨(h.over k hk).1, Nat.lt_of_lt_of_le (h.over k hk).2 hs⟩
theorem IsDkS.on {w w' : World} {B B' : Nat} {G : Nat} {A : Lies} {d : Dk} {sn : Nat → List Nat} (h : IsDkS w B G A d sn) (hb : Below B' w w') (hB : w.heap.size ≤ B') : IsDkS w' B G A d sn :=
  h.carry hb.size (fun k hk => hb.block k (by have := (h.over k hk).2; omega))
theorem IsDkS.drew {w : World} {B m : Nat} {G : Nat} {A : Lies} {d : Dk} {sn : Nat → List Nat} (h : IsDkS w B G A d sn) : IsDkS (w.drewN m) B G A d sn := h.carry (Nat.le_refl _) (fun _ _ => rfl)
theorem IsDkS.drew1 {w : World} {B : Nat} {G : Nat} {A : Lies} {d : Dk} {sn : Nat → List Nat} (h : IsDkS w B G A d sn) : IsDkS w.drew B G A d sn := h.carry (Nat.le_refl _) (fun _ _ => rfl)
theorem IsDkS.setOther {w : World} {B : Nat} {G : Nat} {A : Lies} {d : Dk} {sn : Nat → List Nat} (h : IsDkS w B G A d sn) {a : Addr} (ha : a.block ∉ A.foot G) (v : Value) : IsDkS (w.setCell a v) B G A d sn :=
  h.carry (by simp [World.setCell]) (fun k hk => Below.heap_setCell _ _ _ _ (fun e => ha (e ▸ hk)))
theorem IsDkS.cell {w : World} {B : Nat} {G : Nat} {A : Lies} {d : Dk} {sn : Nat → List Nat} (h : IsDkS w B G A d sn) (k : Nat) : w.cell? ⟨G, k, none⟩ = (hcells A d)[k]? := cell_of_row _ _ _ _ _ _ h.hdr
theorem IsDkS.frozen {w : World} {B : Nat} {G : Nat} {A : Lies} {d : Dk} {sn : Nat → List Nat} (h : IsDkS w B G A d sn) (k : Nat) : w.frozen? ⟨G, k, none⟩ = false := frozen_of_row _ _ _ _ _ h.hdr
theorem IsDkS.step {w w' : World} {B : Nat} {G : Nat} {A A' : Lies} {d : Dk} {sn : Nat → List Nat} (h : IsDkS w B G A d sn) (hs : Step w (A.foot G) w' (A'.foot G)) (hB : B ≤ w.heap.size) : Below B w w' := hs.below hB (fun k hk => (h.over k hk).1)
theorem IsDkS.gf {w : World} {B : Nat} {G : Nat} {A : Lies} {d : Dk} {sn : Nat → List Nat} (h : IsDkS w B G A d sn) : G ≠ A.f ∧ G ≠ A.s ∧ A.f ≠ A.s := by
  have := h.apart
  simp only [Lies.foot, List.nodup_cons, List.mem_cons, not_or] at this
  exact ⟨this.1.1, this.1.2.1, this.2.1.1⟩
theorem IsDkS.wOff {w : World} {B : Nat} {G : Nat} {A : Lies} {d : Dk} {sn : Nat → List Nat} (h : IsDkS w B G A d sn) {k : Nat} (hk : k ∈ A.vw.ownBlock.toList ++ (A.vl.ownBlock.toList ++ A.vk.ownBlock.toList)) : k ≠ G ∧ k ≠ A.f ∧ k ≠ A.s := by
  have := h.apart
  simp only [Lies.foot, List.nodup_cons, List.mem_cons, not_or] at this
  exact ⟨fun e => this.1.2.2 (e ▸ hk), fun e => this.2.1.2 (e ▸ hk), fun e => this.2.2.1 (e ▸ hk)⟩
/-- a sector that is firm is written -/
theorem IsDkS.storeF {w : World} {B : Nat} {G : Nat} {A : Lies} {d : Dk} {sn : Nat → List Nat} (h : IsDkS w B G A d sn) {a : Nat} {b : List Nat} (ha : a < d.n) (hb : b.length = 128) (f' : Nat → List Nat) (hf : ∀ i, i < d.n → f' i = updF d.firm a b i) :
    IsDkS (w.setCells A.f (a * 128) (bv b)) B G A (d.withFirm f') sn := by
  obtain ⟨h1, h2, h3⟩ := h.gf
  have hs := setCells_os A.f (bv b) (a * 128) w
  have hof : ∀ k, k ≠ A.f → (w.setCells A.f (a * 128) (bv b)).heap[k]? = w.heap[k]? := fun k hk => setCells_block _ _ _ _ _ hk
  refine ⟨⟨h.fine.n, fun i hi => ?_, h.fine.waits, h.fine.many, h.fine.logs, h.fine.flush, h.fine.keeps, h.fine.aft⟩, ?_, ?_, ?_, ?_, ?_, ?_, h.apart, fun k hk => ⟨(h.over k hk).1, by rw [hs.2.2.2]; exact (h.over k hk).2⟩⟩
  · show (f' i).length = 128
    rw [hf i hi]
    unfold updF
    split
    · exact hb
    · exact h.fine.firm i hi
  · rw [hof _ h1]; exact h.hdr
  · exact (h.firm.store h.fine.firm ha hb).congr hf
  · exact h.seen.block (hof _ (Ne.symm h3))
  · exact ownsRow_block h.waits (fun k hk => hof k (h.wOff (by simp [hk])).2.1)
  · exact ownsRow_block h.log (fun k hk => hof k (h.wOff (by simp [hk])).2.1)
  · exact ownsRow_block h.keep (fun k hk => hof k (h.wOff (by simp [hk])).2.1)
/-- a sector that is seen is written -/
theorem IsDkS.storeS {w : World} {B : Nat} {G : Nat} {A : Lies} {d : Dk} {sn : Nat → List Nat} (h : IsDkS w B G A d sn) (hsn : ∀ i, i < d.n → (sn i).length = 128) {a : Nat} {b : List Nat} (ha : a < d.n) (hb : b.length = 128) (s' : Nat → List Nat) (hf : ∀ i, i < d.n → s' i = updF sn a b i) :
    IsDkS (w.setCells A.s (a * 128) (bv b)) B G A d s' := by
  obtain ⟨h1, h2, h3⟩ := h.gf
  have hs := setCells_os A.s (bv b) (a * 128) w
  have hof : ∀ k, k ≠ A.s → (w.setCells A.s (a * 128) (bv b)).heap[k]? = w.heap[k]? := fun k hk => setCells_block _ _ _ _ _ hk
  refine ⟨h.fine, ?_, ?_, ?_, ?_, ?_, ?_, h.apart, fun k hk => ⟨(h.over k hk).1, by rw [hs.2.2.2]; exact (h.over k hk).2⟩⟩
  · rw [hof _ h2]; exact h.hdr
  · exact h.firm.block (hof _ h3)
  · exact (h.seen.store hsn ha hb).congr hf
  · exact ownsRow_block h.waits (fun k hk => hof k (h.wOff (by simp [hk])).2.2)
  · exact ownsRow_block h.log (fun k hk => hof k (h.wOff (by simp [hk])).2.2)
  · exact ownsRow_block h.keep (fun k hk => hof k (h.wOff (by simp [hk])).2.2)
theorem Step.setCells {w0 w : World} {F F' : List Nat} (h : Step w0 F w F') (b o : Nat) (vs : List Value) (hb : b ∈ F') : Step w0 F (w.setCells b o vs) F' := by
  have hs := setCells_os b vs o w
  exact h.trans ⟨hs.1, hs.2.1, hs.2.2.1, by rw [hs.2.2.2]; exact Nat.le_refl _, fun k _ hf => setCells_block _ _ _ _ _ (fun e => hf (e ▸ hb)), fun k hk => .inl hk⟩
theorem Step.setCell {w0 w : World} {F F' : List Nat} (h : Step w0 F w F') (b o : Nat) (v : Value) (hb : b ∈ F') : Step w0 F (w.setCell ⟨b, o, none⟩ v) F' :=
  h.trans ⟨rfl, rfl, rfl, by simp [World.setCell], fun k _ hf => Below.heap_setCell _ _ _ _ (fun e => hf (e ▸ hb)), fun k hk => .inl hk⟩
theorem Step.more {w0 w w' : World} {F F' : List Nat} (h : Step w0 F w F') (hb : Below w.heap.size w w') : Step w0 F w' F' := h.trans (.of_below hb F')
theorem own_form {w : World} {B : Nat} {e : TypeId} {size n : Nat} {v : Value} {xs : List Value} (h : w.ownsRow B e size v n xs) : ∃ a cap, v = .slice a n cap ∧ n ≤ cap ∧ (a = none → cap = 0) := by
  rcases h.2 with ⟨rfl, e⟩ | ⟨g, cap, cur, rfl, _, _, hn, _⟩
  · exact ⟨none, 0, by rw [e], by omega, fun _ => rfl⟩
  · exact ⟨_, cap, rfl, hn, fun h => by cases h⟩
theorem own_lower {w : World} {B B' : Nat} {e : TypeId} {size n : Nat} {v : Value} {xs : List Value} (h : w.ownsRow B e size v n xs) (hB : B' ≤ B) : w.ownsRow B' e size v n xs := by
  obtain ⟨h1, h2⟩ := h
  refine ⟨h1, ?_⟩
  rcases h2 with h2 | ⟨g, cap, cur, e, hg, rest⟩
  · exact .inl h2
  · exact .inr ⟨g, cap, cur, e, Nat.le_trans hB hg, rest⟩
theorem IsDkS.len {w : World} {B G : Nat} {A : Lies} {d : Dk} {sn : Nat → List Nat} (h : IsDkS w B G A d sn) {i : Nat} (hi : i < d.n) : (d.firm i).length = 128 := h.fine.firm i hi
/-- the same slice, or nothing -/
def Left (v v' : Value) {α : Type} (l l' : List α) : Prop := (v' = v ∧ l' = l) ∨ (v' = .slice none 0 0 ∧ l' = [])
theorem Left.own {w w' : World} {B : Nat} {e : TypeId} {size : Nat} {α : Type} {v v' : Value} {l l' : List α} {c : List α → List Value} (h : w.ownsRow B e size v l.length (c l)) (hl : Left v v' l l') (hc : c [] = [])
    (hb : ∀ k, v.ownBlock = some k → w'.heap[k]? = w.heap[k]?) : w'.ownsRow B e size v' l'.length (c l') := by
  rcases hl with ⟨rfl, rfl⟩ | ⟨rfl, rfl⟩
  · exact ownsRow_block h hb
  · rw [hc]; exact World.ownsRow_nil _ _ _ _
theorem Left.block {α : Type} {v v' : Value} {l l' : List α} (hl : Left v v' l l') : v'.ownBlock.toList.Sublist v.ownBlock.toList := by
  rcases hl with ⟨rfl, _⟩ | ⟨rfl, _⟩
  · exact List.Sublist.refl _
  · simp [Value.ownBlock]
/-- the disk's own cells are written, and nothing else -/
theorem IsDkS.head {w w' : World} {B G : Nat} {A A' : Lies} {d d' : Dk} {sn sn' : Nat → List Nat} (h : IsDkS w B G A d sn) (hdr : w'.heap[G]? = some (.cells (hcells A' d') 69 (0, 0)))
    (hb : ∀ k, k ≠ G → w'.heap[k]? = w.heap[k]?) (hs : w'.heap.size = w.heap.size) (hf : A'.f = A.f) (hs2 : A'.s = A.s) (hw : Left A.vw A'.vw d.waits d'.waits) (hl : Left A.vl A'.vl d.log d'.log) (hk : Left A.vk A'.vk d.keep d'.keep)
    (fine : d'.Fine) (hn : d'.n = d.n) (hfi : ∀ i, i < d.n → d'.firm i = d.firm i) (hsi : ∀ i, i < d.n → sn' i = sn i) : IsDkS w' B G A' d' sn' := by
  obtain ⟨h1, h2, h3⟩ := h.gf
  have hsub : (A'.foot G).Sublist (A.foot G) := by
    simp only [Lies.foot, hf, hs2]
    exact (((hw.block.append (hl.block.append hk.block)).cons_cons _).cons_cons _).cons_cons _
  refine ⟨fine, hdr, ?_, ?_, ?_, ?_, ?_, h.apart.sublist hsub, fun k hk => ⟨(h.over k (hsub.subset hk)).1, by rw [hs]; exact (h.over k (hsub.subset hk)).2⟩⟩
  · rw [hf, hn]; exact (h.firm.block (hb _ (Ne.symm h1))).congr hfi
  · rw [hs2, hn]; exact (h.seen.block (hb _ (Ne.symm h2))).congr hsi
  · exact hw.own h.waits rfl (fun k hk => hb k (h.wOff (by simp [hk])).1)
  · exact hl.own h.log rfl (fun k hk => hb k (h.wOff (by simp [hk])).1)
  · exact hk.own h.keep rfl (fun k hk => hb k (h.wOff (by simp [hk])).1)
theorem Step.sub {w w' : World} {F F' F'' : List Nat} (h : Step w F w' F') (hs : ∀ k ∈ F'', k ∈ F') : Step w F w' F'' := ⟨h.os, h.tape, h.output, h.size, h.block, fun k hk => h.foot k (hs k hk)⟩
/-- a slice of the disk's has grown: where all lies -/
theorem grown_parts {w w1 w7 : World} {B G g : Nat} {A : Lies} {d : Dk} {sn : Nat → List Nat} (h : IsDkS w B G A d sn) (hb : Below w.heap.size w w1) {r : Option Nat} (hr : ∀ k, r = some k → k ∈ A.vw.ownBlock.toList ++ (A.vl.ownBlock.toList ++ A.vk.ownBlock.toList)) (hg : w1.grownBy w7 r) (hat : r = some g ∨ w.heap.size ≤ g) (c : Nat) (v : Value) :
    (∀ k, k ∈ A.foot G → some k ≠ r → k ≠ G → (w7.setCell ⟨G, c, none⟩ v).heap[k]? = w.heap[k]?) ∧ w7.heap[G]? = w.heap[G]? ∧ w.heap.size ≤ w7.heap.size ∧ g ≠ G ∧ g ≠ A.f ∧ g ≠ A.s ∧
      ∀ F, (∀ k ∈ F, k ∈ A.foot G ∨ k = g) → Step w (A.foot G) (w7.setCell ⟨G, c, none⟩ v) F := by
  have hlt := fun k hk => (h.over k hk).2
  have hG : some G ≠ r := fun e => (h.wOff (hr G e.symm)).1 rfl
  have h0 : ∀ k, k < w.heap.size → some k ≠ r → w7.heap[k]? = w.heap[k]? := fun k hk hne => by
    rw [hg.block k (Nat.lt_of_lt_of_le hk hb.size) hne, hb.block k hk]
  have hsz : w.heap.size ≤ w7.heap.size := Nat.le_trans hb.size hg.size
  have gne : g ≠ G ∧ g ≠ A.f ∧ g ≠ A.s := by
    rcases hat with e | e
    · exact h.wOff (hr g e)
    · have := hlt G (mem_foot_g G A); have := hlt A.f (mem_foot_f G A); have := hlt A.s (mem_foot_s G A)
      omega
  refine ⟨fun k hk hne hkG => by rw [Below.heap_setCell _ _ _ _ hkG]; exact h0 k (hlt k hk) hne, h0 G (hlt G (mem_foot_g G A)) hG, hsz, gne.1, gne.2.1, gne.2.2, fun F hF => ⟨?_, ?_, ?_, ?_, ?_, ?_⟩⟩
  · exact hg.os.trans hb.os
  · exact hg.tape.trans hb.tape
  · exact hg.output.trans hb.output
  · simpa [World.setCell] using hsz
  · intro k hk hkf
    rw [Below.heap_setCell _ _ _ _ (fun e => hkf (by rw [e]; exact mem_foot_g G A))]
    refine h0 k hk (fun e => hkf ?_)
    have := hr k e.symm
    simp only [Lies.foot, List.mem_cons]
    exact .inr (.inr (.inr this))
  · intro k hk
    rcases hF k hk with h | h
    · exact .inl h
    · rcases hat with e | e
      · left
        have := hr g e
        simp only [Lies.foot, List.mem_cons]
        rw [h]; exact .inr (.inr (.inr this))
      · right; omega
theorem IsDkS.growW {w w1 w7 : World} {B G g n cap : Nat} {A : Lies} {d : Dk} {p : Nat × List Nat} {sn : Nat → List Nat} (h : IsDkS w B G A d sn) (hb : Below w.heap.size w w1) (hg : w1.grownBy w7 A.vw.ownBlock) (hat : A.vw.ownBlock = some g ∨ w.heap.size ≤ g) (hlt : g < w7.heap.size)
    (hown : w7.ownsRow B 99 129 (.slice (some ⟨g, 0, none⟩) n cap) n (wcells (d.waits ++ [p]))) (hn : n = d.waits.length + 1) (fine : (d.waited p).Fine) :
    IsDkS (w7.setCell ⟨G, 3, none⟩ (.slice (some ⟨g, 0, none⟩) n cap)) B G ⟨A.f, A.s, .slice (some ⟨g, 0, none⟩) n cap, A.vl, A.vk⟩ (d.waited p) sn
      ∧ Step w (A.foot G) (w7.setCell ⟨G, 3, none⟩ (.slice (some ⟨g, 0, none⟩) n cap)) ((⟨A.f, A.s, .slice (some ⟨g, 0, none⟩) n cap, A.vl, A.vk⟩ : Lies).foot G) := by
  obtain ⟨q1, q2, q3, q4, q5, q6, q7⟩ := grown_parts h hb (r := A.vw.ownBlock) (fun k hk => by simp [hk]) hg hat 3 (.slice (some ⟨g, 0, none⟩) n cap)
  obtain ⟨e1, e2, e3⟩ := h.gf
  have eg : (Value.slice (some ⟨g, 0, none⟩) n cap).ownBlock.toList = [g] := rfl
  have hap := h.apart
  simp only [Lies.foot, List.nodup_cons, List.mem_cons, List.mem_append, not_or, List.nodup_append] at hap
  obtain ⟨a1, a2, a3, a4, a5, a6⟩ := hap
  have hov := fun k hk => (h.over k hk).2
  have hbase := (World.ownsRow.lt hown g rfl).1
  have hoff : ∀ k, k ∈ A.vl.ownBlock.toList ++ A.vk.ownBlock.toList → k ≠ g ∧ some k ≠ A.vw.ownBlock := fun k hk => by
    have hk2 : some k ≠ A.vw.ownBlock := fun e => a6 k (by simp [← e]) k (by simpa using hk) rfl
    refine ⟨fun e => ?_, hk2⟩
    rcases hat with e2 | e2
    · exact hk2 (by rw [e2, e])
    · have := hov k (by simp only [Lies.foot, List.mem_cons, List.mem_append]; rcases List.mem_append.1 hk with h | h; exact .inr (.inr (.inr (.inr (.inl h)))); exact .inr (.inr (.inr (.inr (.inr h))))); omega
  refine ⟨⟨fine, ?_, ?_, ?_, ?_, ?_, ?_, ?_, ?_⟩, q7 _ ?_⟩
  · rw [heap_setCell_same _ _ _ _ _ _ (q2.trans h.hdr)]
    simp [hcells, Dk.waited]
  · exact h.firm.block (q1 _ (mem_foot_f G A) (fun e => (h.wOff (k := A.f) (by simp [← e])).2.1 rfl) (Ne.symm e1))
  · exact h.seen.block (q1 _ (mem_foot_s G A) (fun e => (h.wOff (k := A.s) (by simp [← e])).2.2 rfl) (Ne.symm e2))
  · have := ownsRow_block (w' := w7.setCell ⟨G, 3, none⟩ (.slice (some ⟨g, 0, none⟩) n cap)) hown (fun k hk => Below.heap_setCell _ _ _ _ (by
      have hk2 : g = k := Option.some.inj hk
      show k ≠ G
      omega))
    subst hn
    simpa [Dk.waited] using this
  · exact ownsRow_block h.log (fun k hk => q1 k (by simp [Lies.foot, hk]) (hoff k (by simp [hk])).2 (h.wOff (by simp [hk])).1)
  · exact ownsRow_block h.keep (fun k hk => q1 k (by simp [Lies.foot, hk]) (hoff k (by simp [hk])).2 (h.wOff (by simp [hk])).1)
  · simp only [Lies.foot, List.nodup_cons, List.mem_cons, List.mem_append, not_or, List.nodup_append, eg]
    refine ⟨⟨a1.1, a1.2.1, by simpa using q4.symm, a1.2.2.2⟩, ⟨a2.1, by simpa using q5.symm, a2.2.2⟩, ⟨by simpa using q6.symm, a3.2⟩, by simp, a5, ?_⟩
    intro a ha b hb2 e
    simp at ha
    exact (hoff b (List.mem_append.2 hb2)).1 (by rw [← e, ha])
  · intro k hk
    simp only [Lies.foot, List.mem_cons, List.mem_append, eg] at hk
    have hs : (w7.setCell ⟨G, 3, none⟩ (.slice (some ⟨g, 0, none⟩) n cap)).heap.size = w7.heap.size := by simp [World.setCell]
    rw [hs]
    have old : ∀ k, k ∈ A.foot G → B ≤ k ∧ k < w7.heap.size := fun k hk => ⟨(h.over k hk).1, Nat.lt_of_lt_of_le (h.over k hk).2 q3⟩
    rcases hk with h | h | h | h | h | h
    · exact old k (by simp [Lies.foot, h])
    · exact old k (by simp [Lies.foot, h])
    · exact old k (by simp [Lies.foot, h])
    · simp at h; subst h; exact ⟨hbase, hlt⟩
    · exact old k (by simp only [Lies.foot, List.mem_cons, List.mem_append]; exact .inr (.inr (.inr (.inr (.inl h)))))
    · exact old k (by simp only [Lies.foot, List.mem_cons, List.mem_append]; exact .inr (.inr (.inr (.inr (.inr h)))))
  · intro k hk
    simp only [Lies.foot, List.mem_cons, List.mem_append, eg] at hk ⊢
    rcases hk with h | h | h | h | h | h
    · exact .inl (.inl h)
    · exact .inl (.inr (.inl h))
    · exact .inl (.inr (.inr (.inl h)))
    · simp at h; exact .inr h
    · exact .inl (.inr (.inr (.inr (.inr (.inl h)))))
    · exact .inl (.inr (.inr (.inr (.inr (.inr h)))))
theorem IsDkS.growL {w w1 w7 : World} {B G g n cap : Nat} {A : Lies} {d : Dk} {p : Nat} {sn : Nat → List Nat} (h : IsDkS w B G A d sn) (hb : Below w.heap.size w w1) (hg : w1.grownBy w7 A.vl.ownBlock) (hat : A.vl.ownBlock = some g ∨ w.heap.size ≤ g) (hlt : g < w7.heap.size)
    (hown : w7.ownsRow B 3 1 (.slice (some ⟨g, 0, none⟩) n cap) n (icells (d.log ++ [p]))) (hn : n = d.log.length + 1) (fine : (d.logged p).Fine) :
    IsDkS (w7.setCell ⟨G, 4, none⟩ (.slice (some ⟨g, 0, none⟩) n cap)) B G ⟨A.f, A.s, A.vw, .slice (some ⟨g, 0, none⟩) n cap, A.vk⟩ (d.logged p) sn
      ∧ Step w (A.foot G) (w7.setCell ⟨G, 4, none⟩ (.slice (some ⟨g, 0, none⟩) n cap)) ((⟨A.f, A.s, A.vw, .slice (some ⟨g, 0, none⟩) n cap, A.vk⟩ : Lies).foot G) := by
  obtain ⟨q1, q2, q3, q4, q5, q6, q7⟩ := grown_parts h hb (r := A.vl.ownBlock) (fun k hk => by simp [hk]) hg hat 4 (.slice (some ⟨g, 0, none⟩) n cap)
  obtain ⟨e1, e2, e3⟩ := h.gf
  have eg : (Value.slice (some ⟨g, 0, none⟩) n cap).ownBlock.toList = [g] := rfl
  have hap := h.apart
  simp only [Lies.foot, List.nodup_cons, List.mem_cons, List.mem_append, not_or, List.nodup_append] at hap
  obtain ⟨a1, a2, a3, a4, a5, a6⟩ := hap
  have hov := fun k hk => (h.over k hk).2
  have hbase := (World.ownsRow.lt hown g rfl).1
  have hoff : ∀ k, k ∈ A.vw.ownBlock.toList ++ A.vk.ownBlock.toList → k ≠ g ∧ some k ≠ A.vl.ownBlock := fun k hk => by
    have hk2 : some k ≠ A.vl.ownBlock := fun e => by
      rcases List.mem_append.1 hk with h | h
      · exact a6 k h k (.inl (by simp [← e])) rfl
      · exact a5.2.2 k (by simp [← e]) k h rfl
    refine ⟨fun e => ?_, hk2⟩
    rcases hat with e2 | e2
    · exact hk2 (by rw [e2, e])
    · have := hov k (by simp only [Lies.foot, List.mem_cons, List.mem_append]; rcases List.mem_append.1 hk with h | h; exact .inr (.inr (.inr (.inl h))); exact .inr (.inr (.inr (.inr (.inr h))))); omega
  refine ⟨⟨fine, ?_, ?_, ?_, ?_, ?_, ?_, ?_, ?_⟩, q7 _ ?_⟩
  · rw [heap_setCell_same _ _ _ _ _ _ (q2.trans h.hdr)]
    simp [hcells, Dk.logged]
  · exact h.firm.block (q1 _ (mem_foot_f G A) (fun e => (h.wOff (k := A.f) (by simp [← e])).2.1 rfl) (Ne.symm e1))
  · exact h.seen.block (q1 _ (mem_foot_s G A) (fun e => (h.wOff (k := A.s) (by simp [← e])).2.2 rfl) (Ne.symm e2))
  · exact ownsRow_block h.waits (fun k hk => q1 k (by simp [Lies.foot, hk]) (hoff k (by simp [hk])).2 (h.wOff (by simp [hk])).1)
  · have := ownsRow_block (w' := w7.setCell ⟨G, 4, none⟩ (.slice (some ⟨g, 0, none⟩) n cap)) hown (fun k hk => Below.heap_setCell _ _ _ _ (by
      have hk2 : g = k := Option.some.inj hk
      show k ≠ G
      omega))
    subst hn
    simpa [Dk.logged] using this
  · exact ownsRow_block h.keep (fun k hk => q1 k (by simp [Lies.foot, hk]) (hoff k (by simp [hk])).2 (h.wOff (by simp [hk])).1)
  · simp only [Lies.foot, List.nodup_cons, List.mem_cons, List.mem_append, not_or, List.nodup_append, eg]
    refine ⟨⟨a1.1, a1.2.1, a1.2.2.1, by simpa using q4.symm, a1.2.2.2.2⟩, ⟨a2.1, a2.2.1, by simpa using q5.symm, a2.2.2.2⟩, ⟨a3.1, by simpa using q6.symm, a3.2.2⟩, a4, ⟨by simp, a5.2.1, ?_⟩, ?_⟩
    · intro a ha b hb2 e
      simp at ha
      exact (hoff b (List.mem_append.2 (.inr hb2))).1 (by rw [← e, ha])
    · intro a ha b hb2 e
      rcases hb2 with hb2 | hb2
      · simp at hb2
        exact (hoff a (List.mem_append.2 (.inl ha))).1 (by rw [e, hb2])
      · exact a6 a ha b (.inr hb2) e
  · intro k hk
    simp only [Lies.foot, List.mem_cons, List.mem_append, eg] at hk
    have hs : (w7.setCell ⟨G, 4, none⟩ (.slice (some ⟨g, 0, none⟩) n cap)).heap.size = w7.heap.size := by simp [World.setCell]
    rw [hs]
    have old : ∀ k, k ∈ A.foot G → B ≤ k ∧ k < w7.heap.size := fun k hk => ⟨(h.over k hk).1, Nat.lt_of_lt_of_le (h.over k hk).2 q3⟩
    rcases hk with h | h | h | h | h | h
    · exact old k (by simp [Lies.foot, h])
    · exact old k (by simp [Lies.foot, h])
    · exact old k (by simp [Lies.foot, h])
    · exact old k (by simp only [Lies.foot, List.mem_cons, List.mem_append]; exact .inr (.inr (.inr (.inl h))))
    · simp at h; subst h; exact ⟨hbase, hlt⟩
    · exact old k (by simp only [Lies.foot, List.mem_cons, List.mem_append]; exact .inr (.inr (.inr (.inr (.inr h)))))
  · intro k hk
    simp only [Lies.foot, List.mem_cons, List.mem_append, eg] at hk ⊢
    rcases hk with h | h | h | h | h | h
    · exact .inl (.inl h)
    · exact .inl (.inr (.inl h))
    · exact .inl (.inr (.inr (.inl h)))
    · exact .inl (.inr (.inr (.inr (.inl h))))
    · simp at h; exact .inr h
    · exact .inl (.inr (.inr (.inr (.inr (.inr h)))))
/-- what a call leaves that works on a disk -/
def GivesS (r : Value) (d' : Dk) (B G : Nat) (A : Lies) (w : World) (e : Ending) (w' : World) : Prop := e = .returned r ∧ ∃ A' : Lies, IsDk w' B G A' d' ∧ Step w (A.foot G) w' (A'.foot G)
end Go.Proofs.Ytnfaeejeipbciaa
end

section
set_option linter.unusedVariables false
set_option linter.unusedSimpArgs false
namespace Go.Proofs.Ytnfaeejeipbciaa
open Go.RowKit BigFrame

/-- from w to w' nothing has turned but blocks of S, and new ones -/
structure TurnS (S : Nat → Prop) (w w' : World) : Prop where
  os : w'.os = w.os
  tape : w'.tape = w.tape
  output : w'.output = w.output
  size : w.heap.size ≤ w'.heap.size
  block : ∀ k, k < w.heap.size → ¬ S k → w'.heap[k]? = w.heap[k]?
theorem TurnS.refl (S : Nat → Prop) (w : World) : TurnS S w w := ⟨rfl, rfl, rfl, Nat.le_refl _, fun _ _ _ => rfl⟩
theorem TurnS.trans {S : Nat → Prop} {u v w : World} (h : TurnS S u v) (k : TurnS S v w) : TurnS S u w :=
  ⟨k.os.trans h.os, k.tape.trans h.tape, k.output.trans h.output, Nat.le_trans h.size k.size, fun i hi hn => (k.block i (Nat.lt_of_lt_of_le hi h.size) hn).trans (h.block i hi hn)⟩
/-- what the second turned may be new, too -/
theorem TurnS.then {S T : Nat → Prop} {u v w : World} (h : TurnS S u v) (k : TurnS T v w) (hs : ∀ j, j < u.heap.size → T j → S j) : TurnS S u w :=
  ⟨k.os.trans h.os, k.tape.trans h.tape, k.output.trans h.output, Nat.le_trans h.size k.size, fun i hi hn => (k.block i (Nat.lt_of_lt_of_le hi h.size) (fun ht => hn (hs i hi ht))).trans (h.block i hi hn)⟩
theorem TurnS.of_below {w w' : World} (S : Nat → Prop) (h : Below w.heap.size w w') : TurnS S w w' := ⟨h.os, h.tape, h.output, h.size, fun k hk _ => h.block k hk⟩
theorem TurnS.mono {S T : Nat → Prop} {w w' : World} (h : TurnS S w w') (hs : ∀ k, k < w.heap.size → S k → T k) : TurnS T w w' := ⟨h.os, h.tape, h.output, h.size, fun k hk hn => h.block k hk fun hf => hn (hs k hk hf)⟩
theorem TurnS.below {S : Nat → Prop} {B : Nat} {w w' : World} (h : TurnS S w w') (hB : B ≤ w.heap.size) (hF : ∀ k, S k → B ≤ k) : Below B w w' :=
  ⟨h.os, h.tape, h.output, h.size, fun k hk => h.block k (by omega) fun hf => by have := hF k hf; omega⟩
theorem TurnS.set (S : Nat → Prop) (w : World) {s : Nat} (hs : S s) (c : Nat) (v : Value) : TurnS S w (w.setCell ⟨s, c, none⟩ v) :=
  ⟨rfl, rfl, rfl, by simp [World.setCell], fun k hk hn => by
    have hne : k ≠ s := fun e => hn (e ▸ hs)
    exact Below.heap_setCell w ⟨s, c, none⟩ v k hne⟩
theorem TurnS.alloc (S : Nat → Prop) (w : World) (o : Obj) : TurnS S w (w.alloc o) := TurnS.of_below S ((Below.refl _ _).alloc (Nat.le_refl _) o)
theorem TurnS.grown {S : Nat → Prop} {w w' : World} {r : Option Nat} (h : w.grownBy w' r) (hs : ∀ k, r = some k → S k) : TurnS S w w' :=
  ⟨h.os, h.tape, h.output, h.size, fun k hk hn => h.block k hk (fun e => hn (hs k e.symm))⟩
theorem TurnS.turned {S : Nat → Prop} {w w' : World} {b : Nat} (h : w.mapTurned w' b) (hs : S b) : TurnS S w w' := TurnS.grown h.grown (fun k e => by cases e; exact hs)
theorem TurnS.drew (S : Nat → Prop) (w : World) (m : Nat) : TurnS S w (w.drewN m) := ⟨rfl, rfl, rfl, Nat.le_refl _, fun _ _ _ => rfl⟩
theorem Vw.turnS {S : Nat → Prop} {g : Nat} {w w' : World} {t : TypeId} {l : List Value} (h : Vw w t g l) (hT : TurnS S w w') (hn : ¬ S g) : Vw w' t g l := by
  unfold Vw; rw [hT.block g h.lt hn]; exact h

/-! ### Maps -/
theorem key_int {k : Int} (h1 : -9223372036854775808 ≤ k) (h2 : k ≤ 9223372036854775807) : keyOf Try.prog 3 (.int .i64 k) = some (.int .i64 k) :=
  Maps.keyOf_int_mk Try.underlying3 (by simp only [Lit.wf, Bool.and_eq_true, decide_eq_true_eq]; exact ⟨h1, h2⟩)
theorem key_nat {k : Nat} (h : k ≤ 1000000) : keyOf Try.prog 3 (.int .i64 (k : Int)) = some (.int .i64 (k : Int)) := key_int (by omega) (by omega)
theorem same_int (a b : Int) : (Lit.int .i64 a).sameKey (.int .i64 b) = decide (a = b) := by
  by_cases e : a = b
  · subst e
    rw [decide_eq_true rfl]
    simp [Lit.sameKey]
  · rw [decide_eq_false e]
    simp [Lit.sameKey, e]
theorem find_insL (x : Lit × Value) (q : Lit × Value → Bool) : ∀ l : List (Lit × Value), (∀ y ∈ l, q x = true → q y = false) → (insL x l).find? q = if q x = true then some x else l.find? q
  | [], _ => by
    unfold insL
    by_cases e : q x = true
    · simp [e]
    · simp [e]
  | y :: r, h => by
    unfold insL
    by_cases hb : x.1.before y.1 = true
    · rw [if_pos hb]
      by_cases e : q x = true
      · simp [e]
      · simp [e]
    · rw [if_neg hb, List.find?_cons, find_insL x q r (fun z hz => h z (List.mem_cons_of_mem _ hz))]
      by_cases e : q x = true
      · have := h y List.mem_cons_self e
        simp [e, this]
      · rw [if_neg e, if_neg e, List.find?_cons]
theorem fndL_put (l : List (Lit × Value)) (a b : Int) (v : Value) : fndL (insL (.int .i64 a, v) (strL l (.int .i64 a))) (.int .i64 b) = if b = a then some v else fndL l (.int .i64 b) := by
  unfold fndL
  rw [find_insL]
  · simp only [same_int]
    by_cases e : a = b
    · subst e; simp
    · rw [if_neg (by simpa using e), if_neg (Ne.symm e)]
      congr 1
      unfold strL
      rw [List.find?_filter]
      congr 1
      funext p
      by_cases hp : p.1.sameKey (.int .i64 b) = true
      · have := WideAt.sameKey_eq hp
        rw [hp, this, same_int, decide_eq_false (Ne.symm e)]
        simp
      · simp [hp]
  · intro y hy hq
    simp only [same_int, decide_eq_true_eq] at hq
    subst hq
    have := (List.mem_filter.1 hy).2
    simpa using this
theorem strL_none {l : List (Lit × Value)} {kl : Lit} (h : fndL l kl = none) : strL l kl = l := by
  unfold fndL at h
  rw [Option.map_eq_none_iff, List.find?_eq_none] at h
  exact List.filter_eq_self.2 fun p hp => by simpa using h p hp
theorem fndL_str (l : List (Lit × Value)) (a b : Int) : fndL (strL l (.int .i64 a)) (.int .i64 b) = if b = a then none else fndL l (.int .i64 b) := by
  unfold fndL strL
  rw [List.find?_filter]
  by_cases e : b = a
  · subst e
    rw [if_pos rfl, Option.map_eq_none_iff, List.find?_eq_none]
    intro p _
    cases p.1.sameKey (.int .i64 b) <;> simp
  · rw [if_neg e]
    congr 2
    funext p
    by_cases hp : p.1.sameKey (.int .i64 b) = true
    · have := WideAt.sameKey_eq hp
      rw [hp, this, same_int, decide_eq_false e]
      simp
    · simp [hp]

/-! ### Worlds -/
theorem heap_set_other (w : World) (a : Addr) (u : Value) {k : Nat} (h : k ≠ a.block) : (w.setCell a u).heap[k]? = w.heap[k]? := Below.heap_setCell w a u k h
theorem size_set (w : World) (a : Addr) (u : Value) : (w.setCell a u).heap.size = w.heap.size := by simp [World.setCell]
theorem size_alloc (w : World) (x : Obj) : (w.alloc x).heap.size = w.heap.size + 1 := by
  show (w.heap.push x).size = _
  simp
theorem old_alloc (w : World) (x : Obj) (k : Nat) (h : k < w.heap.size) : (w.alloc x).heap[k]? = w.heap[k]? := by
  show (w.heap.push x)[k]? = _
  rw [Array.getElem?_push, if_neg (by omega)]
theorem set_same {C : List Value} {k : Nat} {v : Value} (h : C[k]? = some v) : C.set k v = C := by
  apply List.ext_getElem?
  intro j
  rw [List.getElem?_set]
  by_cases e : k = j
  · subst e; rw [if_pos rfl, if_pos (List.getElem?_eq_some_iff.1 h).1, h]
  · rw [if_neg e]
end Go.Proofs.Ytnfaeejeipbciaa
end
