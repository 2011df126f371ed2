/-
  What turns but some blocks; bytes in blocks of their own that are but read; a space in memory: its cells, the bytes of its sets.
-/
import Derived.Test.YtdkjmpicdkfgoaaAw
import Derived.Test.YtdkjmpicdkfgoaaAp
import Derived.Test.YtdkjmpicdkfgoaaTe
import Derived.Test.YtdkjmpicdkfgoaaBm
import Derived.Test.YtdkjmpicdkfgoaaGt
import Derived.Deep.WholeRow
namespace Go.Proofs.Ytdkjmpicdkfgoaa
open Go.RowKit BigFrame

theorem quiet_toldN {P : Program} {f : FuncId} {args : Array Value} {w : World} {n : Nat} {v : Value} (h : Calls P f args (w.drewN n) (Told v (w.drewN n))) :
    Calls P f args (w.drewN n) fun e w'' => e = .returned v ∧ ∃ m, w'' = w.drewN m := h.mono fun _ _ ⟨he, m, hw⟩ => ⟨he, n + m, hw.trans (World.drewN_drewN _ _ _)⟩
/-- from w to w' nothing has turned but blocks of F, and new ones -/
structure TurnF (F : List Nat) (w w' : World) : Prop where
  os : w'.os = w.os
  tape : w'.tape = w.tape
  output : w'.output = w.output
  size : w.heap.size ≤ w'.heap.size
  block : ∀ k, k < w.heap.size → k ∉ F → w'.heap[k]? = w.heap[k]?
theorem TurnF.refl (F : List Nat) (w : World) : TurnF F w w := ⟨rfl, rfl, rfl, Nat.le_refl _, fun _ _ _ => rfl⟩
theorem TurnF.trans {F : List Nat} {u v w : World} (h : TurnF F u v) (k : TurnF F v w) : TurnF F u w :=
  ⟨k.os.trans h.os, k.tape.trans h.tape, k.output.trans h.output, Nat.le_trans h.size k.size, fun i hi hn => (k.block i (Nat.lt_of_lt_of_le hi h.size) hn).trans (h.block i hi hn)⟩
theorem TurnF.of_below {w w' : World} (F : List Nat) (h : Below w.heap.size w w') : TurnF F w w' := ⟨h.os, h.tape, h.output, h.size, fun k hk _ => h.block k hk⟩
theorem TurnF.mono {F G : List Nat} {w w' : World} (h : TurnF F w w') (hs : ∀ k, k ∈ F → k ∈ G) : TurnF G w w' := ⟨h.os, h.tape, h.output, h.size, fun k hk hn => h.block k hk fun hf => hn (hs k hf)⟩
theorem TurnF.below {F : List Nat} {B : Nat} {w w' : World} (h : TurnF F w w') (hB : B ≤ w.heap.size) (hF : ∀ k, k ∈ F → B ≤ k) : Below B w w' :=
  ⟨h.os, h.tape, h.output, h.size, fun k hk => h.block k (by omega) fun hf => by have := hF k hf; omega⟩
theorem TurnF.set (F : List Nat) (w : World) {s : Nat} (hs : s ∈ F) (c : Nat) (v : Value) : TurnF F w (w.setCell ⟨s, c, none⟩ v) :=
  ⟨rfl, rfl, rfl, by simp [World.setCell], fun k hk hn => by
    have hne : k ≠ s := fun e => hn (e ▸ hs)
    exact Below.heap_setCell w ⟨s, c, none⟩ v k hne⟩
theorem TurnF.drew {F : List Nat} {u w : World} {m : Nat} (h : TurnF F u w) : TurnF F u (w.drewN m) := ⟨h.os, h.tape, h.output, h.size, h.block⟩
theorem Vw.turnF {F : List Nat} {g : Nat} {w w' : World} {t : TypeId} {l : List Value} (h : Vw w t g l) (hT : TurnF F w w') (hn : g ∉ F) : Vw w' t g l := by
  unfold Vw; rw [hT.block g h.lt hn]; exact h
theorem BAt.same {w w' : World} {g : Nat} {l : List Nat} (h : BAt w (some ⟨g, 0, none⟩) l) (e : w'.heap[g]? = w.heap[g]?) : BAt w' (some ⟨g, 0, none⟩) l := by
  rcases h with h | ⟨b, off, eb, hx⟩
  · exact .inl h
  · obtain ⟨rfl, rfl⟩ : g = b ∧ 0 = off := by simpa using eb
    exact .inr ⟨g, 0, rfl, fun k hk => by rw [World.cell?_of_block (w := w) (w' := w') (a := ⟨g, 0 + k, none⟩) e]; exact hx k hk⟩

/-- bytes in a block of their own, none of F, to be read -/
def RdF (F : List Nat) (w : World) (v : Value) (l : List Nat) : Prop :=
  ∃ g cap, v = .slice (some ⟨g, 0, none⟩) l.length cap ∧ l.length ≤ cap ∧ g < w.heap.size ∧ g ∉ F ∧ BAt w (some ⟨g, 0, none⟩) l
theorem RdF.on {F G : List Nat} {w w' : World} {v : Value} {l : List Nat} (h : RdF F w v l) (hT : TurnF G w w') (hs : ∀ k, k ∈ G → k ∈ F) : RdF F w' v l := by
  obtain ⟨g, cap, rfl, h1, h2, h3, h4⟩ := h
  exact ⟨g, cap, rfl, h1, Nat.lt_of_lt_of_le h2 hT.size, h3, h4.same (hT.block g h2 fun hg => h3 (hs g hg))⟩
theorem RdF.own {F : List Nat} {w : World} {B : Nat} {v : Value} {l : List Nat} (h : OwnB w B v l) (h0 : 0 < l.length) (hF : ∀ f, f ∈ F → f < B) : RdF F w v l := by
  obtain ⟨g, cap, e, h1, h2, h3, h4⟩ := h.form h0
  exact ⟨g, cap, e, h1, h3, fun hg => by have := hF g hg; omega, h4⟩
theorem RdF.row {F : List Nat} {w : World} {B g n : Nat} {l : List Nat} (h : Row w g l) (hn : l.length = n) (hg : B ≤ g) (hF : ∀ f, f ∈ F → f < B) : RdF F w (.slice (some ⟨g, 0, none⟩) n n) l :=
  ⟨g, n, by rw [hn], by omega, h.lt, fun h2 => by have := hF g h2; omega, h.bat⟩

/-- the place of a set's bytes among the cells of a space: group k, taken (0) or deferred (1), of inodes or of blocks -/
def Slot (g c : Nat) : Prop := ∃ k d, k < g ∧ d < 2 ∧ (c = 5 + 2 * k + d ∨ c = 23 + 2 * k + d)
/-- how many numbers it is of -/
def wid (i b c : Nat) : Nat := if c < 21 then i else b
/-- the program's space lies in block s: its geometry, its sets; s is one of F, whose blocks hold none of its bytes -/
structure SpAt (w : World) (F : List Nat) (s g i b : Nat) (X : Nat → List Nat) (L : List Value) : Prop where
  row : Vw w 65 s L
  len : L.length = 39
  z0 : L[0]? = some (.int .i64 (g : Int))
  z1 : L[1]? = some (.int .i64 (i : Int))
  z2 : L[2]? = some (.int .i64 (b : Int))
  z3 : L[3]? = some (.int .i64 (g : Int))
  z4 : L[4]? = some (.int .i64 (i : Int))
  z21 : L[21]? = some (.int .i64 (g : Int))
  z22 : L[22]? = some (.int .i64 (b : Int))
  on : s ∈ F
  lt : ∀ f, f ∈ F → f < w.heap.size
  rd : ∀ c, Slot g c → ∃ v, L[c]? = some v ∧ RdF F w v (X c)
  oct : ∀ c, Slot g c → Octs (X c)
  siz : ∀ c, Slot g c → (X c).length = (wid i b c + 7) / 8
def Sp (w : World) (F : List Nat) (s g i b : Nat) (X : Nat → List Nat) : Prop := ∃ L, SpAt w F s g i b X L

/-- a pool: where it begins, and how many a group of it has -/
def Pol (o e i b : Nat) : Prop := (o = 3 ∧ e = i) ∨ (o = 21 ∧ e = b)
theorem Pol.slot {o e i b g k d : Nat} (h : Pol o e i b) (hk : k < g) (hd : d < 2) : Slot g (o + 2 + 2 * k + d) := by
  rcases h with ⟨rfl, _⟩ | ⟨rfl, _⟩
  · exact ⟨k, d, hk, hd, .inl (by omega)⟩
  · exact ⟨k, d, hk, hd, .inr (by omega)⟩
theorem Pol.wid {o e i b g k d : Nat} (h : Pol o e i b) (hg : g ≤ 8) (hk : k < g) (hd : d < 2) : wid i b (o + 2 + 2 * k + d) = e := by
  unfold Go.Proofs.Ytdkjmpicdkfgoaa.wid
  rcases h with ⟨rfl, rfl⟩ | ⟨rfl, rfl⟩
  · rw [if_pos (by omega)]
  · rw [if_neg (by omega)]
theorem Slot.lt {g c : Nat} (h : Slot g c) (hg : g ≤ 8) : c < 39 ∧ 5 ≤ c ∧ c ≠ 21 ∧ c ≠ 22 := by
  obtain ⟨k, d, h1, h2, h3⟩ := h
  omega
variable {w w' : World} {F : List Nat} {s g i b : Nat} {X : Nat → List Nat}
theorem Sp.ltS (h : Sp w F s g i b X) : s < w.heap.size := by obtain ⟨L, h⟩ := h; exact h.row.lt
theorem Sp.ltF (h : Sp w F s g i b X) : ∀ f, f ∈ F → f < w.heap.size := by obtain ⟨L, h⟩ := h; exact h.lt
theorem Sp.onF (h : Sp w F s g i b X) : s ∈ F := by obtain ⟨L, h⟩ := h; exact h.on
theorem Sp.cg (h : Sp w F s g i b X) : w.cell? ⟨s, 0, none⟩ = some (.int .i64 (g : Int)) := by obtain ⟨L, h⟩ := h; exact h.row.cell h.z0
theorem Sp.ci (h : Sp w F s g i b X) : w.cell? ⟨s, 1, none⟩ = some (.int .i64 (i : Int)) := by obtain ⟨L, h⟩ := h; exact h.row.cell h.z1
theorem Sp.cb (h : Sp w F s g i b X) : w.cell? ⟨s, 2, none⟩ = some (.int .i64 (b : Int)) := by obtain ⟨L, h⟩ := h; exact h.row.cell h.z2
theorem Sp.cn {o e : Nat} (h : Sp w F s g i b X) (hp : Pol o e i b) : w.cell? ⟨s, o, none⟩ = some (.int .i64 (g : Int)) := by
  obtain ⟨L, h⟩ := h
  rcases hp with ⟨rfl, _⟩ | ⟨rfl, _⟩
  · exact h.row.cell h.z3
  · exact h.row.cell h.z21
theorem Sp.ce {o e : Nat} (h : Sp w F s g i b X) (hp : Pol o e i b) : w.cell? ⟨s, o + 1, none⟩ = some (.int .i64 (e : Int)) := by
  obtain ⟨L, h⟩ := h
  rcases hp with ⟨rfl, rfl⟩ | ⟨rfl, rfl⟩
  · exact h.row.cell h.z4
  · exact h.row.cell h.z22
/-- a set's bytes -/
theorem Sp.slot (h : Sp w F s g i b X) {c : Nat} (hc : Slot g c) : ∃ q cap, w.cell? ⟨s, c, none⟩ = some (.slice (some ⟨q, 0, none⟩) (X c).length cap) ∧ (X c).length ≤ cap ∧ q < w.heap.size ∧ q ∉ F ∧ BAt w (some ⟨q, 0, none⟩) (X c) := by
  obtain ⟨L, h⟩ := h
  obtain ⟨v, h1, q, cap, rfl, h2, h3, h4, h5⟩ := h.rd c hc
  exact ⟨q, cap, h.row.cell h1, h2, h3, h4, h5⟩
theorem Sp.oct (h : Sp w F s g i b X) {c : Nat} (hc : Slot g c) : Octs (X c) := by obtain ⟨L, h⟩ := h; exact h.oct c hc
theorem Sp.siz (h : Sp w F s g i b X) {c : Nat} (hc : Slot g c) : (X c).length = (wid i b c + 7) / 8 := by obtain ⟨L, h⟩ := h; exact h.siz c hc
theorem Sp.fro (h : Sp w F s g i b X) (c : Nat) : w.frozen? ⟨s, c, none⟩ = false := by obtain ⟨L, h⟩ := h; exact h.row.frozen c
/-- what turns elsewhere leaves it -/
theorem Sp.other {G : List Nat} (h : Sp w F s g i b X) (hT : TurnF G w w') (hs : ∀ k, k ∈ G → k ∈ F ∧ k ≠ s) : Sp w' F s g i b X := by
  obtain ⟨L, h⟩ := h
  exact ⟨L, h.row.turnF hT (fun hm => (hs s hm).2 rfl), h.len, h.z0, h.z1, h.z2, h.z3, h.z4, h.z21, h.z22, h.on, fun f hf => Nat.lt_of_lt_of_le (h.lt f hf) hT.size,
    fun c hc => by obtain ⟨v, h1, h2⟩ := h.rd c hc; exact ⟨v, h1, h2.on hT fun k hk => (hs k hk).1⟩, h.oct, h.siz⟩
theorem Sp.below (h : Sp w F s g i b X) (hb : Below w.heap.size w w') : Sp w' F s g i b X := h.other (TurnF.of_below [] hb) (fun k hk => by cases hk)
theorem Sp.drew (h : Sp w F s g i b X) (m : Nat) : Sp (w.drewN m) F s g i b X := h.below ⟨rfl, rfl, rfl, Nat.le_refl _, fun _ _ => rfl⟩
/-- one set's bytes replaced -/
def updX (X : Nat → List Nat) (c : Nat) (l : List Nat) : Nat → List Nat := fun j => if j = c then l else X j
theorem updX_at (X : Nat → List Nat) (c : Nat) (l : List Nat) : updX X c l c = l := if_pos rfl
theorem updX_off (X : Nat → List Nat) {c j : Nat} (l : List Nat) (h : j ≠ c) : updX X c l j = X j := if_neg h
theorem Sp.put (h : Sp w F s g i b X) (hg : g ≤ 8) {c : Nat} (hc : Slot g c) {v : Value} {l : List Nat} (hv : RdF F w v l) (ho : Octs l) (hl : l.length = (X c).length) : Sp (w.setCell ⟨s, c, none⟩ v) F s g i b (updX X c l) := by
  obtain ⟨L, h⟩ := h
  have hT := TurnF.set F w h.on c v
  have hb := hc.lt hg
  have hk : ∀ k, k ≠ c → (L.set c v)[k]? = L[k]? := fun k hk => by rw [List.getElem?_set]; rw [if_neg (Ne.symm hk)]
  have hsz := h.siz c hc
  refine ⟨L.set c v, h.row.set c v, by rw [List.length_set, h.len], ?_, ?_, ?_, ?_, ?_, ?_, ?_, h.on, fun f hf => Nat.lt_of_lt_of_le (h.lt f hf) hT.size, fun j hj => ?_, fun j hj => ?_, fun j hj => ?_⟩
  · rw [hk _ (by omega)]; exact h.z0
  · rw [hk _ (by omega)]; exact h.z1
  · rw [hk _ (by omega)]; exact h.z2
  · rw [hk _ (by omega)]; exact h.z3
  · rw [hk _ (by omega)]; exact h.z4
  · rw [hk _ (by omega)]; exact h.z21
  · rw [hk _ (by omega)]; exact h.z22
  · by_cases e : j = c
    · subst e
      exact ⟨v, by rw [List.getElem?_set, if_pos rfl, if_pos (by rw [h.len]; omega)], by rw [updX_at]; exact hv.on hT fun _ hk => hk⟩
    · obtain ⟨u, h1, h2⟩ := h.rd j hj
      exact ⟨u, by rw [hk _ e]; exact h1, by rw [updX_off _ _ e]; exact h2.on hT fun _ hk => hk⟩
  · by_cases e : j = c
    · subst e; rw [updX_at]; exact ho
    · rw [updX_off _ _ e]; exact h.oct j hj
  · by_cases e : j = c
    · subst e; rw [updX_at, hl]; exact h.siz j hj
    · rw [updX_off _ _ e]; exact h.siz j hj
end Go.Proofs.Ytdkjmpicdkfgoaa
