/-
  Values of one cell each, in variables of the call's own: arrays and structs of any parts, loaded, stored, compared.
-/
import Derived.Test.YtcmomnfefaolaaaAi
import Derived.Test.YtcmomnfefaolaaaOt
namespace Go.Proofs.Ytcmomnfefaolaaa
open Go.RowKit BigFrame

/-- a variable of the call's own: these cells -/
def Vw (w : World) (t : TypeId) (g : Nat) (l : List Value) : Prop := w.heap[g]? = some (.cells l.toArray t (0, 0))
theorem Vw.lt {w : World} {t : TypeId} {g : Nat} {l : List Value} (h : Vw w t g l) : g < w.heap.size := (Array.getElem?_eq_some_iff.1 h).1
theorem Vw.on {w w' : World} {t : TypeId} {g B : Nat} {l : List Value} (h : Vw w t g l) (hb : Below B w w') (hg : g < B) : Vw w' t g l := by
  unfold Vw; rw [hb.block g hg]; exact h
theorem Vw.on' {w w' : World} {t : TypeId} {g : Nat} {l : List Value} (h : Vw w t g l) (hb : Below w.heap.size w w') : Vw w' t g l := h.on hb h.lt
theorem Vw.drew {w : World} {t : TypeId} {g m : Nat} {l : List Value} (h : Vw w t g l) : Vw (w.drewN m) t g l := h
theorem Vw.drew1 {w : World} {t : TypeId} {g : Nat} {l : List Value} (h : Vw w t g l) : Vw w.drew t g l := h
theorem Vw.oth {w w' : World} {t : TypeId} {g G : Nat} {l : List Value} (h : Vw w t G l) (ho : Oth g w w') (hn : ¬ G = g) : Vw w' t G l := by
  unfold Vw; rw [ho.block _ hn]; exact h
theorem Vw.grown {w w' : World} {t : TypeId} {r : Option Nat} {g : Nat} {l : List Value} (h : Vw w t g l) (hg : w.grownBy w' r) (hr : some g ≠ r) : Vw w' t g l := by
  unfold Vw; rw [hg.block g h.lt hr]; exact h
theorem Vw.cell {w : World} {t : TypeId} {g : Nat} {l : List Value} (h : Vw w t g l) {k : Nat} {v : Value} (hk : l[k]? = some v) : w.cell? ⟨g, k, none⟩ = some v := by
  rw [cell_of_row w g k _ _ _ h]
  simpa using hk
theorem Vw.frozen {w : World} {t : TypeId} {g : Nat} {l : List Value} (h : Vw w t g l) (k : Nat) : w.frozen? ⟨g, k, none⟩ = false := by
  unfold Vw at h
  simp [World.frozen?, h]
theorem Vw.range {w : World} {t : TypeId} {g : Nat} {l : List Value} (h : Vw w t g l) (o n : Nat) : w.rangeAt g o ((l.drop o).take n) := fun j v hv => by
  refine h.cell ?_
  have hj : j < ((l.drop o).take n).length := (List.getElem?_eq_some_iff.1 hv).1
  rw [List.length_take] at hj
  rw [List.getElem?_take, if_pos (by omega), List.getElem?_drop] at hv
  exact hv
theorem Vw.whole {w : World} {t : TypeId} {g : Nat} {l : List Value} (h : Vw w t g l) : w.rangeAt g 0 l := by
  have := h.range 0 l.length
  rwa [List.drop_zero, List.take_length] at this
theorem Vw.there {w : World} {t : TypeId} {g : Nat} {l : List Value} (h : Vw w t g l) {o n : Nat} (hn : o + n ≤ l.length) : w.there g o n := fun j hj => ⟨by rw [h.cell (List.getElem?_eq_getElem (show o + j < l.length by omega))]; rfl, h.frozen _⟩
theorem Vw.alloc (w : World) (l : List Value) (t : TypeId) : Vw (w.alloc (.cells l.toArray t)) t w.heap.size l := heap_alloc_new w _
theorem Vw.set {w : World} {t : TypeId} {g : Nat} {l : List Value} (h : Vw w t g l) (k : Nat) (x : Value) : Vw (w.setCell ⟨g, k, none⟩ x) t g (l.set k x) := by
  have e := setCell_eq_setRow w g k _ _ _ x h
  unfold Vw
  rw [e]
  have := setRow_heap w g _ (l.toArray.setIfInBounds k x) _ _ h
  rw [this]
  simp
theorem Vw.put {t : TypeId} {g : Nat} : ∀ (m : List Value) {w : World} {l : List Value} (o : Nat), Vw w t g l → o + m.length ≤ l.length → Vw (w.setCells g o m) t g (splice l o m)
  | [], w, l, o, h, _ => by
    have e : splice l o [] = l := by simp [splice]
    rw [e]; exact h
  | x :: m, w, l, o, h, hm => by
    have hlt : o < l.length := by simp at hm; omega
    have h1 := Vw.put m (o + 1) (h.set o x) (by rw [List.length_set]; simp at hm; omega)
    rw [splice_cons _ _ _ _ hlt] at h1
    exact h1
theorem Vw.over {w : World} {t : TypeId} {g : Nat} {l m : List Value} (h : Vw w t g l) (hm : m.length = l.length) : Vw (w.setCells g 0 m) t g m := by
  have := Vw.put m 0 h (by omega)
  have e : splice l 0 m = m := by simp [splice, hm]
  rwa [e] at this

theorem run_ldW {w : World} {g o : Nat} {l : List Value} {t : TypeId} (n : Nat) (d : TypeDesc) (hr : w.rangeAt g o l) (hl : l.length = n) (hu : Try.prog.underlying t = some d) (hd : d.isRow = true) (hi : (Try.prog.info? t).map (·.size) = some n) :
    (ldA t (.pointer (some ⟨g, o, none⟩))).run Try.prog w = .ok (.agg l.toArray) w :=
  run_loadAt_mid w g o t l d hr hu hd (by rw [hi, hl])
theorem run_stW {w : World} {g o : Nat} {m : List Value} {t : TypeId} (n : Nat) (hm : m.length = n) (h1 : m.toArray.all (·.oneCell') = true) (ht : w.there g o n) (hi : (Try.prog.info? t).map (·.size) = some n) :
    (stA t (.pointer (some ⟨g, o, none⟩)) (.agg m.toArray)).run Try.prog w = .ok () (w.setCells g o m) := by
  have h := run_storeAt_mid (P := Try.prog) w g o t m.toArray (by simpa [hm] using ht) (by rw [hi]; simp [hm]) h1
  exact h
theorem run_partW_row {t : TypeId} {d : TypeDesc} {n : Nat} (ht : Try.prog.underlying t = some d) (hd : d.isRow = true) (hn : (Try.prog.info? t).map (·.size) = some n) (w : World) (X : List Value) (o : Nat) :
    (part t X.toArray o).run Try.prog w = .ok (.agg ((X.drop o).take n).toArray) w := by
  have hagg : (isAgg t).run Try.prog w = .ok true w := by
    unfold isAgg
    rw [Sem.run_bind, run_underlying ht w]
    cases d <;> simp_all
  have hs : (sizeOf t).run Try.prog w = .ok n w := by
    cases hq : Try.prog.info? t with
    | none => simp [hq] at hn
    | some i => simp [hq] at hn; simp [sizeOf, typeInfo, hq, hn]
  unfold part
  simp [Sem.run_bind, hagg, hs]
theorem run_partW {t : TypeId} {d : TypeDesc} (ht : Try.prog.underlying t = some d) (hd : d.isRow = false) (w : World) (X : List Value) (i : Nat) {v : Value} (hv : X[i]? = some v) : (part t X.toArray i).run Try.prog w = .ok v w := by
  have hagg : (isAgg t).run Try.prog w = .ok false w := by
    unfold isAgg
    rw [Sem.run_bind, run_underlying ht w]
    cases d <;> simp_all [TypeDesc.isRow]
  have h : X.toArray[i]? = some v := by simpa using hv
  unfold part
  simp [Sem.run_bind, hagg, h]
/-- an element of an array of rows -/
theorem run_ixW_row {t e : TypeId} {d : TypeDesc} {n len : Nat} (ht : Try.prog.underlying t = some (.array len e)) (he : Try.prog.underlying e = some d) (hd : d.isRow = true) (hn : (Try.prog.info? e).map (·.size) = some n) (w : World) (X : List Value) (k : Nat) (hk : k < len) :
    (ixA t (.agg X.toArray) (.int .i64 (k : Int))).run Try.prog w = .ok (.agg ((X.drop (k * n)).take n).toArray) w := by
  have hs : (sizeOf e).run Try.prog w = .ok n w := by
    cases hq : Try.prog.info? e with
    | none => simp [hq] at hn
    | some i => simp [hq] at hn; simp [sizeOf, typeInfo, hq, hn]
  have h0 : (0 : Int) ≤ (k : Int) ∧ (k : Int) < (len : Int) := by omega
  have hp := run_partW_row he hd hn w X (k * n)
  unfold ixA Instr.index
  simp [Sem.run_bind, asIntOf, run_underlying ht, h0, hs, hk]
  exact hp
/-- a struct, field by field -/
theorem eqFieldsW {d : Nat} {w : World} {X Y : List Value} {f : Field} {fs : List Field} {td : TypeDesc} {a b : Value} {r : Bool} (hn : f.name ≠ "_") (he : Try.prog.underlying f.type = some td) (hd : td.isRow = false) (hX : X[f.offset]? = some a) (hY : Y[f.offset]? = some b)
    (hc : (Op.equalIn d f.type a b).run Try.prog w = .ok r w) :
    (Op.eqFields d X.toArray Y.toArray (f :: fs)).run Try.prog w = if r = true then (Op.eqFields d X.toArray Y.toArray fs).run Try.prog w else .ok false w := by
  rw [Op.eqFields, if_pos hn]
  simp only [Sem.run_bind, run_partW he hd w X _ hX, run_partW he hd w Y _ hY, Result.andThen_ok, hc]
  cases r <;> simp
/-- an array of rows: the comparison of the i-th parts goes on just if r i -/
def PartedW (e : TypeId) (d n : Nat) (w : World) (X Y : List Value) (r : Nat → Bool) (i : Nat) : Prop := ∀ {R : Type} (yes no : Sem R), Sem.run Try.prog (do
      let a ← part e X.toArray (i * n)
      let b ← part e Y.toArray (i * n)
      let r ← Op.equalIn (d + 1) e a b
      if (!r) = true then no else yes) w = if r i = true then yes.run Try.prog w else no.run Try.prog w
theorem run_eqW_loop {d n len : Nat} {e : TypeId} (w : World) (X Y : List Value) (r : Nat → Bool) (hb : ∀ i, i < len → PartedW e d n w X Y r i) : ∀ (m i : Nat), i + m = len →
    ∃ b : Option Bool, Sem.run Try.prog (forIn (List.range' i m 1) ((none, ()) : Option Bool × Unit) fun i _ => do
      let a ← part e X.toArray (i * n)
      let b ← part e Y.toArray (i * n)
      let r ← Op.equalIn (d + 1) e a b
      if (!r) = true then pure (ForInStep.done (some false, ())) else pure (ForInStep.yield (none, ()))) w = .ok (b, ()) w ∧
      ((b = none ∧ ∀ j, i ≤ j → j < len → r j = true) ∨ (b = some false ∧ ¬ ∀ j, i ≤ j → j < len → r j = true))
  | 0, i, hi => ⟨none, by simp [List.range'], .inl ⟨rfl, fun j h1 h2 => by omega⟩⟩
  | m + 1, i, hi => by
    rw [List.range'_succ, List.forIn_cons, Sem.run_bind, hb i (by omega)]
    by_cases h : r i = true
    · rw [if_pos h]
      simp only [Sem.run_pure, Result.andThen_ok]
      obtain ⟨b, h1, h2⟩ := run_eqW_loop w X Y r hb m (i + 1) (by omega)
      refine ⟨b, h1, ?_⟩
      rcases h2 with ⟨rfl, h2⟩ | ⟨rfl, h2⟩
      · refine .inl ⟨rfl, fun j h3 h4 => ?_⟩
        by_cases e : j = i
        · subst e; exact h
        · exact h2 j (by omega) h4
      · exact .inr ⟨rfl, fun h3 => h2 fun j h4 h5 => h3 j (by omega) h5⟩
    · rw [if_neg h]
      exact ⟨some false, by simp, .inr ⟨rfl, fun h3 => h (h3 i (Nat.le_refl _) (by omega))⟩⟩
theorem run_eqW_rows {t e : TypeId} {len n : Nat} (ht : Try.prog.underlying t = some (.array len e)) (hn : (Try.prog.info? e).map (·.size) = some n) (d : Nat) (w : World) (X Y : List Value) (r : Nat → Bool) (q : Bool)
    (hr : q = true ↔ ∀ j, j < len → r j = true)
    (hb : ∀ i, i < len → PartedW e d n w X Y r i) : (Op.equalIn (d + 2) t (.agg X.toArray) (.agg Y.toArray)).run Try.prog w = .ok q w := by
  have hs : (sizeOf e).run Try.prog w = .ok n w := by
    cases hq : Try.prog.info? e with
    | none => simp [hq] at hn
    | some i => simp [hq] at hn; simp [sizeOf, typeInfo, hq, hn]
  rw [Op.equalIn]
  simp only [Sem.run_bind, run_underlying ht, Result.andThen_ok, hs]
  rw [Std.Legacy.Range.forIn_eq_forIn_range']
  obtain ⟨b, h1, h2⟩ := run_eqW_loop w X Y r hb len 0 (by omega)
  have e : (List.range' [:len].start [:len].size [:len].step) = List.range' 0 len 1 := by simp [Std.Legacy.Range.size]
  rw [e, h1]
  rcases h2 with ⟨rfl, h2⟩ | ⟨rfl, h2⟩
  · have : q = true := hr.2 fun j hj => h2 j (Nat.zero_le _) hj
    simp [this]
  · have : q = false := by
      cases hq : q
      · rfl
      · exact absurd (fun j _ h => hr.1 hq j h) h2
    simp [this]
theorem partedW_row {e : TypeId} {td : TypeDesc} {n d : Nat} (he : Try.prog.underlying e = some td) (hd : td.isRow = true) (hn : (Try.prog.info? e).map (·.size) = some n) (w : World) (X Y : List Value) (r : Nat → Bool) (i : Nat)
    (h : (Op.equalIn (d + 1) e (.agg ((X.drop (i * n)).take n).toArray) (.agg ((Y.drop (i * n)).take n).toArray)).run Try.prog w = .ok (r i) w) : PartedW e d n w X Y r i := by
  intro R yes no
  simp only [Sem.run_bind, run_partW_row he hd hn, Result.andThen_ok]
  rw [h]
  cases r i <;> simp
end Go.Proofs.Ytcmomnfefaolaaa
