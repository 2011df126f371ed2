/-
  Arrays of integers, and structs of integers alone: as lists, in variables, loaded, stored, compared.
  A frame: nothing but one block has turned.
  Values of one cell each, in variables of the call's own: arrays and structs of any parts, loaded, stored, compared.
-/
import Derived.Test.YtnfaeejeipbciaaB1
import Derived.Deep.MidRow
import Derived.Laws.StructEq
import Derived.Laws.Rows
import Derived.Test.YtnfaeejeipbciaaRows
import Derived.WalkKit
import Derived.ProofKit
import Derived.Handy
import Derived.Deep.OwnRows
import Derived.OwnWalk
import Derived.Deep.QuietTactic
import Derived.BigQuiet

section
set_option linter.unusedVariables false
set_option linter.unusedSimpArgs false
namespace Go.Proofs.Ytnfaeejeipbciaa
open Go.RowKit BigFrame

/-- the n-th of some integers -/
def zi (l : List Int) (k : Nat) : Int := l.getD k 0
theorem zi_get {l : List Int} {k : Nat} (h : k < l.length) : zi l k = l[k] := by simp [zi, List.getD, List.getElem?_eq_getElem h]
theorem zi_take {l : List Int} {m k : Nat} (h : k < m) : zi (l.take m) k = zi l k := by simp [zi, List.getD, h]
theorem zi_drop {l : List Int} {m k : Nat} : zi (l.drop m) k = zi l (m + k) := by simp [zi, List.getD]
theorem zi_append_left {l m : List Int} {k : Nat} (h : k < l.length) : zi (l ++ m) k = zi l k := by simp [zi, List.getD, List.getElem?_append_left h]
theorem zi_append_right {l m : List Int} {k : Nat} (h : l.length ≤ k) : zi (l ++ m) k = zi m (k - l.length) := by simp [zi, List.getD, List.getElem?_append_right h]
theorem zi_set {l : List Int} {k j : Nat} {x : Int} (h : k < l.length) : zi (l.set k x) j = if j = k then x else zi l j := by
  unfold zi
  simp only [List.getD, List.getElem?_set]
  by_cases e : k = j
  · subst e; simp [h]
  · rw [if_neg e, if_neg (Ne.symm e)]
theorem zi_ext {l m : List Int} (h : l.length = m.length) (hx : ∀ k, k < l.length → zi l k = zi m k) : l = m := by
  apply List.ext_getElem h
  intro k h1 h2
  rw [← zi_get h1, ← zi_get h2]
  exact hx k h1
theorem zi_rep (n k : Nat) (v : Int) (h : k < n) : zi (List.replicate n v) k = v := by simp [zi, List.getD, h]
theorem zi_take_succ {l : List Int} {k : Nat} (h : k < l.length) : l.take (k + 1) = l.take k ++ [zi l k] := by
  rw [zi_get h, List.take_succ_eq_append_getElem h]
/-- n zeros -/
def zz (n : Nat) : List Int := List.replicate n 0
theorem zz_length (n : Nat) : (zz n).length = n := by simp [zz]

/-- integers as cells -/
def iv (l : List Int) : List Value := l.map fun n => Value.int .i64 n
theorem iv_length (l : List Int) : (iv l).length = l.length := by simp [iv]
theorem iv_get {l : List Int} {k : Nat} (h : k < l.length) : (iv l)[k]? = some (.int .i64 (zi l k)) := by simp [iv, zi_get h, h]
theorem iv_at {l : List Int} {k : Nat} {v : Value} (h : (iv l)[k]? = some v) : k < l.length ∧ v = .int .i64 (zi l k) := by
  have hk : k < l.length := by have := (List.getElem?_eq_some_iff.1 h).1; rwa [iv_length] at this
  rw [iv_get hk] at h
  exact ⟨hk, (Option.some.inj h).symm⟩
theorem iv_one (l : List Int) : ∀ v ∈ iv l, v.oneCell' = true := by
  intro v hv
  obtain ⟨n, _, rfl⟩ := List.mem_map.1 hv
  rfl
theorem iv_all (l : List Int) : (iv l).toArray.all (·.oneCell') = true := all_oneCell_toArray (iv_one l)
theorem iv_inj {l m : List Int} (h : iv l = iv m) : l = m := by
  have hl : l.length = m.length := by rw [← iv_length l, h, iv_length]
  refine zi_ext hl fun k hk => ?_
  have h1 := iv_get hk
  rw [h, iv_get (by omega)] at h1
  simpa using h1.symm
theorem iv_set (l : List Int) (k : Nat) (x : Int) : (iv l).set k (.int .i64 x) = iv (l.set k x) := by simp [iv, List.map_set]
theorem iv_append (l m : List Int) : iv (l ++ m) = iv l ++ iv m := by simp [iv]
theorem iv_take (l : List Int) (k : Nat) : iv (l.take k) = (iv l).take k := by simp [iv]
theorem iv_drop (l : List Int) (k : Nat) : iv (l.drop k) = (iv l).drop k := by simp [iv]
theorem iv_splice (l m : List Int) (k : Nat) : splice (iv l) k (iv m) = iv (splice l k m) := by simp [splice, iv]
/-- integers as a value -/
def av (l : List Int) : Value := .agg (iv l).toArray
theorem av_inj {l m : List Int} (h : av l = av m) : l = m := by
  unfold av at h
  have h1 := congrArg (fun v => match v with | Value.agg a => a.toList | _ => []) h
  exact iv_inj (by simpa using h1)

/-- a variable of the call's own: integers -/
def Vi (w : World) (t : TypeId) (g : Nat) (l : List Int) : Prop := w.heap[g]? = some (.cells (iv l).toArray t (0, 0))
theorem Vi.lt {w : World} {t : TypeId} {g : Nat} {l : List Int} (h : Vi w t g l) : g < w.heap.size := (Array.getElem?_eq_some_iff.1 h).1
theorem Vi.on {w w' : World} {t : TypeId} {g B : Nat} {l : List Int} (h : Vi w t g l) (hb : Below B w w') (hg : g < B) : Vi w' t g l := by
  unfold Vi; rw [hb.block g hg]; exact h
theorem Vi.on' {w w' : World} {t : TypeId} {g : Nat} {l : List Int} (h : Vi w t g l) (hb : Below w.heap.size w w') : Vi w' t g l := h.on hb h.lt
theorem Vi.drew {w : World} {t : TypeId} {g m : Nat} {l : List Int} (h : Vi w t g l) : Vi (w.drewN m) t g l := h
theorem Vi.drew1 {w : World} {t : TypeId} {g : Nat} {l : List Int} (h : Vi w t g l) : Vi w.drew t g l := h
theorem Vi.cell {w : World} {t : TypeId} {g : Nat} {l : List Int} (h : Vi w t g l) {k : Nat} (hk : k < l.length) : w.cell? ⟨g, k, none⟩ = some (.int .i64 (zi l k)) := by
  rw [cell_of_row w g k _ _ _ h]
  simpa using iv_get hk
theorem Vi.frozen {w : World} {t : TypeId} {g : Nat} {l : List Int} (h : Vi w t g l) (k : Nat) : w.frozen? ⟨g, k, none⟩ = false := by
  unfold Vi at h
  simp [World.frozen?, h]
theorem Vi.range {w : World} {t : TypeId} {g : Nat} {l : List Int} (h : Vi w t g l) (o n : Nat) : w.rangeAt g o (iv ((l.drop o).take n)) := fun j v hv => by
  obtain ⟨hj, rfl⟩ := iv_at hv
  rw [List.length_take, List.length_drop] at hj
  rw [h.cell (by omega), zi_take (by omega), zi_drop]
theorem Vi.whole {w : World} {t : TypeId} {g : Nat} {l : List Int} (h : Vi w t g l) : w.rangeAt g 0 (iv l) := by
  have := h.range 0 l.length
  rwa [List.drop_zero, List.take_length] at this
theorem Vi.there {w : World} {t : TypeId} {g : Nat} {l : List Int} (h : Vi w t g l) {o n : Nat} (hn : o + n ≤ l.length) : w.there g o n := fun j hj => ⟨by rw [h.cell (by omega)]; rfl, h.frozen _⟩
theorem Vi.alloc (w : World) (l : List Int) (t : TypeId) : Vi (w.alloc (.cells (iv l).toArray t)) t w.heap.size l := heap_alloc_new w _
theorem Vi.set {w : World} {t : TypeId} {g : Nat} {l : List Int} (h : Vi w t g l) (k : Nat) (x : Int) : Vi (w.setCell ⟨g, k, none⟩ (.int .i64 x)) t g (l.set k x) := by
  have e := setCell_eq_setRow w g k _ _ _ (.int .i64 x) h
  unfold Vi
  rw [e, ← iv_set]
  have := setRow_heap w g _ ((iv l).toArray.setIfInBounds k (.int .i64 x)) _ _ h
  rw [this]
  simp
theorem splice_cons {α : Type} (l : List α) (o : Nat) (x : α) (m : List α) (h : o < l.length) : splice (l.set o x) (o + 1) m = splice l o (x :: m) := by
  have e : (l.set o x).take (o + 1) = l.take o ++ [x] := by
    rw [List.take_succ_eq_append_getElem (by rw [List.length_set]; exact h), List.getElem_set_self, List.take_set, List.set_eq_of_length_le (by simp; omega)]
  have e2 : (l.set o x).drop (o + 1 + m.length) = l.drop (o + (m.length + 1)) := by
    rw [List.drop_set, if_pos (by omega)]
    congr 1
    omega
  unfold splice
  rw [e, e2, List.append_assoc]
  rfl
theorem Vi.put {t : TypeId} {g : Nat} : ∀ (m : List Int) {w : World} {l : List Int} (o : Nat), Vi w t g l → o + m.length ≤ l.length → Vi (w.setCells g o (iv m)) t g (splice l o m)
  | [], w, l, o, h, _ => by
    have e : splice l o [] = l := by simp [splice]
    rw [e]; exact h
  | x :: m, w, l, o, h, hm => by
    have hlt : o < l.length := by simp at hm; omega
    have h1 := Vi.put m (o + 1) (h.set o x) (by rw [List.length_set]; simp at hm; omega)
    rw [splice_cons _ _ _ _ hlt] at h1
    exact h1
theorem Vi.over {w : World} {t : TypeId} {g : Nat} {l m : List Int} (h : Vi w t g l) (hm : m.length = l.length) : Vi (w.setCells g 0 (iv m)) t g m := by
  have := Vi.put m 0 h (by omega)
  have e : splice l 0 m = m := by simp [splice, hm]
  rwa [e] at this
theorem below_put_list {w0 w : World} {B g : Nat} (hg : B ≤ g) : ∀ (vs : List Value) (o : Nat) {w : World}, Below B w0 w → Below B w0 (w.setCells g o vs)
  | [], _, _, h => h
  | v :: r, o, _, h => below_put_list (w := w) hg r (o + 1) (h.setCell (p := ⟨g, o, none⟩) hg v)
theorem below_setCells {w0 w : World} {B g : Nat} (h : Below B w0 w) (hg : B ≤ g) (o : Nat) (vs : List Value) : Below B w0 (w.setCells g o vs) := below_put_list (w := w) hg vs o h

/-! Loads, stores, elements, comparisons, as the walk meets them: under names of their own, that it does not open. -/
def ldA (t : TypeId) (v : Value) : Sem Value := Instr.loadAt t v
def stA (t : TypeId) (p v : Value) : Sem Unit := Instr.storeAt t p v
def ixA (t : TypeId) (x i : Value) : Sem Value := Instr.index t x i
def eqA (t : TypeId) (x y : Value) : Sem Bool := Op.equalIn 10000 t x y
def bdA (t : TypeId) (ps : Array (Nat × Value)) : Sem Value := Instr.build t ps

theorem run_ldA {w : World} {g o : Nat} {l : List Int} {t : TypeId} (n : Nat) (d : TypeDesc) (hr : w.rangeAt g o (iv l)) (hl : l.length = n) (hu : Try.prog.underlying t = some d) (hd : d.isRow = true) (hi : (Try.prog.info? t).map (·.size) = some n) :
    (ldA t (.pointer (some ⟨g, o, none⟩))).run Try.prog w = .ok (av l) w :=
  run_loadAt_mid w g o t (iv l) d hr hu hd (by rw [hi, iv_length, hl])
theorem run_stA {w : World} {g o : Nat} {m : List Int} {t : TypeId} (n : Nat) (hm : m.length = n) (ht : w.there g o n) (hi : (Try.prog.info? t).map (·.size) = some n) :
    (stA t (.pointer (some ⟨g, o, none⟩)) (av m)).run Try.prog w = .ok () (w.setCells g o (iv m)) := by
  have h := run_storeAt_mid (P := Try.prog) w g o t (iv m).toArray (by simpa [iv_length, hm] using ht) (by rw [hi]; simp [iv_length, hm]) (iv_all m)
  exact h

theorem run_part_int {t : TypeId} (ht : Try.prog.underlying t = some (.int .i64)) (w : World) (X : List Int) (i : Nat) (hi : i < X.length) : (part t (iv X).toArray i).run Try.prog w = .ok (.int .i64 (zi X i)) w := by
  have h : (iv X).toArray[i]? = some (.int .i64 (zi X i)) := by simpa using iv_get hi
  unfold part isAgg
  simp [run_underlying ht, h]
theorem run_part_row {t : TypeId} {d : TypeDesc} {n : Nat} (ht : Try.prog.underlying t = some d) (hd : d.isRow = true) (hn : (Try.prog.info? t).map (·.size) = some n) (w : World) (X : List Int) (o : Nat) :
    (part t (iv X).toArray o).run Try.prog w = .ok (av ((X.drop o).take n)) w := by
  have hagg : (isAgg t).run Try.prog w = .ok true w := by
    unfold isAgg
    rw [Sem.run_bind, run_underlying ht w]
    cases d <;> simp_all
  have hs : (sizeOf t).run Try.prog w = .ok n w := by
    cases hq : Try.prog.info? t with
    | none => simp [hq] at hn
    | some i => simp [hq] at hn; simp [sizeOf, typeInfo, hq, hn]
  unfold part
  simp [Sem.run_bind, hagg, hs, av, iv_take, iv_drop]

/-- an element of an array of rows -/
theorem run_ixA_row {t e : TypeId} {d : TypeDesc} {n len : Nat} (ht : Try.prog.underlying t = some (.array len e)) (he : Try.prog.underlying e = some d) (hd : d.isRow = true) (hn : (Try.prog.info? e).map (·.size) = some n) (w : World) (X : List Int) (k : Nat) (hk : k < len) :
    (ixA t (av X) (.int .i64 (k : Int))).run Try.prog w = .ok (av ((X.drop (k * n)).take n)) w := by
  have hs : (sizeOf e).run Try.prog w = .ok n w := by
    cases hq : Try.prog.info? e with
    | none => simp [hq] at hn
    | some i => simp [hq] at hn; simp [sizeOf, typeInfo, hq, hn]
  have h0 : (0 : Int) ≤ (k : Int) ∧ (k : Int) < (len : Int) := by omega
  have hp := run_part_row he hd hn w X (k * n)
  unfold ixA Instr.index av
  simp [Sem.run_bind, asIntOf, run_underlying ht, h0, hs, hk]
  exact hp
theorem run_ixA_int {t e : TypeId} {len : Nat} (ht : Try.prog.underlying t = some (.array len e)) (he : Try.prog.underlying e = some (.int .i64)) (hn : (Try.prog.info? e).map (·.size) = some 1) (w : World) (X : List Int) (k : Nat) (hk : k < len) (hX : X.length = len) :
    (ixA t (av X) (.int .i64 (k : Int))).run Try.prog w = .ok (.int .i64 (zi X k)) w := by
  have hs : (sizeOf e).run Try.prog w = .ok 1 w := by
    cases hq : Try.prog.info? e with
    | none => simp [hq] at hn
    | some i => simp [hq] at hn; simp [sizeOf, typeInfo, hq, hn]
  have h0 : (0 : Int) ≤ (k : Int) ∧ (k : Int) < (len : Int) := by omega
  have hp := run_part_int he w X k (by omega)
  unfold ixA Instr.index av
  simp [Sem.run_bind, asIntOf, run_underlying ht, h0, hs, hk]
  exact hp

/-! Comparison: of an array whose elements' parts are compared by what they are. -/
/-- the comparison of the i-th parts goes on just if they are the same -/
def Parted (e : TypeId) (d n : Nat) (w : World) (X Y : List Int) (i : Nat) : Prop := ∀ {R : Type} (yes no : Sem R), Sem.run Try.prog (do
      let a ← part e (iv X).toArray (i * n)
      let b ← part e (iv Y).toArray (i * n)
      let r ← Op.equalIn (d + 1) e a b
      if (!r) = true then no else yes) w = if (X.drop (i * n)).take n = (Y.drop (i * n)).take n then yes.run Try.prog w else no.run Try.prog w
theorem run_eq_loop {d n len : Nat} {e : TypeId} (w : World) (X Y : List Int) (hb : ∀ i, i < len → Parted e d n w X Y i) : ∀ (m i : Nat), i + m = len →
    ∃ b : Option Bool, Sem.run Try.prog (forIn (List.range' i m 1) ((none, ()) : Option Bool × Unit) fun i _ => do
      let a ← part e (iv X).toArray (i * n)
      let b ← part e (iv Y).toArray (i * n)
      let r ← Op.equalIn (d + 1) e a b
      if (!r) = true then pure (ForInStep.done (some false, ())) else pure (ForInStep.yield (none, ()))) w = .ok (b, ()) w ∧
      ((b = none ∧ ∀ j, i ≤ j → j < len → (X.drop (j * n)).take n = (Y.drop (j * n)).take n) ∨ (b = some false ∧ ¬ ∀ j, i ≤ j → j < len → (X.drop (j * n)).take n = (Y.drop (j * n)).take n))
  | 0, i, hi => ⟨none, by simp [List.range'], .inl ⟨rfl, fun j h1 h2 => by omega⟩⟩
  | m + 1, i, hi => by
    rw [List.range'_succ, List.forIn_cons, Sem.run_bind, hb i (by omega)]
    by_cases h : (X.drop (i * n)).take n = (Y.drop (i * n)).take n
    · rw [if_pos h]
      simp only [Sem.run_pure, Result.andThen_ok]
      obtain ⟨b, h1, h2⟩ := run_eq_loop w X Y hb m (i + 1) (by omega)
      refine ⟨b, h1, ?_⟩
      rcases h2 with ⟨rfl, h2⟩ | ⟨rfl, h2⟩
      · refine .inl ⟨rfl, fun j h3 h4 => ?_⟩
        by_cases e : j = i
        · subst e; exact h
        · exact h2 j (by omega) h4
      · exact .inr ⟨rfl, fun h3 => h2 fun j h4 h5 => h3 j (by omega) h5⟩
    · rw [if_neg h]
      exact ⟨some false, by simp, .inr ⟨rfl, fun h3 => h (h3 i (Nat.le_refl _) (by omega))⟩⟩
theorem rows_eq {X Y : List Int} {n len : Nat} (hX : X.length = len * n) (hY : Y.length = len * n) (h : ∀ j, 0 ≤ j → j < len → (X.drop (j * n)).take n = (Y.drop (j * n)).take n) : X = Y := by
  refine zi_ext (by omega) fun k hk => ?_
  have hn : 0 < n := by
    rcases Nat.eq_zero_or_pos n with e | e
    · rw [e, Nat.mul_zero] at hX; omega
    · exact e
  have hq : k / n < len := Nat.div_lt_of_lt_mul (by rw [Nat.mul_comm]; omega)
  have hr : k % n < n := Nat.mod_lt _ hn
  have e := congrArg (fun l => zi l (k % n)) (h (k / n) (Nat.zero_le _) hq)
  simp only [zi_take hr, zi_drop] at e
  have := Nat.div_add_mod k n
  rw [Nat.mul_comm] at this
  rwa [this] at e
theorem run_eq_rows {t e : TypeId} {len n : Nat} (ht : Try.prog.underlying t = some (.array len e)) (hn : (Try.prog.info? e).map (·.size) = some n) (d : Nat) (w : World) (X Y : List Int) (hX : X.length = len * n) (hY : Y.length = len * n)
    (hb : ∀ i, i < len → Parted e d n w X Y i) : (Op.equalIn (d + 2) t (av X) (av Y)).run Try.prog w = .ok (decide (X = Y)) w := by
  have hs : (sizeOf e).run Try.prog w = .ok n w := by
    cases hq : Try.prog.info? e with
    | none => simp [hq] at hn
    | some i => simp [hq] at hn; simp [sizeOf, typeInfo, hq, hn]
  unfold av
  rw [Op.equalIn]
  simp only [Sem.run_bind, run_underlying ht, Result.andThen_ok, hs]
  rw [Std.Legacy.Range.forIn_eq_forIn_range']
  obtain ⟨b, h1, h2⟩ := run_eq_loop w X Y hb len 0 (by omega)
  have e : (List.range' [:len].start [:len].size [:len].step) = List.range' 0 len 1 := by simp [Std.Legacy.Range.size]
  rw [e, h1]
  rcases h2 with ⟨rfl, h2⟩ | ⟨rfl, h2⟩
  · have := rows_eq hX hY h2
    simp [this]
  · have : ¬ X = Y := fun e => h2 (by rw [e]; intros; rfl)
    simp [this]
/-- the elements are integers -/
theorem parted_int {e : TypeId} (he : Try.prog.underlying e = some (.int .i64)) (d : Nat) (w : World) (X Y : List Int) (i : Nat) (hX : i < X.length) (hY : i < Y.length) : Parted e d 1 w X Y i := by
  intro R yes no
  have e1 : ∀ {X : List Int}, i < X.length → (X.drop (i * 1)).take 1 = [zi X i] := fun {X} h => by
    rw [Nat.mul_one, List.drop_eq_getElem_cons h, zi_get h]; rfl
  rw [e1 hX, e1 hY, Nat.mul_one]
  simp only [Sem.run_bind, run_part_int he w X i hX, run_part_int he w Y i hY, Result.andThen_ok, run_equalIn_int w d e .i64 .i64 _ _ he]
  by_cases h : zi X i = zi Y i
  · rw [h]; simp
  · have h2 : (zi X i == zi Y i) = false := by rw [beq_eq_false_iff_ne]; exact h
    rw [h2]; simp [h]
/-- the elements are rows, compared so -/
theorem parted_row {e : TypeId} {td : TypeDesc} {n d : Nat} (he : Try.prog.underlying e = some td) (hd : td.isRow = true) (hn : (Try.prog.info? e).map (·.size) = some n) (w : World) (X Y : List Int) (i : Nat)
    (h : ∀ x y : List Int, x.length = n → y.length = n → (Op.equalIn (d + 1) e (av x) (av y)).run Try.prog w = .ok (decide (x = y)) w) (hX : i * n + n ≤ X.length) (hY : i * n + n ≤ Y.length) : Parted e d n w X Y i := by
  intro R yes no
  simp only [Sem.run_bind, run_part_row he hd hn, Result.andThen_ok]
  rw [h _ _ (by rw [List.length_take, List.length_drop]; omega) (by rw [List.length_take, List.length_drop]; omega)]
  by_cases hxy : (X.drop (i * n)).take n = (Y.drop (i * n)).take n
  · simp [hxy]
  · simp [hxy]
/-- a struct, field by field -/
theorem eqFields_int {d : Nat} {w : World} {X Y : List Int} {f : Field} {fs : List Field} (hn : f.name ≠ "_") (he : Try.prog.underlying f.type = some (.int .i64)) (hX : f.offset < X.length) (hY : f.offset < Y.length) :
    (Op.eqFields (d + 1) (iv X).toArray (iv Y).toArray (f :: fs)).run Try.prog w = if zi X f.offset = zi Y f.offset then (Op.eqFields (d + 1) (iv X).toArray (iv Y).toArray fs).run Try.prog w else .ok false w := by
  rw [Op.eqFields, if_pos hn]
  simp only [Sem.run_bind, run_part_int he w X _ hX, run_part_int he w Y _ hY, Result.andThen_ok, run_equalIn_int w d f.type .i64 .i64 _ _ he]
  by_cases h : zi X f.offset = zi Y f.offset
  · rw [h]; simp
  · have h2 : (zi X f.offset == zi Y f.offset) = false := by rw [beq_eq_false_iff_ne]; exact h
    rw [h2]; simp [h]
theorem eqFields_row {d n : Nat} {w : World} {X Y : List Int} {f : Field} {fs : List Field} {td : TypeDesc} (hn : f.name ≠ "_") (he : Try.prog.underlying f.type = some td) (hd : td.isRow = true) (hz : (Try.prog.info? f.type).map (·.size) = some n)
    (hc : ∀ x y : List Int, x.length = n → y.length = n → (Op.equalIn d f.type (av x) (av y)).run Try.prog w = .ok (decide (x = y)) w) (hX : f.offset + n ≤ X.length) (hY : f.offset + n ≤ Y.length) :
    (Op.eqFields d (iv X).toArray (iv Y).toArray (f :: fs)).run Try.prog w = if (X.drop f.offset).take n = (Y.drop f.offset).take n then (Op.eqFields d (iv X).toArray (iv Y).toArray fs).run Try.prog w else .ok false w := by
  rw [Op.eqFields, if_pos hn]
  simp only [Sem.run_bind, run_part_row he hd hz, Result.andThen_ok]
  rw [hc _ _ (by rw [List.length_take, List.length_drop]; omega) (by rw [List.length_take, List.length_drop]; omega)]
  by_cases h : (X.drop f.offset).take n = (Y.drop f.offset).take n
  · simp [h]
  · simp [h]
theorem eqFields_nil {d : Nat} {w : World} {xs ys : Array Value} : (Op.eqFields d xs ys []).run Try.prog w = .ok true w := by simp [Op.eqFields]
/-- an array of integers -/
theorem run_eq_ints {t e : TypeId} {len : Nat} (ht : Try.prog.underlying t = some (.array len e)) (he : Try.prog.underlying e = some (.int .i64)) (hn : (Try.prog.info? e).map (·.size) = some 1) (d : Nat) (w : World) (X Y : List Int) (hX : X.length = len) (hY : Y.length = len) :
    (Op.equalIn (d + 2) t (av X) (av Y)).run Try.prog w = .ok (decide (X = Y)) w :=
  run_eq_rows ht hn d w X Y (by omega) (by omega) (fun i hi => parted_int he d w X Y i (by omega) (by omega))
end Go.Proofs.Ytnfaeejeipbciaa
end

section
set_option linter.unusedVariables false
set_option linter.unusedSimpArgs false
namespace Go.Proofs.Ytnfaeejeipbciaa
open Go.RowKit

/-- nothing but block g has turned -/
structure Oth (g : Nat) (w w' : World) : Prop where
  os : w'.os = w.os
  tape : w'.tape = w.tape
  output : w'.output = w.output
  size : w'.heap.size = w.heap.size
  block : ∀ k, k ≠ g → w'.heap[k]? = w.heap[k]?

theorem Oth.refl (g : Nat) (w : World) : Oth g w w := ⟨rfl, rfl, rfl, rfl, fun _ _ => rfl⟩
theorem Oth.trans {g : Nat} {a b c : World} (h : Oth g a b) (k : Oth g b c) : Oth g a c :=
  ⟨k.os.trans h.os, k.tape.trans h.tape, k.output.trans h.output, k.size.trans h.size, fun i hi => (k.block i hi).trans (h.block i hi)⟩
theorem Oth.setCell {g p : Nat} {a w : World} (h : Oth g a w) (u : Value) : Oth g a (w.setCell ⟨g, p, none⟩ u) :=
  h.trans ⟨rfl, rfl, rfl, by simp [World.setCell], fun k hk => Below.heap_setCell _ _ _ _ hk⟩
theorem Oth.drewN {g n : Nat} {a w : World} (h : Oth g a w) : Oth g a (w.drewN n) := ⟨h.os, h.tape, h.output, h.size, h.block⟩
theorem Oth.drew {g : Nat} {a w : World} (h : Oth g a w) : Oth g a w.drew := ⟨h.os, h.tape, h.output, h.size, h.block⟩
theorem below_oth {g B : Nat} {w w1 w2 : World} (h : Below B w w1) (ho : Oth g w1 w2) (hg : B ≤ g) : Below B w w2 :=
  h.trans ⟨ho.os, ho.tape, ho.output, by rw [ho.size]; exact Nat.le_refl _, fun k hk => ho.block k (by omega)⟩

theorem Oth.block' {g k : Nat} {w w' : World} (h : Oth g w w') (hk : k ≠ g) : w'.heap[k]? = w.heap[k]? := h.block k hk
theorem Oth.cell {g : Nat} {w w' : World} (h : Oth g w w') {a : Addr} (ha : a.block ≠ g) : w'.cell? a = w.cell? a := World.cell?_of_block (h.block _ ha)
theorem Oth.frozen {g : Nat} {w w' : World} (h : Oth g w w') {a : Addr} (ha : a.block ≠ g) : w'.frozen? a = w.frozen? a := World.frozen?_of_block (h.block _ ha)
theorem Oth.below {g B : Nat} {w w' : World} (h : Oth g w w') (hg : B ≤ g) : Below B w w' := below_oth (Below.refl _ _) h hg
end Go.Proofs.Ytnfaeejeipbciaa
end

section
set_option linter.unusedVariables false
set_option linter.unusedSimpArgs false
namespace Go.Proofs.Ytnfaeejeipbciaa
open Go.RowKit BigFrame

/-- a variable of the call's own: these cells -/
def Vw (w : World) (t : TypeId) (g : Nat) (l : List Value) : Prop := w.heap[g]? = some (.cells l.toArray t (0, 0))
theorem Vw.lt {w : World} {t : TypeId} {g : Nat} {l : List Value} (h : Vw w t g l) : g < w.heap.size := (Array.getElem?_eq_some_iff.1 h).1
theorem Vw.on {w w' : World} {t : TypeId} {g B : Nat} {l : List Value} (h : Vw w t g l) (hb : Below B w w') (hg : g < B) : Vw w' t g l := by
  unfold Vw; rw [hb.block g hg]; exact h
theorem Vw.on' {w w' : World} {t : TypeId} {g : Nat} {l : List Value} (h : Vw w t g l) (hb : Below w.heap.size w w') : Vw w' t g l := h.on hb h.lt
theorem Vw.drew {w : World} {t : TypeId} {g m : Nat} {l : List Value} (h : Vw w t g l) : Vw (w.drewN m) t g l := h
theorem Vw.drew1 {w : World} {t : TypeId} {g : Nat} {l : List Value} (h : Vw w t g l) : Vw w.drew t g l := h
theorem Vw.oth {w w' : World} {t : TypeId} {g G : Nat} {l : List Value} (h : Vw w t G l) (ho : Oth g w w') (hn : ¬ G = g) : Vw w' t G l := by
  unfold Vw; rw [ho.block _ hn]; exact h
theorem Vw.grown {w w' : World} {t : TypeId} {r : Option Nat} {g : Nat} {l : List Value} (h : Vw w t g l) (hg : w.grownBy w' r) (hr : some g ≠ r) : Vw w' t g l := by
  unfold Vw; rw [hg.block g h.lt hr]; exact h
theorem Vw.cell {w : World} {t : TypeId} {g : Nat} {l : List Value} (h : Vw w t g l) {k : Nat} {v : Value} (hk : l[k]? = some v) : w.cell? ⟨g, k, none⟩ = some v := by
  rw [cell_of_row w g k _ _ _ h]
  simpa using hk
theorem Vw.frozen {w : World} {t : TypeId} {g : Nat} {l : List Value} (h : Vw w t g l) (k : Nat) : w.frozen? ⟨g, k, none⟩ = false := by
  unfold Vw at h
  simp [World.frozen?, h]
theorem Vw.range {w : World} {t : TypeId} {g : Nat} {l : List Value} (h : Vw w t g l) (o n : Nat) : w.rangeAt g o ((l.drop o).take n) := fun j v hv => by
  refine h.cell ?_
  have hj : j < ((l.drop o).take n).length := (List.getElem?_eq_some_iff.1 hv).1
  rw [List.length_take] at hj
  rw [List.getElem?_take, if_pos (by omega), List.getElem?_drop] at hv
  exact hv
theorem Vw.whole {w : World} {t : TypeId} {g : Nat} {l : List Value} (h : Vw w t g l) : w.rangeAt g 0 l := by
  have := h.range 0 l.length
  rwa [List.drop_zero, List.take_length] at this
theorem Vw.there {w : World} {t : TypeId} {g : Nat} {l : List Value} (h : Vw w t g l) {o n : Nat} (hn : o + n ≤ l.length) : w.there g o n := fun j hj => ⟨by rw [h.cell (List.getElem?_eq_getElem (show o + j < l.length by omega))]; rfl, h.frozen _⟩
theorem Vw.alloc (w : World) (l : List Value) (t : TypeId) : Vw (w.alloc (.cells l.toArray t)) t w.heap.size l := heap_alloc_new w _
theorem Vw.set {w : World} {t : TypeId} {g : Nat} {l : List Value} (h : Vw w t g l) (k : Nat) (x : Value) : Vw (w.setCell ⟨g, k, none⟩ x) t g (l.set k x) := by
  have e := setCell_eq_setRow w g k _ _ _ x h
  unfold Vw
  rw [e]
  have := setRow_heap w g _ (l.toArray.setIfInBounds k x) _ _ h
  rw [this]
  simp
theorem Vw.put {t : TypeId} {g : Nat} : ∀ (m : List Value) {w : World} {l : List Value} (o : Nat), Vw w t g l → o + m.length ≤ l.length → Vw (w.setCells g o m) t g (splice l o m)
  | [], w, l, o, h, _ => by
    have e : splice l o [] = l := by simp [splice]
    rw [e]; exact h
  | x :: m, w, l, o, h, hm => by
    have hlt : o < l.length := by simp at hm; omega
    have h1 := Vw.put m (o + 1) (h.set o x) (by rw [List.length_set]; simp at hm; omega)
    rw [splice_cons _ _ _ _ hlt] at h1
    exact h1
theorem Vw.over {w : World} {t : TypeId} {g : Nat} {l m : List Value} (h : Vw w t g l) (hm : m.length = l.length) : Vw (w.setCells g 0 m) t g m := by
  have := Vw.put m 0 h (by omega)
  have e : splice l 0 m = m := by simp [splice, hm]
  rwa [e] at this

theorem run_ldW {w : World} {g o : Nat} {l : List Value} {t : TypeId} (n : Nat) (d : TypeDesc) (hr : w.rangeAt g o l) (hl : l.length = n) (hu : Try.prog.underlying t = some d) (hd : d.isRow = true) (hi : (Try.prog.info? t).map (·.size) = some n) :
    (ldA t (.pointer (some ⟨g, o, none⟩))).run Try.prog w = .ok (.agg l.toArray) w :=
  run_loadAt_mid w g o t l d hr hu hd (by rw [hi, hl])
theorem run_stW {w : World} {g o : Nat} {m : List Value} {t : TypeId} (n : Nat) (hm : m.length = n) (h1 : m.toArray.all (·.oneCell') = true) (ht : w.there g o n) (hi : (Try.prog.info? t).map (·.size) = some n) :
    (stA t (.pointer (some ⟨g, o, none⟩)) (.agg m.toArray)).run Try.prog w = .ok () (w.setCells g o m) := by
  have h := run_storeAt_mid (P := Try.prog) w g o t m.toArray (by simpa [hm] using ht) (by rw [hi]; simp [hm]) h1
  exact h
theorem run_partW_row {t : TypeId} {d : TypeDesc} {n : Nat} (ht : Try.prog.underlying t = some d) (hd : d.isRow = true) (hn : (Try.prog.info? t).map (·.size) = some n) (w : World) (X : List Value) (o : Nat) :
    (part t X.toArray o).run Try.prog w = .ok (.agg ((X.drop o).take n).toArray) w := by
  have hagg : (isAgg t).run Try.prog w = .ok true w := by
    unfold isAgg
    rw [Sem.run_bind, run_underlying ht w]
    cases d <;> simp_all
  have hs : (sizeOf t).run Try.prog w = .ok n w := by
    cases hq : Try.prog.info? t with
    | none => simp [hq] at hn
    | some i => simp [hq] at hn; simp [sizeOf, typeInfo, hq, hn]
  unfold part
  simp [Sem.run_bind, hagg, hs]
theorem run_partW {t : TypeId} {d : TypeDesc} (ht : Try.prog.underlying t = some d) (hd : d.isRow = false) (w : World) (X : List Value) (i : Nat) {v : Value} (hv : X[i]? = some v) : (part t X.toArray i).run Try.prog w = .ok v w := by
  have hagg : (isAgg t).run Try.prog w = .ok false w := by
    unfold isAgg
    rw [Sem.run_bind, run_underlying ht w]
    cases d <;> simp_all [TypeDesc.isRow]
  have h : X.toArray[i]? = some v := by simpa using hv
  unfold part
  simp [Sem.run_bind, hagg, h]
/-- an element of an array of rows -/
theorem run_ixW_row {t e : TypeId} {d : TypeDesc} {n len : Nat} (ht : Try.prog.underlying t = some (.array len e)) (he : Try.prog.underlying e = some d) (hd : d.isRow = true) (hn : (Try.prog.info? e).map (·.size) = some n) (w : World) (X : List Value) (k : Nat) (hk : k < len) :
    (ixA t (.agg X.toArray) (.int .i64 (k : Int))).run Try.prog w = .ok (.agg ((X.drop (k * n)).take n).toArray) w := by
  have hs : (sizeOf e).run Try.prog w = .ok n w := by
    cases hq : Try.prog.info? e with
    | none => simp [hq] at hn
    | some i => simp [hq] at hn; simp [sizeOf, typeInfo, hq, hn]
  have h0 : (0 : Int) ≤ (k : Int) ∧ (k : Int) < (len : Int) := by omega
  have hp := run_partW_row he hd hn w X (k * n)
  unfold ixA Instr.index
  simp [Sem.run_bind, asIntOf, run_underlying ht, h0, hs, hk]
  exact hp
/-- a struct, field by field -/
theorem eqFieldsW {d : Nat} {w : World} {X Y : List Value} {f : Field} {fs : List Field} {td : TypeDesc} {a b : Value} {r : Bool} (hn : f.name ≠ "_") (he : Try.prog.underlying f.type = some td) (hd : td.isRow = false) (hX : X[f.offset]? = some a) (hY : Y[f.offset]? = some b)
    (hc : (Op.equalIn d f.type a b).run Try.prog w = .ok r w) :
    (Op.eqFields d X.toArray Y.toArray (f :: fs)).run Try.prog w = if r = true then (Op.eqFields d X.toArray Y.toArray fs).run Try.prog w else .ok false w := by
  rw [Op.eqFields, if_pos hn]
  simp only [Sem.run_bind, run_partW he hd w X _ hX, run_partW he hd w Y _ hY, Result.andThen_ok, hc]
  cases r <;> simp
/-- an array of rows: the comparison of the i-th parts goes on just if r i -/
def PartedW (e : TypeId) (d n : Nat) (w : World) (X Y : List Value) (r : Nat → Bool) (i : Nat) : Prop := ∀ {R : Type} (yes no : Sem R), Sem.run Try.prog (do
      let a ← part e X.toArray (i * n)
      let b ← part e Y.toArray (i * n)
      let r ← Op.equalIn (d + 1) e a b
      if (!r) = true then no else yes) w = if r i = true then yes.run Try.prog w else no.run Try.prog w
theorem run_eqW_loop {d n len : Nat} {e : TypeId} (w : World) (X Y : List Value) (r : Nat → Bool) (hb : ∀ i, i < len → PartedW e d n w X Y r i) : ∀ (m i : Nat), i + m = len →
    ∃ b : Option Bool, Sem.run Try.prog (forIn (List.range' i m 1) ((none, ()) : Option Bool × Unit) fun i _ => do
      let a ← part e X.toArray (i * n)
      let b ← part e Y.toArray (i * n)
      let r ← Op.equalIn (d + 1) e a b
      if (!r) = true then pure (ForInStep.done (some false, ())) else pure (ForInStep.yield (none, ()))) w = .ok (b, ()) w ∧
      ((b = none ∧ ∀ j, i ≤ j → j < len → r j = true) ∨ (b = some false ∧ ¬ ∀ j, i ≤ j → j < len → r j = true))
  | 0, i, hi => ⟨none, by simp [List.range'], .inl ⟨rfl, fun j h1 h2 => by omega⟩⟩
  | m + 1, i, hi => by
    rw [List.range'_succ, List.forIn_cons, Sem.run_bind, hb i (by omega)]
    by_cases h : r i = true
    · rw [if_pos h]
      simp only [Sem.run_pure, Result.andThen_ok]
      obtain ⟨b, h1, h2⟩ := run_eqW_loop w X Y r hb m (i + 1) (by omega)
      refine ⟨b, h1, ?_⟩
      rcases h2 with ⟨rfl, h2⟩ | ⟨rfl, h2⟩
      · refine .inl ⟨rfl, fun j h3 h4 => ?_⟩
        by_cases e : j = i
        · subst e; exact h
        · exact h2 j (by omega) h4
      · exact .inr ⟨rfl, fun h3 => h2 fun j h4 h5 => h3 j (by omega) h5⟩
    · rw [if_neg h]
      exact ⟨some false, by simp, .inr ⟨rfl, fun h3 => h (h3 i (Nat.le_refl _) (by omega))⟩⟩
theorem run_eqW_rows {t e : TypeId} {len n : Nat} (ht : Try.prog.underlying t = some (.array len e)) (hn : (Try.prog.info? e).map (·.size) = some n) (d : Nat) (w : World) (X Y : List Value) (r : Nat → Bool) (q : Bool)
    (hr : q = true ↔ ∀ j, j < len → r j = true)
    (hb : ∀ i, i < len → PartedW e d n w X Y r i) : (Op.equalIn (d + 2) t (.agg X.toArray) (.agg Y.toArray)).run Try.prog w = .ok q w := by
  have hs : (sizeOf e).run Try.prog w = .ok n w := by
    cases hq : Try.prog.info? e with
    | none => simp [hq] at hn
    | some i => simp [hq] at hn; simp [sizeOf, typeInfo, hq, hn]
  rw [Op.equalIn]
  simp only [Sem.run_bind, run_underlying ht, Result.andThen_ok, hs]
  rw [Std.Legacy.Range.forIn_eq_forIn_range']
  obtain ⟨b, h1, h2⟩ := run_eqW_loop w X Y r hb len 0 (by omega)
  have e : (List.range' [:len].start [:len].size [:len].step) = List.range' 0 len 1 := by simp [Std.Legacy.Range.size]
  rw [e, h1]
  rcases h2 with ⟨rfl, h2⟩ | ⟨rfl, h2⟩
  · have : q = true := hr.2 fun j hj => h2 j (Nat.zero_le _) hj
    simp [this]
  · have : q = false := by
      cases hq : q
      · rfl
      · exact absurd (fun j _ h => hr.1 hq j h) h2
    simp [this]
theorem partedW_row {e : TypeId} {td : TypeDesc} {n d : Nat} (he : Try.prog.underlying e = some td) (hd : td.isRow = true) (hn : (Try.prog.info? e).map (·.size) = some n) (w : World) (X Y : List Value) (r : Nat → Bool) (i : Nat)
    (h : (Op.equalIn (d + 1) e (.agg ((X.drop (i * n)).take n).toArray) (.agg ((Y.drop (i * n)).take n).toArray)).run Try.prog w = .ok (r i) w) : PartedW e d n w X Y r i := by
  intro R yes no
  simp only [Sem.run_bind, run_partW_row he hd hn, Result.andThen_ok]
  rw [h]
  cases r i <;> simp
end Go.Proofs.Ytnfaeejeipbciaa
end
