/-
  Bytes that grow by append: onto a slice of the call's own; so many zeros.
  Bytes of one's own that are but read, wherever they come from (a string's too).
  A node in memory: its cells, its bytes, its entries.
  Bytes in a slice of the call's own: cell by cell, written, handed on.
-/
import Derived.Test.YtgcodlicbdaddaaGreatDoorB1
import Derived.Laws.AppendOwnNone
import Derived.Test.YtgcodlicbdaddaaGreatDoorB6
import Derived.Test.YtgcodlicbdaddaaGreatDoorB7
import Derived.Test.YtgcodlicbdaddaaGreatDoorB3
import Derived.Test.YtgcodlicbdaddaaGreatDoorB4

section
set_option linter.unusedVariables false
set_option linter.unusedSimpArgs false
namespace Go.Proofs.YtgcodlicbdaddaaGreatDoor
open Go.RowKit

/-- v is a slice of the call's own, from block base on, that holds these bytes -/
def OwnB (w : World) (base : Nat) (v : Value) (l : List Nat) : Prop := w.ownsRow base 5 1 v l.length (bv l)
theorem OwnB.form {w : World} {base : Nat} {v : Value} {l : List Nat} (h : OwnB w base v l) (h0 : 0 < l.length) :
    ∃ g cap, v = .slice (some ⟨g, 0, none⟩) l.length cap ∧ l.length ≤ cap ∧ base ≤ g ∧ g < w.heap.size ∧ BAt w (some ⟨g, 0, none⟩) l := by
  have hc := fun g hg => World.ownsRow.cells h (g := g) hg
  rcases h.2 with ⟨_, e⟩ | ⟨g, cap, cur, rfl, hb, hh, hn, _, _, _⟩
  · omega
  · refine ⟨g, cap, rfl, hn, hb, (Array.getElem?_eq_some_iff.1 hh).1, .inr ⟨g, 0, rfl, fun k hk => ?_⟩⟩
    have := hc g rfl k _ (bv_get hk)
    rwa [addr_add] at this
theorem OwnB.on {w w' : World} {base B : Nat} {v : Value} {l : List Nat} (h : OwnB w base v l) (hb : Below B w w') (hB : w.heap.size ≤ B) : OwnB w' base v l :=
  World.ownsRow.kept h (row := none) ⟨hb.os, hb.tape, hb.output, hb.size, fun k hk _ => hb.block k (by omega)⟩ (by cases v.ownBlock with
    | none => exact .inl rfl
    | some k => exact .inr (fun h => by cases h))
theorem OwnB.nil (w : World) (base : Nat) : OwnB w base (.slice none 0 0) [] := World.ownsRow_nil _ _ _ _
theorem OwnB.grown {w w' : World} {base : Nat} {v : Value} {l : List Nat} (h : OwnB w base v l) (hg : w.grownBy w' v.ownBlock) (hb : base ≤ w.heap.size) : Below base w w' :=
  (Below.refl _ _).grown hg hb (fun k hk => (World.ownsRow.lt h k hk).1)
/-- a new block that holds these bytes, as a slice of the call's own -/
theorem OwnB.made (w : World) (l : List Nat) (base : Nat) (hb : base ≤ w.heap.size) (hl : l.length ≤ 1000000) : OwnB (w.alloc (.cells (bv l).toArray 5)) base (.slice (some ⟨w.heap.size, 0, none⟩) l.length l.length) l := by
  refine ⟨by rw [bv_length, Nat.mul_one], .inr ⟨w.heap.size, l.length, _, rfl, hb, heap_alloc_new w _, Nat.le_refl _, by unfold maxLen; omega, by simp [bv_length], ?_⟩⟩
  rw [Nat.mul_one, List.take_of_length_le (by simp [bv_length])]
theorem OwnB.len {w : World} {base : Nat} {v : Value} {l : List Nat} (h : OwnB w base v l) (h0 : l.length = 0) : ∃ a cap, v = .slice a 0 cap ∧ (a = none → cap = 0) := by
  rcases h.2 with ⟨rfl, e⟩ | ⟨g, cap, cur, rfl, _⟩
  · exact ⟨none, 0, rfl, fun _ => rfl⟩
  · rw [h0]; exact ⟨_, _, rfl, fun h => by cases h⟩

theorem wpList_append_bytes {w : World} {ops : Array Oper} {rest : List Oper} {o : Oper} {a : Act} {Q : Exit → Act → World → Prop} (hgd : o.guard = none) (s x : Operand)
    (ho : o.op = .call { callee := .builtin .append, args := #[s, x], argTypes := #[31, 31] })
    (base : Nat) (v : Value) (L : List Nat) (hs : a.eval s = v) (hown : OwnB w base v L) (sp : Option Addr) (n sCap : Nat) (m : List Nat) (hx : a.eval x = .slice sp n sCap) (hm : m.length = n) (hsrc : BAt w sp m) (hnil : sp = none → sCap = 0)
    (hlen : L.length + n ≤ 1000000) (hbase : base ≤ w.heap.size)
    (h : ∀ v' w', Hid (OwnB w' base v' (L ++ m)) → w.grownBy w' v.ownBlock → Below base w w' → wpList Tryz.prog ops Q rest (a.put o.dst v') w') : wpList Tryz.prog ops Q (o :: rest) a w := by
  subst hm
  obtain ⟨i, hi, hz0, hz1, hz2⟩ := info_parts Tryz.infoB
  cases sp with
  | none =>
    obtain rfl := hnil rfl
    have hm : m = [] := by
      rcases hsrc with h | ⟨b, off, e, _⟩
      · exact List.eq_nil_of_length_eq_zero h
      · cases e
    subst hm
    refine wpList_append_own_none hgd s x _ ho base 5 i 1 Tryz.underlying31 hi v L.length (bv L) hs hown hx (h _ _ ?_ (World.grownBy.refl _ _) (Below.refl _ _))
    show OwnB w base v (L ++ [])
    rw [List.append_nil]; exact hown
  | some ad =>
    refine wpList_append_own w hgd s x _ ho base 5 i (.int .u8 0) 1 1 Tryz.underlying31 hi hz0 hz1 hz2 rfl (by decide) v L.length (bv L) hs hown ad m.length sCap (bv m) hx (by rw [bv_length, Nat.mul_one]) ?_ (bv_one m) (by unfold maxLen; omega) (by omega) hbase ?_
    · intro j u hu
      obtain ⟨hj, rfl⟩ := bv_at hu
      obtain ⟨b, off, e⟩ := hsrc.addr (by omega)
      obtain rfl := Option.some.inj e
      rw [addr_add]; exact hsrc.cell hj
    · intro v' w' hv hg _
      refine h v' w' ?_ hg (hown.grown hg hbase)
      show OwnB w' base v' (L ++ m)
      unfold OwnB
      rw [List.length_append, bv_append]; exact hv

theorem zeroCells_bytes (n : Nat) : Builtin.zeroCells (Value.int .u8 0).cells n = (bv (zs n)).toArray := by
  apply Array.ext
  · simp [Builtin.zeroCells, bv, zs, Value.cells]
  · intro k h1 h2
    simp [Builtin.zeroCells, bv, zs, Value.cells, Nat.mod_one]

theorem take_front (X Y : List Value) : (X ++ Y).toArray.toList.take (X.length * 1) = X := by simp
theorem take_front2 (X Y : List Value) (Z : Array Value) : (X.toArray ++ Y.toArray ++ Z).toList.take ((X ++ Y).length * 1) = X ++ Y := by
  simp [List.take_append]
  exact List.take_of_length_le (by omega)

theorem run_append_zeros_new {w : World} (base g n cap k : Nat) (L : List Nat) (ty : TypeId) (hown : OwnB w base (.slice (some ⟨g, 0, none⟩) n cap) L) (hn : L.length = n) (hlen : n + k ≤ 1000000) (hbase : base ≤ w.heap.size) :
    ∃ v' w', (Builtin.append_ #[31, 3] ty #[.slice (some ⟨g, 0, none⟩) n cap, .int .i64 (k : Int)]).run Tryz.prog w = .ok v' w' ∧ OwnB w' base v' (L ++ zs k) ∧ w.grownBy w' (some g) ∧ ∀ j, v'.ownBlock = some j → some g = some j ∨ w.heap.size ≤ j := by
  obtain ⟨i, hi, hz0, hz1, hz2⟩ := info_parts Tryz.infoB
  subst hn
  have hcells := fun j u hu => World.ownsRow.cells hown (g := g) rfl j u hu
  have hlen2 : (bv (L ++ zs k)).length = (L ++ zs k).length * 1 := by rw [bv_length, Nat.mul_one]
  have hw : IntKind.i64.wrap (k : Int) = (k : Int) := by rw [IntKind.wrap_i64]; omega
  have hneg : ¬ (k : Int) < 0 := by omega
  have hbig : ¬ (281474976710656 : Int) < (k : Int) * (i.bytes : Int) := by rw [hz2]; omega
  have hap : (if k = 0 then #[] else Builtin.zeroCells (Value.int .u8 0).cells k) = (bv (zs k)).toArray := by
    rw [← zeroCells_bytes]
    split
    · rename_i h; subst h; simp [Builtin.zeroCells]
    · rfl
  rcases hown.2 with ⟨e, _⟩ | ⟨g', cap', cur, e, hbg, hg, hnc, hcm, hcs, htake⟩
  · cases e
  · simp only [Value.slice.injEq, Option.some.injEq, Addr.mk.injEq, and_true] at e
    obtain ⟨rfl, -, rfl⟩ := e
    by_cases hroom : L.length + k ≤ cap
    · have hst := run_storeCells_at Tryz.prog g L.length 5 (bv (zs k)) 0 cur w hg (by rw [bv_length, zs_length, hcs]; omega) (bv_one _)
      simp only [Nat.add_zero] at hst
      have e1 : cur.toList.take L.length = bv L := by rw [← htake, Nat.mul_one]
      rw [e1, bv_length, zs_length] at hst
      refine ⟨.slice (some ⟨g, 0, none⟩) (L.length + k) cap, w.setRow g (bv L ++ bv (zs k) ++ cur.toList.drop (L.length + k)).toArray, ?_, ⟨hlen2, .inr ⟨g, cap, (bv L ++ bv (zs k) ++ cur.toList.drop (L.length + k)).toArray, by rw [List.length_append, zs_length], hbg, setRow_heap w g cur _ _ _ hg, by rw [List.length_append, zs_length]; exact hroom, hcm, ?_, ?_⟩⟩, ⟨rfl, rfl, rfl, by simp, fun j _ hj => setRow_other w g j _ (fun e => hj (by rw [e]))⟩, fun j h => .inl h⟩
      · by_cases h0 : k = 0
        · subst h0
          have e3 : w.setRow g (bv L ++ bv (zs 0) ++ cur.toList.drop (L.length + 0)).toArray = w := by
            rw [← e1]
            simp [bv, zs, setRow_self w g cur _ _ hg]
          rw [e3]
          simp [Builtin.append_, run_underlying Tryz.underlying31, run_underlying Tryz.underlying3, sizeOf, typeInfo, hi, asInt, asIntOf, IntKind.wrap_i64, hnc, storeCells]
        · simp [Builtin.append_, run_underlying Tryz.underlying31, run_underlying Tryz.underlying3, sizeOf, typeInfo, hi, hz0, hz1, zeroValue, asInt, asIntOf, hw, hneg, hbig, hroom, h0, zeroCells_bytes, Addr.add_lit, hst]
      · simp only [List.size_toArray, List.length_append, List.length_drop, bv_length, zs_length, Array.length_toList]
        omega
      · rw [← bv_length (L ++ zs k), bv_append]
        exact take_front _ _
    · have hk0 : k ≠ 0 := by omega
      have hfo := run_firstCells_some (P := Tryz.prog) w.drew i.size L.length ⟨g, 0, none⟩ L.length cap (bv L) (by rw [bv_length, hz1, Nat.mul_one]) (by simpa using hcells)
      rw [hz1] at hfo
      have h48 : ¬ (281474976710656 < Builtin.nextslicecap (L.length + k) cap * i.bytes) := by
        have := nextslicecap_le (show cap < L.length + k by omega)
        rw [hz2]; omega
      have h63 : ¬ (9223372036854775807 < ((L.length : Int) + (k : Int))) := by omega
      have hge := grownCap_ge w (L.length + k) cap 5
      have hcm2 := grownCap_le_maxLen w (L.length + k) cap 5 (by unfold maxLen; omega)
      refine ⟨.slice (some ⟨w.heap.size, 0, none⟩) (L.length + k) (grownCap w (L.length + k) cap 5), w.drew.alloc (.cells ((bv L).toArray ++ (bv (zs k)).toArray ++ Builtin.zeroCells (Value.int .u8 0).cells (grownCap w (L.length + k) cap 5 - (L.length + k))) 5), ?_, ⟨hlen2, .inr ⟨w.heap.size, _, _, by rw [List.length_append, zs_length], hbase, heap_alloc_new w.drew _, by rw [List.length_append, zs_length]; exact hge, hcm2, ?_, ?_⟩⟩, ⟨rfl, rfl, rfl, by simp, fun j hj _ => heap_alloc_old w.drew _ hj⟩, fun j h => .inr (Nat.le_of_eq (Option.some.inj h))⟩
      · simp [Builtin.append_, run_underlying Tryz.underlying31, run_underlying Tryz.underlying3, sizeOf, typeInfo, hi, hz0, hz1, zeroValue, asInt, asIntOf, hw, hneg, hbig, hroom, hk0, h63, h48, Question.forced, hfo, newRow, grownCap, zeroCells_bytes]
      · simp only [Array.size_append, List.size_toArray, size_zeroCells, bv_length, zs_length, Value.cells]
        simp; omega
      · rw [← bv_length (L ++ zs k), bv_append]
        exact take_front2 _ _ _

theorem run_append_zeros {w : World} (base g n cap k : Nat) (L : List Nat) (ty : TypeId) (hown : OwnB w base (.slice (some ⟨g, 0, none⟩) n cap) L) (hn : L.length = n) (hlen : n + k ≤ 1000000) (hbase : base ≤ w.heap.size) :
    ∃ v' w', (Builtin.append_ #[31, 3] ty #[.slice (some ⟨g, 0, none⟩) n cap, .int .i64 (k : Int)]).run Tryz.prog w = .ok v' w' ∧ OwnB w' base v' (L ++ zs k) ∧ w.grownBy w' (some g) := by
  obtain ⟨v', w', h1, h2, h3, _⟩ := run_append_zeros_new base g n cap k L ty hown hn hlen hbase
  exact ⟨v', w', h1, h2, h3⟩
theorem run_append_zeros_nil_new {w : World} (base k : Nat) (ty : TypeId) (hlen : k ≤ 1000000) (hbase : base ≤ w.heap.size) :
    ∃ v' w', (Builtin.append_ #[31, 3] ty #[.slice none 0 0, .int .i64 (k : Int)]).run Tryz.prog w = .ok v' w' ∧ OwnB w' base v' (zs k) ∧ w.grownBy w' none ∧ ∀ j, v'.ownBlock = some j → w.heap.size ≤ j := by
  obtain ⟨i, hi, hz0, hz1, hz2⟩ := info_parts Tryz.infoB
  have hw : IntKind.i64.wrap (k : Int) = (k : Int) := by rw [IntKind.wrap_i64]; omega
  have hneg : ¬ (k : Int) < 0 := by omega
  have hbig : ¬ (281474976710656 : Int) < (k : Int) * (i.bytes : Int) := by rw [hz2]; omega
  by_cases h0 : k = 0
  · subst h0
    refine ⟨.slice none 0 0, w, ?_, OwnB.nil _ _, World.grownBy.refl _ _, fun j h => by cases h⟩
    simp [Builtin.append_, run_underlying Tryz.underlying31, run_underlying Tryz.underlying3, sizeOf, typeInfo, hi, asInt, asIntOf, IntKind.wrap_i64]
  · have h48 : ¬ (281474976710656 < Builtin.nextslicecap k 0 * i.bytes) := by
      rw [nextslicecap_zero (by omega), hz2]; omega
    have h63 : ¬ (9223372036854775807 < (k : Int)) := by omega
    have hge := grownCap_ge w k 0 5
    have hcm2 := grownCap_le_maxLen w k 0 5 (by unfold maxLen; omega)
    refine ⟨.slice (some ⟨w.heap.size, 0, none⟩) k (grownCap w k 0 5), w.drew.alloc (.cells ((bv (zs k)).toArray ++ Builtin.zeroCells (Value.int .u8 0).cells (grownCap w k 0 5 - k)) 5), ?_, ⟨by rw [bv_length, Nat.mul_one], .inr ⟨w.heap.size, _, _, by rw [zs_length], hbase, heap_alloc_new w.drew _, by rw [zs_length]; exact hge, hcm2, ?_, ?_⟩⟩, ⟨rfl, rfl, rfl, by simp, fun j hj _ => heap_alloc_old w.drew _ hj⟩, fun j h => Nat.le_of_eq (Option.some.inj h)⟩
    · simp [Builtin.append_, run_underlying Tryz.underlying31, run_underlying Tryz.underlying3, sizeOf, typeInfo, hi, hz0, hz1, zeroValue, asInt, asIntOf, hw, hneg, hbig, h0, h63, h48, Question.forced, run_firstCells_none, newRow, grownCap, zeroCells_bytes]
    · simp only [Array.size_append, List.size_toArray, size_zeroCells, bv_length, zs_length, Value.cells]
      simp; omega
    · rw [← bv_length (zs k)]
      simp
theorem run_append_zeros_nil {w : World} (base k : Nat) (ty : TypeId) (hlen : k ≤ 1000000) (hbase : base ≤ w.heap.size) :
    ∃ v' w', (Builtin.append_ #[31, 3] ty #[.slice none 0 0, .int .i64 (k : Int)]).run Tryz.prog w = .ok v' w' ∧ OwnB w' base v' (zs k) ∧ w.grownBy w' none := by
  obtain ⟨v', w', h1, h2, h3, _⟩ := run_append_zeros_nil_new (w := w) base k ty hlen hbase
  exact ⟨v', w', h1, h2, h3⟩

theorem wpList_append_zeros_any {w : World} {ops : Array Oper} {rest : List Oper} {o : Oper} {a : Act} {Q : Exit → Act → World → Prop} (hgd : o.guard = none) (s x : Operand)
    (ho : o.op = .call { callee := .builtin .append, args := #[s, x], argTypes := #[31, 3] })
    (base k : Nat) (v : Value) (L : List Nat) (hs : a.eval s = v) (hown : OwnB w base v L) (hx : a.eval x = .int .i64 (k : Int))
    (hlen : L.length + k ≤ 1000000) (hbase : base ≤ w.heap.size)
    (h : ∀ v' w', Hid (OwnB w' base v' (L ++ zs k)) → w.grownBy w' v.ownBlock → Below base w w' → wpList Tryz.prog ops Q rest (a.put o.dst v') w') : wpList Tryz.prog ops Q (o :: rest) a w := by
  have key : ∃ v' w', (Builtin.append_ #[31, 3] o.type #[v, .int .i64 (k : Int)]).run Tryz.prog w = .ok v' w' ∧ OwnB w' base v' (L ++ zs k) ∧ w.grownBy w' v.ownBlock := by
    have hown2 := hown
    rcases hown2.2 with ⟨rfl, e⟩ | ⟨g, cap, cur, rfl, _⟩
    · obtain rfl : L = [] := List.eq_nil_of_length_eq_zero e
      exact run_append_zeros_nil base k o.type (by simpa using hlen) hbase
    · exact run_append_zeros base g L.length cap k L o.type hown rfl hlen hbase
  refine wpList_plain hgd fun K hK => ?_
  obtain ⟨v', w', hr, h1, h2⟩ := key
  unfold Oper.wp
  simp [execOp, ho, resolve, invoke, builtin, hs, hx, hr, Result.andThen]
  exact hK _ _ (h v' w' h1 h2 (hown.grown h2 hbase))

/-- as a slice value with its bytes -/
theorem OwnB.slice {w : World} {base : Nat} {v : Value} {l : List Nat} (h : OwnB w base v l) : ∃ a cap, v = .slice a l.length cap ∧ BAt w a l ∧ (a = none → cap = 0) ∧ l.length ≤ cap := by
  by_cases h0 : 0 < l.length
  · obtain ⟨g, cap, rfl, hc, _, _, hb⟩ := h.form h0
    exact ⟨_, cap, rfl, hb, (fun h => by cases h), hc⟩
  · have e : l.length = 0 := by omega
    obtain ⟨a, cap, rfl, hn⟩ := h.len e
    exact ⟨a, cap, by rw [e], .inl e, hn, by omega⟩

theorem wpList_append_zeros {w : World} {ops : Array Oper} {rest : List Oper} {o : Oper} {a : Act} {Q : Exit → Act → World → Prop} (hgd : o.guard = none) (s x : Operand)
    (ho : o.op = .call { callee := .builtin .append, args := #[s, x], argTypes := #[31, 3] })
    (base g n cap k : Nat) (L : List Nat) (hs : a.eval s = .slice (some ⟨g, 0, none⟩) n cap) (hown : OwnB w base (.slice (some ⟨g, 0, none⟩) n cap) L) (hn : L.length = n) (hx : a.eval x = .int .i64 (k : Int))
    (hlen : n + k ≤ 1000000) (hbase : base ≤ w.heap.size)
    (h : ∀ v' w', Hid (OwnB w' base v' (L ++ zs k)) → w.grownBy w' (some g) → Below base w w' → wpList Tryz.prog ops Q rest (a.put o.dst v') w') : wpList Tryz.prog ops Q (o :: rest) a w := by
  refine wpList_plain hgd fun K hK => ?_
  obtain ⟨v', w', hr, h1, h2⟩ := run_append_zeros base g n cap k L o.type hown hn hlen hbase
  unfold Oper.wp
  simp [execOp, ho, resolve, invoke, builtin, hs, hx, hr, Result.andThen]
  exact hK _ _ (h v' w' h1 h2 (hown.grown h2 hbase))
end Go.Proofs.YtgcodlicbdaddaaGreatDoor
end

section
set_option linter.unusedVariables false
set_option linter.unusedSimpArgs false
namespace Go.Proofs.YtgcodlicbdaddaaGreatDoor
open Go.RowKit BigFrame

/-- bytes in a block of one's own, to be read -/
def RdB (w : World) (B : Nat) (v : Value) (l : List Nat) : Prop :=
  (v = .slice none 0 0 ∧ l.length = 0) ∨ ∃ g cap, v = .slice (some ⟨g, 0, none⟩) l.length cap ∧ l.length ≤ cap ∧ B ≤ g ∧ g < w.heap.size ∧ BAt w (some ⟨g, 0, none⟩) l
theorem BAt.same {w w' : World} {g : Nat} {l : List Nat} (h : BAt w (some ⟨g, 0, none⟩) l) (e : w'.heap[g]? = w.heap[g]?) : BAt w' (some ⟨g, 0, none⟩) l := by
  rcases h with h | ⟨b, off, eb, hx⟩
  · exact .inl h
  · obtain ⟨rfl, rfl⟩ : g = b ∧ 0 = off := by simpa using eb
    exact .inr ⟨g, 0, rfl, fun k hk => by rw [World.cell?_of_block (w := w) (w' := w') (a := ⟨g, 0 + k, none⟩) e]; exact hx k hk⟩
theorem OwnB.rd {w : World} {B : Nat} {v : Value} {l : List Nat} (h : OwnB w B v l) : RdB w B v l := by
  have h' := h
  rcases h.2 with ⟨rfl, e⟩ | ⟨g, cap, cur, rfl, hb, hg, hnc, _, _, _⟩
  · exact .inl ⟨rfl, e⟩
  · obtain ⟨p, cap2, e, hbat, _, _⟩ := h'.slice
    simp only [Value.slice.injEq] at e
    obtain ⟨rfl, _, rfl⟩ := e
    exact .inr ⟨g, cap, rfl, hnc, hb, (Array.getElem?_eq_some_iff.1 hg).1, hbat⟩
theorem RdB.slice {w : World} {B : Nat} {v : Value} {l : List Nat} (h : RdB w B v l) : ∃ a cap, v = .slice a l.length cap ∧ BAt w a l ∧ (a = none → cap = 0) ∧ l.length ≤ cap := by
  rcases h with ⟨rfl, e⟩ | ⟨g, cap, rfl, hc, _, _, hb⟩
  · exact ⟨none, 0, by rw [e], .inl e, fun _ => rfl, by omega⟩
  · exact ⟨_, cap, rfl, hb, (fun h => by cases h), hc⟩
theorem RdB.form {w : World} {B : Nat} {v : Value} {l : List Nat} (h : RdB w B v l) (h0 : 0 < l.length) : ∃ g cap, v = .slice (some ⟨g, 0, none⟩) l.length cap ∧ l.length ≤ cap ∧ B ≤ g ∧ g < w.heap.size ∧ BAt w (some ⟨g, 0, none⟩) l := by
  rcases h with ⟨_, e⟩ | h
  · omega
  · exact h
theorem RdB.hi {w : World} {B : Nat} {v : Value} {l : List Nat} (h : RdB w B v l) {g : Nat} (e : v.ownBlock = some g) : B ≤ g ∧ g < w.heap.size := by
  rcases h with ⟨rfl, _⟩ | ⟨g', cap, rfl, _, h1, h2, _⟩
  · cases e
  · obtain rfl : g' = g := Option.some.inj e
    exact ⟨h1, h2⟩
theorem RdB.blk {w w' : World} {B : Nat} {v : Value} {l : List Nat} (h : RdB w B v l) (e : ∀ g, v.ownBlock = some g → w'.heap[g]? = w.heap[g]?) : RdB w' B v l := by
  rcases h with h | ⟨g, cap, rfl, h1, h2, h3, h4⟩
  · exact .inl h
  · have e1 := e g rfl
    refine .inr ⟨g, cap, rfl, h1, h2, ?_, h4.same e1⟩
    have h5 := Array.getElem?_eq_getElem h3
    rw [← e1] at h5
    exact (Array.getElem?_eq_some_iff.1 h5).1
theorem RdB.lower {w : World} {B B' : Nat} {v : Value} {l : List Nat} (h : RdB w B v l) (hb : B' ≤ B) : RdB w B' v l := by
  rcases h with h | ⟨g, cap, e, h1, h2, h3, h4⟩
  · exact .inl h
  · exact .inr ⟨g, cap, e, h1, Nat.le_trans hb h2, h3, h4⟩
end Go.Proofs.YtgcodlicbdaddaaGreatDoor
end

section
set_option linter.unusedVariables false
set_option linter.unusedSimpArgs false
namespace Go.Proofs.YtgcodlicbdaddaaGreatDoor
open Go.RowKit BigFrame

/-! ### Bytes of one's own -/
theorem OwnB.blk {w w' : World} {base : Nat} {v : Value} {l : List Nat} (h : OwnB w base v l) (e : ∀ g, v.ownBlock = some g → w'.heap[g]? = w.heap[g]?) : OwnB w' base v l := by
  obtain ⟨h1, h2⟩ := h
  refine ⟨h1, ?_⟩
  rcases h2 with ⟨rfl, h0⟩ | ⟨g, cap, cur, rfl, hb, hg, hr⟩
  · exact .inl ⟨rfl, h0⟩
  · exact .inr ⟨g, cap, cur, rfl, hb, (e g rfl).trans hg, hr⟩
theorem OwnB.hi {w : World} {base : Nat} {v : Value} {l : List Nat} (h : OwnB w base v l) {g : Nat} (e : v.ownBlock = some g) : base ≤ g ∧ g < w.heap.size := by
  rcases h.2 with ⟨rfl, _⟩ | ⟨g', cap, cur, rfl, hb, hg, _⟩
  · cases e
  · obtain rfl : g' = g := Option.some.inj e
    exact ⟨hb, (Array.getElem?_eq_some_iff.1 hg).1⟩
/-- cut -/
theorem OwnB.cut {w : World} {base : Nat} {v : Value} {l : List Nat} (h : OwnB w base v l) {a : Option Addr} {n cap : Nat} (e : v = .slice a n cap) {k : Nat} (hk : k ≤ l.length) : OwnB w base (.slice a k cap) (l.take k) := by
  subst e
  have hl : (l.take k).length = k := by rw [List.length_take]; omega
  refine ⟨by rw [bv_length, Nat.mul_one], ?_⟩
  rcases h.2 with ⟨e, h0⟩ | ⟨g, cap', cur, e, hb, hg, hnc, hcm, hcs, ht⟩
  · simp only [Value.slice.injEq] at e
    obtain ⟨rfl, rfl, rfl⟩ := e
    refine .inl ⟨?_, by rw [hl]; omega⟩
    obtain rfl : k = 0 := by omega
    rfl
  · simp only [Value.slice.injEq] at e
    obtain ⟨rfl, rfl, rfl⟩ := e
    refine .inr ⟨g, cap, cur, by rw [hl], hb, hg, by rw [hl]; omega, hcm, hcs, ?_⟩
    rw [bv_take, ← ht, List.take_take, hl]
    congr 1
    omega
theorem OwnB.parts {w : World} {base : Nat} {v : Value} {l : List Nat} (h : OwnB w base v l) (h0 : 0 < l.length) :
    ∃ g cap cur, v = .slice (some ⟨g, 0, none⟩) l.length cap ∧ base ≤ g ∧ w.heap[g]? = some (.cells cur 5 (0, 0)) ∧ l.length ≤ cap ∧ cap ≤ maxLen ∧ cur.size = cap ∧ cur.toList.take l.length = bv l := by
  rcases h.2 with ⟨rfl, e⟩ | ⟨g, cap, cur, rfl, hb, hg, hnc, hcm, hcs, ht⟩
  · omega
  · exact ⟨g, cap, cur, rfl, hb, hg, hnc, hcm, by rw [hcs, Nat.mul_one], by rw [← ht, Nat.mul_one]⟩
theorem splice_take {α : Type} (c m : List α) (n k : Nat) (h : k + m.length ≤ n) (hn : n ≤ c.length) : (splice c k m).take n = splice (c.take n) k m := by
  apply List.ext_getElem?
  intro j
  have hc : (c.take n).length = n := by rw [List.length_take]; omega
  rw [List.getElem?_take]
  unfold splice
  simp only [List.getElem?_append, List.getElem?_take, List.getElem?_drop, List.length_take]
  by_cases h1 : j < k
  · rw [if_pos (by omega), if_pos (by omega), if_pos (by omega), if_pos (by omega), if_pos (by omega), if_pos (by omega)]
  · by_cases h2 : j < k + m.length
    · rw [if_pos (by omega), if_neg (by omega), if_pos (by omega), if_neg (by omega), if_pos (by omega)]
      congr 1
      omega
    · by_cases h3 : j < n
      · rw [if_pos (by omega), if_neg (by omega), if_neg (by omega), if_neg (by omega), if_neg (by omega), if_pos (by omega)]
        congr 1
        omega
      · rw [if_neg (by omega), if_neg (by omega), if_neg (by omega), if_neg (by omega)]
/-- bytes laid over a part -/
theorem wpList_copy_own_part {w : World} {ops : Array Oper} {rest : List Oper} {o : Oper} {a : Act} {Q : Exit → Act → World → Prop} (hgd : o.guard = none) (d s : Operand)
    (ho : o.op = .call { callee := .builtin .copy, args := #[d, s], argTypes := #[31, 31] })
    (base g off n dLen dCap cap : Nat) (sp : Option Addr) (m sCap : Nat) (L M : List Nat) (hd : a.eval d = .slice (some ⟨g, off, none⟩) dLen dCap) (hs : a.eval s = .slice sp m sCap) (hm : M.length = m)
    (hown : OwnB w base (.slice (some ⟨g, 0, none⟩) n cap) L) (hn : L.length = n) (hsrc : BAt w sp M) (hfit : off + m ≤ n) (hmd : m ≤ dLen) (hm0 : 0 < m)
    (h : ∀ w', Hid (OwnB w' base (.slice (some ⟨g, 0, none⟩) n cap) (splice L off M)) → Hid (w.grownBy w' (some g)) → Hid (w'.heap.size = w.heap.size) → wpList Tryz.prog ops Q rest (a.put o.dst (goInt m)) w') : wpList Tryz.prog ops Q (o :: rest) a w := by
  subst hm hn
  obtain ⟨g', cap', cur, e, hb, hg, hnc, hcm, hcs, ht⟩ := hown.parts (by omega)
  simp only [Value.slice.injEq, Option.some.injEq, Addr.mk.injEq, and_true, true_and] at e
  obtain ⟨rfl, rfl⟩ := e
  have hsz : (Tryz.prog.info? 5).map (·.size) = some 1 := by
    obtain ⟨i, hi, hz0, hz1, hz2⟩ := info_parts Tryz.infoB
    rw [hi]; simp [hz1]
  obtain ⟨b, so, rfl⟩ := hsrc.addr hm0
  have hcl : (bv M).length = M.length := bv_length M
  have hcell : ∀ j v, (bv M)[j]? = some v → w.cell? ((⟨b, so, none⟩ : Addr).add j) = some v := fun j v hv => by
    have hj : j < M.length := by have := (List.getElem?_eq_some_iff.1 hv).1; omega
    rw [addr_add, hsrc.cell hj]
    rw [bv_get hj] at hv
    exact hv
  refine wpList_copy_own hgd d s _ _ ho 5 Tryz.underlying31 hsz g off dLen dCap ⟨b, so, none⟩ M.length sCap hd hs cur 5 hg (bv M) (by rw [hcl]; exact (Nat.min_eq_left hmd).symm) hcell (by rw [hcl]; omega) (bv_one _) ?_
  rw [hcl]
  have h1 : cur.toList.length = cap := by rw [Array.length_toList, hcs]
  have hspl : (splice L off M).length = L.length := by simp [splice]; omega
  refine h _ ⟨by rw [bv_length, Nat.mul_one], .inr ⟨g, cap, _, by rw [hspl], hb, setRow_heap w g _ _ _ _ hg, by rw [hspl]; exact hnc, hcm, ?_, ?_⟩⟩ ?_ ?_
  · rw [← hcs]
    simp only [List.size_toArray, List.length_append, List.length_take, List.length_drop, Array.length_toList, bv_length, Nat.mul_one]
    omega
  · rw [← bv_splice, ← ht, hspl, Nat.mul_one]
    have h2 := splice_take cur.toList (bv M) L.length off (by rw [hcl]; omega) (h1 ▸ hnc)
    rw [show splice cur.toList off (bv M) = cur.toList.take off ++ (bv M ++ cur.toList.drop (off + M.length)) by unfold splice; rw [hcl]] at h2
    exact h2
  · exact ⟨rfl, rfl, rfl, by simp [World.setRow], fun k _ hk => setRow_other w g k _ (fun e => hk (by rw [e]))⟩
  · show (w.setRow g _).heap.size = w.heap.size
    simp [World.setRow]

/-! ### A node -/
/-- entries, as a map has them -/
def u8s (p : List Nat) : List UInt8 := p.map UInt8.ofNat
def entsL (l : List (List Nat × Nat)) : List (Lit × Value) := l.map fun e => (Lit.string (u8s e.1), Value.int .i64 ((e.2 : Nat) : Int))
/-- a node's cells -/
def ndh (i : Nat) (x : Nd) (v : Value) : List Value := [.int .i64 ((i : Nat) : Int), .int .i64 ((x.kind : Nat) : Int), .int .i64 ((x.links : Nat) : Int), v]
def ndt (x : Nd) (en : Value) : List Value := [en, .int .i64 ((x.most : Nat) : Int), .int .i64 ((x.up : Nat) : Int), .string (strOf x.nm)]
def ndc (i : Nat) (x : Nd) (v en : Value) : List Value := ndh i x v ++ (x.wr.map Value.bool ++ ndt x en)
structure EntsAt (w : World) (B : Nat) (x : Nd) (en : Value) : Prop where
  dir : x.kind = 2 → ∃ b, en = .map (some b) ∧ B ≤ b ∧ MapAt 9 w b (entsL x.ents)
  other : x.kind ≠ 2 → en = .map none ∧ x.ents = []
/-- a node lies in block a -/
structure NodeAt (w : World) (B a i : Nat) (x : Nd) (v en : Value) : Prop where
  row : Vw w 76 a (ndc i x v en)
  data : RdB w B v x.data
  wrl : x.wr.length = 162
  oct : Octs x.data
  dl : x.data.length ≤ 20736
  ents : EntsAt w B x en
  own : x.kind ≠ 3 → OwnB w B v x.data
theorem ndc_length {i : Nat} {x : Nd} {v en : Value} (h : x.wr.length = 162) : (ndc i x v en).length = 170 := by simp [ndc, ndh, ndt, h]
theorem ndc_head {i : Nat} {x : Nd} {v en : Value} {k : Nat} (h : k < 4) : (ndc i x v en)[k]? = (ndh i x v)[k]? := by
  unfold ndc
  rw [List.getElem?_append_left (by simpa [ndh] using h)]
theorem ndc_mid {i : Nat} {x : Nd} {v en : Value} {k : Nat} (h : k < x.wr.length) : (ndc i x v en)[4 + k]? = some (.bool x.wr[k]) := by
  unfold ndc
  rw [List.getElem?_append_right (by simp [ndh]), List.getElem?_append_left (by simpa [ndh] using h)]
  simp [ndh, h]
theorem ndc_tail {i : Nat} {x : Nd} {v en : Value} (hw : x.wr.length = 162) (k : Nat) : (ndc i x v en)[166 + k]? = (ndt x en)[k]? := by
  unfold ndc
  rw [List.getElem?_append_right (by simp [ndh]; omega), List.getElem?_append_right (by simp [ndh, hw]; omega)]
  congr 1
  simp [ndh, hw]
  omega
section
variable {w : World} {B a i : Nat} {x : Nd} {v en : Value}
theorem NodeAt.lt (h : NodeAt w B a i x v en) : a < w.heap.size := h.row.lt
theorem NodeAt.num (h : NodeAt w B a i x v en) : w.cell? ⟨a, 0, none⟩ = some (.int .i64 ((i : Nat) : Int)) := h.row.cell (k := 0) (by rw [ndc_head (by omega)]; rfl)
theorem NodeAt.kind (h : NodeAt w B a i x v en) : w.cell? ⟨a, 1, none⟩ = some (.int .i64 ((x.kind : Nat) : Int)) := h.row.cell (k := 1) (by rw [ndc_head (by omega)]; rfl)
theorem NodeAt.links (h : NodeAt w B a i x v en) : w.cell? ⟨a, 2, none⟩ = some (.int .i64 ((x.links : Nat) : Int)) := h.row.cell (k := 2) (by rw [ndc_head (by omega)]; rfl)
theorem NodeAt.dat (h : NodeAt w B a i x v en) : w.cell? ⟨a, 3, none⟩ = some v := h.row.cell (k := 3) (by rw [ndc_head (by omega)]; rfl)
theorem NodeAt.wr (h : NodeAt w B a i x v en) {k : Nat} (hk : k < 162) : w.cell? ⟨a, 4 + k, none⟩ = some (.bool (x.wr[k]'(by rw [h.wrl]; exact hk))) := h.row.cell (ndc_mid (by rw [h.wrl]; exact hk))
theorem NodeAt.ent (h : NodeAt w B a i x v en) : w.cell? ⟨a, 166, none⟩ = some en := h.row.cell (k := 166) (by rw [show (166 : Nat) = 166 + 0 from rfl, ndc_tail h.wrl]; rfl)
theorem NodeAt.most (h : NodeAt w B a i x v en) : w.cell? ⟨a, 167, none⟩ = some (.int .i64 ((x.most : Nat) : Int)) := h.row.cell (k := 167) (by rw [show (167 : Nat) = 166 + 1 from rfl, ndc_tail h.wrl]; rfl)
theorem NodeAt.up (h : NodeAt w B a i x v en) : w.cell? ⟨a, 168, none⟩ = some (.int .i64 ((x.up : Nat) : Int)) := h.row.cell (k := 168) (by rw [show (168 : Nat) = 166 + 2 from rfl, ndc_tail h.wrl]; rfl)
theorem NodeAt.nm (h : NodeAt w B a i x v en) : w.cell? ⟨a, 169, none⟩ = some (.string (strOf x.nm)) := h.row.cell (k := 169) (by rw [show (169 : Nat) = 166 + 3 from rfl, ndc_tail h.wrl]; rfl)
theorem NodeAt.frozen (h : NodeAt w B a i x v en) (k : Nat) : w.frozen? ⟨a, k, none⟩ = false := h.row.frozen k
/-- it stays, if its blocks do -/
theorem NodeAt.blk {w' : World} (h : NodeAt w B a i x v en) (e1 : w'.heap[a]? = w.heap[a]?) (e2 : ∀ g, v.ownBlock = some g → w'.heap[g]? = w.heap[g]?) (e3 : ∀ b, en = .map (some b) → w'.heap[b]? = w.heap[b]?) : NodeAt w' B a i x v en :=
  ⟨by have := h.row; unfold Vw at this ⊢; rw [e1]; exact this, h.data.blk e2, h.wrl, h.oct, h.dl, ⟨fun hk => by
    obtain ⟨b, eb, hb, hm⟩ := h.ents.dir hk
    exact ⟨b, eb, hb, hm.blk (e3 b eb)⟩, h.ents.other⟩, fun hk => (h.own hk).blk e2⟩
/-- where its entries lie -/
theorem NodeAt.entB (h : NodeAt w B a i x v en) {b : Nat} (e : en = .map (some b)) : B ≤ b ∧ b < w.heap.size ∧ x.kind = 2 := by
  by_cases hk : x.kind = 2
  · obtain ⟨b', eb, hb, hm⟩ := h.ents.dir hk
    rw [e] at eb
    obtain rfl : b = b' := by simpa using eb
    exact ⟨hb, hm.lt, hk⟩
  · have := (h.ents.other hk).1
    rw [e] at this
    cases this
theorem NodeAt.below {w' : World} (h : NodeAt w B a i x v en) (hb : Below w.heap.size w w') : NodeAt w' B a i x v en :=
  h.blk (hb.block a h.lt) (fun g e => hb.block g (h.data.hi e).2) (fun b e => hb.block b (h.entB e).2.1)
end
end Go.Proofs.YtgcodlicbdaddaaGreatDoor
end

section
set_option linter.unusedVariables false
set_option linter.unusedSimpArgs false
namespace Go.Proofs.YtgcodlicbdaddaaGreatDoor
open Go.RowKit

theorem OwnB.cell {w : World} {base g n cap k : Nat} {l : List Nat} (h : OwnB w base (.slice (some ⟨g, 0, none⟩) n cap) l) (hk : k < l.length) : w.cell? ⟨g, k, none⟩ = some (.int .u8 ((bz l k : Nat) : Int)) :=
  World.ownsRow.cells h (g := g) rfl k _ (bv_get hk) |> fun h => by rwa [addr_add, Nat.zero_add] at h
theorem OwnB.frozen {w : World} {base g n cap : Nat} {l : List Nat} (h : OwnB w base (.slice (some ⟨g, 0, none⟩) n cap) l) (k : Nat) : w.frozen? ⟨g, k, none⟩ = false := by
  rcases h.2 with ⟨e, _⟩ | ⟨g', cap', cur, e, _, hg, _⟩
  · cases e
  · simp only [Value.slice.injEq, Option.some.injEq, Addr.mk.injEq, and_true] at e
    obtain ⟨rfl, _, rfl⟩ := e
    simp [World.frozen?, hg]
theorem OwnB.base {w : World} {base g n cap : Nat} {l : List Nat} (h : OwnB w base (.slice (some ⟨g, 0, none⟩) n cap) l) : base ≤ g ∧ g < w.heap.size := by
  rcases h.2 with ⟨e, _⟩ | ⟨g', cap', cur, e, hb, hg, _⟩
  · cases e
  · simp only [Value.slice.injEq, Option.some.injEq, Addr.mk.injEq, and_true] at e
    obtain ⟨rfl, _, rfl⟩ := e
    exact ⟨hb, (Array.getElem?_eq_some_iff.1 hg).1⟩
theorem OwnB.lower {w : World} {base base' : Nat} {v : Value} {l : List Nat} (h : OwnB w base v l) (hb : base' ≤ base) : OwnB w base' v l := by
  obtain ⟨h1, h2⟩ := h
  refine ⟨h1, ?_⟩
  rcases h2 with h2 | ⟨g, cap, cur, e, hg, rest⟩
  · exact .inl h2
  · exact .inr ⟨g, cap, cur, e, Nat.le_trans hb hg, rest⟩
theorem OwnB.drew {w : World} {base m : Nat} {v : Value} {l : List Nat} (h : OwnB w base v l) : OwnB (w.drewN m) base v l := h
theorem OwnB.bat {w : World} {base g n cap : Nat} {l : List Nat} (h : OwnB w base (.slice (some ⟨g, 0, none⟩) n cap) l) : BAt w (some ⟨g, 0, none⟩) l := .inr ⟨g, 0, rfl, fun k hk => by rw [Nat.zero_add]; exact h.cell hk⟩
theorem OwnB.set {w : World} {base g n cap : Nat} {l : List Nat} (h : OwnB w base (.slice (some ⟨g, 0, none⟩) n cap) l) (k x : Nat) : OwnB (w.setCell ⟨g, k, none⟩ (.int .u8 ((x : Nat) : Int))) base (.slice (some ⟨g, 0, none⟩) n cap) (l.set k x) := by
  rcases h.2 with ⟨e, _⟩ | ⟨g', cap', cur, e, hb, hg, hnc, hcm, hcs, ht⟩
  · cases e
  · simp only [Value.slice.injEq, Option.some.injEq, Addr.mk.injEq, and_true] at e
    obtain ⟨rfl, rfl, rfl⟩ := e
    have e := setCell_eq_setRow w g k _ _ _ (.int .u8 ((x : Nat) : Int)) hg
    refine ⟨by rw [bv_length, Nat.mul_one], .inr ⟨g, cap, cur.setIfInBounds k (.int .u8 ((x : Nat) : Int)), by rw [List.length_set], hb, ?_, by rw [List.length_set]; exact hnc, hcm, by simpa using hcs, ?_⟩⟩
    · rw [e]
      exact setRow_heap w g _ _ _ _ hg
    · rw [← bv_set, ← ht, List.length_set]
      simp [List.take_set]
theorem OwnB.at {w : World} {base n : Nat} {v : Value} {l : List Nat} (h : OwnB w base v l) (hn : l.length = n) (h0 : 0 < n) :
    ∃ g cap, v = .slice (some ⟨g, 0, none⟩) n cap ∧ n ≤ cap ∧ base ≤ g ∧ g < w.heap.size := by
  subst hn
  obtain ⟨g, cap, e, h1, h2, h3, _⟩ := h.form h0
  exact ⟨g, cap, e, h1, h2, h3⟩
theorem below_set {w : World} {g k B : Nat} {v : Value} (h : B ≤ g) : Below B w (w.setCell ⟨g, k, none⟩ v) := (Below.refl _ _).setCell (p := ⟨g, k, none⟩) h v

def GivesB (l : List Nat) (w : World) (e : Ending) (w' : World) : Prop := ∃ v, e = .returned v ∧ OwnB w' w.heap.size v l ∧ Below w.heap.size w w'
end Go.Proofs.YtgcodlicbdaddaaGreatDoor
end
