/-
  Bytes that grow by append: onto a slice of the call's own; so many zeros.
-/
import Derived.Test.YtcmomnfefaolaaaRw
import Derived.Laws.AppendOwnNone
namespace Go.Proofs.Ytcmomnfefaolaaa
open Go.RowKit

/-- v is a slice of the call's own, from block base on, that holds these bytes -/
def OwnB (w : World) (base : Nat) (v : Value) (l : List Nat) : Prop := w.ownsRow base 5 1 v l.length (bv l)
theorem OwnB.form {w : World} {base : Nat} {v : Value} {l : List Nat} (h : OwnB w base v l) (h0 : 0 < l.length) :
    ∃ g cap, v = .slice (some ⟨g, 0, none⟩) l.length cap ∧ l.length ≤ cap ∧ base ≤ g ∧ g < w.heap.size ∧ BAt w (some ⟨g, 0, none⟩) l := by
  have hc := fun g hg => World.ownsRow.cells h (g := g) hg
  rcases h.2 with ⟨_, e⟩ | ⟨g, cap, cur, rfl, hb, hh, hn, _, _, _⟩
  · omega
  · refine ⟨g, cap, rfl, hn, hb, (Array.getElem?_eq_some_iff.1 hh).1, .inr ⟨g, 0, rfl, fun k hk => ?_⟩⟩
    have := hc g rfl k _ (bv_get hk)
    rwa [addr_add] at this
theorem OwnB.on {w w' : World} {base B : Nat} {v : Value} {l : List Nat} (h : OwnB w base v l) (hb : Below B w w') (hB : w.heap.size ≤ B) : OwnB w' base v l :=
  World.ownsRow.kept h (row := none) ⟨hb.os, hb.tape, hb.output, hb.size, fun k hk _ => hb.block k (by omega)⟩ (by cases v.ownBlock with
    | none => exact .inl rfl
    | some k => exact .inr (fun h => by cases h))
theorem OwnB.nil (w : World) (base : Nat) : OwnB w base (.slice none 0 0) [] := World.ownsRow_nil _ _ _ _
theorem OwnB.grown {w w' : World} {base : Nat} {v : Value} {l : List Nat} (h : OwnB w base v l) (hg : w.grownBy w' v.ownBlock) (hb : base ≤ w.heap.size) : Below base w w' :=
  (Below.refl _ _).grown hg hb (fun k hk => (World.ownsRow.lt h k hk).1)
/-- a new block that holds these bytes, as a slice of the call's own -/
theorem OwnB.made (w : World) (l : List Nat) (base : Nat) (hb : base ≤ w.heap.size) (hl : l.length ≤ 1000000) : OwnB (w.alloc (.cells (bv l).toArray 5)) base (.slice (some ⟨w.heap.size, 0, none⟩) l.length l.length) l := by
  refine ⟨by rw [bv_length, Nat.mul_one], .inr ⟨w.heap.size, l.length, _, rfl, hb, heap_alloc_new w _, Nat.le_refl _, by unfold maxLen; omega, by simp [bv_length], ?_⟩⟩
  rw [Nat.mul_one, List.take_of_length_le (by simp [bv_length])]
theorem OwnB.len {w : World} {base : Nat} {v : Value} {l : List Nat} (h : OwnB w base v l) (h0 : l.length = 0) : ∃ a cap, v = .slice a 0 cap ∧ (a = none → cap = 0) := by
  rcases h.2 with ⟨rfl, e⟩ | ⟨g, cap, cur, rfl, _⟩
  · exact ⟨none, 0, rfl, fun _ => rfl⟩
  · rw [h0]; exact ⟨_, _, rfl, fun h => by cases h⟩

theorem wpList_append_bytes {w : World} {ops : Array Oper} {rest : List Oper} {o : Oper} {a : Act} {Q : Exit → Act → World → Prop} (hgd : o.guard = none) (s x : Operand)
    (ho : o.op = .call { callee := .builtin .append, args := #[s, x], argTypes := #[22, 22] })
    (base : Nat) (v : Value) (L : List Nat) (hs : a.eval s = v) (hown : OwnB w base v L) (sp : Option Addr) (n sCap : Nat) (m : List Nat) (hx : a.eval x = .slice sp n sCap) (hm : m.length = n) (hsrc : BAt w sp m) (hnil : sp = none → sCap = 0)
    (hlen : L.length + n ≤ 1000000) (hbase : base ≤ w.heap.size)
    (h : ∀ v' w', Hid (OwnB w' base v' (L ++ m)) → w.grownBy w' v.ownBlock → Below base w w' → wpList Try.prog ops Q rest (a.put o.dst v') w') : wpList Try.prog ops Q (o :: rest) a w := by
  subst hm
  obtain ⟨i, hi, hz0, hz1, hz2⟩ := info_parts Try.infoB
  cases sp with
  | none =>
    obtain rfl := hnil rfl
    have hm : m = [] := by
      rcases hsrc with h | ⟨b, off, e, _⟩
      · exact List.eq_nil_of_length_eq_zero h
      · cases e
    subst hm
    refine wpList_append_own_none hgd s x _ ho base 5 i 1 Try.underlying22 hi v L.length (bv L) hs hown hx (h _ _ ?_ (World.grownBy.refl _ _) (Below.refl _ _))
    show OwnB w base v (L ++ [])
    rw [List.append_nil]; exact hown
  | some ad =>
    refine wpList_append_own w hgd s x _ ho base 5 i (.int .u8 0) 1 1 Try.underlying22 hi hz0 hz1 hz2 rfl (by decide) v L.length (bv L) hs hown ad m.length sCap (bv m) hx (by rw [bv_length, Nat.mul_one]) ?_ (bv_one m) (by unfold maxLen; omega) (by omega) hbase ?_
    · intro j u hu
      obtain ⟨hj, rfl⟩ := bv_at hu
      obtain ⟨b, off, e⟩ := hsrc.addr (by omega)
      obtain rfl := Option.some.inj e
      rw [addr_add]; exact hsrc.cell hj
    · intro v' w' hv hg _
      refine h v' w' ?_ hg (hown.grown hg hbase)
      show OwnB w' base v' (L ++ m)
      unfold OwnB
      rw [List.length_append, bv_append]; exact hv

theorem zeroCells_bytes (n : Nat) : Builtin.zeroCells (Value.int .u8 0).cells n = (bv (zs n)).toArray := by
  apply Array.ext
  · simp [Builtin.zeroCells, bv, zs, Value.cells]
  · intro k h1 h2
    simp [Builtin.zeroCells, bv, zs, Value.cells, Nat.mod_one]

theorem take_front (X Y : List Value) : (X ++ Y).toArray.toList.take (X.length * 1) = X := by simp
theorem take_front2 (X Y : List Value) (Z : Array Value) : (X.toArray ++ Y.toArray ++ Z).toList.take ((X ++ Y).length * 1) = X ++ Y := by
  simp [List.take_append]
  exact List.take_of_length_le (by omega)

theorem run_append_zeros_new {w : World} (base g n cap k : Nat) (L : List Nat) (ty : TypeId) (hown : OwnB w base (.slice (some ⟨g, 0, none⟩) n cap) L) (hn : L.length = n) (hlen : n + k ≤ 1000000) (hbase : base ≤ w.heap.size) :
    ∃ v' w', (Builtin.append_ #[22, 3] ty #[.slice (some ⟨g, 0, none⟩) n cap, .int .i64 (k : Int)]).run Try.prog w = .ok v' w' ∧ OwnB w' base v' (L ++ zs k) ∧ w.grownBy w' (some g) ∧ ∀ j, v'.ownBlock = some j → some g = some j ∨ w.heap.size ≤ j := by
  obtain ⟨i, hi, hz0, hz1, hz2⟩ := info_parts Try.infoB
  subst hn
  have hcells := fun j u hu => World.ownsRow.cells hown (g := g) rfl j u hu
  have hlen2 : (bv (L ++ zs k)).length = (L ++ zs k).length * 1 := by rw [bv_length, Nat.mul_one]
  have hw : IntKind.i64.wrap (k : Int) = (k : Int) := by rw [IntKind.wrap_i64]; omega
  have hneg : ¬ (k : Int) < 0 := by omega
  have hbig : ¬ (281474976710656 : Int) < (k : Int) * (i.bytes : Int) := by rw [hz2]; omega
  have hap : (if k = 0 then #[] else Builtin.zeroCells (Value.int .u8 0).cells k) = (bv (zs k)).toArray := by
    rw [← zeroCells_bytes]
    split
    · rename_i h; subst h; simp [Builtin.zeroCells]
    · rfl
  rcases hown.2 with ⟨e, _⟩ | ⟨g', cap', cur, e, hbg, hg, hnc, hcm, hcs, htake⟩
  · cases e
  · simp only [Value.slice.injEq, Option.some.injEq, Addr.mk.injEq, and_true] at e
    obtain ⟨rfl, -, rfl⟩ := e
    by_cases hroom : L.length + k ≤ cap
    · have hst := run_storeCells_at Try.prog g L.length 5 (bv (zs k)) 0 cur w hg (by rw [bv_length, zs_length, hcs]; omega) (bv_one _)
      simp only [Nat.add_zero] at hst
      have e1 : cur.toList.take L.length = bv L := by rw [← htake, Nat.mul_one]
      rw [e1, bv_length, zs_length] at hst
      refine ⟨.slice (some ⟨g, 0, none⟩) (L.length + k) cap, w.setRow g (bv L ++ bv (zs k) ++ cur.toList.drop (L.length + k)).toArray, ?_, ⟨hlen2, .inr ⟨g, cap, (bv L ++ bv (zs k) ++ cur.toList.drop (L.length + k)).toArray, by rw [List.length_append, zs_length], hbg, setRow_heap w g cur _ _ _ hg, by rw [List.length_append, zs_length]; exact hroom, hcm, ?_, ?_⟩⟩, ⟨rfl, rfl, rfl, by simp, fun j _ hj => setRow_other w g j _ (fun e => hj (by rw [e]))⟩, fun j h => .inl h⟩
      · by_cases h0 : k = 0
        · subst h0
          have e3 : w.setRow g (bv L ++ bv (zs 0) ++ cur.toList.drop (L.length + 0)).toArray = w := by
            rw [← e1]
            simp [bv, zs, setRow_self w g cur _ _ hg]
          rw [e3]
          simp [Builtin.append_, run_underlying Try.underlying22, run_underlying Try.underlying3, sizeOf, typeInfo, hi, asInt, asIntOf, IntKind.wrap_i64, hnc, storeCells]
        · simp [Builtin.append_, run_underlying Try.underlying22, run_underlying Try.underlying3, sizeOf, typeInfo, hi, hz0, hz1, zeroValue, asInt, asIntOf, hw, hneg, hbig, hroom, h0, zeroCells_bytes, Addr.add_lit, hst]
      · simp only [List.size_toArray, List.length_append, List.length_drop, bv_length, zs_length, Array.length_toList]
        omega
      · rw [← bv_length (L ++ zs k), bv_append]
        exact take_front _ _
    · have hk0 : k ≠ 0 := by omega
      have hfo := run_firstCells_some (P := Try.prog) w.drew i.size L.length ⟨g, 0, none⟩ L.length cap (bv L) (by rw [bv_length, hz1, Nat.mul_one]) (by simpa using hcells)
      rw [hz1] at hfo
      have h48 : ¬ (281474976710656 < Builtin.nextslicecap (L.length + k) cap * i.bytes) := by
        have := nextslicecap_le (show cap < L.length + k by omega)
        rw [hz2]; omega
      have h63 : ¬ (9223372036854775807 < ((L.length : Int) + (k : Int))) := by omega
      have hge := grownCap_ge w (L.length + k) cap 5
      have hcm2 := grownCap_le_maxLen w (L.length + k) cap 5 (by unfold maxLen; omega)
      refine ⟨.slice (some ⟨w.heap.size, 0, none⟩) (L.length + k) (grownCap w (L.length + k) cap 5), w.drew.alloc (.cells ((bv L).toArray ++ (bv (zs k)).toArray ++ Builtin.zeroCells (Value.int .u8 0).cells (grownCap w (L.length + k) cap 5 - (L.length + k))) 5), ?_, ⟨hlen2, .inr ⟨w.heap.size, _, _, by rw [List.length_append, zs_length], hbase, heap_alloc_new w.drew _, by rw [List.length_append, zs_length]; exact hge, hcm2, ?_, ?_⟩⟩, ⟨rfl, rfl, rfl, by simp, fun j hj _ => heap_alloc_old w.drew _ hj⟩, fun j h => .inr (Nat.le_of_eq (Option.some.inj h))⟩
      · simp [Builtin.append_, run_underlying Try.underlying22, run_underlying Try.underlying3, sizeOf, typeInfo, hi, hz0, hz1, zeroValue, asInt, asIntOf, hw, hneg, hbig, hroom, hk0, h63, h48, Question.forced, hfo, newRow, grownCap, zeroCells_bytes]
      · simp only [Array.size_append, List.size_toArray, size_zeroCells, bv_length, zs_length, Value.cells]
        simp; omega
      · rw [← bv_length (L ++ zs k), bv_append]
        exact take_front2 _ _ _

theorem run_append_zeros {w : World} (base g n cap k : Nat) (L : List Nat) (ty : TypeId) (hown : OwnB w base (.slice (some ⟨g, 0, none⟩) n cap) L) (hn : L.length = n) (hlen : n + k ≤ 1000000) (hbase : base ≤ w.heap.size) :
    ∃ v' w', (Builtin.append_ #[22, 3] ty #[.slice (some ⟨g, 0, none⟩) n cap, .int .i64 (k : Int)]).run Try.prog w = .ok v' w' ∧ OwnB w' base v' (L ++ zs k) ∧ w.grownBy w' (some g) := by
  obtain ⟨v', w', h1, h2, h3, _⟩ := run_append_zeros_new base g n cap k L ty hown hn hlen hbase
  exact ⟨v', w', h1, h2, h3⟩
theorem run_append_zeros_nil_new {w : World} (base k : Nat) (ty : TypeId) (hlen : k ≤ 1000000) (hbase : base ≤ w.heap.size) :
    ∃ v' w', (Builtin.append_ #[22, 3] ty #[.slice none 0 0, .int .i64 (k : Int)]).run Try.prog w = .ok v' w' ∧ OwnB w' base v' (zs k) ∧ w.grownBy w' none ∧ ∀ j, v'.ownBlock = some j → w.heap.size ≤ j := by
  obtain ⟨i, hi, hz0, hz1, hz2⟩ := info_parts Try.infoB
  have hw : IntKind.i64.wrap (k : Int) = (k : Int) := by rw [IntKind.wrap_i64]; omega
  have hneg : ¬ (k : Int) < 0 := by omega
  have hbig : ¬ (281474976710656 : Int) < (k : Int) * (i.bytes : Int) := by rw [hz2]; omega
  by_cases h0 : k = 0
  · subst h0
    refine ⟨.slice none 0 0, w, ?_, OwnB.nil _ _, World.grownBy.refl _ _, fun j h => by cases h⟩
    simp [Builtin.append_, run_underlying Try.underlying22, run_underlying Try.underlying3, sizeOf, typeInfo, hi, asInt, asIntOf, IntKind.wrap_i64]
  · have h48 : ¬ (281474976710656 < Builtin.nextslicecap k 0 * i.bytes) := by
      rw [nextslicecap_zero (by omega), hz2]; omega
    have h63 : ¬ (9223372036854775807 < (k : Int)) := by omega
    have hge := grownCap_ge w k 0 5
    have hcm2 := grownCap_le_maxLen w k 0 5 (by unfold maxLen; omega)
    refine ⟨.slice (some ⟨w.heap.size, 0, none⟩) k (grownCap w k 0 5), w.drew.alloc (.cells ((bv (zs k)).toArray ++ Builtin.zeroCells (Value.int .u8 0).cells (grownCap w k 0 5 - k)) 5), ?_, ⟨by rw [bv_length, Nat.mul_one], .inr ⟨w.heap.size, _, _, by rw [zs_length], hbase, heap_alloc_new w.drew _, by rw [zs_length]; exact hge, hcm2, ?_, ?_⟩⟩, ⟨rfl, rfl, rfl, by simp, fun j hj _ => heap_alloc_old w.drew _ hj⟩, fun j h => Nat.le_of_eq (Option.some.inj h)⟩
    · simp [Builtin.append_, run_underlying Try.underlying22, run_underlying Try.underlying3, sizeOf, typeInfo, hi, hz0, hz1, zeroValue, asInt, asIntOf, hw, hneg, hbig, h0, h63, h48, Question.forced, run_firstCells_none, newRow, grownCap, zeroCells_bytes]
    · simp only [Array.size_append, List.size_toArray, size_zeroCells, bv_length, zs_length, Value.cells]
      simp; omega
    · rw [← bv_length (zs k)]
      simp
theorem run_append_zeros_nil {w : World} (base k : Nat) (ty : TypeId) (hlen : k ≤ 1000000) (hbase : base ≤ w.heap.size) :
    ∃ v' w', (Builtin.append_ #[22, 3] ty #[.slice none 0 0, .int .i64 (k : Int)]).run Try.prog w = .ok v' w' ∧ OwnB w' base v' (zs k) ∧ w.grownBy w' none := by
  obtain ⟨v', w', h1, h2, h3, _⟩ := run_append_zeros_nil_new (w := w) base k ty hlen hbase
  exact ⟨v', w', h1, h2, h3⟩

theorem wpList_append_zeros_any {w : World} {ops : Array Oper} {rest : List Oper} {o : Oper} {a : Act} {Q : Exit → Act → World → Prop} (hgd : o.guard = none) (s x : Operand)
    (ho : o.op = .call { callee := .builtin .append, args := #[s, x], argTypes := #[22, 3] })
    (base k : Nat) (v : Value) (L : List Nat) (hs : a.eval s = v) (hown : OwnB w base v L) (hx : a.eval x = .int .i64 (k : Int))
    (hlen : L.length + k ≤ 1000000) (hbase : base ≤ w.heap.size)
    (h : ∀ v' w', Hid (OwnB w' base v' (L ++ zs k)) → w.grownBy w' v.ownBlock → Below base w w' → wpList Try.prog ops Q rest (a.put o.dst v') w') : wpList Try.prog ops Q (o :: rest) a w := by
  have key : ∃ v' w', (Builtin.append_ #[22, 3] o.type #[v, .int .i64 (k : Int)]).run Try.prog w = .ok v' w' ∧ OwnB w' base v' (L ++ zs k) ∧ w.grownBy w' v.ownBlock := by
    have hown2 := hown
    rcases hown2.2 with ⟨rfl, e⟩ | ⟨g, cap, cur, rfl, _⟩
    · obtain rfl : L = [] := List.eq_nil_of_length_eq_zero e
      exact run_append_zeros_nil base k o.type (by simpa using hlen) hbase
    · exact run_append_zeros base g L.length cap k L o.type hown rfl hlen hbase
  refine wpList_plain hgd fun K hK => ?_
  obtain ⟨v', w', hr, h1, h2⟩ := key
  unfold Oper.wp
  simp [execOp, ho, resolve, invoke, builtin, hs, hx, hr, Result.andThen]
  exact hK _ _ (h v' w' h1 h2 (hown.grown h2 hbase))

/-- as a slice value with its bytes -/
theorem OwnB.slice {w : World} {base : Nat} {v : Value} {l : List Nat} (h : OwnB w base v l) : ∃ a cap, v = .slice a l.length cap ∧ BAt w a l ∧ (a = none → cap = 0) ∧ l.length ≤ cap := by
  by_cases h0 : 0 < l.length
  · obtain ⟨g, cap, rfl, hc, _, _, hb⟩ := h.form h0
    exact ⟨_, cap, rfl, hb, (fun h => by cases h), hc⟩
  · have e : l.length = 0 := by omega
    obtain ⟨a, cap, rfl, hn⟩ := h.len e
    exact ⟨a, cap, by rw [e], .inl e, hn, by omega⟩

theorem wpList_append_zeros {w : World} {ops : Array Oper} {rest : List Oper} {o : Oper} {a : Act} {Q : Exit → Act → World → Prop} (hgd : o.guard = none) (s x : Operand)
    (ho : o.op = .call { callee := .builtin .append, args := #[s, x], argTypes := #[22, 3] })
    (base g n cap k : Nat) (L : List Nat) (hs : a.eval s = .slice (some ⟨g, 0, none⟩) n cap) (hown : OwnB w base (.slice (some ⟨g, 0, none⟩) n cap) L) (hn : L.length = n) (hx : a.eval x = .int .i64 (k : Int))
    (hlen : n + k ≤ 1000000) (hbase : base ≤ w.heap.size)
    (h : ∀ v' w', Hid (OwnB w' base v' (L ++ zs k)) → w.grownBy w' (some g) → Below base w w' → wpList Try.prog ops Q rest (a.put o.dst v') w') : wpList Try.prog ops Q (o :: rest) a w := by
  refine wpList_plain hgd fun K hK => ?_
  obtain ⟨v', w', hr, h1, h2⟩ := run_append_zeros base g n cap k L o.type hown hn hlen hbase
  unfold Oper.wp
  simp [execOp, ho, resolve, invoke, builtin, hs, hx, hr, Result.andThen]
  exact hK _ _ (h v' w' h1 h2 (hown.grown h2 hbase))
end Go.Proofs.Ytcmomnfefaolaaa
