/-
  Bytes: as lists of numbers, in memory, and in rows of the call's own, known whole: made, stored into, copied into.
  A map in memory, as the list of its entries by rising keys: looked up, written, gone through.
-/
import Derived.Test.YtnfaeejeipbciaaRows
import Derived.WalkKit
import Derived.ProofKit
import Derived.Handy
import Derived.IntWalk
import Derived.Laws.BitsAllLaws
import Derived.Laws.Shifts
import Derived.Lib.Hide
import Derived.Laws.CopyOwn
import Derived.Deep.OwnRows
import Derived.OwnWalk
import Derived.Deep.QuietTactic
import Derived.BigQuiet
import Derived.Maps.RangeWalk
import Derived.Maps.OwnOps
import Derived.Maps.Ext
import Derived.WalkSpells

section
set_option linter.unusedVariables false
set_option linter.unusedSimpArgs false
namespace Go.Proofs.Ytnfaeejeipbciaa
open Go.RowKit

/-- the n-th of some bytes -/
def bz (l : List Nat) (k : Nat) : Nat := l.getD k 0
theorem bz_get {l : List Nat} {k : Nat} (h : k < l.length) : bz l k = l[k] := by simp [bz, List.getD, List.getElem?_eq_getElem h]
/-- all of them are bytes -/
def Octs (l : List Nat) : Prop := ∀ k, k < l.length → bz l k < 256

theorem take_succ_bz {l : List Nat} {k : Nat} (h : k < l.length) : l.take (k + 1) = l.take k ++ [bz l k] := by
  rw [bz_get h, List.take_succ_eq_append_getElem h]

/-- bytes lie there, if any -/
def BAt (w : World) (a : Option Addr) (l : List Nat) : Prop :=
  l.length = 0 ∨ ∃ b off, a = some ⟨b, off, none⟩ ∧ ∀ k, k < l.length → w.cell? ⟨b, off + k, none⟩ = some (.int .u8 ((bz l k : Nat) : Int))


theorem val_int {k : IntKind} {a b : Int} (h : a = b) : Value.int k a = .int k b := by rw [h]
theorem ret_int {k : IntKind} {a b : Int} (h : a = b) : Ending.returned (.int k a) = .returned (.int k b) := by rw [h]


theorem Try.infoB : (Try.prog.info? 5).map (fun i => (i.zero, i.size, i.bytes)) = some (some (.int .u8 0), 1, 1) := by kernel_rfl

/-- bytes as cells -/
def bv (l : List Nat) : List Value := l.map fun n => Value.int .u8 ((n : Nat) : Int)
theorem bv_length (l : List Nat) : (bv l).length = l.length := by simp [bv]
theorem bv_get {l : List Nat} {k : Nat} (h : k < l.length) : (bv l)[k]? = some (.int .u8 ((bz l k : Nat) : Int)) := by simp [bv, bz_get h, h]
theorem bv_one (l : List Nat) : ∀ v ∈ bv l, v.oneCell' = true := by
  intro v hv
  obtain ⟨n, _, rfl⟩ := List.mem_map.1 hv
  rfl
theorem bv_at {l : List Nat} {k : Nat} {v : Value} (h : (bv l)[k]? = some v) : k < l.length ∧ v = .int .u8 ((bz l k : Nat) : Int) := by
  have hk : k < l.length := by have := (List.getElem?_eq_some_iff.1 h).1; rwa [bv_length] at this
  rw [bv_get hk] at h
  exact ⟨hk, (Option.some.inj h).symm⟩
theorem bv_set (l : List Nat) (k x : Nat) : (bv l).set k (.int .u8 ((x : Nat) : Int)) = bv (l.set k x) := by simp [bv, List.map_set]
theorem bv_append (l m : List Nat) : bv (l ++ m) = bv l ++ bv m := by simp [bv]
theorem bv_take (l : List Nat) (k : Nat) : bv (l.take k) = (bv l).take k := by simp [bv]
theorem bv_drop (l : List Nat) (k : Nat) : bv (l.drop k) = (bv l).drop k := by simp [bv]
theorem bv_splice (l m : List Nat) (k : Nat) : splice (bv l) k (bv m) = bv (splice l k m) := by simp [splice, bv]

theorem bz_take {l : List Nat} {m k : Nat} (h : k < m) : bz (l.take m) k = bz l k := by
  simp [bz, List.getD, h]
theorem bz_drop {l : List Nat} {m k : Nat} : bz (l.drop m) k = bz l (m + k) := by
  simp [bz, List.getD]
theorem bz_append_left {l m : List Nat} {k : Nat} (h : k < l.length) : bz (l ++ m) k = bz l k := by
  simp [bz, List.getD, List.getElem?_append_left h]
theorem bz_append_right {l m : List Nat} {k : Nat} (h : l.length ≤ k) : bz (l ++ m) k = bz m (k - l.length) := by
  simp [bz, List.getD, List.getElem?_append_right h]
theorem bz_set {l : List Nat} {k j x : Nat} (h : k < l.length) : bz (l.set k x) j = if j = k then x else bz l j := by
  unfold bz
  simp only [List.getD, List.getElem?_set]
  by_cases e : k = j
  · subst e; simp [h]
  · rw [if_neg e, if_neg (Ne.symm e)]
theorem bz_ext {l m : List Nat} (h : l.length = m.length) (hx : ∀ k, k < l.length → bz l k = bz m k) : l = m := by
  apply List.ext_getElem h
  intro k h1 h2
  rw [← bz_get h1, ← bz_get h2]
  exact hx k h1
theorem bz_rep (n v k : Nat) (h : k < n) : bz (List.replicate n v) k = v := by simp [bz, List.getD, h]

theorem Octs.take {l : List Nat} (h : Octs l) (m : Nat) : Octs (l.take m) := fun k hk => by
  rw [List.length_take] at hk
  rw [bz_take (by omega)]; exact h k (by omega)
theorem Octs.drop {l : List Nat} (h : Octs l) (m : Nat) : Octs (l.drop m) := fun k hk => by
  rw [List.length_drop] at hk
  rw [bz_drop]; exact h _ (by omega)
theorem Octs.append {l m : List Nat} (h : Octs l) (h2 : Octs m) : Octs (l ++ m) := fun k hk => by
  rw [List.length_append] at hk
  by_cases e : k < l.length
  · rw [bz_append_left e]; exact h k e
  · rw [bz_append_right (by omega)]; exact h2 _ (by omega)
theorem Octs.set {l : List Nat} (h : Octs l) {k x : Nat} (hx : x < 256) : Octs (l.set k x) := fun j hj => by
  rw [List.length_set] at hj
  by_cases hk : k < l.length
  · rw [bz_set hk]; split
    · exact hx
    · exact h j hj
  · rw [List.set_eq_of_length_le (by omega)]; exact h j hj
theorem Octs.rep (n v : Nat) (h : v < 256) : Octs (List.replicate n v) := fun k hk => by
  rw [List.length_replicate] at hk
  rw [bz_rep n v k hk]; exact h
theorem Octs.splice {l m : List Nat} (h : Octs l) (h2 : Octs m) (k : Nat) : Octs (splice l k m) := (h.take k).append (h2.append (h.drop _))
theorem Octs.nil : Octs [] := fun k hk => by simp at hk
theorem Octs.cons {x : Nat} {l : List Nat} (hx : x < 256) (h : Octs l) : Octs (x :: l) := fun k hk => by
  cases k with
  | zero => exact hx
  | succ k => exact h k (by simpa using hk)
theorem Octs.mem {l : List Nat} (h : Octs l) : ∀ x ∈ l, x < 256 := by
  intro x hx
  obtain ⟨k, hk, rfl⟩ := List.mem_iff_getElem.1 hx
  rw [← bz_get hk]; exact h k hk
theorem octs_mem {l : List Nat} (h : ∀ x ∈ l, x < 256) : Octs l := fun k hk => by rw [bz_get hk]; exact h _ (List.getElem_mem hk)

theorem addr_add (g k j : Nat) : (⟨g, k, none⟩ : Addr).add j = ⟨g, k + j, none⟩ := by unfold Addr.add; split <;> simp_all

theorem BAt.sub {w : World} {b off : Nat} {l : List Nat} (h : BAt w (some ⟨b, off, none⟩) l) (m n : Nat) : BAt w (some ⟨b, off + m, none⟩) ((l.drop m).take n) := by
  rcases h with h | ⟨b', o', e, h⟩
  · exact .inl (by simp; omega)
  · simp only [Option.some.injEq, Addr.mk.injEq, and_true] at e
    obtain ⟨rfl, rfl⟩ := e
    refine .inr ⟨b, off + m, rfl, fun k hk => ?_⟩
    rw [List.length_take, List.length_drop] at hk
    rw [Nat.add_assoc, h (m + k) (by omega), bz_take (by omega), bz_drop]
theorem BAt.cell {w : World} {b off : Nat} {l : List Nat} (h : BAt w (some ⟨b, off, none⟩) l) {k : Nat} (hk : k < l.length) : w.cell? ⟨b, off + k, none⟩ = some (.int .u8 ((bz l k : Nat) : Int)) := by
  rcases h with h | ⟨b', o', e, h⟩
  · omega
  · simp only [Option.some.injEq, Addr.mk.injEq, and_true] at e
    obtain ⟨rfl, rfl⟩ := e
    exact h k hk
theorem BAt.addr {w : World} {a : Option Addr} {l : List Nat} (h : BAt w a l) (h0 : 0 < l.length) : ∃ b off, a = some ⟨b, off, none⟩ := by
  rcases h with h | ⟨b, o, e, _⟩
  · omega
  · exact ⟨b, o, e⟩
theorem BAt.drew {w : World} {a : Option Addr} {l : List Nat} {m : Nat} (h : BAt w a l) : BAt (w.drewN m) a l := h
theorem BAt.drew1 {w : World} {a : Option Addr} {l : List Nat} (h : BAt w a l) : BAt w.drew a l := h
theorem BAt.on {w w' : World} {a : Option Addr} {l : List Nat} {B : Nat} (h : BAt w a l) (hb : Below B w w') (hB : w.heap.size ≤ B) : BAt w' a l := by
  rcases h with h | ⟨b, off, rfl, hx⟩
  · exact .inl h
  · by_cases h0 : 0 < l.length
    · have hlt : b < w.heap.size := World.block_lt_of_cell? w _ (hx 0 h0)
      exact .inr ⟨b, off, rfl, fun k hk => by rw [hb.cell (p := ⟨b, off + k, none⟩) (by show b < B; omega)]; exact hx k hk⟩
    · exact .inl (by omega)

/-- block g holds these bytes, and no more -/
def Row (w : World) (g : Nat) (l : List Nat) : Prop := w.heap[g]? = some (.cells (bv l).toArray 5 (0, 0))
theorem Row.lt {w : World} {g : Nat} {l : List Nat} (h : Row w g l) : g < w.heap.size := (Array.getElem?_eq_some_iff.1 h).1
theorem Row.cell {w : World} {g : Nat} {l : List Nat} (h : Row w g l) {k : Nat} (hk : k < l.length) : w.cell? ⟨g, k, none⟩ = some (.int .u8 ((bz l k : Nat) : Int)) := by
  rw [cell_of_row w g k _ _ _ h]
  simpa using bv_get hk
theorem Row.frozen {w : World} {g : Nat} {l : List Nat} (h : Row w g l) (k : Nat) : w.frozen? ⟨g, k, none⟩ = false := by
  unfold Row at h
  simp [World.frozen?, h]
theorem Row.bat {w : World} {g : Nat} {l : List Nat} (h : Row w g l) : BAt w (some ⟨g, 0, none⟩) l :=
  .inr ⟨g, 0, rfl, fun k hk => by rw [Nat.zero_add]; exact h.cell hk⟩
theorem Row.drew {w : World} {g : Nat} {l : List Nat} {m : Nat} (h : Row w g l) : Row (w.drewN m) g l := h
theorem Row.drew1 {w : World} {g : Nat} {l : List Nat} (h : Row w g l) : Row w.drew g l := h
theorem Row.on {w w' : World} {g B : Nat} {l : List Nat} (h : Row w g l) (hb : Below B w w') (hg : g < B) : Row w' g l := by
  unfold Row; rw [hb.block g hg]; exact h
theorem Row.set {w : World} {g : Nat} {l : List Nat} (h : Row w g l) (k x : Nat) : Row (w.setCell ⟨g, k, none⟩ (.int .u8 ((x : Nat) : Int))) g (l.set k x) := by
  have e := setCell_eq_setRow w g k _ _ _ (.int .u8 ((x : Nat) : Int)) h
  unfold Row
  rw [e, ← bv_set]
  have := setRow_heap w g _ ((bv l).toArray.setIfInBounds k (.int .u8 ((x : Nat) : Int))) _ _ h
  rw [this]
  simp

theorem row_alloc (w : World) (l : List Nat) : Row (w.alloc (.cells (bv l).toArray 5)) w.heap.size l := heap_alloc_new w _
def zs (n : Nat) : List Nat := List.replicate n 0
theorem zs_length (n : Nat) : (zs n).length = n := by simp [zs]
theorem made_bytes (n : Nat) : madeCells #[Value.int .u8 0] n = (bv (zs n)).toArray := by
  apply Array.ext
  · simp [size_madeCells, bv, zs]
  · intro k h1 h2
    simp [madeCells, bv, zs, Nat.mod_one]

theorem wpList_make_bytes {w : World} {ops : Array Oper} {rest : List Oper} {o : Oper} {a : Act} {Q : Exit → Act → World → Prop} (hg : o.guard = none) (l c : Operand) (hop : o.op = Op.makeSlice 54 l c)
    (n : Nat) (hl : a.eval l = .int .i64 (n : Int)) (hc : a.eval c = .int .i64 (n : Int)) (hn : n ≤ 1000000)
    (hK : ∀ g w1, Hid (Row w1 g (zs n)) → w.heap.size ≤ g → Below w.heap.size w w1 → wpList Try.prog ops Q rest (a.put o.dst (.slice (some ⟨g, 0, none⟩) n n)) w1) :
    wpList Try.prog ops Q (o :: rest) a w := by
  obtain ⟨i, hi, hz0, hz1, hz2⟩ := info_parts Try.infoB
  refine wpList_make_row w hg l c 54 hop 5 i (.int .u8 0) Try.underlying54 hi hz0 hz1 rfl .i64 .i64 n hl hc (by rw [hz2]; omega) (by omega) ?_
  rw [made_bytes]
  exact hK _ _ (heap_alloc_new w _) (Nat.le_refl _) ((Below.refl _ _).alloc (Nat.le_refl _) _)

/-- a copy of bytes into a row of the call's own -/
theorem wpList_copy_bytes {w : World} {ops : Array Oper} {rest : List Oper} {o : Oper} {a : Act} {Q : Exit → Act → World → Prop} (hgd : o.guard = none) (d s : Operand)
    (ho : o.op = .call { callee := .builtin .copy, args := #[d, s], argTypes := #[54, 54] })
    (g off dLen dCap : Nat) (sp : Option Addr) (n sCap : Nat) (L m : List Nat) (hd : a.eval d = .slice (some ⟨g, off, none⟩) dLen dCap) (hs : a.eval s = .slice sp n sCap) (hm : m.length = n)
    (hrow : Row w g L) (hsrc : BAt w sp m) (hfit : off + dLen ≤ L.length) (B : Nat) (w0 : World) (hb : Below B w0 w) (hBg : B ≤ g)
    (h : ∀ w', Hid (Row w' g (splice L off (m.take dLen))) → Below B w0 w' → wpList Try.prog ops Q rest (a.put o.dst (goInt (m.take dLen).length)) w') : wpList Try.prog ops Q (o :: rest) a w := by
  subst hm
  have hlen : (bv (m.take dLen)).length = (m.take dLen).length := bv_length _
  refine wpList_copy_splice hgd d s _ _ ho 5 Try.underlying54 ?_ (some ⟨g, off, none⟩) sp dLen dCap m.length sCap hd hs g off (bv L) 5 hrow (bv (m.take dLen)) ?_ ?_ ?_ (bv_one _) B w0 hb hBg ?_
  · obtain ⟨i, hi, hz0, hz1, hz2⟩ := info_parts Try.infoB
    rw [hi]; simp [hz1]
  · rw [hlen, List.length_take]; show min dLen m.length = min m.length dLen; omega
  · intro hp
    rw [hlen, List.length_take] at hp
    obtain ⟨b, o', rfl⟩ := hsrc.addr (by omega)
    refine ⟨rfl, _, rfl, fun j v hv => ?_⟩
    obtain ⟨hj, rfl⟩ := bv_at hv
    rw [List.length_take] at hj
    rw [addr_add, hsrc.cell (by omega), bz_take (by omega)]
  · rw [hlen, bv_length, List.length_take]; omega
  · intro w' hw hb'
    rw [hlen, bv_splice] at *
    exact h w' hw hb'
end Go.Proofs.Ytnfaeejeipbciaa
end

section
set_option linter.unusedVariables false
set_option linter.unusedSimpArgs false
namespace Go.Proofs.Ytnfaeejeipbciaa
open Go.RowKit BigFrame Go.ChangeMaps Go.WideShapes
open Go.Maps (Keyed)

/-- an element reads as itself -/
def tokE (v : Value) : Option (DataW Value × List MemPlace) := some (.held v, [])
def entW (p : Lit × Value) : Lit × DataW Value := (p.1, .held p.2)
/-- a map lies in block b: these entries -/
def MapAt (k : TypeId) (w : World) (b : Nat) (l : List (Lit × Value)) : Prop := w.ownsMap Try.prog k tokE b l.length (.map (l.map entW))
/-- what stands at a key -/
def fndL (l : List (Lit × Value)) (kl : Lit) : Option Value := (l.find? fun p => p.1.sameKey kl).map (·.2)
/-- one laid among the others -/
def insL (x : Lit × Value) : List (Lit × Value) → List (Lit × Value)
  | [] => [x]
  | y :: r => if x.1.before y.1 then x :: y :: r else y :: insL x r
/-- all but a key -/
def strL (l : List (Lit × Value)) (kl : Lit) : List (Lit × Value) := l.filter fun p => !p.1.sameKey kl

theorem insL_map (x : Lit × Value) : ∀ l : List (Lit × Value), (insL x l).map entW = DataW.insert (entW x) (l.map entW)
  | [] => rfl
  | y :: r => by
    unfold insL
    rw [List.map_cons, DataW.insert]
    by_cases h : x.1.before y.1 = true
    · rw [if_pos h, if_pos (show (entW x).1.before (entW y).1 = true from h)]; rfl
    · rw [if_neg h, if_neg (show ¬ (entW x).1.before (entW y).1 = true from h), List.map_cons, insL_map x r]
theorem insL_length (x : Lit × Value) : ∀ l : List (Lit × Value), (insL x l).length = l.length + 1
  | [] => rfl
  | y :: r => by
    unfold insL
    by_cases h : x.1.before y.1 = true
    · rw [if_pos h]; rfl
    · rw [if_neg h]; simp [insL_length x r]
theorem strL_map (l : List (Lit × Value)) (kl : Lit) : (strL l kl).map entW = (l.map entW).filter fun p => !p.1.sameKey kl := by
  unfold strL
  rw [List.filter_map]
  rfl
theorem fndL_at (l : List (Lit × Value)) (kl : Lit) (z : Value) : (DataW.map (l.map entW)).atKey kl (.held z) = .held ((fndL l kl).getD z) := by
  unfold DataW.atKey fndL
  have e : (l.map entW).find? (fun p => p.1.sameKey kl) = (l.find? fun p => p.1.sameKey kl).map entW := by rw [List.find?_map]; rfl
  simp only [e]
  cases l.find? fun p => p.1.sameKey kl <;> rfl
theorem fndL_has (l : List (Lit × Value)) (kl : Lit) : Maps.has (DataW.map (l.map entW)) kl = (fndL l kl).isSome := by
  unfold fndL
  rw [Maps.has_eq, List.any_map]
  show (l.any fun p => p.1.sameKey kl) = _
  rw [Option.isSome_map]
  cases h : l.any fun p => p.1.sameKey kl
  · symm
    rw [Bool.eq_false_iff]
    intro h2
    obtain ⟨x, hx, hp⟩ := List.find?_isSome.1 h2
    exact absurd (List.any_eq_true.2 ⟨x, hx, hp⟩) (by rw [h]; decide)
  · obtain ⟨x, hx, hp⟩ := List.any_eq_true.1 h
    exact (List.find?_isSome.2 ⟨x, hx, hp⟩).symm

theorem ownsMap_tight {k : TypeId} {w : World} {b n : Nat} {R : Value → Option (DataW Value × List MemPlace)} {D : DataW Value} (h : w.ownsMap Try.prog k R b n D) : w.ownsMap Try.prog k R b (Maps.size D) D := by
  obtain ⟨es, c, hb, F, _, rfl⟩ := h
  exact ⟨es, c, hb, F, by simp [Maps.size, length_sorted], rfl⟩
theorem MapAt.of {k : TypeId} {w : World} {b n : Nat} {l : List (Lit × Value)} (h : w.ownsMap Try.prog k tokE b n (.map (l.map entW))) : MapAt k w b l := by
  have := ownsMap_tight h
  rwa [Maps.size_eq, List.length_map] at this
theorem MapAt.lt {k : TypeId} {w : World} {b : Nat} {l : List (Lit × Value)} (h : MapAt k w b l) : b < w.heap.size := World.ownsMap.lt h
theorem MapAt.blk {k : TypeId} {w w' : World} {b : Nat} {l : List (Lit × Value)} (h : MapAt k w b l) (e : w'.heap[b]? = w.heap[b]?) : MapAt k w' b l := by
  obtain ⟨es, c, hb, r⟩ := h
  exact ⟨es, c, e.trans hb, r⟩
theorem MapAt.made (k : TypeId) (w : World) : MapAt k (w.alloc (.map #[] 0)) w.heap.size [] := World.ownsMap_made w _ k _
theorem MapAt.keys {k : TypeId} {w : World} {b : Nat} {l : List (Lit × Value)} (h : MapAt k w b l) (K : Keyed Try.prog k) : ∀ p ∈ l, WideAt.IsKeyLit p.1 := fun p hp => by
  obtain ⟨es, e, _, h2⟩ := World.ownsMap.entries h K
  have e' := (DataW.map.injEq _ _).mp e
  exact h2 (entW p) (e' ▸ List.mem_map_of_mem hp)
theorem MapAt.apart {k : TypeId} {w : World} {b : Nat} {l : List (Lit × Value)} (h : MapAt k w b l) (K : Keyed Try.prog k) : l.Pairwise fun p q => p.1 ≠ q.1 := by
  obtain ⟨es, e, h1, _⟩ := World.ownsMap.entries h K
  have e' := (DataW.map.injEq _ _).mp e
  rw [← e', List.pairwise_map] at h1
  exact h1
theorem MapAt.look {k t e : TypeId} {w : World} {b : Nat} {l : List (Lit × Value)} (h : MapAt k w b l) (K : Keyed Try.prog k) (ht : Try.prog.underlying t = some (.map k e)) {z : Value} (hz : (zeroValue e).run Try.prog w = .ok z w)
    {key : Value} {kl : Lit} (hkey : keyOf Try.prog k key = some kl) : (Instr.lookup t (.map (some b)) key false).run Try.prog w = .ok ((fndL l kl).getD z) w := by
  obtain ⟨v, ps, h1, h2⟩ := World.ownsMap.lookup h K ht hz (zd := .held z) (zp := []) rfl hkey
  rw [fndL_at] at h2
  rw [h1, ← (DataW.held.injEq _ _).mp (congrArg Prod.fst (Option.some.inj h2))]
theorem MapAt.look_ok {k t e : TypeId} {w : World} {b : Nat} {l : List (Lit × Value)} (h : MapAt k w b l) (K : Keyed Try.prog k) (ht : Try.prog.underlying t = some (.map k e)) {z : Value} (hz : (zeroValue e).run Try.prog w = .ok z w)
    {key : Value} {kl : Lit} (hkey : keyOf Try.prog k key = some kl) : (Instr.lookup t (.map (some b)) key true).run Try.prog w = .ok (.tuple #[(fndL l kl).getD z, .bool (fndL l kl).isSome]) w := by
  obtain ⟨v, ps, h1, h2⟩ := World.ownsMap.look_ok h K ht hz (zd := .held z) (zp := []) rfl hkey
  rw [fndL_at] at h2
  rw [h1, ← (DataW.held.injEq _ _).mp (congrArg Prod.fst (Option.some.inj h2)), fndL_has]
theorem MapAt.len {k t e : TypeId} {w : World} {b : Nat} {l : List (Lit × Value)} (h : MapAt k w b l) (ht : Try.prog.underlying t = some (.map k e)) (ty : TypeId) : (Builtin.len_ #[t] ty #[.map (some b)]).run Try.prog w = .ok (.int .i64 (l.length : Nat)) w := by
  have := World.ownsMap.len h ht ty
  rwa [Maps.size_eq, List.length_map] at this
/-- one block has turned -/
def MTurn (w w' : World) (b : Nat) : Prop := w.mapTurned w' b
theorem mturn_blk {w w' : World} {b : Nat} (h : w.mapTurned w' b) {k : Nat} (hk : k ≠ b) : w'.heap[k]? = w.heap[k]? := by
  obtain ⟨es, c, es', c', hb, rfl⟩ := h
  exact heap_setBlock_other hb _ hk
theorem mturn_size {w w' : World} {b : Nat} (h : w.mapTurned w' b) : w'.heap.size = w.heap.size := by
  obtain ⟨es, c, es', c', hb, rfl⟩ := h
  simp [setBlock]
theorem MapAt.store {k t e : TypeId} {w : World} {b : Nat} {l : List (Lit × Value)} (h : MapAt k w b l) (K : Keyed Try.prog k) (ht : Try.prog.underlying t = some (.map k e)) (hn : l.length < maxLen)
    {key val : Value} {kl : Lit} (hkey : keyOf Try.prog k key = some kl) :
    ∃ w', (Instr.mapUpdate t (.map (some b)) key val).run Try.prog w = .ok () w' ∧ MapAt k w' b (insL (kl, val) (strL l kl)) ∧ w.mapTurned w' b := by
  obtain ⟨w', h1, h2, h3⟩ := World.ownsMap.store h K ht hn hkey (val := val) (d := .held val) (ps := []) rfl
  refine ⟨w', h1, MapAt.of (n := l.length + 1) ?_, h3⟩
  rw [insL_map, strL_map]
  exact h2
theorem MapAt.drop {k t e : TypeId} {w : World} {b : Nat} {l : List (Lit × Value)} (h : MapAt k w b l) (K : Keyed Try.prog k) (ht : Try.prog.underlying t = some (.map k e)) {key : Value} {kl : Lit} (hkey : keyOf Try.prog k key = some kl) (ty : TypeId) :
    ∃ w', (Builtin.delete_ #[t, k] ty #[.map (some b), key]).run Try.prog w = .ok (.tuple #[]) w' ∧ MapAt k w' b (strL l kl) ∧ w.mapTurned w' b := by
  obtain ⟨w', h1, h2, h3⟩ := World.ownsMap.drop h K ht hkey ty
  refine ⟨w', h1, MapAt.of (n := l.length) ?_, h3⟩
  rw [strL_map]
  exact h2

/-! ### At the operations -/
section
variable {w : World} {ops : Array Oper} {rest : List Oper} {o : Oper} {a : Act} {Q : Exit → Act → World → Prop}
theorem wpList_map_store {k t e : TypeId} (hg : o.guard = none) (m x v : Operand) (hop : o.op = Op.mapUpdate t m x v) (K : Keyed Try.prog k) (ht : Try.prog.underlying t = some (.map k e)) (b : Nat) (l : List (Lit × Value))
    (hm : a.eval m = .map (some b)) (h : MapAt k w b l) (hn : l.length < maxLen) (key val : Value) (kl : Lit) (hx : a.eval x = key) (hv : a.eval v = val) (hkey : keyOf Try.prog k key = some kl)
    (hK : ∀ w', Hid (MapAt k w' b (insL (kl, val) (strL l kl))) → Hid (w.mapTurned w' b) → wpList Try.prog ops Q rest (a.put o.dst undef) w') : wpList Try.prog ops Q (o :: rest) a w := by
  refine wpList_plain hg fun K' hK' => ?_
  obtain ⟨w', hrun, r1, r2⟩ := h.store K ht hn (val := val) hkey
  unfold Oper.wp
  simp [execOp, hop, hm, hx, hv, hrun, Result.andThen]
  exact hK' _ _ (hK w' r1 r2)
theorem wpList_map_drop {k t e : TypeId} (hg : o.guard = none) (m x : Operand) (hop : o.op = Op.call { callee := Callee.builtin Builtin.delete, args := #[m, x], argTypes := #[t, k] }) (K : Keyed Try.prog k) (ht : Try.prog.underlying t = some (.map k e)) (b : Nat) (l : List (Lit × Value))
    (hm : a.eval m = .map (some b)) (h : MapAt k w b l) (key : Value) (kl : Lit) (hx : a.eval x = key) (hkey : keyOf Try.prog k key = some kl)
    (hK : ∀ w', Hid (MapAt k w' b (strL l kl)) → Hid (w.mapTurned w' b) → wpList Try.prog ops Q rest (a.put o.dst (.tuple #[])) w') : wpList Try.prog ops Q (o :: rest) a w := by
  refine wpList_plain hg fun K' hK' => ?_
  obtain ⟨w', hrun, r1, r2⟩ := h.drop K ht hkey o.type
  unfold Oper.wp
  simp [execOp, hop, resolve, invoke, builtin, hm, hx, hrun, Result.andThen]
  exact hK' _ _ (hK w' r1 r2)
theorem wpList_map_look {k t e : TypeId} (hg : o.guard = none) (m x : Operand) (hop : o.op = Op.lookup t m x false) (K : Keyed Try.prog k) (ht : Try.prog.underlying t = some (.map k e)) {z : Value} (hz : (zeroValue e).run Try.prog w = .ok z w) (b : Nat) (l : List (Lit × Value))
    (hm : a.eval m = .map (some b)) (h : MapAt k w b l) (key : Value) (kl : Lit) (hx : a.eval x = key) (hkey : keyOf Try.prog k key = some kl) (v : Value) (hv : (fndL l kl).getD z = v)
    (hK : wpList Try.prog ops Q rest (a.put o.dst v) w) : wpList Try.prog ops Q (o :: rest) a w := by
  subst hv
  refine wpList_plain hg fun K' hK' => ?_
  unfold Oper.wp
  simp [execOp, hop, hm, hx, h.look K ht hz hkey, Result.andThen]
  exact hK' _ _ hK
theorem wpList_map_len {k t e : TypeId} (hg : o.guard = none) (m : Operand) (hop : o.op = Op.call { callee := Callee.builtin Builtin.len, args := #[m], argTypes := #[t] }) (ht : Try.prog.underlying t = some (.map k e)) (b : Nat) (l : List (Lit × Value))
    (hm : a.eval m = .map (some b)) (h : MapAt k w b l) (hK : wpList Try.prog ops Q rest (a.put o.dst (.int .i64 (l.length : Nat))) w) : wpList Try.prog ops Q (o :: rest) a w := by
  refine wpList_plain hg fun K' hK' => ?_
  unfold Oper.wp
  simp [execOp, hop, resolve, invoke, builtin, hm, h.len ht o.type, Result.andThen]
  exact hK' _ _ hK
end

/-! ### Gone through -/
/-- a loop over the map is under way: these are still to come -/
def MapOn (k : TypeId) (w : World) (b r : Nat) (l left : List (Lit × Value)) : Prop :=
  ∃ cnt, w.ranges Try.prog k tokE b r l.length (.map (l.map entW)) (fun z => left.any fun p => p.1.sameKey z) cnt ∧ left.Sublist l ∧ cnt ≤ w.rangeLeft b r
theorem MapOn.at {k : TypeId} {w : World} {b r : Nat} {l left : List (Lit × Value)} (h : MapOn k w b r l left) : MapAt k w b l := by
  obtain ⟨c, h, _⟩ := h
  exact h.owns
theorem MapOn.lt {k : TypeId} {w : World} {b r : Nat} {l left : List (Lit × Value)} (h : MapOn k w b r l left) : r < w.heap.size := by
  obtain ⟨c, h, _⟩ := h
  exact h.lt
theorem rangeLeft_blk {w w' : World} {b r : Nat} (e1 : w'.heap[b]? = w.heap[b]?) (e2 : w'.heap[r]? = w.heap[r]?) : w'.rangeLeft b r = w.rangeLeft b r := by
  unfold World.rangeLeft
  rw [e1, e2]
theorem MapOn.blk {k : TypeId} {w w' : World} {b r : Nat} {l left : List (Lit × Value)} (h : MapOn k w b r l left) (e1 : w'.heap[b]? = w.heap[b]?) (e2 : w'.heap[r]? = w.heap[r]?) : MapOn k w' b r l left := by
  obtain ⟨c, ⟨es, clock, since, seen, c0, hb, F, hs, hD, hr, rest⟩, hp, hc⟩ := h
  exact ⟨c, ⟨es, clock, since, seen, c0, e1.trans hb, F, hs, hD, e2.trans hr, rest⟩, hp, by rw [rangeLeft_blk e1 e2]; exact hc⟩
theorem apart_ne : ∀ {l : List (Lit × Value)}, (l.Pairwise fun p q => p.1 ≠ q.1) → ∀ {p q : Lit × Value}, p ∈ l → q ∈ l → p ≠ q → p.1 ≠ q.1
  | [], _, _, _, h, _, _ => by simp at h
  | x :: r, ha, p, q, hp, hq, hne => by
    obtain ⟨h1, h2⟩ := List.pairwise_cons.1 ha
    rcases List.mem_cons.1 hp with ep | hp
    · rcases List.mem_cons.1 hq with eq | hq
      · exact absurd (ep.trans eq.symm) hne
      · rw [ep]; exact h1 q hq
    · rcases List.mem_cons.1 hq with eq | hq
      · rw [eq]; exact (h1 p hp).symm
      · exact apart_ne h2 hp hq hne
theorem perm_but {l : List (Lit × Value)} {p : Lit × Value} (hp : p ∈ l) (ha : l.Pairwise fun p q => p.1 ≠ q.1) (hk : ∀ p ∈ l, WideAt.IsKeyLit p.1) : (p :: strL l p.1).Perm l := by
  induction l with
  | nil => simp at hp
  | cons x r ih =>
    obtain ⟨h1, h2⟩ := List.pairwise_cons.1 ha
    unfold strL
    by_cases e : x.1.sameKey p.1 = true
    · have ex := WideAt.sameKey_eq e
      have hx : p = x := by
        rcases List.mem_cons.1 hp with h | h
        · exact h
        · exact absurd ex (h1 p h)
      subst hx
      rw [List.filter_cons, if_neg (by rw [e]; decide)]
      refine List.Perm.cons _ ?_
      rw [List.filter_eq_self.2]
      intro q hq
      rw [Maps.sameKey_ne (fun e2 => h1 q hq e2.symm)]
      rfl
    · have hx : p ∈ r := by
        rcases List.mem_cons.1 hp with h | h
        · subst h; exact absurd (WideAt.sameKey_self (hk p List.mem_cons_self)) e
        · exact h
      rw [List.filter_cons, if_pos (by simpa using e)]
      exact (List.Perm.swap x p _).trans (List.Perm.cons x (ih hx h2 fun q hq => hk q (List.mem_cons_of_mem _ hq)))
theorem MapAt.range {k t e : TypeId} {w : World} {b : Nat} {l : List (Lit × Value)} (h : MapAt k w b l) (K : Keyed Try.prog k) (ht : Try.prog.underlying t = some (.map k e)) :
    ∃ w', (Instr.range t (.map (some b))).run Try.prog w = .ok (.pointer (some ⟨w.heap.size, 0, none⟩)) w' ∧ MapOn k w' b w.heap.size l l ∧ w.grownBy w' none ∧ w'.heap.size = w.heap.size + 1 := by
  obtain ⟨w', h1, h2, h3, h4⟩ := World.ownsMap.range h K ht
  refine ⟨w', h1, ⟨_, ?_, List.Sublist.refl _, Nat.le_of_eq h2.left_eq.symm⟩, h3, h4⟩
  have e : (Maps.has (DataW.map (l.map entW))) = fun z => l.any fun p => p.1.sameKey z := by
    funext z
    rw [Maps.has_eq, List.any_map]
    rfl
  rw [← e]
  exact h2
theorem MapOn.next {k : TypeId} {w : World} {b r : Nat} {l left : List (Lit × Value)} (h : MapOn k w b r l left) (K : Keyed Try.prog k) (ty : TypeId) :
    (left = [] ∧ (Instr.next (.pointer (some ⟨r, 0, none⟩)) false ty).run Try.prog w = .ok (.tuple #[.bool false]) w) ∨
    ∃ key p w', p ∈ left ∧ keyOf Try.prog k key = some p.1 ∧ (Instr.next (.pointer (some ⟨r, 0, none⟩)) false ty).run Try.prog w = .ok (.tuple #[.bool true, key, p.2]) w' ∧ MapOn k w' b r l (strL left p.1) ∧ (p :: strL left p.1).Perm left ∧
      w'.rangeLeft b r < w.rangeLeft b r ∧ w.grownBy w' (some r) ∧ w'.heap.size = w.heap.size ∧ (Instr.entry (.pointer (some ⟨r, 0, none⟩))).run Try.prog w' = .ok (.tuple #[key, p.2]) w' := by
  obtain ⟨c, h, hs, hc⟩ := h
  have hat : MapAt k w b l := h.owns
  have hkeys := hat.keys K
  have hap := hat.apart K
  rcases h.next K ty with ⟨_, h2, h3⟩ | ⟨key, v, kl, y, w', c', hkey, hlk, hv, hD, hrun, hrg, hlt, hgr, hsz, hen⟩
  · refine .inl ⟨?_, h3⟩
    cases left with
    | nil => rfl
    | cons p r =>
      have := h2 p.1
      simp only [List.any_cons, WideAt.sameKey_self (hkeys p (hs.subset List.mem_cons_self)), Bool.true_or] at this
      cases this
  · obtain ⟨p, hp, hpk⟩ := List.any_eq_true.1 hlk
    have e := WideAt.sameKey_eq hpk
    subst e
    have hv2 : v = p.2 := by
      have h1 := hD (.held v)
      rw [fndL_at] at h1
      have h3 : y.1 = .held v := by rw [← Option.some.inj hv]
      rw [h3] at h1
      have h4 := (DataW.held.injEq _ _).mp h1
      have h5 : l.find? (fun q => q.1.sameKey p.1) = some p := by
        cases hf : l.find? (fun q => q.1.sameKey p.1) with
        | none => exact absurd hpk (by have := List.find?_eq_none.1 hf p (hs.subset hp); simpa using this)
        | some q =>
          have hq := WideAt.sameKey_eq (List.find?_some (p := fun q : Lit × Value => q.1.sameKey p.1) hf)
          have hqm := List.mem_of_find?_eq_some hf
          by_cases e : q = p
          · rw [e]
          · exact absurd hq (apart_ne hap hqm (hs.subset hp) e)
      unfold fndL at h4
      rw [h5] at h4
      exact h4.symm
    subst hv2
    refine .inr ⟨key, p, w', hp, hkey, hrun, ⟨c', ?_, (List.filter_sublist ).trans hs, Nat.le_of_eq hrg.left_eq.symm⟩, perm_but hp (hap.sublist hs) (fun q hq => hkeys q (hs.subset hq)), ?_, hgr, hsz, hen⟩
    · have e : (fun z => (strL left p.1).any fun q => q.1.sameKey z) = fun z => (left.any fun q => q.1.sameKey z) && !z.sameKey p.1 := by
        funext z
        unfold strL
        rw [List.any_filter]
        cases hz : z.sameKey p.1
        · rw [Bool.not_false, Bool.and_true]
          refine congrArg (List.any left) (funext fun q => ?_)
          cases hq : q.1.sameKey z
          · rw [Bool.and_false]
          · have e1 := WideAt.sameKey_eq hq
            rw [e1, hz]
            rfl
        · have e1 := WideAt.sameKey_eq hz
          subst e1
          rw [Bool.not_true, Bool.and_false, List.any_eq_false]
          intro q hq
          cases q.1.sameKey p.1 <;> simp
      rw [e]
      exact hrg
    · rw [hrg.left_eq, h.left_eq]
      exact hlt

/-- 'range' at the operation -/
theorem wpList_map_range {w : World} {ops : Array Oper} {rest : List Oper} {o : Oper} {a : Act} {Q : Exit → Act → World → Prop} {k t e : TypeId} (hg : o.guard = none) (m : Operand) (hop : o.op = Op.range t m) (K : Keyed Try.prog k) (ht : Try.prog.underlying t = some (.map k e)) (b : Nat) (l : List (Lit × Value))
    (hm : a.eval m = .map (some b)) (h : MapAt k w b l) (hK : ∀ w', Hid (MapOn k w' b w.heap.size l l) → Hid (Below w.heap.size w w') → Hid (w'.heap.size = w.heap.size + 1) → wpList Try.prog ops Q rest (a.put o.dst (.pointer (some ⟨w.heap.size, 0, none⟩))) w') : wpList Try.prog ops Q (o :: rest) a w := by
  refine wpList_plain hg fun K' hK' => ?_
  obtain ⟨w', hrun, r1, r2, r3⟩ := h.range K ht
  unfold Oper.wp
  simp [execOp, hop, hm, hrun, Result.andThen]
  exact hK' _ _ (hK w' r1 ⟨r2.os, r2.tape, r2.output, r2.size, fun j hj => r2.block j hj (by simp)⟩ r3)
/-- the step, at the operation -/
theorem wpList_map_next {w : World} {ops : Array Oper} {rest : List Oper} {o : Oper} {a : Act} {Q : Exit → Act → World → Prop} {k : TypeId} (hg : o.guard = none) (it : Operand) (hop : o.op = Op.next it false) (K : Keyed Try.prog k) (b r : Nat) (l left : List (Lit × Value))
    (hit : a.eval it = .pointer (some ⟨r, 0, none⟩)) (h : MapOn k w b r l left)
    (hDone : left = [] → wpList Try.prog ops Q rest (a.put o.dst (.tuple #[.bool false])) w)
    (hMore : ∀ key (p : Lit × Value) w', p ∈ left → keyOf Try.prog k key = some p.1 → Hid (MapOn k w' b r l (strL left p.1)) → Hid ((p :: strL left p.1).Perm left) → Hid (w.grownBy w' (some r)) → Hid (w'.heap.size = w.heap.size) →
      (Instr.entry (.pointer (some ⟨r, 0, none⟩))).run Try.prog w' = .ok (.tuple #[key, p.2]) w' → wpList Try.prog ops Q rest (a.put o.dst (.tuple #[.bool true, key, p.2])) w') : wpList Try.prog ops Q (o :: rest) a w := by
  refine wpList_plain hg fun K' hK' => ?_
  unfold Oper.wp
  rcases h.next K o.type with ⟨h0, hrun⟩ | ⟨key, p, w', hp, hkey, hrun, h1, h2, _, h4, h5, h6⟩
  · simp [execOp, hop, hit, hrun, Result.andThen]
    exact hK' _ _ (hDone h0)
  · simp [execOp, hop, hit, hrun, Result.andThen]
    exact hK' _ _ (hMore key p w' hp hkey h1 h2 h4 h5 h6)

/-! ### Its keys -/
/-- the k-th key of integers, of strings -/
theorem law_int : Keyed Try.prog 3 := Maps.int_keyed Try.underlying3
theorem law_str : Keyed Try.prog 9 := Maps.string_keyed Try.underlying9
end Go.Proofs.Ytnfaeejeipbciaa
end
