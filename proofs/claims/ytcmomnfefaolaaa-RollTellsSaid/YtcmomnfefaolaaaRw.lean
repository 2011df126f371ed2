/-
  Bytes: as lists of numbers, in memory, and in rows of the call's own, known whole: made, stored into, copied into.
-/
import Derived.Test.YtcmomnfefaolaaaRows
import Derived.WalkKit
import Derived.ProofKit
import Derived.Handy
import Derived.IntWalk
import Derived.Laws.BitsAllLaws
import Derived.Laws.Shifts
import Derived.Lib.Hide
import Derived.Laws.CopyOwn
import Derived.Deep.OwnRows
import Derived.OwnWalk
import Derived.Deep.QuietTactic
import Derived.BigQuiet
namespace Go.Proofs.Ytcmomnfefaolaaa
open Go.RowKit

/-- the n-th of some bytes -/
def bz (l : List Nat) (k : Nat) : Nat := l.getD k 0
theorem bz_get {l : List Nat} {k : Nat} (h : k < l.length) : bz l k = l[k] := by simp [bz, List.getD, List.getElem?_eq_getElem h]
/-- all of them are bytes -/
def Octs (l : List Nat) : Prop := ∀ k, k < l.length → bz l k < 256

theorem take_succ_bz {l : List Nat} {k : Nat} (h : k < l.length) : l.take (k + 1) = l.take k ++ [bz l k] := by
  rw [bz_get h, List.take_succ_eq_append_getElem h]

/-- bytes lie there, if any -/
def BAt (w : World) (a : Option Addr) (l : List Nat) : Prop :=
  l.length = 0 ∨ ∃ b off, a = some ⟨b, off, none⟩ ∧ ∀ k, k < l.length → w.cell? ⟨b, off + k, none⟩ = some (.int .u8 ((bz l k : Nat) : Int))


theorem val_int {k : IntKind} {a b : Int} (h : a = b) : Value.int k a = .int k b := by rw [h]
theorem ret_int {k : IntKind} {a b : Int} (h : a = b) : Ending.returned (.int k a) = .returned (.int k b) := by rw [h]


theorem Try.infoB : (Try.prog.info? 5).map (fun i => (i.zero, i.size, i.bytes)) = some (some (.int .u8 0), 1, 1) := by kernel_rfl

/-- bytes as cells -/
def bv (l : List Nat) : List Value := l.map fun n => Value.int .u8 ((n : Nat) : Int)
theorem bv_length (l : List Nat) : (bv l).length = l.length := by simp [bv]
theorem bv_get {l : List Nat} {k : Nat} (h : k < l.length) : (bv l)[k]? = some (.int .u8 ((bz l k : Nat) : Int)) := by simp [bv, bz_get h, h]
theorem bv_one (l : List Nat) : ∀ v ∈ bv l, v.oneCell' = true := by
  intro v hv
  obtain ⟨n, _, rfl⟩ := List.mem_map.1 hv
  rfl
theorem bv_at {l : List Nat} {k : Nat} {v : Value} (h : (bv l)[k]? = some v) : k < l.length ∧ v = .int .u8 ((bz l k : Nat) : Int) := by
  have hk : k < l.length := by have := (List.getElem?_eq_some_iff.1 h).1; rwa [bv_length] at this
  rw [bv_get hk] at h
  exact ⟨hk, (Option.some.inj h).symm⟩
theorem bv_set (l : List Nat) (k x : Nat) : (bv l).set k (.int .u8 ((x : Nat) : Int)) = bv (l.set k x) := by simp [bv, List.map_set]
theorem bv_append (l m : List Nat) : bv (l ++ m) = bv l ++ bv m := by simp [bv]
theorem bv_take (l : List Nat) (k : Nat) : bv (l.take k) = (bv l).take k := by simp [bv]
theorem bv_drop (l : List Nat) (k : Nat) : bv (l.drop k) = (bv l).drop k := by simp [bv]
theorem bv_splice (l m : List Nat) (k : Nat) : splice (bv l) k (bv m) = bv (splice l k m) := by simp [splice, bv]

theorem bz_take {l : List Nat} {m k : Nat} (h : k < m) : bz (l.take m) k = bz l k := by
  simp [bz, List.getD, h]
theorem bz_drop {l : List Nat} {m k : Nat} : bz (l.drop m) k = bz l (m + k) := by
  simp [bz, List.getD]
theorem bz_append_left {l m : List Nat} {k : Nat} (h : k < l.length) : bz (l ++ m) k = bz l k := by
  simp [bz, List.getD, List.getElem?_append_left h]
theorem bz_append_right {l m : List Nat} {k : Nat} (h : l.length ≤ k) : bz (l ++ m) k = bz m (k - l.length) := by
  simp [bz, List.getD, List.getElem?_append_right h]
theorem bz_set {l : List Nat} {k j x : Nat} (h : k < l.length) : bz (l.set k x) j = if j = k then x else bz l j := by
  unfold bz
  simp only [List.getD, List.getElem?_set]
  by_cases e : k = j
  · subst e; simp [h]
  · rw [if_neg e, if_neg (Ne.symm e)]
theorem bz_ext {l m : List Nat} (h : l.length = m.length) (hx : ∀ k, k < l.length → bz l k = bz m k) : l = m := by
  apply List.ext_getElem h
  intro k h1 h2
  rw [← bz_get h1, ← bz_get h2]
  exact hx k h1
theorem bz_rep (n v k : Nat) (h : k < n) : bz (List.replicate n v) k = v := by simp [bz, List.getD, h]

theorem Octs.take {l : List Nat} (h : Octs l) (m : Nat) : Octs (l.take m) := fun k hk => by
  rw [List.length_take] at hk
  rw [bz_take (by omega)]; exact h k (by omega)
theorem Octs.drop {l : List Nat} (h : Octs l) (m : Nat) : Octs (l.drop m) := fun k hk => by
  rw [List.length_drop] at hk
  rw [bz_drop]; exact h _ (by omega)
theorem Octs.append {l m : List Nat} (h : Octs l) (h2 : Octs m) : Octs (l ++ m) := fun k hk => by
  rw [List.length_append] at hk
  by_cases e : k < l.length
  · rw [bz_append_left e]; exact h k e
  · rw [bz_append_right (by omega)]; exact h2 _ (by omega)
theorem Octs.set {l : List Nat} (h : Octs l) {k x : Nat} (hx : x < 256) : Octs (l.set k x) := fun j hj => by
  rw [List.length_set] at hj
  by_cases hk : k < l.length
  · rw [bz_set hk]; split
    · exact hx
    · exact h j hj
  · rw [List.set_eq_of_length_le (by omega)]; exact h j hj
theorem Octs.rep (n v : Nat) (h : v < 256) : Octs (List.replicate n v) := fun k hk => by
  rw [List.length_replicate] at hk
  rw [bz_rep n v k hk]; exact h
theorem Octs.splice {l m : List Nat} (h : Octs l) (h2 : Octs m) (k : Nat) : Octs (splice l k m) := (h.take k).append (h2.append (h.drop _))
theorem Octs.nil : Octs [] := fun k hk => by simp at hk
theorem Octs.cons {x : Nat} {l : List Nat} (hx : x < 256) (h : Octs l) : Octs (x :: l) := fun k hk => by
  cases k with
  | zero => exact hx
  | succ k => exact h k (by simpa using hk)
theorem Octs.mem {l : List Nat} (h : Octs l) : ∀ x ∈ l, x < 256 := by
  intro x hx
  obtain ⟨k, hk, rfl⟩ := List.mem_iff_getElem.1 hx
  rw [← bz_get hk]; exact h k hk
theorem octs_mem {l : List Nat} (h : ∀ x ∈ l, x < 256) : Octs l := fun k hk => by rw [bz_get hk]; exact h _ (List.getElem_mem hk)

theorem addr_add (g k j : Nat) : (⟨g, k, none⟩ : Addr).add j = ⟨g, k + j, none⟩ := by unfold Addr.add; split <;> simp_all

theorem BAt.sub {w : World} {b off : Nat} {l : List Nat} (h : BAt w (some ⟨b, off, none⟩) l) (m n : Nat) : BAt w (some ⟨b, off + m, none⟩) ((l.drop m).take n) := by
  rcases h with h | ⟨b', o', e, h⟩
  · exact .inl (by simp; omega)
  · simp only [Option.some.injEq, Addr.mk.injEq, and_true] at e
    obtain ⟨rfl, rfl⟩ := e
    refine .inr ⟨b, off + m, rfl, fun k hk => ?_⟩
    rw [List.length_take, List.length_drop] at hk
    rw [Nat.add_assoc, h (m + k) (by omega), bz_take (by omega), bz_drop]
theorem BAt.cell {w : World} {b off : Nat} {l : List Nat} (h : BAt w (some ⟨b, off, none⟩) l) {k : Nat} (hk : k < l.length) : w.cell? ⟨b, off + k, none⟩ = some (.int .u8 ((bz l k : Nat) : Int)) := by
  rcases h with h | ⟨b', o', e, h⟩
  · omega
  · simp only [Option.some.injEq, Addr.mk.injEq, and_true] at e
    obtain ⟨rfl, rfl⟩ := e
    exact h k hk
theorem BAt.addr {w : World} {a : Option Addr} {l : List Nat} (h : BAt w a l) (h0 : 0 < l.length) : ∃ b off, a = some ⟨b, off, none⟩ := by
  rcases h with h | ⟨b, o, e, _⟩
  · omega
  · exact ⟨b, o, e⟩
theorem BAt.drew {w : World} {a : Option Addr} {l : List Nat} {m : Nat} (h : BAt w a l) : BAt (w.drewN m) a l := h
theorem BAt.drew1 {w : World} {a : Option Addr} {l : List Nat} (h : BAt w a l) : BAt w.drew a l := h
theorem BAt.on {w w' : World} {a : Option Addr} {l : List Nat} {B : Nat} (h : BAt w a l) (hb : Below B w w') (hB : w.heap.size ≤ B) : BAt w' a l := by
  rcases h with h | ⟨b, off, rfl, hx⟩
  · exact .inl h
  · by_cases h0 : 0 < l.length
    · have hlt : b < w.heap.size := World.block_lt_of_cell? w _ (hx 0 h0)
      exact .inr ⟨b, off, rfl, fun k hk => by rw [hb.cell (p := ⟨b, off + k, none⟩) (by show b < B; omega)]; exact hx k hk⟩
    · exact .inl (by omega)

/-- block g holds these bytes, and no more -/
def Row (w : World) (g : Nat) (l : List Nat) : Prop := w.heap[g]? = some (.cells (bv l).toArray 5 (0, 0))
theorem Row.lt {w : World} {g : Nat} {l : List Nat} (h : Row w g l) : g < w.heap.size := (Array.getElem?_eq_some_iff.1 h).1
theorem Row.cell {w : World} {g : Nat} {l : List Nat} (h : Row w g l) {k : Nat} (hk : k < l.length) : w.cell? ⟨g, k, none⟩ = some (.int .u8 ((bz l k : Nat) : Int)) := by
  rw [cell_of_row w g k _ _ _ h]
  simpa using bv_get hk
theorem Row.frozen {w : World} {g : Nat} {l : List Nat} (h : Row w g l) (k : Nat) : w.frozen? ⟨g, k, none⟩ = false := by
  unfold Row at h
  simp [World.frozen?, h]
theorem Row.bat {w : World} {g : Nat} {l : List Nat} (h : Row w g l) : BAt w (some ⟨g, 0, none⟩) l :=
  .inr ⟨g, 0, rfl, fun k hk => by rw [Nat.zero_add]; exact h.cell hk⟩
theorem Row.drew {w : World} {g : Nat} {l : List Nat} {m : Nat} (h : Row w g l) : Row (w.drewN m) g l := h
theorem Row.drew1 {w : World} {g : Nat} {l : List Nat} (h : Row w g l) : Row w.drew g l := h
theorem Row.on {w w' : World} {g B : Nat} {l : List Nat} (h : Row w g l) (hb : Below B w w') (hg : g < B) : Row w' g l := by
  unfold Row; rw [hb.block g hg]; exact h
theorem Row.set {w : World} {g : Nat} {l : List Nat} (h : Row w g l) (k x : Nat) : Row (w.setCell ⟨g, k, none⟩ (.int .u8 ((x : Nat) : Int))) g (l.set k x) := by
  have e := setCell_eq_setRow w g k _ _ _ (.int .u8 ((x : Nat) : Int)) h
  unfold Row
  rw [e, ← bv_set]
  have := setRow_heap w g _ ((bv l).toArray.setIfInBounds k (.int .u8 ((x : Nat) : Int))) _ _ h
  rw [this]
  simp

theorem row_alloc (w : World) (l : List Nat) : Row (w.alloc (.cells (bv l).toArray 5)) w.heap.size l := heap_alloc_new w _
def zs (n : Nat) : List Nat := List.replicate n 0
theorem zs_length (n : Nat) : (zs n).length = n := by simp [zs]
theorem made_bytes (n : Nat) : madeCells #[Value.int .u8 0] n = (bv (zs n)).toArray := by
  apply Array.ext
  · simp [size_madeCells, bv, zs]
  · intro k h1 h2
    simp [madeCells, bv, zs, Nat.mod_one]

theorem wpList_make_bytes {w : World} {ops : Array Oper} {rest : List Oper} {o : Oper} {a : Act} {Q : Exit → Act → World → Prop} (hg : o.guard = none) (l c : Operand) (hop : o.op = Op.makeSlice 22 l c)
    (n : Nat) (hl : a.eval l = .int .i64 (n : Int)) (hc : a.eval c = .int .i64 (n : Int)) (hn : n ≤ 1000000)
    (hK : ∀ g w1, Hid (Row w1 g (zs n)) → w.heap.size ≤ g → Below w.heap.size w w1 → wpList Try.prog ops Q rest (a.put o.dst (.slice (some ⟨g, 0, none⟩) n n)) w1) :
    wpList Try.prog ops Q (o :: rest) a w := by
  obtain ⟨i, hi, hz0, hz1, hz2⟩ := info_parts Try.infoB
  refine wpList_make_row w hg l c 22 hop 5 i (.int .u8 0) Try.underlying22 hi hz0 hz1 rfl .i64 .i64 n hl hc (by rw [hz2]; omega) (by omega) ?_
  rw [made_bytes]
  exact hK _ _ (heap_alloc_new w _) (Nat.le_refl _) ((Below.refl _ _).alloc (Nat.le_refl _) _)

/-- a copy of bytes into a row of the call's own -/
theorem wpList_copy_bytes {w : World} {ops : Array Oper} {rest : List Oper} {o : Oper} {a : Act} {Q : Exit → Act → World → Prop} (hgd : o.guard = none) (d s : Operand)
    (ho : o.op = .call { callee := .builtin .copy, args := #[d, s], argTypes := #[22, 22] })
    (g off dLen dCap : Nat) (sp : Option Addr) (n sCap : Nat) (L m : List Nat) (hd : a.eval d = .slice (some ⟨g, off, none⟩) dLen dCap) (hs : a.eval s = .slice sp n sCap) (hm : m.length = n)
    (hrow : Row w g L) (hsrc : BAt w sp m) (hfit : off + dLen ≤ L.length) (B : Nat) (w0 : World) (hb : Below B w0 w) (hBg : B ≤ g)
    (h : ∀ w', Hid (Row w' g (splice L off (m.take dLen))) → Below B w0 w' → wpList Try.prog ops Q rest (a.put o.dst (goInt (m.take dLen).length)) w') : wpList Try.prog ops Q (o :: rest) a w := by
  subst hm
  have hlen : (bv (m.take dLen)).length = (m.take dLen).length := bv_length _
  refine wpList_copy_splice hgd d s _ _ ho 5 Try.underlying22 ?_ (some ⟨g, off, none⟩) sp dLen dCap m.length sCap hd hs g off (bv L) 5 hrow (bv (m.take dLen)) ?_ ?_ ?_ (bv_one _) B w0 hb hBg ?_
  · obtain ⟨i, hi, hz0, hz1, hz2⟩ := info_parts Try.infoB
    rw [hi]; simp [hz1]
  · rw [hlen, List.length_take]; show min dLen m.length = min m.length dLen; omega
  · intro hp
    rw [hlen, List.length_take] at hp
    obtain ⟨b, o', rfl⟩ := hsrc.addr (by omega)
    refine ⟨rfl, _, rfl, fun j v hv => ?_⟩
    obtain ⟨hj, rfl⟩ := bv_at hv
    rw [List.length_take] at hj
    rw [addr_add, hsrc.cell (by omega), bz_take (by omega)]
  · rw [hlen, bv_length, List.length_take]; omega
  · intro w' hw hb'
    rw [hlen, bv_splice] at *
    exact h w' hw hb'
end Go.Proofs.Ytcmomnfefaolaaa
