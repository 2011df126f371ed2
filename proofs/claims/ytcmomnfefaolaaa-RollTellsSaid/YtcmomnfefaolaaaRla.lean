/-
  Objects over sectors: as lists, and in memory.
-/
import Derived.Test.YtcmomnfefaolaaaAw
import Derived.Test.YtcmomnfefaolaaaTe
import Derived.Test.YtcmomnfefaolaaaBg
import Derived.Test.YtcmomnfefaolaaaOx
import Derived.Deep.WholeRow
namespace Go.Proofs.Ytcmomnfefaolaaa
open Go.RowKit BigFrame

/-- an object -/
structure Ob where
  s : Int
  p : Int
  b : List Nat
deriving DecidableEq
def o0 : Ob := ⟨0, 0, []⟩
/-- the k-th -/
def ob (L : List Ob) (k : Nat) : Ob := L.getD k o0
theorem ob_get {L : List Ob} {k : Nat} (h : k < L.length) : ob L k = L[k] := by simp [ob, List.getD, List.getElem?_eq_getElem h]
theorem ob_mem {L : List Ob} {k : Nat} (h : k < L.length) : ob L k ∈ L := by rw [ob_get h]; exact List.getElem_mem h
theorem ob_get? {L : List Ob} {k : Nat} (h : k < L.length) : L[k]? = some (ob L k) := by rw [ob_get h]; exact List.getElem?_eq_getElem h
theorem ob_take {L : List Ob} {k : Nat} (h : k < L.length) : L.take (k + 1) = L.take k ++ [ob L k] := by rw [ob_get h, List.take_succ_eq_append_getElem h]
theorem ob_drop {L : List Ob} {k : Nat} (h : k < L.length) : L.drop k = ob L k :: L.drop (k + 1) := by rw [ob_get h, List.drop_eq_getElem_cons h]
theorem ob_ext {L M : List Ob} (h : L.length = M.length) (hx : ∀ k, k < L.length → ob L k = ob M k) : L = M := by
  apply List.ext_getElem h
  intro k h1 h2
  rw [← ob_get h1, ← ob_get h2]
  exact hx k h1
theorem ob_app_left {L M : List Ob} {k : Nat} (h : k < L.length) : ob (L ++ M) k = ob L k := by simp [ob, List.getD, List.getElem?_append_left h]
theorem ob_app_right {L M : List Ob} {k : Nat} (h : L.length ≤ k) : ob (L ++ M) k = ob M (k - L.length) := by simp [ob, List.getD, List.getElem?_append_right h]
/-- may it be? -/
def mayO (x : Ob) : Bool := decide (0 ≤ x.s ∧ 0 ≤ x.p ∧ 0 < x.b.length ∧ x.p + (x.b.length : Int) ≤ 128)
theorem mayO_is {x : Ob} : mayO x = true ↔ 0 ≤ x.s ∧ 0 ≤ x.p ∧ 0 < x.b.length ∧ x.p + (x.b.length : Int) ≤ 128 := by unfold mayO; exact decide_eq_true_iff
theorem mayO_no {x : Ob} : mayO x = false ↔ ¬ (0 ≤ x.s ∧ 0 ≤ x.p ∧ 0 < x.b.length ∧ x.p + (x.b.length : Int) ≤ 128) := by unfold mayO; exact decide_eq_false_iff_not
/-- do two touch? -/
def touchO (x y : Ob) : Bool := mayO x && mayO y && decide (x.s = y.s ∧ x.p < y.p + (y.b.length : Int) ∧ y.p < x.p + (x.b.length : Int))
/-- a sector that begins so -/
def sec (l : List Nat) : List Nat := splice (zs 128) 0 (l.take 128)
theorem sec_length (l : List Nat) : (sec l).length = 128 := by simp [sec, splice, zs]; omega
/-- an object laid over a sector -/
def lay1 (s : Int) (L : List Nat) (x : Ob) : List Nat := if mayO x = true ∧ x.s = s then splice L x.p.toNat x.b else L
def lays (s : Int) (L : List Nat) (xs : List Ob) : List Nat := xs.foldl (lay1 s) L
theorem splice_len {L m : List Nat} {k : Nat} (h : k + m.length ≤ L.length) : (splice L k m).length = L.length := by simp [splice]; omega
theorem lay1_length {s : Int} {L : List Nat} {x : Ob} (h : L.length = 128) : (lay1 s L x).length = 128 := by
  unfold lay1
  split
  · rename_i hm
    obtain ⟨h1, h2, h3, h4⟩ := mayO_is.1 hm.1
    rw [splice_len (by omega), h]
  · exact h
theorem lays_length {s : Int} : ∀ {xs : List Ob} {L : List Nat}, L.length = 128 → (lays s L xs).length = 128
  | [], _, h => h
  | _ :: r, _, h => lays_length (xs := r) (lay1_length h)
theorem lays_snoc (s : Int) (L : List Nat) (xs : List Ob) (x : Ob) : lays s L (xs ++ [x]) = lay1 s (lays s L xs) x := by simp [lays]
theorem lays_app (s : Int) (L : List Nat) (xs ys : List Ob) : lays s L (xs ++ ys) = lays s (lays s L xs) ys := by simp [lays]

/-- v is a slice with these bytes -/
def SlB (w : World) (v : Value) (l : List Nat) : Prop := ∃ a cap, v = .slice a l.length cap ∧ l.length ≤ cap ∧ BAt w a l ∧ (a = none → cap = 0)
theorem SlB.on {w w' : World} {v : Value} {l : List Nat} (h : SlB w v l) (hb : Below w.heap.size w w') : SlB w' v l := by
  obtain ⟨a, cap, h1, h2, h3, h4⟩ := h
  exact ⟨a, cap, h1, h2, h3.on hb (Nat.le_refl _), h4⟩
theorem SlB.drew {w : World} {m : Nat} {v : Value} {l : List Nat} (h : SlB w v l) : SlB (w.drewN m) v l := h
theorem SlB.bv {w : World} {v : Value} {l : List Nat} (h : SlB w v l) : BV w v l := by
  obtain ⟨a, cap, h1, _, h3, _⟩ := h
  exact ⟨a, _, cap, h1, rfl, h3⟩
theorem SlB.one {w : World} {v : Value} {l : List Nat} (h : SlB w v l) : v.oneCell' = true := by
  obtain ⟨a, cap, rfl, _⟩ := h
  rfl
theorem OwnB.slb {w : World} {base : Nat} {v : Value} {l : List Nat} (h : OwnB w base v l) : SlB w v l := by
  obtain ⟨a, cap, h1, h2, h3, h4⟩ := h.slice
  exact ⟨a, cap, h1, h4, h2, h3⟩
theorem SlB.nil (w : World) : SlB w (.slice none 0 0) [] := ⟨none, 0, rfl, Nat.le_refl _, .inl rfl, fun _ => rfl⟩
/-- its cells, its value -/
def oc (x : Ob) (v : Value) : List Value := [.int .i64 x.s, .int .i64 x.p, v]
def ov (x : Ob) (v : Value) : Value := .agg (oc x v).toArray
theorem oc_length (x : Ob) (v : Value) : (oc x v).length = 3 := rfl
theorem oc_one {x : Ob} {v : Value} (h : v.oneCell' = true) : (oc x v).toArray.all (·.oneCell') = true := all_oneCell_toArray (by
  intro u hu
  simp only [oc, List.mem_cons, List.mem_nil_iff, or_false] at hu
  rcases hu with rfl | rfl | rfl
  · rfl
  · rfl
  · exact h)
theorem Try.sizeOb : (Try.prog.info? 37).map (·.size) = some 3 := by kernel_rfl
theorem Try.infoOb : (Try.prog.info? 37).map (fun i => (i.zero, i.size, i.bytes)) = some (some (.agg #[.int .i64 0, .int .i64 0, .slice none 0 0]), 3, 40) := by kernel_rfl
theorem Try.infoOb2 : (Try.prog.info? 37).map (fun i => (i.zero, i.size)) = some (some (ov o0 (.slice none 0 0)), 3) := by kernel_rfl
theorem ldO_of (v : Value) : Instr.loadAt 37 v = ldA 37 v := rfl
theorem stO_of (p v : Value) : Instr.storeAt 37 p v = stA 37 p v := rfl
theorem bdO_of (ps : Array (Nat × Value)) : Instr.build 37 ps = bdA 37 ps := rfl
theorem run_ldO {w : World} {g o : Nat} {x : Ob} {v : Value} (hr : w.rangeAt g o (oc x v)) : (ldA 37 (.pointer (some ⟨g, o, none⟩))).run Try.prog w = .ok (ov x v) w :=
  run_ldW 3 _ hr rfl Try.underlying37 rfl Try.sizeOb
theorem run_stO {w : World} {g o : Nat} {x : Ob} {v : Value} (h1 : v.oneCell' = true) (ht : w.there g o 3) : (stA 37 (.pointer (some ⟨g, o, none⟩)) (ov x v)).run Try.prog w = .ok () (w.setCells g o (oc x v)) :=
  run_stW 3 rfl (oc_one h1) ht Try.sizeOb
theorem run_bdO (w : World) (s p : Int) (a : Option Addr) (n c : Nat) (l : List Nat) : (bdA 37 #[(0, .int .i64 s), (1, .int .i64 p), (2, .slice a n c)]).run Try.prog w = .ok (ov ⟨s, p, l⟩ (.slice a n c)) w := by
  unfold bdA
  exact run_build w _ _ _ (by kernel_rfl)
theorem run_bdO0 (w : World) : (bdA 37 #[]).run Try.prog w = .ok (ov o0 (.slice none 0 0)) w := by
  unfold bdA
  exact run_build w _ _ _ (by kernel_rfl)
/-- an object lies there -/
def ObAt (w : World) (b o : Nat) (x : Ob) (v : Value) : Prop := w.rangeAt b o (oc x v) ∧ SlB w v x.b
theorem ObAt.drew {w : World} {b o m : Nat} {x : Ob} {v : Value} (h : ObAt w b o x v) : ObAt (w.drewN m) b o x v := h
theorem ObAt.c0 {w : World} {b o : Nat} {x : Ob} {v : Value} (h : ObAt w b o x v) : w.cell? ⟨b, o, none⟩ = some (.int .i64 x.s) := h.1 0 _ rfl
theorem ObAt.c1 {w : World} {b o : Nat} {x : Ob} {v : Value} (h : ObAt w b o x v) : w.cell? ⟨b, o + 1, none⟩ = some (.int .i64 x.p) := h.1 1 _ rfl
theorem ObAt.c2 {w : World} {b o : Nat} {x : Ob} {v : Value} (h : ObAt w b o x v) : w.cell? ⟨b, o + 2, none⟩ = some v := h.1 2 _ rfl
theorem ObAt.on {w w' : World} {b o : Nat} {x : Ob} {v : Value} (h : ObAt w b o x v) (hb : Below w.heap.size w w') : ObAt w' b o x v := by
  refine ⟨fun j u hj => ?_, h.2.on hb⟩
  have hc := h.1 j u hj
  have hlt := World.block_lt_of_cell? w _ hc
  rw [hb.cell (p := ⟨b, o + j, none⟩) hlt]
  exact hc
/-- objects lie there -/
def ObsAt (w : World) (a : Option Addr) (xs : List Ob) : Prop := xs.length = 0 ∨ ∃ b off, a = some ⟨b, off, none⟩ ∧ ∀ k, k < xs.length → ∃ v, ObAt w b (off + k * 3) (ob xs k) v
theorem ObsAt.on {w w' : World} {a : Option Addr} {xs : List Ob} (h : ObsAt w a xs) (hb : Below w.heap.size w w') : ObsAt w' a xs := by
  rcases h with h | ⟨b, off, rfl, hx⟩
  · exact .inl h
  · refine .inr ⟨b, off, rfl, fun k hk => ?_⟩
    obtain ⟨v, hv⟩ := hx k hk
    exact ⟨v, hv.on hb⟩
theorem ObsAt.drew {w : World} {a : Option Addr} {m : Nat} {xs : List Ob} (h : ObsAt w a xs) : ObsAt (w.drewN m) a xs := h
theorem ObsAt.at {w : World} {a : Option Addr} {xs : List Ob} (h : ObsAt w a xs) {k : Nat} (hk : k < xs.length) : ∃ b off v, a = some ⟨b, off, none⟩ ∧ ObAt w b (off + k * 3) (ob xs k) v := by
  rcases h with h | ⟨b, off, rfl, hx⟩
  · omega
  · obtain ⟨v, hv⟩ := hx k hk
    exact ⟨b, off, v, rfl, hv⟩
/-- a slice of objects -/
def SlO (w : World) (v : Value) (xs : List Ob) : Prop := ∃ a cap, v = .slice a xs.length cap ∧ xs.length ≤ cap ∧ ObsAt w a xs ∧ (a = none → cap = 0)
theorem SlO.on {w w' : World} {v : Value} {xs : List Ob} (h : SlO w v xs) (hb : Below w.heap.size w w') : SlO w' v xs := by
  obtain ⟨a, cap, h1, h2, h3, h4⟩ := h
  exact ⟨a, cap, h1, h2, h3.on hb, h4⟩
theorem SlO.drew {w : World} {m : Nat} {v : Value} {xs : List Ob} (h : SlO w v xs) : SlO (w.drewN m) v xs := h

/-- a new variable for an object -/
theorem wpList_alloc_ob {w : World} {ops : Array Oper} {rest : List Oper} {o : Oper} {a : Act} {Q : Exit → Act → World → Prop} (hgd : o.guard = none) (ho : o.op = .alloc 37)
    (h : ∀ g w1, Hid (Vw w1 37 g (oc o0 (.slice none 0 0))) → w.heap.size ≤ g → Below w.heap.size w w1 → wpList Try.prog ops Q rest (a.put o.dst (.pointer (some ⟨g, 0, none⟩))) w1) : wpList Try.prog ops Q (o :: rest) a w := by
  refine wpList_plain hgd fun K hK => ?_
  have hz := (zero_of_info Try.infoOb2).1 w
  unfold Oper.wp
  simp [execOp, ho, Instr.alloc, Sem.run_bind, hz, newVar, Value.cells, ov, Result.andThen]
  exact hK _ _ (h _ _ (heap_alloc_new w _) (Nat.le_refl _) ((Below.refl _ _).alloc (Nat.le_refl _) _))
theorem Vw.obat {w : World} {g : Nat} {x : Ob} {v : Value} (h : Vw w 37 g (oc x v)) (hs : SlB w v x.b) : ObAt w g 0 x v := ⟨h.whole, hs⟩
end Go.Proofs.Ytcmomnfefaolaaa
