/-
  Both tables side by side: each call answers by what it finds, and leaves the same places.
-/
import Derived.Test.YtgflccdplffjmaaMj
import Derived.Test.YtgflccdplffjmaaMk
namespace Go.Proofs.Ytgflccdplffjmaa
open Go.RowKit BigFrame

/-- the least that is free; 16 -/
noncomputable def leastN (L : List Plc) : Nat := Classical.choose (least_ex L)
theorem leastN_is (L : List Plc) : LeastP L (leastN L) := Classical.choose_spec (least_ex L)
/-- what Open answers, and leaves -/
noncomputable def oR (L : List Plc) : Int := if leastN L < 16 then (leastN L : Int) else 0
noncomputable def oC (L : List Plc) : Int := if leastN L < 16 then 0 else 14
noncomputable def oL (L : List Plc) (n f : Int) : List Plc := if leastN L < 16 then openL L (leastN L) n f else L
theorem open_u (a : Nat) (n f : Int) (L : List Plc) (w : World) (h : TabAt w a L) :
    Calls Try.prog 8 #[.pointer (some ⟨a, 0, none⟩), .int .i64 n, .int .i64 f] w (GivesT (.tuple #[.int .i64 (oR L), .int .i64 (oC L)]) a (oL L n f) w) := by
  unfold oR oC oL
  by_cases e : leastN L < 16
  · simp only [if_pos e]; exact open_some a _ n f L w h (leastN_is L) e
  · simp only [if_neg e]
    have h16 : leastN L = 16 := by have := (leastN_is L).le; omega
    exact open_full a n f L w h (h16 ▸ leastN_is L)
theorem ropen_u (a : Nat) (n f : Int) (L : List Plc) (w : World) (h : RefAt w a L) :
    Calls Try.prog 9 #[.pointer (some ⟨a, 0, none⟩), .int .i64 n, .int .i64 f] w (GivesR (.tuple #[.int .i64 (oR L), .int .i64 (oC L)]) a (oL L n f) w) := by
  unfold oR oC oL
  by_cases e : leastN L < 16
  · simp only [if_pos e]; exact ropen_some a _ n f L w h (leastN_is L) e
  · simp only [if_neg e]
    have h16 : leastN L = 16 := by have := (leastN_is L).le; omega
    exact ropen_full a n f L w h (h16 ▸ leastN_is L)
/-- what Close answers, and leaves -/
def cR (L : List Plc) (fd : Int) : Int := if thereB L fd = true then (pl L fd.toNat).nd else 0
def cC (L : List Plc) (fd : Int) : Int := if thereB L fd = true then 0 else 10
def cL (L : List Plc) (fd : Int) : List Plc := if thereB L fd = true then L.set fd.toNat p0 else L
theorem close_u (a : Nat) (fd : Int) (L : List Plc) (w : World) (h : TabAt w a L) :
    Calls Try.prog 10 #[.pointer (some ⟨a, 0, none⟩), .int .i64 fd] w (GivesT (.tuple #[.int .i64 (cR L fd), .int .i64 (cC L fd)]) a (cL L fd) w) := by
  unfold cR cC cL
  cases e : thereB L fd
  · exact close_bad a fd L w h e
  · obtain ⟨k, rfl, hk, ho⟩ := there_k e
    exact close_on a k L w h hk ho
theorem rclose_u (a : Nat) (fd : Int) (L : List Plc) (w : World) (h : RefAt w a L) :
    Calls Try.prog 11 #[.pointer (some ⟨a, 0, none⟩), .int .i64 fd] w (GivesR (.tuple #[.int .i64 (cR L fd), .int .i64 (cC L fd)]) a (cL L fd) w) := by
  unfold cR cC cL
  cases e : thereB L fd
  · exact rclose_bad a fd L w h e
  · obtain ⟨k, rfl, hk, ho⟩ := there_k e
    exact rclose_on a k L w h hk ho
/-- what Move answers, and leaves -/
def mC (L : List Plc) (fd x : Int) : Int := if thereB L fd = true then (if x < 0 then 2 else 0) else 10
def mL (L : List Plc) (fd x : Int) : List Plc := if thereB L fd = true then (if x < 0 then L else L.set fd.toNat ((pl L fd.toNat).to x)) else L
theorem move_u (a : Nat) (fd x : Int) (L : List Plc) (w : World) (h : TabAt w a L) :
    Calls Try.prog 12 #[.pointer (some ⟨a, 0, none⟩), .int .i64 fd, .int .i64 x] w (GivesT (.int .i64 (mC L fd x)) a (mL L fd x) w) := by
  unfold mC mL
  cases e : thereB L fd
  · exact move_bad a fd x L w h e
  · obtain ⟨k, rfl, hk, ho⟩ := there_k e
    by_cases e2 : x < 0
    · simp only [if_pos e2]; exact move_neg a k x L w h hk ho e2
    · simp only [if_neg e2]; exact move_to a k x L w h hk ho e2
theorem rmove_u (a : Nat) (fd x : Int) (L : List Plc) (w : World) (h : RefAt w a L) :
    Calls Try.prog 13 #[.pointer (some ⟨a, 0, none⟩), .int .i64 fd, .int .i64 x] w (GivesR (.int .i64 (mC L fd x)) a (mL L fd x) w) := by
  unfold mC mL
  cases e : thereB L fd
  · exact rmove_bad a fd x L w h e
  · obtain ⟨k, rfl, hk, ho⟩ := there_k e
    by_cases e2 : x < 0
    · simp only [if_pos e2]; exact rmove_neg a k x L w h hk ho e2
    · simp only [if_neg e2]; exact rmove_to a k x L w h hk ho e2

/-- both tables, behind w0 -/
structure Pair (w0 w : World) (a b : Nat) (L : List Plc) : Prop where
  tab : TabAt w a L
  ref : RefAt w b L
  ab : a < b
  below : Below a w0 w
theorem RefAt.lt {w : World} {a : Nat} {L : List Plc} (h : RefAt w a L) : a < w.heap.size := h.row.lt
theorem Pair.on {w0 w w' : World} {a b : Nat} {L : List Plc} (h : Pair w0 w a b L) (hb : Below w.heap.size w w') : Pair w0 w' a b L :=
  ⟨h.tab.on' hb, h.ref.on' hb, h.ab, h.below.trans (hb.mono (Nat.le_of_lt h.tab.lt))⟩
theorem Pair.mid {w0 w w1 : World} {a b : Nat} {L : List Plc} (h : Pair w0 w a b L) (hU : Turn a w w1) : RefAt w1 b L := h.ref.turn hU (by have := h.ab; omega)
theorem Pair.step {w0 w w1 w2 : World} {a b : Nat} {L L' : List Plc} (h : Pair w0 w a b L) (hT : TabAt w1 a L') (hU : Turn a w w1) (hR : RefAt w2 b L') (hV : Turn b w1 w2) : Pair w0 w2 a b L' :=
  ⟨hT.turn hV (by have := h.ab; omega), hR, h.ab, (h.below.trans (hU.below (Nat.le_of_lt h.tab.lt) (Nat.le_refl _))).trans (hV.below (Nat.le_of_lt hT.lt) (Nat.le_of_lt h.ab))⟩
/-- what lies beside both stays -/
theorem Vw.both {w w1 w2 : World} {a b g : Nat} {t : TypeId} {l : List Value} (h : Vw w t g l) (hU : Turn a w w1) (hV : Turn b w1 w2) (h1 : g ≠ a) (h2 : g ≠ b) : Vw w2 t g l := (h.turn hU h1).turn hV h2
/-- what Get answers -/
def gP (L : List Plc) (fd : Int) : Plc := if thereB L fd = true then pl L fd.toNat else p0
def gC (L : List Plc) (fd : Int) : Int := if thereB L fd = true then 0 else 10
theorem get_u (a : Nat) (fd : Int) (L : List Plc) (w : World) (h : TabAt w a L) :
    Calls Try.prog 14 #[.pointer (some ⟨a, 0, none⟩), .int .i64 fd] w (Tells (.tuple #[gv (gP L fd), .int .i64 (gC L fd)]) w) := by
  unfold gP gC
  cases e : thereB L fd
  · exact get_bad a fd L w h e
  · obtain ⟨k, rfl, hk, ho⟩ := there_k e
    exact get_on a k L w h hk ho
theorem OwnI.ints {w : World} {base n cap : Nat} {a : Option Addr} {D : Nat → Int} (h : OwnI w base (.slice a n cap) n D) : IntsAt w a n D := by
  obtain ⟨a', c', e, hx, _⟩ := h.slice
  simp only [Value.slice.injEq, true_and] at e
  rw [e.1]; exact hx
/-- an act -/
def xc (d fd n f : Int) : List Value := [.int .i64 d, .int .i64 fd, .int .i64 n, .int .i64 f]
/-- both tables, and the act in block g -/
structure Rnd (w0 w : World) (a b g : Nat) (L : List Plc) (d fd n f : Int) : Prop where
  pair : Pair w0 w a b L
  box : Vw w 33 g (xc d fd n f)
  bg : b < g
theorem Rnd.on {w0 w w' : World} {a b g : Nat} {L : List Plc} {d fd n f : Int} (h : Rnd w0 w a b g L d fd n f) (hb : Below w.heap.size w w') : Rnd w0 w' a b g L d fd n f :=
  ⟨h.pair.on hb, h.box.on' hb, h.bg⟩
theorem Rnd.drew1 {w0 w : World} {a b g : Nat} {L : List Plc} {d fd n f : Int} (h : Rnd w0 w a b g L d fd n f) : Rnd w0 w.drew a b g L d fd n f := h.on ⟨rfl, rfl, rfl, Nat.le_refl _, fun _ _ => rfl⟩
theorem Rnd.midBox {w0 w w1 : World} {a b g : Nat} {L : List Plc} {d fd n f : Int} (h : Rnd w0 w a b g L d fd n f) (hU : Turn a w w1) : Vw w1 33 g (xc d fd n f) :=
  h.box.turn hU (by have := h.bg; have := h.pair.ab; omega)
theorem Rnd.step {w0 w w1 w2 : World} {a b g : Nat} {L L' : List Plc} {d fd n f : Int} (h : Rnd w0 w a b g L d fd n f) (hT : TabAt w1 a L') (hU : Turn a w w1) (hR : RefAt w2 b L') (hV : Turn b w1 w2) : Rnd w0 w2 a b g L' d fd n f :=
  ⟨h.pair.step hT hU hR hV, (h.midBox hU).turn hV (by have := h.bg; omega), h.bg⟩
theorem act_cells {w : World} {g : Nat} {d fd n f : Int} (h : Vw w 33 g (xc d fd n f)) :
    w.cell? ⟨g, 0, none⟩ = some (.int .i64 d) ∧ w.cell? ⟨g, 1, none⟩ = some (.int .i64 fd) ∧ w.cell? ⟨g, 2, none⟩ = some (.int .i64 n) ∧ w.cell? ⟨g, 3, none⟩ = some (.int .i64 f) :=
  ⟨h.cell (k := 0) rfl, h.cell (k := 1) rfl, h.cell (k := 2) rfl, h.cell (k := 3) rfl⟩
theorem Try.infoAct : (Try.prog.info? 33).map (fun i => (i.zero, i.size)) = some (some (.agg (xc 0 0 0 0).toArray), 4) := by kernel_rfl
theorem Try.sizeAct : (Try.prog.info? 33).map (·.size) = some 4 := by kernel_rfl
theorem ldX_of (v : Value) : Instr.loadAt 33 v = ldA 33 v := rfl
theorem stX_of (p v : Value) : Instr.storeAt 33 p v = stA 33 p v := rfl
theorem xc_all (d fd n f : Int) : (xc d fd n f).toArray.all (·.oneCell') = true := all_oneCell_toArray (fun v hv => by
  simp only [xc, List.mem_cons, List.mem_nil_iff, or_false] at hv
  rcases hv with rfl | rfl | rfl | rfl <;> rfl)
theorem run_ldX {w : World} {g o : Nat} {d fd n f : Int} (hr : w.rangeAt g o (xc d fd n f)) : (ldA 33 (.pointer (some ⟨g, o, none⟩))).run Try.prog w = .ok (.agg (xc d fd n f).toArray) w :=
  run_ldW 4 _ hr rfl Try.underlying33 rfl Try.sizeAct
theorem run_stX {w : World} {g o : Nat} {d fd n f : Int} (ht : w.there g o 4) : (stA 33 (.pointer (some ⟨g, o, none⟩)) (.agg (xc d fd n f).toArray)).run Try.prog w = .ok () (w.setCells g o (xc d fd n f)) :=
  run_stW 4 rfl (xc_all d fd n f) ht Try.sizeAct
theorem wpList_alloc_act {w : World} {ops : Array Oper} {rest : List Oper} {o : Oper} {a : Act} {Q : Exit → Act → World → Prop} (hgd : o.guard = none) (ho : o.op = .alloc 33)
    (h : ∀ g w1, Hid (Vw w1 33 g (xc 0 0 0 0)) → w.heap.size ≤ g → Below w.heap.size w w1 → wpList Try.prog ops Q rest (a.put o.dst (.pointer (some ⟨g, 0, none⟩))) w1) : wpList Try.prog ops Q (o :: rest) a w := by
  refine wpList_plain hgd fun K hK => ?_
  have hz := (zero_of_info Try.infoAct).1 w
  unfold Oper.wp
  simp [execOp, ho, Instr.alloc, Sem.run_bind, hz, newVar, Value.cells, xc, Result.andThen]
  exact hK _ _ (h _ _ (heap_alloc_new w _) (Nat.le_refl _) ((Below.refl _ _).alloc (Nat.le_refl _) _))
/-- acts that came in -/
def ActsAt (W : World) (a : Option Addr) (n : Nat) : Prop :=
  n = 0 ∨ ∃ b off, a = some ⟨b, off, none⟩ ∧ ∀ i, i < n → ∃ d fd x f, W.rangeAt b (off + i * 4) (xc d fd x f)
end Go.Proofs.Ytgflccdplffjmaa
