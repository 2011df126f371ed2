/-
  The document's own cache in memory: rows by age in a list; where one stands.
  A cache: one more is held; one becomes the newest.
  A cache: a sector becomes the newest.
  DERIVED: THE SHELF's CONTRACTS AT THIS DUMP, IN PLAIN WORDS (tools/lay-plain.mjs out of 'TryIter.lean', which tools/lay-shelf.mjs wrote): THE SAME DECLARATIONS UNDER THE SAME NAMES: 'import', 'namespace', 'open', 'def', 'theorem' AND NOTHING ELSE: no command of the shelf's: FOR A HAND-IN. Each laying: the table of numbers ('.._ren') and one theorem, a field a fact of the dump's own or the kernel's comparison; each contract: ONE APPLICATION.
  A cache: two sectors by their ages, by their places; where one stands in its list; one taken out of it.
  A cache's list: where a sector stands in it; some taken out of it.
-/
import Derived.Test.YtnfaeejeipbciaaB5
import Derived.Test.YtnfaeejeipbciaaB9
import Derived.Shelf.SlCmpFuncs.BinarySearchFunc
import Derived.Shelf.SlCmpFuncs.None
import Derived.Shelf.SlicesE.Delete
import Derived.Shelf.SlSortCmp.NoneTotal
import Derived.Ground.SlsgProg
import Derived.Ground.SlsfProg
import Derived.Ground.SlgnProg
import Derived.Test.YtnfaeejeipbciaaProg
import Derived.Deep.QuietTactic
import Derived.BigQuiet

section
set_option linter.unusedVariables false
set_option linter.unusedSimpArgs false
namespace Go.Proofs.Ytnfaeejeipbciaa
open Go.RowKit BigFrame
set_option maxRecDepth 100000

/-- a row: its place, its bytes, whether it is dirty, pinned; where its bytes lie -/
structure Rr where
  pos : Nat
  b : List Nat
  dirty : Bool
  pin : Bool
  v : Value
def Rr.cells (r : Rr) : List Value := [.int .i64 ((r.pos : Nat) : Int), r.v, .bool r.dirty, .bool r.pin]
def rrs (L : List Rr) : List Value := L.flatMap Rr.cells
theorem rrs_length : ∀ L : List Rr, (rrs L).length = L.length * 4
  | [] => rfl
  | r :: L => by
    have ih := rrs_length L
    unfold rrs at ih ⊢
    rw [List.flatMap_cons, List.length_append, ih]
    simp [Rr.cells]
    omega
theorem rrs_append (L M : List Rr) : rrs (L ++ M) = rrs L ++ rrs M := by unfold rrs; rw [List.flatMap_append]
theorem rrs_one (r : Rr) : rrs [r] = r.cells := by simp [rrs]
theorem rrs_get : ∀ {L : List Rr} {k : Nat} {r : Rr}, L[k]? = some r → ∀ j u, r.cells[j]? = some u → (rrs L)[k * 4 + j]? = some u
  | [], _, _, h, _, _, _ => by simp at h
  | x :: L, 0, r, h, j, u, hu => by
    simp only [List.getElem?_cons_zero, Option.some.injEq] at h
    subst h
    have hj : j < 4 := by
      have := (List.getElem?_eq_some_iff.1 hu).1
      simpa [Rr.cells] using this
    show (x.cells ++ rrs L)[0 * 4 + j]? = _
    rw [Nat.zero_mul, Nat.zero_add, List.getElem?_append_left (by simpa [Rr.cells] using hj)]
    exact hu
  | x :: L, k + 1, r, h, j, u, hu => by
    show (x.cells ++ rrs L)[(k + 1) * 4 + j]? = _
    rw [List.getElem?_append_right (by show 4 ≤ _; omega), show (k + 1) * 4 + j - x.cells.length = k * 4 + j by show (k + 1) * 4 + j - 4 = _; omega]
    exact rrs_get (by simpa using h) j u hu
/-- the document's own cache: where it lies, its disk, its list, how many it may hold, what it holds -/
structure RC where
  W : Nat
  G : Nat
  lv : Value
  most : Nat
  L : List Rr
def RC.foot (c : RC) : List Nat := c.W :: c.lv.ownBlock.toList
def RC.cells (c : RC) : List Value := [pv c.G, .int .i64 ((c.most : Nat) : Int), c.lv]
structure RcAt (w : World) (B : Nat) (M : List Nat) (c : RC) : Prop where
  hdr : Vw w 31 c.W c.cells
  own : w.ownsRow B 88 4 c.lv c.L.length (rrs c.L)
  rows : ∀ r ∈ c.L, Kept w (c.foot ++ M) c.W r.v r.b
  pos : (c.L.map Rr.pos).Nodup
  low : ∀ r ∈ c.L, r.pos < 2048
  over : ∀ k ∈ c.foot, B ≤ k ∧ k ∉ M
section
variable {w w' : World} {B : Nat} {M M' : List Nat} {c : RC}
theorem RC.foot_w (c : RC) : c.W ∈ c.foot := by simp [RC.foot]
theorem RC.foot_l {k : Nat} (h : c.lv.ownBlock = some k) : k ∈ c.foot := by simp [RC.foot, h]
theorem RC.foot_cases {k : Nat} (h : k ∈ c.foot) : k = c.W ∨ c.lv.ownBlock = some k := by
  simp only [RC.foot, List.mem_cons, Option.mem_toList] at h
  exact h.imp id fun h => by simpa using h
theorem RcAt.few (h : RcAt w B M c) : c.L.length ≤ 2048 := by
  have := nodup_below 2048 h.pos fun x hx => by
    obtain ⟨y, hy, rfl⟩ := List.mem_map.1 hx
    exact h.low y hy
  simpa using this
theorem RcAt.form (h : RcAt w B M c) : (c.lv = .slice none 0 0 ∧ c.L = []) ∨ ∃ g cap, c.lv = .slice (some ⟨g, 0, none⟩) c.L.length cap ∧ c.L.length ≤ cap ∧ g < w.heap.size ∧ (∃ cur, w.heap[g]? = some (.cells cur 88 (0, 0))) := by
  rcases h.own.2 with ⟨e, h0⟩ | ⟨g, cap, cur, e, hb, hg, hn, r⟩
  · exact .inl ⟨e, List.eq_nil_of_length_eq_zero h0⟩
  · exact .inr ⟨g, cap, e, hn, (Array.getElem?_eq_some_iff.1 hg).1, _, hg⟩
theorem RcAt.lt (h : RcAt w B M c) : ∀ k ∈ c.foot, k < w.heap.size := fun k hk => by
  rcases RC.foot_cases hk with rfl | hk
  · exact h.hdr.lt
  · rcases h.form with ⟨e, _⟩ | ⟨g, cap, e, _, hg, _⟩
    · rw [e] at hk; cases hk
    · rw [e] at hk; cases hk; exact hg
theorem RcAt.lw (h : RcAt w B M c) {k : Nat} (hk : c.lv.ownBlock = some k) : k ≠ c.W := fun e => by
  subst e
  rcases h.form with ⟨e, _⟩ | ⟨g, cap, e, _, _, cur, hg⟩
  · rw [e] at hk; cases hk
  · rw [e] at hk
    have e2 : g = c.W := by cases hk; rfl
    rw [e2] at hg
    have := h.hdr
    unfold Vw at this
    rw [this] at hg
    have := Option.some.inj hg
    simp only [Obj.cells.injEq] at this
    exact absurd this.2.1 (by decide)
/-- a row's cells -/
theorem RcAt.get (h : RcAt w B M c) {k : Nat} {r : Rr} (hr : c.L[k]? = some r) : ∃ g cap, c.lv = .slice (some ⟨g, 0, none⟩) c.L.length cap ∧ c.L.length ≤ cap ∧ k < c.L.length ∧
    w.cell? ⟨g, k * 4, none⟩ = some (.int .i64 ((r.pos : Nat) : Int)) ∧ w.cell? ⟨g, k * 4 + 1, none⟩ = some r.v ∧ w.cell? ⟨g, k * 4 + 2, none⟩ = some (.bool r.dirty) ∧ w.cell? ⟨g, k * 4 + 3, none⟩ = some (.bool r.pin) := by
  have hk := (List.getElem?_eq_some_iff.1 hr).1
  rcases h.form with ⟨_, e⟩ | ⟨g, cap, e, hc, _⟩
  · rw [e] at hk; cases hk
  · have hc' : ∀ j u, r.cells[j]? = some u → w.cell? ⟨g, k * 4 + j, none⟩ = some u := fun j u hu => by
      have := World.ownsRow.cells h.own (g := g) (by rw [e]; rfl) (k * 4 + j) u (rrs_get hr j u hu)
      rw [addr_add, Nat.zero_add] at this
      exact this
    exact ⟨g, cap, e, hc, hk, hc' 0 _ rfl, hc' 1 _ rfl, hc' 2 _ rfl, hc' 3 _ rfl⟩
/-- what is beside turns, new memory is made -/
theorem RcAt.other (h : RcAt w B M c) (hs : Step w M w' M') : RcAt w' B M' c := by
  have hst : Step w (c.foot ++ M) w' (c.foot ++ M') := ⟨hs.os, hs.tape, hs.output, hs.size, fun k hk hf => hs.block k hk (fun e => hf (List.mem_append_right _ e)), fun k hk => by
    rcases List.mem_append.1 hk with hk | hk
    · exact .inl (List.mem_append_left _ hk)
    · exact (hs.foot k hk).imp (List.mem_append_right _) id⟩
  have hb : ∀ k ∈ c.foot, w'.heap[k]? = w.heap[k]? := fun k hk => hs.block k (h.lt k hk) (h.over k hk).2
  refine ⟨?_, ownsRow_block h.own fun k hk => hb k (RC.foot_l hk), fun r hr => (h.rows r hr).step hst, h.pos, h.low, fun k hk => ⟨(h.over k hk).1, fun e => ?_⟩⟩
  · have := h.hdr
    unfold Vw at this ⊢
    rw [hb _ (RC.foot_w c)]; exact this
  · rcases hs.foot k e with e | e
    · exact (h.over k hk).2 e
    · have := h.lt k hk; omega
theorem RcAt.read (h : RcAt w B M c) (hb : Below w.heap.size w w') : RcAt w' B M c := h.other (.of_below hb M)

/-! ### Where one stands -/
def AtRel (w : World) (c : RC) (a : Int) (nL g : Nat) (i : Value) (wr : World) : Prop :=
  ∃ k : Nat, k + g = nL ∧ i = .int .i64 k ∧ wr = w ∧ ∀ j r, j < k → c.L[j]? = some r → (r.pos : Int) ≠ a
/-- the answer of at -/
def AtPost (c : RC) (a : Int) (w : World) (e : Ending) (w' : World) : Prop :=
  w = w' ∧ ((∃ k r, c.L[k]? = some r ∧ (r.pos : Int) = a ∧ e = .returned (.int .i64 ((k : Nat) : Int))) ∨ ((∀ r ∈ c.L, (r.pos : Int) ≠ a) ∧ e = .returned (.int .i64 (-1))))
set_option maxHeartbeats 1000000 in
theorem rat_c (h : RcAt w B M c) (a : Int) (ha : I64 a) :
    Calls Try.prog 47 #[pv c.W, .int .i64 a] w (AtPost c a w) := by
  unfold I64 at ha
  have c2 : w.cell? ⟨c.W, 2, none⟩ = some c.lv := h.hdr.cell rfl
  have hlen := h.few
  obtain ⟨nL, hnL⟩ : ∃ nL, c.L.length = nL := ⟨_, rfl⟩
  obtain ⟨lp, lc, hlv⟩ : ∃ lp lc, c.lv = .slice lp nL lc := by
    rw [← hnL]
    rcases h.form with ⟨e, e0⟩ | ⟨g, cap, e, _⟩
    · exact ⟨none, 0, by rw [e, e0]; rfl⟩
    · exact ⟨_, _, e⟩
  rw [hlv] at c2
  rw [hnL] at hlen
  have hh := Lib.hid h
  have hnL' := Lib.hid hnL
  have hlv' := Lib.hid hlv
  clear h hnL hlv
  unfold pv
  go_enter Try.func47, Try.ntmps47
  go_wp2_with fail
  go_loopg [5] nL (fun g i wr => AtRel w c a nL g i wr)
  case atStart => exact ⟨0, by omega, rfl, rfl, fun j r hj => by omega⟩
  case round =>
    obtain ⟨k, hg, rfl, rfl, hno⟩ := hrel
    have hno' := Lib.hid hno
    clear hno
    by_cases hlt : k < nL
    · obtain ⟨g, rfl⟩ : ∃ g, gk = g + 1 := ⟨gk - 1, by omega⟩
      obtain ⟨r, hr⟩ : ∃ r, c.L[k]? = some r := ⟨_, List.getElem?_eq_getElem (by rw [hnL'.out]; exact hlt)⟩
      obtain ⟨b, cap, e1, hcap, _, r0, _⟩ := hh.out.get hr
      rw [hlv'.out] at e1
      cases e1
      obtain ⟨p, hp⟩ : ∃ p, r.pos = p := ⟨_, rfl⟩
      rw [hp] at r0
      have hp2 : p < 2048 := hp ▸ hh.out.low r (List.mem_of_getElem? hr)
      have hr' := Lib.hid hr
      have hp' := Lib.hid hp
      clear hr hp
      by_cases hpa : (p : Int) = a
      · go_wp2_with fail
        go_ret
        exact ⟨rfl, .inl ⟨k, r, hr'.out, by rw [hp'.out]; exact hpa, rfl⟩⟩
      · go_wp2_with fail
        go_roundg g
        case measure => omega
        case rel => exact ⟨k + 1, by omega, by go_num, rfl, fun j r2 hj h2 => by
          by_cases e : j < k
          · exact hno'.out j r2 e h2
          · obtain rfl : j = k := by omega
            rw [hr'.out] at h2
            cases h2
            rw [hp'.out]; exact hpa⟩
    · obtain rfl : k = nL := by omega
      go_wp2_with fail
      go_ret
      refine ⟨rfl, .inr ⟨fun r hr => ?_, rfl⟩⟩
      obtain ⟨j, hj⟩ := List.getElem?_of_mem hr
      exact hno'.out j r (by rw [← hnL'.out]; exact (List.getElem?_eq_some_iff.1 hj).1) hj
end
end Go.Proofs.Ytnfaeejeipbciaa
end

section
set_option linter.unusedVariables false
set_option linter.unusedSimpArgs false
namespace Go.Proofs.Ytnfaeejeipbciaa
open Go.RowKit BigFrame
set_option maxRecDepth 100000

/-- a sector that was just made -/
def sx0 (k p : Nat) : Sx := ⟨k, p, zs 128, 0, false, false⟩
def bldX (ps : Array (Nat × Value)) : Sem Value := Instr.build 86 ps
theorem bldX_of (ps : Array (Nat × Value)) : Instr.build 86 ps = bldX ps := rfl
theorem run_bldX (p : Nat) (w : World) : (bldX #[(0, .int .i64 ((p : Nat) : Int))]).run Try.prog w = .ok (.agg (sx0 0 p).cells.toArray) w := by
  unfold bldX
  refine run_build w _ _ _ ?_
  kernel_rfl
attribute [local go_sem ↓] bldX_of
attribute [local go_sem] run_bldX
theorem Step.turned {w0 w w' : World} {F F' : List Nat} {m : Nat} (h : Step w0 F w F') (ht : w.mapTurned w' m) (hm : m ∈ F') : Step w0 F w' F' :=
  h.trans ⟨ht.grown.os, ht.grown.tape, ht.grown.output, ht.grown.size, fun k _ hk => mturn_blk ht (fun e => hk (e ▸ hm)), fun k hk => .inl hk⟩

section
variable {w : World} {B : Nat} {c : Ck} {L : List Sx}
def Ck.hold (c : Ck) (x : Sx) : Ck := { c with H := x :: c.H }
/-- what a call leaves that answers v -/
structure CkPost (v : Value) (B : Nat) (c : Ck) (w : World) (c' : Ck) (L' : List Sx) (w' : World) : Prop where
  mem : CkM w' B c' L'
  step : Step w c.foot w' c'.foot
theorem hold_c (h : CkM w B c L) (hO : CkOk c L) (hB : B ≤ w.heap.size) (p : Nat) (hp : p < 2048) (hn : get c.H (p : Int) = none) :
    Calls Try.prog 52 #[pv c.C, .int .i64 (p : Int)] w fun e w' => e = .returned (pv w.heap.size) ∧ CkM w' B (c.hold (sx0 w.heap.size p)) L ∧ Step w c.foot w' (c.hold (sx0 w.heap.size p)).foot := by
  have c3 := h.hdr.cell (k := 3) rfl
  have h' := Lib.hid h
  have hO' := Lib.hid hO
  have hn' := Lib.hid hn
  have h1 := Lib.hid (show CkM (w.alloc (.cells (sx0 0 p).cells.toArray 86)) B c L from h.carry fun k hk => old_alloc w _ k (h.lt k hk))
  have k3 := h1.out.hdr.cell (k := 3) rfl
  obtain ⟨l, m1, m2, m3⟩ := h1.out.map
  have m1' := Lib.hid m1
  have m2' := Lib.hid m2
  have m3' := Lib.hid m3
  have hkey := key_nat (k := p) (by omega)
  have tk : True := trivial
  unfold pv
  clear h hO hn m1 m2 m3
  go_enter Try.func52, Try.ntmps52
  go_wp2_with (at_mapUpdate; have _t := tk; clear tk; refine wpList_map_store rfl _ _ _ rfl law_int Try.underlying70 c.M l rfl m1'.out (by have := hO'.out.few; rw [m2'.out]; unfold maxLen; omega) (.int .i64 (p : Int)) (.pointer (some ⟨w.heap.size, 0, none⟩)) (.int .i64 (p : Int)) rfl rfl hkey ?_; intro w3 hm3 ht3)
  go_ret
  obtain ⟨w1, hw1⟩ : ∃ w1, w.alloc (.cells (sx0 0 p).cells.toArray 86) = w1 := ⟨_, rfl⟩
  have hnew : Vw w1 86 w.heap.size (sx0 w.heap.size p).cells := by rw [← hw1]; exact Vw.alloc w _ _
  have hsz : w1.heap.size = w.heap.size + 1 := by rw [← hw1]; exact size_alloc w _
  have hS0 : Step w c.foot w1 (c.hold (sx0 w.heap.size p)).foot := by
    rw [← hw1]
    refine ⟨rfl, rfl, rfl, by rw [size_alloc]; omega, fun k hk _ => old_alloc w _ k hk, fun k hk => ?_⟩
    rcases foot_cases hk with rfl | rfl | hk | ⟨x, hx, rfl⟩
    · exact .inl (foot_c c)
    · exact .inl (foot_m c)
    · exact .inl (foot_l hk)
    · rcases List.mem_cons.1 hx with rfl | hx
      · exact .inr (Nat.le_refl _)
      · exact .inl (foot_x hx)
  rw [hw1] at h1 ht3
  have hM := h1.out
  have hmc : c.M < w.heap.size := h'.out.lt _ (foot_m c)
  refine ⟨rfl, ⟨?_, ⟨_, hm3.out, ?_, fun a => ?_⟩, fun x hx => ?_, ?_, ?_, fun k hk => ?_⟩, hS0.turned ht3.out (foot_m _)⟩
  · exact (by unfold Vw; rw [mturn_blk ht3.out hM.cm]; exact hM.hdr : Vw w3 _ c.C c.cells)
  · have e : fndL l (.int .i64 (p : Int)) = none := by rw [m3'.out, hn'.out]; rfl
    rw [insL_length, strL_none e, m2'.out]; rfl
  · rw [fndL_put, m3'.out]
    show _ = (get (sx0 w.heap.size p :: c.H) a).map _
    unfold get
    rw [List.find?_cons]
    by_cases ea : a = (p : Int)
    · rw [if_pos ea, decide_eq_true (show ((sx0 w.heap.size p).pos : Int) = a from ea.symm)]; rfl
    · rw [if_neg ea, decide_eq_false (show ¬ ((sx0 w.heap.size p).pos : Int) = a from fun e => ea e.symm)]
  · rcases List.mem_cons.1 hx with rfl | hx
    · unfold Vw
      rw [show (sx0 w.heap.size p).blk = w.heap.size from rfl, mturn_blk ht3.out (by omega)]; exact hnew
    · unfold Vw
      rw [mturn_blk ht3.out (hM.mx hx)]; exact hM.sec x hx
  · exact own_blk hM.own fun k hk => mturn_blk ht3.out (hM.lm hk)
  · show (w.heap.size :: c.H.map Sx.blk).Nodup
    refine List.nodup_cons.2 ⟨fun hm => ?_, hM.blk⟩
    obtain ⟨x, hx, e⟩ := List.mem_map.1 hm
    have := h'.out.lt _ (foot_x hx)
    omega
  · rcases hS0.foot k hk with h | h
    · exact hM.over k h
    · omega
end
end Go.Proofs.Ytnfaeejeipbciaa
end

section
set_option linter.unusedVariables false
set_option linter.unusedSimpArgs false
namespace Go.Proofs.Ytnfaeejeipbciaa
open Go.RowKit BigFrame
set_option maxRecDepth 100000

section
variable {w : World} {B : Nat} {c : Ck} {L : List Sx}
def Sx.at (x : Sx) (u : Nat) : Sx := { x with used := u }
def Ck.newest (c : Ck) (x : Sx) : Ck := { c with uses := c.uses + 1, H := but x c.H ++ [x.at (c.uses + 1)] }
theorem mem_but {x y : Sx} {H : List Sx} : y ∈ but x H ↔ y ∈ H ∧ y.used ≠ x.used := by
  unfold but
  rw [List.mem_filter]
  simp
theorem newest_map {α : Type} (f : Sx → α) {x : Sx} {H : List Sx} (hs : Srt H) (hx : x ∈ H) (u : Nat) (hf : f (x.at u) = f x) : ((but x H ++ [x.at u]).map f).Perm (H.map f) := by
  have := (perm_end hs hx).map f
  rw [List.map_append, List.map_singleton] at this ⊢
  rw [hf]; exact this
theorem newest_foot {x : Sx} (hs : Srt c.H) (hx : x ∈ c.H) (k : Nat) : k ∈ (c.newest x).foot ↔ k ∈ c.foot := by
  have := (newest_map Sx.blk hs hx (c.uses + 1) rfl).mem_iff (a := k)
  simp only [Ck.foot, List.mem_cons, List.mem_append, Ck.newest]
  rw [this]
theorem get_end {x : Sx} {H : List Sx} (hs : Srt H) (hA : Apart H) (hx : x ∈ H) (u : Nat) (a : Int) : (get (but x H ++ [x.at u]) a).map (fun x => pv x.blk) = (get H a).map fun x => pv x.blk := by
  rw [← get_perm hA (perm_end hs hx) a]
  exact get_blk (by rw [List.map_append, List.map_append]; rfl) a
theorem CkM.newest (h : CkM w B c L) (hs : Srt c.H) (hA : Apart c.H) {x : Sx} (hx : x ∈ c.H) (hl : x.b.length = 128) (v : Value) (hv : v = .int .i64 ((c.uses + 1 : Nat) : Int)) :
    CkM ((w.setCell ⟨c.C, 2, none⟩ v).setCell ⟨x.blk, 129, none⟩ v) B (c.newest x) L := by
  subst hv
  have hxc := h.cx hx
  have hw : ∀ k, k ≠ c.C → k ≠ x.blk → ((w.setCell ⟨c.C, 2, none⟩ (.int .i64 ((c.uses + 1 : Nat) : Int))).setCell ⟨x.blk, 129, none⟩ (.int .i64 ((c.uses + 1 : Nat) : Int))).heap[k]? = w.heap[k]? := fun k h1 h2 => by
    rw [heap_set_other _ ⟨x.blk, 129, none⟩ _ h2, heap_set_other _ ⟨c.C, 2, none⟩ _ h1]
  refine ⟨?_, ?_, fun y hy => ?_, ?_, ?_, fun k hk => h.over k ((newest_foot hs hx k).1 hk)⟩
  · have := h.hdr.set 2 (.int .i64 ((c.uses + 1 : Nat) : Int))
    unfold Vw at this ⊢
    rw [show (c.newest x).C = c.C from rfl, heap_set_other _ ⟨x.blk, 129, none⟩ _ (Ne.symm hxc), this]; rfl
  · obtain ⟨l, m1, m2, m3⟩ := h.map
    refine ⟨l, m1.blk (hw _ (Ne.symm h.cm) (Ne.symm (h.mx hx))), ?_, fun a => by rw [m3]; exact (get_end hs hA hx _ a).symm⟩
    have := (newest_map Sx.blk hs hx (c.uses + 1) rfl).length_eq
    rw [List.length_map, List.length_map] at this
    exact m2.trans this.symm
  · rcases List.mem_append.1 hy with hy | hy
    · obtain ⟨h1, h2⟩ := mem_but.1 hy
      unfold Vw
      rw [hw _ (h.cx h1) (fun e => h2 (by rw [blk_inj h.blk h1 hx e]))]
      exact h.sec y h1
    · rw [List.mem_singleton] at hy
      subst hy
      have h1 : Vw (w.setCell ⟨c.C, 2, none⟩ (.int .i64 ((c.uses + 1 : Nat) : Int))) 86 x.blk x.cells := by
        unfold Vw
        rw [heap_set_other _ ⟨c.C, 2, none⟩ _ hxc]; exact h.sec x hx
      have := h1.set 129 (.int .i64 ((c.uses + 1 : Nat) : Int))
      rw [Sx.set129 hl] at this
      exact this
  · exact own_blk h.own fun k hk => hw _ (h.lc hk) (h.lx hk hx)
  · exact (newest_map Sx.blk hs hx (c.uses + 1) rfl).symm.nodup h.blk
theorem CkM.there (h : CkM w B c L) : B ≤ w.heap.size := Nat.le_of_lt (Nat.lt_of_le_of_lt (h.over _ (foot_c c)) h.hdr.lt)
theorem renew_c (h : CkM w B c L) (hO : CkOk c L) {x : Sx} (hx : x ∈ c.H) (hu : c.uses < 1000000) :
    Calls Try.prog 54 #[pv c.C, pv x.blk] w fun e w' => e = .returned (.tuple #[]) ∧ CkM w' B (c.newest x) L ∧ Step w c.foot w' (c.newest x).foot := by
  have hl := hO.len x hx
  have hw1 : IntKind.i64.wrap ((c.uses : Int) + 1) = (c.uses : Int) + 1 := by rw [IntKind.wrap_i64]; omega
  have hM := Lib.hid (h.newest hO.srt hO.pos hx hl (.int .i64 ((c.uses : Int) + 1)) rfl)
  have hF := Lib.hid (fun k => newest_foot (c := c) hO.srt hx k)
  have c2 := h.hdr.cell (k := 2) rfl
  have f2 := h.hdr.frozen 2
  have fx := (h.sec x hx).frozen 129
  have cx := (h.sec x hx).cell (Sx.c129 hl)
  have hxc := h.cx hx
  have hxf := Lib.hid (foot_x hx)
  unfold pv
  clear h hO hx
  go_enter Try.func54, Try.ntmps54
  go_wp2_with fail
  go_end0
  refine ⟨rfl, hM.out, rfl, rfl, rfl, by rw [size_set, size_set]; exact Nat.le_refl _, fun k hk hf => ?_, fun k hk => .inl ((hF.out k).1 hk)⟩
  rw [heap_set_other _ ⟨x.blk, 129, none⟩ _ (show k ≠ x.blk from fun e => hf (e ▸ hxf.out)), heap_set_other _ ⟨c.C, 2, none⟩ _ (show k ≠ c.C from fun e => hf (e ▸ foot_c c))]
end
end Go.Proofs.Ytnfaeejeipbciaa
end

section
set_option linter.unusedVariables false
set_option linter.unusedSimpArgs false
namespace Go.Proofs
open Go.Shelf
def Try.searchOf_ren : Go.Shelf.Ren := ⟨fun | 14 => 64 | n => n, fun | 22 => 71 | 24 => 81 | 29 => 81 | 32 => 83 | 3 => 3 | 4 => 4 | 35 => 91 | 0 => 0 | n => n, fun | n => n⟩
theorem Try.searchOf : Go.Proofs.SlLaysG2.n14 Try.prog Try.searchOf_ren := {
  mixed := by kernel_rfl
  f14 := ⟨Try.f64.name, by decide, Try.func64.trans (congrArg some (by kernel_rfl))⟩
  t0 := Try.underlying0
  a0 := Try.isAgg0
  z0 := Try.sizeOf0
  v0 := Try.zeroValue0
  t3 := Try.underlying3
  a3 := Try.isAgg3
  z3 := Try.sizeOf3
  v3 := Try.zeroValue3
  t4 := Try.underlying4
  a4 := Try.isAgg4
  z4 := Try.sizeOf4
  v4 := Try.zeroValue4
  t22 := Try.underlying71
  a22 := Try.isAgg71
  z22 := Try.sizeOf71
  v22 := Try.zeroValue71
  a24 := Try.isAgg81
  z24 := Try.sizeOf81
  a29 := Try.isAgg81
  z29 := Try.sizeOf81
  t32 := Try.underlying83
  a32 := Try.isAgg83
  z32 := Try.sizeOf83
  v32 := Try.zeroValue83
  t35 := Try.underlying91
  a35 := Try.isAgg91
  z35 := Try.sizeOf91
  v35 := Try.zeroValue91 }
def Try.deleteOf_ren : Go.Shelf.Ren := ⟨fun | 45 => 65 | n => n, fun | 22 => 71 | 23 => 81 | 3 => 3 | 4 => 4 | 0 => 0 | n => n, fun | n => n⟩
theorem Try.deleteOf : Go.Proofs.SlLaysE.n45 Try.prog Try.deleteOf_ren := {
  mixed := by kernel_rfl
  f45 := ⟨Try.f65.name, by decide, Try.func65.trans (congrArg some (by kernel_rfl))⟩
  t0 := Try.underlying0
  a0 := Try.isAgg0
  z0 := Try.sizeOf0
  v0 := Try.zeroValue0
  t3 := Try.underlying3
  a3 := Try.isAgg3
  z3 := Try.sizeOf3
  v3 := Try.zeroValue3
  t4 := Try.underlying4
  a4 := Try.isAgg4
  z4 := Try.sizeOf4
  v4 := Try.zeroValue4
  t22 := Try.underlying71
  a22 := Try.isAgg71
  z22 := Try.sizeOf71
  v22 := Try.zeroValue71
  a23 := Try.isAgg81
  z23 := Try.sizeOf81 }
def Try.sortOf_ren : Go.Shelf.Ren := ⟨fun | 6 => 62 | 15 => 71 | 14 => 70 | 28 => 83 | 29 => 84 | 20 => 75 | 21 => 76 | 22 => 77 | 23 => 78 | 24 => 79 | 25 => 80 | 26 => 81 | 27 => 82 | 46 => 86 | 47 => 87 | 48 => 88 | 49 => 89 | 50 => 90 | 57 => 92 | n => n, fun | 22 => 71 | 24 => 81 | 25 => 83 | 3 => 3 | 39 => 91 | 0 => 0 | 53 => 120 | 55 => 122 | 4 => 4 | 46 => 114 | 45 => 113 | 50 => 103 | 5 => 5 | 9 => 9 | 66 => 123 | 70 => 127 | 76 => 130 | 77 => 131 | n => n, fun | n => n⟩
theorem Try.sortOf : Go.Proofs.SlLaysF.n6 Try.prog Try.sortOf_ren := {
  mixed := by kernel_rfl
  f6 := ⟨Try.f62.name, by decide, Try.func62.trans (congrArg some (by kernel_rfl))⟩
  f14 := ⟨Try.f70.name, by decide, Try.func70.trans (congrArg some (by kernel_rfl))⟩
  f15 := Try.func71.trans (congrArg some (by kernel_rfl))
  f20 := ⟨Try.f75.name, by decide, Try.func75.trans (congrArg some (by kernel_rfl))⟩
  f21 := ⟨Try.f76.name, by decide, Try.func76.trans (congrArg some (by kernel_rfl))⟩
  f22 := ⟨Try.f77.name, by decide, Try.func77.trans (congrArg some (by kernel_rfl))⟩
  f23 := ⟨Try.f78.name, by decide, Try.func78.trans (congrArg some (by kernel_rfl))⟩
  f24 := ⟨Try.f79.name, by decide, Try.func79.trans (congrArg some (by kernel_rfl))⟩
  f25 := ⟨Try.f80.name, by decide, Try.func80.trans (congrArg some (by kernel_rfl))⟩
  f26 := ⟨Try.f81.name, by decide, Try.func81.trans (congrArg some (by kernel_rfl))⟩
  f27 := ⟨Try.f82.name, by decide, Try.func82.trans (congrArg some (by kernel_rfl))⟩
  f28 := Try.func83.trans (congrArg some (by kernel_rfl))
  f29 := Try.func84.trans (congrArg some (by kernel_rfl))
  f46 := ⟨Try.f86.name, by decide, Try.func86.trans (congrArg some (by kernel_rfl))⟩
  f47 := Try.func87.trans (congrArg some (by kernel_rfl))
  f48 := Try.func88.trans (congrArg some (by kernel_rfl))
  f49 := ⟨Try.f89.name, by decide, Try.func89.trans (congrArg some (by kernel_rfl))⟩
  f50 := ⟨Try.f90.name, by decide, Try.func90.trans (congrArg some (by kernel_rfl))⟩
  f57 := ⟨Try.f92.name, by decide, Try.func92.trans (congrArg some (by kernel_rfl))⟩
  t0 := Try.underlying0
  a0 := Try.isAgg0
  z0 := Try.sizeOf0
  v0 := Try.zeroValue0
  t3 := Try.underlying3
  a3 := Try.isAgg3
  z3 := Try.sizeOf3
  v3 := Try.zeroValue3
  t4 := Try.underlying4
  a4 := Try.isAgg4
  z4 := Try.sizeOf4
  v4 := Try.zeroValue4
  t5 := Try.underlying5
  a5 := Try.isAgg5
  z5 := Try.sizeOf5
  v5 := Try.zeroValue5
  t9 := Try.underlying9
  a9 := Try.isAgg9
  z9 := Try.sizeOf9
  v9 := Try.zeroValue9
  t22 := Try.underlying71
  a22 := Try.isAgg71
  z22 := Try.sizeOf71
  v22 := Try.zeroValue71
  a24 := Try.isAgg81
  z24 := Try.sizeOf81
  t25 := Try.underlying83
  a25 := Try.isAgg83
  z25 := Try.sizeOf83
  v25 := Try.zeroValue83
  t39 := Try.underlying91
  a39 := Try.isAgg91
  z39 := Try.sizeOf91
  v39 := Try.zeroValue91
  t45 := Try.underlying113
  a45 := Try.isAgg113
  z45 := Try.sizeOf113
  v45 := Try.zeroValue113
  t46 := Try.underlying114
  a46 := Try.isAgg114
  z46 := Try.sizeOf114
  v46 := Try.zeroValue114
  t50 := Try.underlying103
  a50 := Try.isAgg103
  z50 := Try.sizeOf103
  v50 := Try.zeroValue103
  t53 := Try.underlying120
  a53 := Try.isAgg120
  z53 := Try.sizeOf120
  v53 := Try.zeroValue120
  t55 := Try.underlying122
  a55 := Try.isAgg122
  z55 := Try.sizeOf122
  v55 := Try.zeroValue122
  t66 := Try.underlying123
  a66 := Try.isAgg123
  z66 := Try.sizeOf123
  v66 := Try.zeroValue123
  t70 := Try.underlying127
  a70 := Try.isAgg127
  z70 := Try.sizeOf127
  v70 := Try.zeroValue127
  t76 := Try.underlying130
  a76 := Try.isAgg130
  z76 := Try.sizeOf130
  v76 := Try.zeroValue130
  t77 := Try.underlying131
  a77 := Try.isAgg131
  z77 := Try.sizeOf131
  v77 := Try.zeroValue131 }
end Go.Proofs
end

section
set_option linter.unusedVariables false
set_option linter.unusedSimpArgs false
namespace Go.Proofs.Ytnfaeejeipbciaa
open Go.RowKit BigFrame
set_option maxRecDepth 100000

def cmpI (a b : Int) : Int := if a < b then -1 else if b < a then 1 else 0
theorem isnan_i (a : Int) (w : World) : Calls Try.prog 72 #[.int .i64 a] w fun e w' => e = .returned (.bool false) ∧ w = w' := by
  go_enter Try.func72, Try.ntmps72
  go_wp2_with fail
  go_ret
  exact ⟨rfl, rfl⟩
theorem compare_i (a b : Int) (w : World) : Calls Try.prog 63 #[.int .i64 a, .int .i64 b] w fun e w' => e = .returned (.int .i64 (cmpI a b)) ∧ w = w' := by
  by_cases h1 : a < b
  · have e : cmpI a b = -1 := by simp [cmpI, h1]
    rw [e]
    go_enter Try.func63, Try.ntmps63
    go_wp2_with (go_at_call 72; refine (isnan_i _ _).mono ?_; rintro e w1 ⟨rfl, rfl⟩)
    go_ret
    exact ⟨rfl, rfl⟩
  · by_cases h2 : b < a
    · have e : cmpI a b = 1 := by simp [cmpI, h1, h2]
      rw [e]
      go_enter Try.func63, Try.ntmps63
      go_wp2_with (go_at_call 72; refine (isnan_i _ _).mono ?_; rintro e w1 ⟨rfl, rfl⟩)
      go_ret
      exact ⟨rfl, rfl⟩
    · have e : cmpI a b = 0 := by simp [cmpI, h1, h2]
      rw [e]
      go_enter Try.func63, Try.ntmps63
      go_wp2_with (go_at_call 72; refine (isnan_i _ _).mono ?_; rintro e w1 ⟨rfl, rfl⟩)
      go_ret
      exact ⟨rfl, rfl⟩
theorem byage_c {w : World} {p q : Nat} {a b : Nat} (h1 : w.cell? ⟨p, 129, none⟩ = some (.int .i64 ((a : Nat) : Int))) (h2 : w.cell? ⟨q, 129, none⟩ = some (.int .i64 ((b : Nat) : Int))) :
    Calls Try.prog 44 #[pv p, pv q] w fun e w' => e = .returned (.int .i64 (cmpI a b)) ∧ ∃ n, w' = w.drewN n := by
  unfold pv
  go_enter Try.func44, Try.ntmps44
  go_wp2_with fail
  go_quiet ((go_at_call 63; refine Calls.quiet_of_same ((compare_i _ _ _).mono fun _ _ h => ⟨h.1, h.2.symm⟩)))
  go_wp2_with fail
  go_ret
  exact ⟨rfl, _, rfl⟩
theorem byplace_c {w : World} {p q : Nat} {a b : Nat} (h1 : w.cell? ⟨p, 0, none⟩ = some (.int .i64 ((a : Nat) : Int))) (h2 : w.cell? ⟨q, 0, none⟩ = some (.int .i64 ((b : Nat) : Int))) :
    Calls Try.prog 46 #[pv p, pv q] w fun e w' => e = .returned (.int .i64 (cmpI a b)) ∧ ∃ n, w' = w.drewN n := by
  unfold pv
  go_enter Try.func46, Try.ntmps46
  go_wp2_with fail
  go_quiet ((go_at_call 63; refine Calls.quiet_of_same ((compare_i _ _ _).mono fun _ _ h => ⟨h.1, h.2.symm⟩)))
  go_wp2_with fail
  go_ret
  exact ⟨rfl, _, rfl⟩
end Go.Proofs.Ytnfaeejeipbciaa
end

section
set_option linter.unusedVariables false
set_option linter.unusedSimpArgs false
namespace Go.Proofs.Ytnfaeejeipbciaa
open Go.RowKit BigFrame Go.Lib Go.Sort
set_option maxRecDepth 100000

section
variable {w w1 : World} {B : Nat} {c : Ck} {L L' : List Sx}
def Ck.list (c : Ck) (v : Value) : Ck := { c with lv := v }
/-- the list is another one now -/
theorem CkM.relist (h : CkM w B c L) {v : Value} (hT : TurnS (fun k => c.lv.ownBlock = some k) w w1) (ho : w1.ownsRow B 81 1 v L'.length (pvs L')) (hat : ∀ k, v.ownBlock = some k → c.lv.ownBlock = some k ∨ w.heap.size ≤ k) :
    CkM (w1.setCell ⟨c.C, 4, none⟩ v) B (c.list v) L' ∧ Step w c.foot (w1.setCell ⟨c.C, 4, none⟩ v) (c.list v).foot := by
  have hC := h.lt _ (foot_c c)
  have hb : ∀ k, k < w.heap.size → k ≠ c.C → c.lv.ownBlock ≠ some k → (w1.setCell ⟨c.C, 4, none⟩ v).heap[k]? = w.heap[k]? := fun k hk h1 h2 => by
    rw [heap_set_other _ ⟨c.C, 4, none⟩ _ h1]; exact hT.block k hk h2
  refine ⟨⟨?_, ?_, fun x hx => ?_, ?_, h.blk, fun k hk => ?_⟩, ⟨hT.os, hT.tape, hT.output, by rw [size_set]; exact hT.size, fun k hk hf => ?_, fun k hk => ?_⟩⟩
  · have : Vw w1 73 c.C c.cells := h.hdr.turnS hT (fun e => h.lc e rfl)
    exact this.set 4 v
  · exact h.map.blk (hb _ (h.lt _ (foot_m c)) (Ne.symm h.cm) (fun e => h.lm e rfl))
  · unfold Vw
    rw [hb _ (h.lt _ (foot_x hx)) (h.cx hx) (fun e => h.lx e hx rfl)]; exact h.sec x hx
  · refine own_blk ho fun k hk => heap_set_other _ ⟨c.C, 4, none⟩ _ ?_
    show k ≠ c.C
    rcases hat k hk with e | e
    · exact h.lc e
    · omega
  · rcases foot_cases hk with e | e | e | ⟨x, hx, e⟩
    · rw [e]; exact h.over _ (foot_c c)
    · rw [e]; exact h.over _ (foot_m c)
    · rcases hat k e with e | e
      · exact h.over _ (foot_l e)
      · exact Nat.le_trans h.there e
    · rw [← e]; exact h.over _ (foot_x (c := c) hx)
  · exact hb k hk (fun e => hf (e ▸ foot_c c)) (fun e => hf (foot_l e))
  · rcases foot_cases hk with e | e | e | ⟨x, hx, e⟩
    · rw [e]; exact .inl (foot_c c)
    · rw [e]; exact .inl (foot_m c)
    · rcases hat k e with e | e
      · exact .inl (foot_l e)
      · exact .inr e
    · rw [← e]; exact .inl (foot_x (c := c) hx)

/-! ### Rows as the library has them -/
theorem row_same {α : Type} [Inhabited α] {enc : α → Value} {w : World} {g off n : Nat} {d : Array α} {os : Array Obj} {k : Nat} (hk : k < w.heap.size) (hne : k ≠ g) : (grow (putRow enc (Sort.ahead w n) g off d) os).heap[k]? = w.heap[k]? := by
  rw [heap_grow_old _ _ (by simpa using hk)]
  simp [putRow, mapBlock, Sort.ahead, Array.getElem?_modify, Ne.symm hne]
theorem row_at {α : Type} [Inhabited α] {enc : α → Value} {w : World} {g off n : Nat} {d : Array α} {os : Array Obj} {cur : List Value} {t : TypeId} (hb : Vw w t g cur) :
    (grow (putRow enc (Sort.ahead w n) g off d) os).heap[g]? = some (.cells (putCells enc off d cur.toArray) t (0, 0)) := by
  rw [heap_grow_old _ _ (by simpa using hb.lt)]
  unfold Vw at hb
  simp [putRow, mapBlock, Sort.ahead, Array.getElem?_modify, hb, onCells]
theorem row_turn {α : Type} [Inhabited α] (enc : α → Value) (w : World) (g off n : Nat) (d : Array α) (os : Array Obj) {S : Nat → Prop} (hS : S g) : TurnS S w (grow (putRow enc (Sort.ahead w n) g off d) os) := by
  refine ⟨rfl, rfl, rfl, ?_, fun k hk hne => row_same hk (fun e => hne (e ▸ hS))⟩
  simp [grow, putRow, mapBlock, Sort.ahead]

abbrev InH (H : List Sx) : Type := { y : Sx // y ∈ H }
def encH {H : List Sx} (y : InH H) : Value := pv y.1.blk
def rowH {H : List Sx} (L : List Sx) (h : ∀ y ∈ L, y ∈ H) : Array (InH H) := (L.attachWith (· ∈ H) h).toArray
theorem rowH_size {H L : List Sx} (h : ∀ y ∈ L, y ∈ H) : (rowH L h).size = L.length := by simp [rowH]
theorem rowH_get {H L : List Sx} (h : ∀ y ∈ L, y ∈ H) [Inhabited (InH H)] {k : Nat} {x : Sx} (hx : L[k]? = some x) : ((rowH L h)[k]!).1 = x := by
  obtain ⟨hk, e⟩ := List.getElem?_eq_some_iff.1 hx
  rw [getElem!_pos (rowH L h) k (by rw [rowH_size]; exact hk)]
  simp [rowH, e]
theorem rowH_val {H L : List Sx} (h : ∀ y ∈ L, y ∈ H) : (rowH L h).toList.map Subtype.val = L := by
  unfold rowH
  simp
theorem rowH_count {H L : List Sx} (h : ∀ y ∈ L, y ∈ H) (p : Sx → Bool) : (rowH L h).toList.countP (fun y => p y.1) = L.countP p := by
  have := List.countP_map (p := p) (f := Subtype.val) (l := (rowH L h).toList)
  rw [rowH_val] at this
  exact this.symm
/-- is one of x's age there? -/
def fnd (x : Sx) (L : List Sx) : Bool := L.any fun y => decide (y.used = x.used)
theorem cmp_neg (a b : Nat) : decide (cmpI (a : Int) (b : Int) < 0) = decide (a < b) := by
  unfold cmpI
  by_cases h : a < b
  · rw [if_pos (by omega), decide_eq_true h]; rfl
  · rw [if_neg (by omega), decide_eq_false h]
    split <;> rfl
theorem cmp_zero (a b : Nat) : decide (cmpI (a : Int) (b : Int) = 0) = decide (a = b) := by
  unfold cmpI
  by_cases h : a < b
  · rw [if_pos (by omega), decide_eq_false (by omega : ¬ a = b)]; rfl
  · rw [if_neg (by omega)]
    by_cases h2 : b < a
    · rw [if_pos (by omega), decide_eq_false (by omega : ¬ a = b)]; rfl
    · rw [if_neg (by omega), decide_eq_true (by omega : a = b)]; rfl
theorem enters_age : ∀ args w, (callFunc 44 args).run Try.prog w = .ok (.enter 44 args) w := enters_of Try.func44 (by kernel_rfl) rfl
theorem enters_place : ∀ args w, (callFunc 46 args).run Try.prog w = .ok (.enter 46 args) w := enters_of Try.func46 (by kernel_rfl) rfl
theorem own_lt {v : Value} {g n cap : Nat} (h : w.ownsRow B 81 1 v n (pvs L)) (e : v = .slice (some ⟨g, 0, none⟩) n cap) : g < w.heap.size := (own_obj h g (by rw [e]; rfl)).1
theorem search_c (h : CkM w B c L) (hO : CkOk c L) {x : Sx} (hx : x ∈ c.H) :
    Calls Try.prog 64 #[c.lv, pv x.blk, .func (.func 44) #[] #[]] w fun e w' =>
      e = .returned (.tuple #[.int .i64 ((older x L : Nat) : Int), .bool (fnd x L)]) ∧ Below w.heap.size w w' := by
  rcases own_form1 h.own with ⟨e, e0⟩ | ⟨g, cap, cur, e, hcu, hcl, hn, hm, hB, hcx⟩
  · have := Any.slices_BinarySearchFunc_none Try.searchOf none 0 (pv x.blk) (.func (.func 44) #[] #[]) w
    rw [e, e0]
    refine this.mono ?_
    rintro e w' ⟨rfl, rfl⟩
    exact ⟨rfl, Below.refl _ _⟩
  · have hLH : ∀ y ∈ L, y ∈ c.H := fun y hy => hO.sub.subset hy
    have hs : Srt L := hO.srt.sublist hO.sub
    haveI : Inhabited (InH c.H) := ⟨⟨x, hx⟩⟩
    have hgx : ∀ y ∈ c.H, y.blk ≠ g := fun y hy => Ne.symm (h.lx (by rw [e]; rfl) hy)
    have hH : Holds encH w g 0 (rowH L hLH) := fun j hj => by
      rw [rowH_size] at hj
      have hj' := List.getElem?_eq_getElem hj
      rw [Nat.zero_add]
      refine ⟨?_, hcu.frozen j⟩
      unfold encH
      rw [rowH_get hLH hj']
      exact hcu.cell (hcx j _ hj')
    have hsz := rowH_size hLH
    have hcmp : CmpLaysT Try.prog 44 #[] encH (pv x.blk) (fun y : InH c.H => cmpI (y.1.used : Int) (x.used : Int)) g 0 (rowH L hLH).size w := by
      intro m os dk hdk y
      have k1 : ∀ z : Sx, z ∈ c.H → (sortWorld encH w g 0 m dk os).cell? ⟨z.blk, 129, none⟩ = some (.int .i64 ((z.used : Nat) : Int)) := fun z hz => by
        unfold sortWorld
        rw [World.cell?_of_block (w := w) (row_same (h.sec z hz).lt (hgx z hz))]
        exact (h.sec z hz).cell (Sx.c129 (hO.len z hz))
      refine (byage_c (k1 y.1 y.2) (k1 x hx)).mono ?_
      rintro e w' ⟨rfl, q, rfl⟩
      exact ⟨rfl, q, #[], by rw [grow_empty]⟩
    have hcon := Any.slices_BinarySearchFunc Try.searchOf encH (fun _ => rfl) (pv x.blk) (fun y : InH c.H => cmpI (y.1.used : Int) (x.used : Int)) 44 #[] g 0 cap (rowH L hLH) w enters_age hcmp hH hcu.lt (by rw [hsz]; have := hO.fewL; omega) (fun a b hab hb hc => by
      rw [hsz] at hb
      have ha : a < L.length := by omega
      rw [rowH_get hLH (List.getElem?_eq_getElem hb)] at hc
      rw [rowH_get hLH (List.getElem?_eq_getElem ha)]
      have h1 : L[b].used < x.used := by
        by_cases h2 : L[b].used < x.used
        · exact h2
        · exfalso
          have := cmp_neg L[b].used x.used
          rw [decide_eq_true hc, decide_eq_false h2] at this
          cases this
      have h3 : L[a].used ≤ L[b].used := by
        rcases Nat.lt_or_eq_of_le hab with hlt | heq
        · exact Nat.le_of_lt (List.pairwise_iff_getElem.1 hs a b ha hb hlt)
        · subst heq; exact Nat.le_refl _
      have := cmp_neg L[a].used x.used
      rw [decide_eq_true (show L[a].used < x.used by omega)] at this
      exact of_decide_eq_true this)
    have hcnt : (rowH L hLH).toList.countP (fun y => decide (cmpI (y.1.used : Int) (x.used : Int) < 0)) = older x L := by
      rw [rowH_count hLH (fun y => decide (cmpI (y.used : Int) (x.used : Int) < 0))]
      unfold older
      congr 1
      funext y
      exact cmp_neg _ _
    rw [hcnt, hsz] at hcon
    have hfn : (decide (older x L < L.length) && decide (cmpI (((rowH L hLH)[older x L]!).1.used : Int) (x.used : Int) = 0)) = fnd x L := by
      by_cases hm : x ∈ L
      · obtain ⟨h1, _⟩ := at_older hs hm
        rw [rowH_get hLH h1, cmp_zero, decide_eq_true (List.getElem?_eq_some_iff.1 h1).1, decide_eq_true rfl]
        exact (List.any_eq_true.2 ⟨x, hm, decide_eq_true rfl⟩).symm
      · have hne : ∀ y ∈ L, y.used ≠ x.used := fun y hy hu => hm ((hO.srt.uniq (hLH y hy) hx hu) ▸ hy)
        have : fnd x L = false := by
          unfold fnd
          rw [List.any_eq_false]
          intro y hy
          simpa using hne y hy
        rw [this]
        by_cases hlt : older x L < L.length
        · have h1 := List.getElem?_eq_getElem hlt
          rw [rowH_get hLH h1, cmp_zero, decide_eq_false (hne _ (List.getElem_mem hlt)), Bool.and_false]
        · rw [decide_eq_false hlt, Bool.false_and]
    rw [hfn] at hcon
    rw [e]
    refine hcon.mono ?_
    rintro e w' ⟨rfl, n, os, rfl⟩
    refine ⟨rfl, ?_⟩
    have h0 : Holds encH (Sort.ahead w n) g 0 (rowH L hLH) := hH
    unfold sortWorld
    rw [putRow_self encH (Sort.ahead w n) g 0 _ h0]
    refine ⟨rfl, rfl, rfl, by simp [grow, Sort.ahead], fun k hk => ?_⟩
    rw [heap_grow_old _ _ (by simpa using hk)]
    rfl
end
end Go.Proofs.Ytnfaeejeipbciaa
end
