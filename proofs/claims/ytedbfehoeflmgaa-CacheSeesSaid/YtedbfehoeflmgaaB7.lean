/-
  DERIVED: THE SHELF's CONTRACTS AT THIS DUMP, IN PLAIN WORDS (tools/lay-plain.mjs out of 'TryIter.lean', which tools/lay-shelf.mjs wrote): THE SAME DECLARATIONS UNDER THE SAME NAMES: 'import', 'namespace', 'open', 'def', 'theorem' AND NOTHING ELSE: no command of the shelf's: FOR A HAND-IN. Each laying: the table of numbers ('.._ren') and one theorem, a field a fact of the dump's own or the kernel's comparison; each contract: ONE APPLICATION.
  A cache: two sectors by their ages, by their places; where one stands in its list; one taken out of it.
  A cache's list: where a sector stands in it; some taken out of it.
  A cache's list: some taken out of it; a sector lifted.
  A cache's list: one put into it, at any place.
-/
import Derived.Shelf.SlCmpFuncs.BinarySearchFunc
import Derived.Shelf.SlCmpFuncs.None
import Derived.Shelf.SlicesE.Delete
import Derived.Shelf.SlSortCmp.NoneTotal
import Derived.Ground.SlsgProg
import Derived.Ground.SlsfProg
import Derived.Ground.SlgnProg
import Derived.Test.YtedbfehoeflmgaaProg
import Derived.Test.YtedbfehoeflmgaaB6
import Derived.Deep.QuietTactic
import Derived.BigQuiet
import Derived.Shelf.Spec.SlicesInsert

section
set_option linter.unusedVariables false
set_option linter.unusedSimpArgs false
namespace Go.Proofs
open Go.Shelf
def Try.searchOf_ren : Go.Shelf.Ren := ⟨fun | 14 => 64 | n => n, fun | 22 => 71 | 24 => 81 | 29 => 81 | 32 => 83 | 3 => 3 | 4 => 4 | 35 => 91 | 0 => 0 | n => n, fun | n => n⟩
theorem Try.searchOf : Go.Proofs.SlLaysG2.n14 Try.prog Try.searchOf_ren := {
  mixed := by kernel_rfl
  f14 := ⟨Try.f64.name, by decide, Try.func64.trans (congrArg some (by kernel_rfl))⟩
  t0 := Try.underlying0
  a0 := Try.isAgg0
  z0 := Try.sizeOf0
  v0 := Try.zeroValue0
  t3 := Try.underlying3
  a3 := Try.isAgg3
  z3 := Try.sizeOf3
  v3 := Try.zeroValue3
  t4 := Try.underlying4
  a4 := Try.isAgg4
  z4 := Try.sizeOf4
  v4 := Try.zeroValue4
  t22 := Try.underlying71
  a22 := Try.isAgg71
  z22 := Try.sizeOf71
  v22 := Try.zeroValue71
  a24 := Try.isAgg81
  z24 := Try.sizeOf81
  a29 := Try.isAgg81
  z29 := Try.sizeOf81
  t32 := Try.underlying83
  a32 := Try.isAgg83
  z32 := Try.sizeOf83
  v32 := Try.zeroValue83
  t35 := Try.underlying91
  a35 := Try.isAgg91
  z35 := Try.sizeOf91
  v35 := Try.zeroValue91 }
def Try.deleteOf_ren : Go.Shelf.Ren := ⟨fun | 45 => 65 | n => n, fun | 22 => 71 | 23 => 81 | 3 => 3 | 4 => 4 | 0 => 0 | n => n, fun | n => n⟩
theorem Try.deleteOf : Go.Proofs.SlLaysE.n45 Try.prog Try.deleteOf_ren := {
  mixed := by kernel_rfl
  f45 := ⟨Try.f65.name, by decide, Try.func65.trans (congrArg some (by kernel_rfl))⟩
  t0 := Try.underlying0
  a0 := Try.isAgg0
  z0 := Try.sizeOf0
  v0 := Try.zeroValue0
  t3 := Try.underlying3
  a3 := Try.isAgg3
  z3 := Try.sizeOf3
  v3 := Try.zeroValue3
  t4 := Try.underlying4
  a4 := Try.isAgg4
  z4 := Try.sizeOf4
  v4 := Try.zeroValue4
  t22 := Try.underlying71
  a22 := Try.isAgg71
  z22 := Try.sizeOf71
  v22 := Try.zeroValue71
  a23 := Try.isAgg81
  z23 := Try.sizeOf81 }
def Try.sortOf_ren : Go.Shelf.Ren := ⟨fun | 6 => 62 | 15 => 71 | 14 => 70 | 28 => 83 | 29 => 84 | 20 => 75 | 21 => 76 | 22 => 77 | 23 => 78 | 24 => 79 | 25 => 80 | 26 => 81 | 27 => 82 | 46 => 86 | 47 => 87 | 48 => 88 | 49 => 89 | 50 => 90 | 57 => 92 | n => n, fun | 22 => 71 | 24 => 81 | 25 => 83 | 3 => 3 | 39 => 91 | 0 => 0 | 53 => 120 | 55 => 122 | 4 => 4 | 46 => 114 | 45 => 113 | 50 => 103 | 5 => 5 | 9 => 9 | 66 => 123 | 70 => 127 | 76 => 130 | 77 => 131 | n => n, fun | n => n⟩
theorem Try.sortOf : Go.Proofs.SlLaysF.n6 Try.prog Try.sortOf_ren := {
  mixed := by kernel_rfl
  f6 := ⟨Try.f62.name, by decide, Try.func62.trans (congrArg some (by kernel_rfl))⟩
  f14 := ⟨Try.f70.name, by decide, Try.func70.trans (congrArg some (by kernel_rfl))⟩
  f15 := Try.func71.trans (congrArg some (by kernel_rfl))
  f20 := ⟨Try.f75.name, by decide, Try.func75.trans (congrArg some (by kernel_rfl))⟩
  f21 := ⟨Try.f76.name, by decide, Try.func76.trans (congrArg some (by kernel_rfl))⟩
  f22 := ⟨Try.f77.name, by decide, Try.func77.trans (congrArg some (by kernel_rfl))⟩
  f23 := ⟨Try.f78.name, by decide, Try.func78.trans (congrArg some (by kernel_rfl))⟩
  f24 := ⟨Try.f79.name, by decide, Try.func79.trans (congrArg some (by kernel_rfl))⟩
  f25 := ⟨Try.f80.name, by decide, Try.func80.trans (congrArg some (by kernel_rfl))⟩
  f26 := ⟨Try.f81.name, by decide, Try.func81.trans (congrArg some (by kernel_rfl))⟩
  f27 := ⟨Try.f82.name, by decide, Try.func82.trans (congrArg some (by kernel_rfl))⟩
  f28 := Try.func83.trans (congrArg some (by kernel_rfl))
  f29 := Try.func84.trans (congrArg some (by kernel_rfl))
  f46 := ⟨Try.f86.name, by decide, Try.func86.trans (congrArg some (by kernel_rfl))⟩
  f47 := Try.func87.trans (congrArg some (by kernel_rfl))
  f48 := Try.func88.trans (congrArg some (by kernel_rfl))
  f49 := ⟨Try.f89.name, by decide, Try.func89.trans (congrArg some (by kernel_rfl))⟩
  f50 := ⟨Try.f90.name, by decide, Try.func90.trans (congrArg some (by kernel_rfl))⟩
  f57 := ⟨Try.f92.name, by decide, Try.func92.trans (congrArg some (by kernel_rfl))⟩
  t0 := Try.underlying0
  a0 := Try.isAgg0
  z0 := Try.sizeOf0
  v0 := Try.zeroValue0
  t3 := Try.underlying3
  a3 := Try.isAgg3
  z3 := Try.sizeOf3
  v3 := Try.zeroValue3
  t4 := Try.underlying4
  a4 := Try.isAgg4
  z4 := Try.sizeOf4
  v4 := Try.zeroValue4
  t5 := Try.underlying5
  a5 := Try.isAgg5
  z5 := Try.sizeOf5
  v5 := Try.zeroValue5
  t9 := Try.underlying9
  a9 := Try.isAgg9
  z9 := Try.sizeOf9
  v9 := Try.zeroValue9
  t22 := Try.underlying71
  a22 := Try.isAgg71
  z22 := Try.sizeOf71
  v22 := Try.zeroValue71
  a24 := Try.isAgg81
  z24 := Try.sizeOf81
  t25 := Try.underlying83
  a25 := Try.isAgg83
  z25 := Try.sizeOf83
  v25 := Try.zeroValue83
  t39 := Try.underlying91
  a39 := Try.isAgg91
  z39 := Try.sizeOf91
  v39 := Try.zeroValue91
  t45 := Try.underlying113
  a45 := Try.isAgg113
  z45 := Try.sizeOf113
  v45 := Try.zeroValue113
  t46 := Try.underlying114
  a46 := Try.isAgg114
  z46 := Try.sizeOf114
  v46 := Try.zeroValue114
  t50 := Try.underlying103
  a50 := Try.isAgg103
  z50 := Try.sizeOf103
  v50 := Try.zeroValue103
  t53 := Try.underlying120
  a53 := Try.isAgg120
  z53 := Try.sizeOf120
  v53 := Try.zeroValue120
  t55 := Try.underlying122
  a55 := Try.isAgg122
  z55 := Try.sizeOf122
  v55 := Try.zeroValue122
  t66 := Try.underlying123
  a66 := Try.isAgg123
  z66 := Try.sizeOf123
  v66 := Try.zeroValue123
  t70 := Try.underlying127
  a70 := Try.isAgg127
  z70 := Try.sizeOf127
  v70 := Try.zeroValue127
  t76 := Try.underlying130
  a76 := Try.isAgg130
  z76 := Try.sizeOf130
  v76 := Try.zeroValue130
  t77 := Try.underlying131
  a77 := Try.isAgg131
  z77 := Try.sizeOf131
  v77 := Try.zeroValue131 }
end Go.Proofs
end

section
set_option linter.unusedVariables false
set_option linter.unusedSimpArgs false
namespace Go.Proofs.Ytedbfehoeflmgaa
open Go.RowKit BigFrame
set_option maxRecDepth 100000

def cmpI (a b : Int) : Int := if a < b then -1 else if b < a then 1 else 0
theorem isnan_i (a : Int) (w : World) : Calls Try.prog 72 #[.int .i64 a] w fun e w' => e = .returned (.bool false) ∧ w = w' := by
  go_enter Try.func72, Try.ntmps72
  go_wp2_with fail
  go_ret
  exact ⟨rfl, rfl⟩
theorem compare_i (a b : Int) (w : World) : Calls Try.prog 63 #[.int .i64 a, .int .i64 b] w fun e w' => e = .returned (.int .i64 (cmpI a b)) ∧ w = w' := by
  by_cases h1 : a < b
  · have e : cmpI a b = -1 := by simp [cmpI, h1]
    rw [e]
    go_enter Try.func63, Try.ntmps63
    go_wp2_with (go_at_call 72; refine (isnan_i _ _).mono ?_; rintro e w1 ⟨rfl, rfl⟩)
    go_ret
    exact ⟨rfl, rfl⟩
  · by_cases h2 : b < a
    · have e : cmpI a b = 1 := by simp [cmpI, h1, h2]
      rw [e]
      go_enter Try.func63, Try.ntmps63
      go_wp2_with (go_at_call 72; refine (isnan_i _ _).mono ?_; rintro e w1 ⟨rfl, rfl⟩)
      go_ret
      exact ⟨rfl, rfl⟩
    · have e : cmpI a b = 0 := by simp [cmpI, h1, h2]
      rw [e]
      go_enter Try.func63, Try.ntmps63
      go_wp2_with (go_at_call 72; refine (isnan_i _ _).mono ?_; rintro e w1 ⟨rfl, rfl⟩)
      go_ret
      exact ⟨rfl, rfl⟩
theorem byage_c {w : World} {p q : Nat} {a b : Nat} (h1 : w.cell? ⟨p, 129, none⟩ = some (.int .i64 ((a : Nat) : Int))) (h2 : w.cell? ⟨q, 129, none⟩ = some (.int .i64 ((b : Nat) : Int))) :
    Calls Try.prog 44 #[pv p, pv q] w fun e w' => e = .returned (.int .i64 (cmpI a b)) ∧ ∃ n, w' = w.drewN n := by
  unfold pv
  go_enter Try.func44, Try.ntmps44
  go_wp2_with fail
  go_quiet ((go_at_call 63; refine Calls.quiet_of_same ((compare_i _ _ _).mono fun _ _ h => ⟨h.1, h.2.symm⟩)))
  go_wp2_with fail
  go_ret
  exact ⟨rfl, _, rfl⟩
theorem byplace_c {w : World} {p q : Nat} {a b : Nat} (h1 : w.cell? ⟨p, 0, none⟩ = some (.int .i64 ((a : Nat) : Int))) (h2 : w.cell? ⟨q, 0, none⟩ = some (.int .i64 ((b : Nat) : Int))) :
    Calls Try.prog 46 #[pv p, pv q] w fun e w' => e = .returned (.int .i64 (cmpI a b)) ∧ ∃ n, w' = w.drewN n := by
  unfold pv
  go_enter Try.func46, Try.ntmps46
  go_wp2_with fail
  go_quiet ((go_at_call 63; refine Calls.quiet_of_same ((compare_i _ _ _).mono fun _ _ h => ⟨h.1, h.2.symm⟩)))
  go_wp2_with fail
  go_ret
  exact ⟨rfl, _, rfl⟩
end Go.Proofs.Ytedbfehoeflmgaa
end

section
set_option linter.unusedVariables false
set_option linter.unusedSimpArgs false
namespace Go.Proofs.Ytedbfehoeflmgaa
open Go.RowKit BigFrame Go.Lib Go.Sort
set_option maxRecDepth 100000

section
variable {w w1 : World} {B : Nat} {c : Ck} {L L' : List Sx}
def Ck.list (c : Ck) (v : Value) : Ck := { c with lv := v }
/-- the list is another one now -/
theorem CkM.relist (h : CkM w B c L) {v : Value} (hT : TurnS (fun k => c.lv.ownBlock = some k) w w1) (ho : w1.ownsRow B 81 1 v L'.length (pvs L')) (hat : ∀ k, v.ownBlock = some k → c.lv.ownBlock = some k ∨ w.heap.size ≤ k) :
    CkM (w1.setCell ⟨c.C, 4, none⟩ v) B (c.list v) L' ∧ Step w c.foot (w1.setCell ⟨c.C, 4, none⟩ v) (c.list v).foot := by
  have hC := h.lt _ (foot_c c)
  have hb : ∀ k, k < w.heap.size → k ≠ c.C → c.lv.ownBlock ≠ some k → (w1.setCell ⟨c.C, 4, none⟩ v).heap[k]? = w.heap[k]? := fun k hk h1 h2 => by
    rw [heap_set_other _ ⟨c.C, 4, none⟩ _ h1]; exact hT.block k hk h2
  refine ⟨⟨?_, ?_, fun x hx => ?_, ?_, h.blk, fun k hk => ?_⟩, ⟨hT.os, hT.tape, hT.output, by rw [size_set]; exact hT.size, fun k hk hf => ?_, fun k hk => ?_⟩⟩
  · have : Vw w1 73 c.C c.cells := h.hdr.turnS hT (fun e => h.lc e rfl)
    exact this.set 4 v
  · exact h.map.blk (hb _ (h.lt _ (foot_m c)) (Ne.symm h.cm) (fun e => h.lm e rfl))
  · unfold Vw
    rw [hb _ (h.lt _ (foot_x hx)) (h.cx hx) (fun e => h.lx e hx rfl)]; exact h.sec x hx
  · refine own_blk ho fun k hk => heap_set_other _ ⟨c.C, 4, none⟩ _ ?_
    show k ≠ c.C
    rcases hat k hk with e | e
    · exact h.lc e
    · omega
  · rcases foot_cases hk with e | e | e | ⟨x, hx, e⟩
    · rw [e]; exact h.over _ (foot_c c)
    · rw [e]; exact h.over _ (foot_m c)
    · rcases hat k e with e | e
      · exact h.over _ (foot_l e)
      · exact Nat.le_trans h.there e
    · rw [← e]; exact h.over _ (foot_x (c := c) hx)
  · exact hb k hk (fun e => hf (e ▸ foot_c c)) (fun e => hf (foot_l e))
  · rcases foot_cases hk with e | e | e | ⟨x, hx, e⟩
    · rw [e]; exact .inl (foot_c c)
    · rw [e]; exact .inl (foot_m c)
    · rcases hat k e with e | e
      · exact .inl (foot_l e)
      · exact .inr e
    · rw [← e]; exact .inl (foot_x (c := c) hx)

/-! ### Rows as the library has them -/
theorem row_same {α : Type} [Inhabited α] {enc : α → Value} {w : World} {g off n : Nat} {d : Array α} {os : Array Obj} {k : Nat} (hk : k < w.heap.size) (hne : k ≠ g) : (grow (putRow enc (Sort.ahead w n) g off d) os).heap[k]? = w.heap[k]? := by
  rw [heap_grow_old _ _ (by simpa using hk)]
  simp [putRow, mapBlock, Sort.ahead, Array.getElem?_modify, Ne.symm hne]
theorem row_at {α : Type} [Inhabited α] {enc : α → Value} {w : World} {g off n : Nat} {d : Array α} {os : Array Obj} {cur : List Value} {t : TypeId} (hb : Vw w t g cur) :
    (grow (putRow enc (Sort.ahead w n) g off d) os).heap[g]? = some (.cells (putCells enc off d cur.toArray) t (0, 0)) := by
  rw [heap_grow_old _ _ (by simpa using hb.lt)]
  unfold Vw at hb
  simp [putRow, mapBlock, Sort.ahead, Array.getElem?_modify, hb, onCells]
theorem row_turn {α : Type} [Inhabited α] (enc : α → Value) (w : World) (g off n : Nat) (d : Array α) (os : Array Obj) {S : Nat → Prop} (hS : S g) : TurnS S w (grow (putRow enc (Sort.ahead w n) g off d) os) := by
  refine ⟨rfl, rfl, rfl, ?_, fun k hk hne => row_same hk (fun e => hne (e ▸ hS))⟩
  simp [grow, putRow, mapBlock, Sort.ahead]

abbrev InH (H : List Sx) : Type := { y : Sx // y ∈ H }
def encH {H : List Sx} (y : InH H) : Value := pv y.1.blk
def rowH {H : List Sx} (L : List Sx) (h : ∀ y ∈ L, y ∈ H) : Array (InH H) := (L.attachWith (· ∈ H) h).toArray
theorem rowH_size {H L : List Sx} (h : ∀ y ∈ L, y ∈ H) : (rowH L h).size = L.length := by simp [rowH]
theorem rowH_get {H L : List Sx} (h : ∀ y ∈ L, y ∈ H) [Inhabited (InH H)] {k : Nat} {x : Sx} (hx : L[k]? = some x) : ((rowH L h)[k]!).1 = x := by
  obtain ⟨hk, e⟩ := List.getElem?_eq_some_iff.1 hx
  rw [getElem!_pos (rowH L h) k (by rw [rowH_size]; exact hk)]
  simp [rowH, e]
theorem rowH_val {H L : List Sx} (h : ∀ y ∈ L, y ∈ H) : (rowH L h).toList.map Subtype.val = L := by
  unfold rowH
  simp
theorem rowH_count {H L : List Sx} (h : ∀ y ∈ L, y ∈ H) (p : Sx → Bool) : (rowH L h).toList.countP (fun y => p y.1) = L.countP p := by
  have := List.countP_map (p := p) (f := Subtype.val) (l := (rowH L h).toList)
  rw [rowH_val] at this
  exact this.symm
/-- is one of x's age there? -/
def fnd (x : Sx) (L : List Sx) : Bool := L.any fun y => decide (y.used = x.used)
theorem cmp_neg (a b : Nat) : decide (cmpI (a : Int) (b : Int) < 0) = decide (a < b) := by
  unfold cmpI
  by_cases h : a < b
  · rw [if_pos (by omega), decide_eq_true h]; rfl
  · rw [if_neg (by omega), decide_eq_false h]
    split <;> rfl
theorem cmp_zero (a b : Nat) : decide (cmpI (a : Int) (b : Int) = 0) = decide (a = b) := by
  unfold cmpI
  by_cases h : a < b
  · rw [if_pos (by omega), decide_eq_false (by omega : ¬ a = b)]; rfl
  · rw [if_neg (by omega)]
    by_cases h2 : b < a
    · rw [if_pos (by omega), decide_eq_false (by omega : ¬ a = b)]; rfl
    · rw [if_neg (by omega), decide_eq_true (by omega : a = b)]; rfl
theorem enters_age : ∀ args w, (callFunc 44 args).run Try.prog w = .ok (.enter 44 args) w := enters_of Try.func44 (by kernel_rfl) rfl
theorem enters_place : ∀ args w, (callFunc 46 args).run Try.prog w = .ok (.enter 46 args) w := enters_of Try.func46 (by kernel_rfl) rfl
theorem own_lt {v : Value} {g n cap : Nat} (h : w.ownsRow B 81 1 v n (pvs L)) (e : v = .slice (some ⟨g, 0, none⟩) n cap) : g < w.heap.size := (own_obj h g (by rw [e]; rfl)).1
theorem search_c (h : CkM w B c L) (hO : CkOk c L) {x : Sx} (hx : x ∈ c.H) :
    Calls Try.prog 64 #[c.lv, pv x.blk, .func (.func 44) #[] #[]] w fun e w' =>
      e = .returned (.tuple #[.int .i64 ((older x L : Nat) : Int), .bool (fnd x L)]) ∧ Below w.heap.size w w' := by
  rcases own_form1 h.own with ⟨e, e0⟩ | ⟨g, cap, cur, e, hcu, hcl, hn, hm, hB, hcx⟩
  · have := Any.slices_BinarySearchFunc_none Try.searchOf none 0 (pv x.blk) (.func (.func 44) #[] #[]) w
    rw [e, e0]
    refine this.mono ?_
    rintro e w' ⟨rfl, rfl⟩
    exact ⟨rfl, Below.refl _ _⟩
  · have hLH : ∀ y ∈ L, y ∈ c.H := fun y hy => hO.sub.subset hy
    have hs : Srt L := hO.srt.sublist hO.sub
    haveI : Inhabited (InH c.H) := ⟨⟨x, hx⟩⟩
    have hgx : ∀ y ∈ c.H, y.blk ≠ g := fun y hy => Ne.symm (h.lx (by rw [e]; rfl) hy)
    have hH : Holds encH w g 0 (rowH L hLH) := fun j hj => by
      rw [rowH_size] at hj
      have hj' := List.getElem?_eq_getElem hj
      rw [Nat.zero_add]
      refine ⟨?_, hcu.frozen j⟩
      unfold encH
      rw [rowH_get hLH hj']
      exact hcu.cell (hcx j _ hj')
    have hsz := rowH_size hLH
    have hcmp : CmpLaysT Try.prog 44 #[] encH (pv x.blk) (fun y : InH c.H => cmpI (y.1.used : Int) (x.used : Int)) g 0 (rowH L hLH).size w := by
      intro m os dk hdk y
      have k1 : ∀ z : Sx, z ∈ c.H → (sortWorld encH w g 0 m dk os).cell? ⟨z.blk, 129, none⟩ = some (.int .i64 ((z.used : Nat) : Int)) := fun z hz => by
        unfold sortWorld
        rw [World.cell?_of_block (w := w) (row_same (h.sec z hz).lt (hgx z hz))]
        exact (h.sec z hz).cell (Sx.c129 (hO.len z hz))
      refine (byage_c (k1 y.1 y.2) (k1 x hx)).mono ?_
      rintro e w' ⟨rfl, q, rfl⟩
      exact ⟨rfl, q, #[], by rw [grow_empty]⟩
    have hcon := Any.slices_BinarySearchFunc Try.searchOf encH (fun _ => rfl) (pv x.blk) (fun y : InH c.H => cmpI (y.1.used : Int) (x.used : Int)) 44 #[] g 0 cap (rowH L hLH) w enters_age hcmp hH hcu.lt (by rw [hsz]; have := hO.fewL; omega) (fun a b hab hb hc => by
      rw [hsz] at hb
      have ha : a < L.length := by omega
      rw [rowH_get hLH (List.getElem?_eq_getElem hb)] at hc
      rw [rowH_get hLH (List.getElem?_eq_getElem ha)]
      have h1 : L[b].used < x.used := by
        by_cases h2 : L[b].used < x.used
        · exact h2
        · exfalso
          have := cmp_neg L[b].used x.used
          rw [decide_eq_true hc, decide_eq_false h2] at this
          cases this
      have h3 : L[a].used ≤ L[b].used := by
        rcases Nat.lt_or_eq_of_le hab with hlt | heq
        · exact Nat.le_of_lt (List.pairwise_iff_getElem.1 hs a b ha hb hlt)
        · subst heq; exact Nat.le_refl _
      have := cmp_neg L[a].used x.used
      rw [decide_eq_true (show L[a].used < x.used by omega)] at this
      exact of_decide_eq_true this)
    have hcnt : (rowH L hLH).toList.countP (fun y => decide (cmpI (y.1.used : Int) (x.used : Int) < 0)) = older x L := by
      rw [rowH_count hLH (fun y => decide (cmpI (y.used : Int) (x.used : Int) < 0))]
      unfold older
      congr 1
      funext y
      exact cmp_neg _ _
    rw [hcnt, hsz] at hcon
    have hfn : (decide (older x L < L.length) && decide (cmpI (((rowH L hLH)[older x L]!).1.used : Int) (x.used : Int) = 0)) = fnd x L := by
      by_cases hm : x ∈ L
      · obtain ⟨h1, _⟩ := at_older hs hm
        rw [rowH_get hLH h1, cmp_zero, decide_eq_true (List.getElem?_eq_some_iff.1 h1).1, decide_eq_true rfl]
        exact (List.any_eq_true.2 ⟨x, hm, decide_eq_true rfl⟩).symm
      · have hne : ∀ y ∈ L, y.used ≠ x.used := fun y hy hu => hm ((hO.srt.uniq (hLH y hy) hx hu) ▸ hy)
        have : fnd x L = false := by
          unfold fnd
          rw [List.any_eq_false]
          intro y hy
          simpa using hne y hy
        rw [this]
        by_cases hlt : older x L < L.length
        · have h1 := List.getElem?_eq_getElem hlt
          rw [rowH_get hLH h1, cmp_zero, decide_eq_false (hne _ (List.getElem_mem hlt)), Bool.and_false]
        · rw [decide_eq_false hlt, Bool.false_and]
    rw [hfn] at hcon
    rw [e]
    refine hcon.mono ?_
    rintro e w' ⟨rfl, n, os, rfl⟩
    refine ⟨rfl, ?_⟩
    have h0 : Holds encH (Sort.ahead w n) g 0 (rowH L hLH) := hH
    unfold sortWorld
    rw [putRow_self encH (Sort.ahead w n) g 0 _ h0]
    refine ⟨rfl, rfl, rfl, by simp [grow, Sort.ahead], fun k hk => ?_⟩
    rw [heap_grow_old _ _ (by simpa using hk)]
    rfl
end
end Go.Proofs.Ytedbfehoeflmgaa
end

section
set_option linter.unusedVariables false
set_option linter.unusedSimpArgs false
namespace Go.Proofs.Ytedbfehoeflmgaa
open Go.RowKit BigFrame Go.Lib Go.Sort
set_option maxRecDepth 100000

section
variable {w w1 : World} {B : Nat} {c : Ck} {L L' : List Sx}
theorem Try.infoPt : (Try.prog.info? 81).map (fun i => (i.zero, i.size, i.bytes)) = some (some (.pointer none), 1, 8) := by kernel_rfl
/-- a pointer to a block, or none -/
def encO : Option Nat → Value
  | some b => pv b
  | none => .pointer none
def rowO (L : List Sx) : Array (Option Nat) := (L.map fun x => some x.blk).toArray
theorem rowO_size (L : List Sx) : (rowO L).size = L.length := by simp [rowO]
theorem rowO_get {L : List Sx} {k : Nat} {x : Sx} (h : L[k]? = some x) : (rowO L)[k]! = some x.blk := by
  obtain ⟨hk, e⟩ := List.getElem?_eq_some_iff.1 h
  rw [getElem!_pos (rowO L) k (by rw [rowO_size]; exact hk)]
  simp [rowO, e]
/-- what a call leaves that works on a list: the list, one's own -/
def OwnPost (B : Nat) (v : Value) (L' : List Sx) (w : World) (e : Ending) (w' : World) : Prop :=
  ∃ v', e = .returned v' ∧ w'.ownsRow B 81 1 v' L'.length (pvs L') ∧ TurnS (fun k => v.ownBlock = some k) w w' ∧ ∀ k, v'.ownBlock = some k → v.ownBlock = some k ∨ w.heap.size ≤ k
theorem del_c {v : Value} (h : w.ownsRow B 81 1 v L.length (pvs L)) (hL : L.length ≤ 1000000) (i j : Nat) (hij : i ≤ j) (hj : j ≤ L.length) :
    Calls Try.prog 65 #[v, .int .i64 (i : Int), .int .i64 (j : Int)] w (OwnPost B v (L.take i ++ L.drop j) w) := by
  rcases own_form1 h with ⟨e, e0⟩ | ⟨g, cap, cur, e, hcu, hcl, hn, hm, hB, hcx⟩
  · subst e0
    have hj0 : j = 0 := by simpa using hj
    have hi0 : i = 0 := by omega
    subst hj0 hi0
    subst e
    have hc : Calls Try.prog 65 #[.slice none 0 0, .int .i64 0, .int .i64 0] w fun e w' => e = .returned (.slice none 0 0) ∧ w = w' := by
      clear h
      go_enter Try.func65, Try.ntmps65
      go_wp2_with fail
      go_ret
      exact ⟨rfl, rfl⟩
    refine hc.mono ?_
    rintro e w' ⟨rfl, rfl⟩
    exact ⟨_, rfl, World.ownsRow_nil _ _ _ _, TurnS.refl _ _, fun k hk => by cases hk⟩
  · obtain ⟨i0, hi0, hz0, hz1, hz2⟩ := info_parts Try.infoPt
    have hH : Holds encO w g 0 (rowO L) := fun k hk => by
      rw [rowO_size] at hk
      have hk' := List.getElem?_eq_getElem hk
      rw [Nat.zero_add, rowO_get hk']
      exact ⟨hcu.cell (hcx k _ hk'), hcu.frozen k⟩
    have hcon := AnyE.slices_Delete Try.deleteOf encO (fun x => by cases x <;> rfl) (none : Option Nat) (fun w => by rfl) i0 hi0 hz1 g 0 cap i j (rowO L) w hH (by rw [rowO_size]; exact hn) (by unfold maxLen at hm; omega) hij (by rw [rowO_size]; exact hj)
    rw [rowO_size] at hcon
    rw [e]
    refine hcon.mono ?_
    rintro e w' ⟨rfl, q, rfl⟩
    obtain ⟨D, hD⟩ : ∃ D, ((rowO L).toList.take i ++ (rowO L).toList.drop j ++ List.replicate (j - i) (none : Option Nat)).toArray = D := ⟨_, rfl⟩
    have hDl : D.toList = (L.take i ++ L.drop j).map (fun x => some x.blk) ++ List.replicate (j - i) (none : Option Nat) := by
      rw [← hD]
      simp [rowO, List.map_take, List.map_drop]
    have hlen : (L.take i ++ L.drop j).length = L.length - (j - i) := by
      rw [List.length_append, List.length_take, List.length_drop, Nat.min_eq_left (by omega)]; omega
    have hDs : D.size = L.length := by
      rw [← Array.length_toList, hDl, List.length_append, List.length_map, List.length_replicate, hlen]; omega
    rw [hD]
    have hw : grow (putRow encO (Sort.ahead w q) g 0 D) #[] = putRow encO (Sort.ahead w q) g 0 D := grow_empty _
    rw [← hw]
    refine ⟨_, rfl, ?_, row_turn encO w g 0 q D #[] (by rfl), fun k hk => .inl hk⟩
    have hV : Vw (grow (putRow encO (Sort.ahead w q) g 0 D) #[]) 81 g (putCells encO 0 D cur.toArray).toList := by
      unfold Vw
      rw [row_at hcu]
    rw [← hlen]
    refine own_of_cur hV ?_ (by omega) hm hB fun k x hk => ?_
    · rw [Array.length_toList, ← hcl]; simp [putCells]
    · have hkl := (List.getElem?_eq_some_iff.1 hk).1
      have hD2 : D[k]! = some x.blk := by
        rw [getElem!_pos D k (by omega), ← Array.getElem_toList]
        have : D.toList[k]? = some (some x.blk) := by
          rw [hDl, List.getElem?_append_left (by rw [List.length_map]; exact hkl), List.getElem?_map, hk]; rfl
        exact (List.getElem?_eq_some_iff.1 this).2
      rw [Array.getElem?_toList]
      unfold putCells
      rw [Array.getElem?_mapIdx, List.getElem?_toArray, List.getElem?_eq_getElem (show k < cur.length by omega)]
      simp only [Option.map_some, Nat.zero_le, Nat.zero_add, true_and, Nat.sub_zero]
      rw [if_pos (by omega), hD2]; rfl
theorem CkM.listed (h : CkM w B c L) {v : Value} {w1 : World} (hP : OwnPost B c.lv L' w (.returned v) w1) :
    CkM (w1.setCell ⟨c.C, 4, none⟩ v) B (c.list v) L' ∧ Step w c.foot (w1.setCell ⟨c.C, 4, none⟩ v) (c.list v).foot := by
  obtain ⟨v', e, h1, h2, h3⟩ := hP
  cases e
  exact h.relist h2 h1 h3
theorem CkM.same (h : CkM w B c L) : c.list c.lv = c := rfl
/-- behind lift: x is none of its list -/
def Lifted (B : Nat) (c : Ck) (x : Sx) (L : List Sx) (w : World) (e : Ending) (w' : World) : Prop :=
  e = .returned (.tuple #[]) ∧ ∃ v, CkM w' B (c.list v) (but x L) ∧ Step w c.foot w' (c.list v).foot
theorem lift_c (h : CkM w B c L) (hO : CkOk c L) {x : Sx} (hx : x ∈ c.H) :
    Calls Try.prog 53 #[pv c.C, pv x.blk] w (Lifted B c x L w) := by
  have hq := Lib.hid (search_c h hO hx)
  have hs : Srt L := hO.srt.sublist hO.sub
  have c4 := h.hdr.cell (k := 4) rfl
  have f4 := h.hdr.frozen 4
  have hol := older_le x L
  have hfl := hO.fewL
  have hw1 : IntKind.i64.wrap (((older x L : Nat) : Int) + 1) = ((older x L : Nat) : Int) + 1 := by rw [IntKind.wrap_i64]; omega
  have h' := Lib.hid h
  have hCl := Lib.hid h.hdr
  by_cases hf : fnd x L = true
  · have hm : x ∈ L := by
      obtain ⟨y, hy, hu⟩ := List.any_eq_true.1 hf
      have := hO.srt.uniq (hO.sub.subset hy) hx (by simpa using hu)
      exact this ▸ hy
    have hat := Lib.hid (at_older hs hm)
    have hlt := (List.getElem?_eq_some_iff.1 hat.out.1).1
    rw [hf] at hq
    obtain ⟨n, hn⟩ : ∃ n, older x L = n := ⟨_, rfl⟩
    rw [hn] at hq hw1 hlt hat
    obtain ⟨lv, hlv⟩ : ∃ lv, c.lv = lv := ⟨_, rfl⟩
    have hdl := Lib.hid (fun (w1 : World) (hM : CkM w1 B c L) => show Calls Try.prog 65 #[lv, .int .i64 (n : Int), .int .i64 ((n : Int) + 1)] w1 (OwnPost B lv (but x L) w1) from by
      have := del_c (B := B) hM.own (by omega) n (n + 1) (by omega) hlt
      rw [hlv, hat.out.2] at this
      exact this)
    have hlv' := Lib.hid hlv
    have c4' : w.cell? ⟨c.C, 4, none⟩ = some lv := by rw [← hlv]; exact c4
    rw [hlv] at hq
    unfold pv at hq ⊢
    clear h hO hs c4 hf hm hn hol hlv
    go_enter Try.func53, Try.ntmps53
    go_wp2_with (first
      | (go_at_call 64; refine hq.out.mono ?_; rintro e w1 ⟨rfl, hb1⟩; have hM1 := Lib.hid (h'.out.on hb1 (Nat.le_refl _)); have hB1 := Lib.hid hb1; have k4 := hM1.out.hdr.cell (k := 4) rfl; change w1.cell? _ = some c.lv at k4; rw [hlv'.out] at k4; clear hb1 c4' f4 hCl)
      | (go_at_call 65; refine (hdl.out _ hM1.out).mono ?_; rintro e w2 ⟨v, rfl, ho, hT, hn2⟩; obtain ⟨a2, cap2, rfl, _, _⟩ := own_form ho; have hP := Lib.hid (hM1.out.relist (by rw [hlv'.out]; exact hT) ho (by rw [hlv'.out]; exact hn2)); have hV2 := hM1.out.hdr.turnS hT (fun e => hM1.out.lc (by rw [hlv'.out]; exact e) rfl); have f4 := hV2.frozen 4; have k5 := hV2.cell (k := 4) rfl; change w2.cell? _ = some c.lv at k5; rw [hlv'.out] at k5; clear ho hT hn2 hV2))
    go_end0
    exact ⟨rfl, _, hP.out.1, (Step.of_below hB1.out c.foot).trans hP.out.2⟩
  · rw [show fnd x L = false by simpa using hf] at hq
    have hbn : but x L = L := but_none fun y hy hu => hf (List.any_eq_true.2 ⟨y, hy, decide_eq_true hu⟩)
    obtain ⟨n, hn⟩ : ∃ n, older x L = n := ⟨_, rfl⟩
    rw [hn] at hq
    obtain ⟨lv, hlv⟩ : ∃ lv, c.lv = lv := ⟨_, rfl⟩
    have hlv' := Lib.hid hlv
    have c4' : w.cell? ⟨c.C, 4, none⟩ = some lv := by rw [← hlv]; exact c4
    rw [hlv] at hq
    have hbn' := Lib.hid hbn
    unfold pv at hq ⊢
    clear h hO hs c4 hf hn hol hlv hbn hw1
    go_enter Try.func53, Try.ntmps53
    go_wp2_with (go_at_call 64; refine hq.out.mono ?_; rintro e w1 ⟨rfl, hb1⟩; have hM1 := Lib.hid (h'.out.on hb1 (Nat.le_refl _)); have hB1 := Lib.hid hb1; clear hb1)
    go_end0
    exact ⟨rfl, c.lv, by rw [hbn'.out]; exact hM1.out, Step.of_below hB1.out c.foot⟩
end
end Go.Proofs.Ytedbfehoeflmgaa
end

section
set_option linter.unusedVariables false
set_option linter.unusedSimpArgs false
namespace Go.Proofs.Ytedbfehoeflmgaa
open Go.RowKit BigFrame Go.Lib Go.Sort
set_option maxRecDepth 100000

theorem splice_at {α : Type} {l m : List α} {o k : Nat} (h : o + m.length ≤ l.length) : (splice l o m)[k]? = if k < o then l[k]? else if k < o + m.length then m[k - o]? else l[k]? := by
  unfold splice
  have ht : (l.take o).length = o := by rw [List.length_take]; omega
  by_cases h1 : k < o
  · rw [if_pos h1, List.getElem?_append_left (by omega), List.getElem?_take, if_pos h1]
  · rw [if_neg h1]
    by_cases h2 : k < o + m.length
    · rw [if_pos h2, List.getElem?_append_right (by omega), ht, List.getElem?_append_left (by omega)]
    · rw [if_neg h2, List.getElem?_append_right (by omega), ht, List.getElem?_append_right (by omega), List.getElem?_drop]
      congr 1; omega
theorem splice_len {α : Type} {l m : List α} {o : Nat} (h : o + m.length ≤ l.length) : (splice l o m).length = l.length := by
  unfold splice
  simp only [List.length_append, List.length_take, List.length_drop]
  omega
/-- a list with x put in at i -/
def insL' (L : List Sx) (i : Nat) (x : Sx) : List Sx := L.take i ++ x :: L.drop i
theorem insL'_len {L : List Sx} {i : Nat} (x : Sx) (h : i ≤ L.length) : (insL' L i x).length = L.length + 1 := by
  unfold insL'
  simp only [List.length_append, List.length_take, List.length_cons, List.length_drop]
  omega
theorem insL'_get {L : List Sx} {i : Nat} {x y : Sx} (h : i ≤ L.length) {k : Nat} (hy : (insL' L i x)[k]? = some y) : (k < i ∧ L[k]? = some y) ∨ (k = i ∧ y = x) ∨ (i < k ∧ L[k - 1]? = some y) := by
  unfold insL' at hy
  have ht : (L.take i).length = i := by rw [List.length_take]; omega
  by_cases h1 : k < i
  · rw [List.getElem?_append_left (by omega), List.getElem?_take, if_pos h1] at hy
    exact .inl ⟨h1, hy⟩
  · rw [List.getElem?_append_right (by omega), ht] at hy
    by_cases h2 : k = i
    · subst h2
      rw [Nat.sub_self] at hy
      exact .inr (.inl ⟨rfl, (Option.some.inj hy).symm⟩)
    · obtain ⟨d, hd⟩ : ∃ d, k - i = d + 1 := ⟨k - i - 1, by omega⟩
      rw [hd, List.getElem?_cons_succ, List.getElem?_drop] at hy
      exact .inr (.inr ⟨by omega, by rw [show k - 1 = i + d by omega]; exact hy⟩)
theorem turnS_setCells {S : Nat → Prop} {w w' : World} (h : TurnS S w w') (b o : Nat) (vs : List Value) (hb : S b ∨ w.heap.size ≤ b) : TurnS S w (w'.setCells b o vs) := by
  have hs := setCells_os b vs o w'
  refine ⟨hs.1.trans h.os, hs.2.1.trans h.tape, hs.2.2.1.trans h.output, by rw [hs.2.2.2]; exact h.size, fun k hk hn => ?_⟩
  rw [setCells_block b vs o w' k (fun e => by rcases hb with hb | hb; exact hn (e ▸ hb); omega)]
  exact h.block k hk hn

section
variable {w w1 : World} {B : Nat} {c : Ck} {L L' : List Sx}
set_option maxHeartbeats 1000000 in
/-- at its end -/
theorem ins_end {v : Value} (h : w.ownsRow B 81 1 v L.length (pvs L)) (hL : L.length ≤ 100000) (hB : B ≤ w.heap.size) {x : Sx} {vb : Nat} (hv : Vw w 81 vb [pv x.blk]) :
    Calls Try.prog 66 #[v, .int .i64 ((L.length : Nat) : Int), .slice (some ⟨vb, 0, none⟩) 1 1] w (OwnPost B v (L ++ [x]) w) := by
  obtain ⟨i0, hi, hz0, hz1, hz2⟩ := info_parts Try.infoPt
  have hv' := Lib.hid hv
  obtain ⟨n, hn⟩ : ∃ n, L.length = n := ⟨_, rfl⟩
  have hn' := Lib.hid hn
  rw [hn] at h
  obtain ⟨a, cap, hva, hnc, han⟩ := own_form h
  have hpl : pvs (L ++ [x]) = pvs L ++ pvs [x] := by simp [pvs]
  have hpl' := Lib.hid hpl
  rw [hn] at hL ⊢
  subst hva
  have h' := Lib.hid h
  have hR : ∀ v' w', w'.ownsRow B 81 1 v' (n + 1) (pvs L ++ pvs [x]) → w.grownBy w' (Value.slice a n cap).ownBlock → (v'.ownBlock = (Value.slice a n cap).ownBlock ∨ v'.ownBlock = some w.heap.size) → OwnPost B (.slice a n cap) (L ++ [x]) w (.returned v') w' := fun v' w' h1 h2 h4 => by
    refine ⟨v', rfl, ?_, TurnS.grown h2 fun k hk => hk, fun k hk => ?_⟩
    · rw [List.length_append, hn'.out, hpl'.out]; exact h1
    · rcases h4 with e | e
      · exact .inl (e ▸ hk)
      · have := Option.some.inj (hk.symm.trans e); exact .inr (by omega)
  have hR' := Lib.hid hR
  have hi' := Lib.hid hi
  clear h hv hpl hR hn han hi
  have e0 : (0 : Int) ≤ (n : Int) := by omega
  go_enter Try.func66, Try.ntmps66
  have hnews := Lib.hid (fun (j : Nat) (u : Value) (hu : (pvs [x])[j]? = some u) => show w.cell? ((⟨vb, 0, none⟩ : Addr).add j) = some u from by
    have hj : j = 0 := by
      have := (List.getElem?_eq_some_iff.1 hu).1
      simp [pvs] at this
      exact this
    subst hj
    exact hv'.out.cell hu)
  cases a with
  | none =>
    go_wp2_with (at_builtin; refine wpList_append_own_at _ rfl _ _ 71 rfl B 81 i0 (.pointer none) 1 8 Try.underlying71 hi'.out hz0 hz1 hz2 rfl (by decide) _ n (pvs L) rfl h'.out ⟨vb, 0, none⟩ 1 1 (pvs [x]) rfl rfl hnews.out (pvs_one [x]) (by unfold maxLen; omega) (by omega) hB ?_; intro v' w' r1 r2 _ r4; have R1 := Lib.hid (hR'.out v' w' r1 r2 r4); clear r1 r2 r4)
    go_ret
    exact R1.out
  | some ad =>
    obtain ⟨g, o, sp⟩ := ad
    go_wp2_with (at_builtin; refine wpList_append_own_at _ rfl _ _ 71 rfl B 81 i0 (.pointer none) 1 8 Try.underlying71 hi'.out hz0 hz1 hz2 rfl (by decide) _ n (pvs L) rfl h'.out ⟨vb, 0, none⟩ 1 1 (pvs [x]) rfl rfl hnews.out (pvs_one [x]) (by unfold maxLen; omega) (by omega) hB ?_; intro v' w' r1 r2 _ r4; have R1 := Lib.hid (hR'.out v' w' r1 r2 r4); clear r1 r2 r4)
    all_goals (go_ret; exact R1.out)
end
end Go.Proofs.Ytedbfehoeflmgaa
end
