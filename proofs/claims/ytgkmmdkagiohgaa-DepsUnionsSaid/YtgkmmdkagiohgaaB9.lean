/-
  The nodes of a closure, in order.
  DERIVED: THE SHELF's CONTRACTS AT THIS DUMP, IN PLAIN WORDS (tools/lay-plain.mjs out of 'TryShelf.lean', which tools/lay-shelf.mjs wrote): THE SAME DECLARATIONS UNDER THE SAME NAMES: 'import', 'namespace', 'open', 'def', 'theorem' AND NOTHING ELSE: no command of the shelf's: FOR A HAND-IN. Each laying: the table of numbers ('.._ren') and one theorem, a field a fact of the dump's own or the kernel's comparison; each contract: ONE APPLICATION.
  Numbers in a slice of one's own: appended, sorted; the closure.
  The closure of some, rising.
-/
import Derived.Test.YtgkmmdkagiohgaaB8
import Derived.Shelf.Small.Bits
import Derived.Shelf.Strconv.Itoa0
import Derived.Ground.Names2Prog
import Derived.Shelf.Slices.SearchI
import Derived.Ground.SlgmProg
import Derived.Shelf.SortM.Plain
import Derived.Shelf.SortM.SortNone
import Derived.Test.YtgkmmdkagiohgaaProg
import Derived.Sort.OwnSortedInts
import Derived.Deep.LoopGhost

section
set_option linter.unusedVariables false
set_option linter.unusedSimpArgs false
namespace Go.Proofs.Ytgkmmdkagiohgaa
open Go.RowKit BigFrame
set_option maxRecDepth 100000
variable {w w' wr : World} {W B a M : Nat} {G : Gr} {ρ : Nat → Nat}

/-- z is one of those asked for, the first k of them, or is needed by one, over however many -/
def Clo (G : Gr) (R : Nat → Int) (k : Nat) (z : Nat) : Prop := ∃ j i, j < k ∧ i ∈ G.ids ∧ R j = (i : Int) ∧ Reach (G.lk 0) i z
structure OdPost (G : Gr) (R : Nat → Int) (n : Nat) (w : World) (e : Ending) (w' : World) : Prop where
  ex : ∃ v O, e = .returned v ∧ SlAt w' w.heap.size G.nb v O ∧ OOk (G.lk 0) G.ids O ∧ ∀ z, z ∈ O ↔ Clo G R n z
  bel : Below w.heap.size w w'
structure OdRel (w : World) (B a M : Nat) (G : Gr) (R : Nat → Int) (n b k : Nat) (wr : World) : Prop where
  ex : ∃ ns bs bm O E, OrdAt wr w.heap.size G.nb b ns bs bm O E ∧ OOk (G.lk 0) G.ids O ∧ (∀ z, z ∈ E ↔ z ∈ O) ∧ ∀ z, z ∈ O ↔ Clo G R k z
  gr : GrMem wr B a M G
  bel : Below w.heap.size w wr
theorem OdRel.next {n b k x : Nat} {e : Ending} {R : Nat → Int} {ns bs bm : Value} {O : List Nat} (hi : R k = (x : Int)) (hx : x ∈ G.ids) (hO : ∀ z, z ∈ O ↔ Clo G R k z) (hG : ∀ k r, G.own k = some r → k < w.heap.size) (gr : GrMem wr B a M G) (bel : Below w.heap.size w wr) {E : List Nat} (ho : OrdAt wr w.heap.size G.nb b ns bs bm O E)
    (hp : VisPost wr w.heap.size G b ns bs bm O x e w') : OdRel w B a M G R n b (k + 1) w' := by
  obtain ⟨ns', bs', bm', O', E', h1, h2, h3, ⟨N, hN, hr⟩, h5, h6⟩ := hp.ex
  refine ⟨⟨ns', bs', bm', O', E', h1, h2, h3, fun z => ?_⟩, gr.turn hp.turn fun j ⟨r, hr⟩ hh => ?_, bel.trans (hp.turn.below bel.size fun j hj => (ho.own j hj).1)⟩
  · constructor
    · intro hz
      rw [hN] at hz
      rcases List.mem_append.1 hz with hz | hz
      · obtain ⟨j, i, a1, a2, a3, a4⟩ := (hO z).1 hz
        exact ⟨j, i, by omega, a2, a3, a4⟩
      · exact ⟨k, x, by omega, hx, hi, hr z hz⟩
    · rintro ⟨j, i, a1, a2, a3, a4⟩
      by_cases e : j = k
      · subst e
        have hix : i = x := by omega
        subst hix
        exact h2.reach h5 a4
      · rw [hN]
        exact List.mem_append.2 (.inl ((hO z).2 ⟨j, i, by omega, a2, a3, a4⟩))
  · have := hG j r hr
    have := (ho.own j hh).1
    omega
theorem OdRel.skip {n b k : Nat} {R : Nat → Int} (hk : ∀ x ∈ G.ids, R k ≠ (x : Int)) (h : OdRel w B a M G R n b k wr) : OdRel w B a M G R n b (k + 1) wr := by
  obtain ⟨⟨ns, bs, bm, O, E, h1, h2, h3, h4⟩, g1, g2⟩ := h
  refine ⟨⟨ns, bs, bm, O, E, h1, h2, h3, fun z => ?_⟩, g1, g2⟩
  rw [h4]
  constructor
  · rintro ⟨j, i, a1, r⟩; exact ⟨j, i, by omega, r⟩
  · rintro ⟨j, i, a1, a2, a3, a4⟩
    by_cases e : j = k
    · subst e; exact absurd a3 (hk i a2)
    · exact ⟨j, i, by omega, a2, a3, a4⟩
set_option maxHeartbeats 4000000 in
theorem ordered_c {ad : Option Addr} {n cap : Nat} {R : Nat → Int} (h : GrMem w B a M G) (ho : GOk G ρ) (hn : n ≤ 1000) (hR : IntsAt w ad n R) (hb : ∀ k, k < n → -9223372036854775808 ≤ R k ∧ R k ≤ 9223372036854775807) :
    Calls Try.prog 22 #[.pointer (some ⟨a, 0, none⟩), .slice ad n cap] w (OdPost G R n w) := by
  have hG := Lib.hid (fun k r (hk : G.own k = some r) => (h.hi k r hk).2)
  have ho' := Lib.hid ho
  have hb' := Lib.hid hb
  have hR' := Lib.hid hR
  have hrel0 := Lib.hid (show OdRel w B a M G R n w.heap.size 0 (w.alloc (.cells #[.slice none 0 0, .slice none 0 0, .map none] 71)) from
    ⟨⟨.slice none 0 0, .slice none 0 0, .map none, [], [], ⟨Vw.alloc w [.slice none 0 0, .slice none 0 0, .map none] _, SlAt.nil _ _ _, SetIs.none _ _ _, Nat.le_refl _, (fun e => by cases e), (by rintro (e | e) <;> cases e), fun k e => by cases e⟩,
      ⟨List.nodup_nil, (fun x hx => by cases hx), (fun j x hj => by simp at hj)⟩, fun z => Iff.rfl, fun z => ⟨fun hz => (by cases hz), fun ⟨j, i, hj, _⟩ => by omega⟩⟩,
     h.turn (TurnS.alloc (fun _ => False) w _) (fun _ _ h => h), (Below.refl _ _).alloc (Nat.le_refl _) _⟩)
  have c0 := h.box.cell (k := 0) rfl
  clear h ho hb hR
  go_enter Try.func22, Try.ntmps22
  go_wp2_with fail
  go_loopg [7, 8, 13] n (fun g v7 v8 v13 wr => ∃ k : Nat, k + g = n ∧ v13 = .int .i64 (k : Int) ∧ OdRel w B a M G R n w.heap.size k wr)
  case atStart => exact ⟨0, by omega, rfl, hrel0.out⟩
  case round =>
    obtain ⟨k, hkg, rfl, hrk⟩ := hrel
    by_cases hlt : k < n
    · obtain ⟨g, rfl⟩ : ∃ g, gk = g + 1 := ⟨gk - 1, by omega⟩
      obtain ⟨gb, off, rfl, hcell⟩ : ∃ gb off, ad = some ⟨gb, off, none⟩ ∧ wr.cell? ⟨gb, off + k, none⟩ = some (.int .i64 (R k)) := by
        rcases hR'.out.on hrk.bel rfl with h0 | ⟨gb, off, e, hx⟩
        · omega
        · exact ⟨gb, off, e, hx k hlt⟩
      have c1 := hrk.gr.box.cell (k := 0) rfl
      by_cases hp : ∃ x ∈ G.ids, R k = (x : Int)
      · obtain ⟨x, hx, hxe⟩ := hp
        rw [hxe] at hcell
        have l1 : (Instr.lookup 44 (.map (some M)) (.int .i64 (x : Int)) false).run Try.prog wr = .ok (.pointer (some ⟨G.nb x, 0, none⟩)) wr := hrk.gr.look hx 0
        have e1 := ptr_some' (G.nb x) wr
        obtain ⟨⟨ns, bs, bm, O, E, q1, q2, q3, q4⟩, q5, q6⟩ := hrk
        have hadd := Lib.hid (oadd_c q5 ho'.out hx q6.size hG.out q1 q2 q3)
        have hnext := Lib.hid (fun e w' hp => OdRel.next (n := n) (e := e) (w' := w') hxe hx q4 hG.out q5 q6 q1 hp)
        clear q1 q2 q3 q4 q5 q6
        go_wp2_with (go_at_call 32; refine hadd.out.mono ?_; intro e w2 hp; obtain rfl := hp.ret; have hN := Lib.hid (hnext.out _ w2 hp); clear hp)
        go_roundg g
        case measure => omega
        case rel => exact ⟨k + 1, by omega, by go_num, hN.out⟩
      · have hno : ∀ x ∈ G.ids, R k ≠ (x : Int) := fun x hx e => hp ⟨x, hx, e⟩
        have hbk := hb'.out k hlt
        have l1 : (Instr.lookup 44 (.map (some M)) (.int .i64 (R k)) false).run Try.prog wr = .ok (.pointer none) wr := hrk.gr.lookNo hbk.1 hbk.2 hno 0
        have e1 := ptr_nil wr
        have hN := Lib.hid (hrk.skip hno)
        clear hrk hno hp hbk
        go_wp2_with fail
        go_roundg g
        case measure => omega
        case rel => exact ⟨k + 1, by omega, by go_num, hN.out⟩
    · have hkn : k = n := by omega
      subst hkn
      obtain ⟨⟨ns, bs, bm, O, E, q1, q2, q3, q4⟩, q5, q6⟩ := hrk
      have c1 := q1.row.cell (k := 0) rfl
      have hfin := Lib.hid (show OdPost G R k w (.returned ns) wr from ⟨⟨ns, O, rfl, q1.sl, q2, q4⟩, q6⟩)
      clear q1 q2 q3 q4 q5 q6
      go_wp2_with fail
      go_ret
      exact hfin.out
end Go.Proofs.Ytgkmmdkagiohgaa
end

section
set_option linter.unusedVariables false
set_option linter.unusedSimpArgs false
namespace Go.Proofs
open Go.Shelf
def Try.lays128_ren : Go.Shelf.Ren := ⟨fun | 128 => 48 | n => n, fun | 51 => 90 | 3 => 3 | 4 => 4 | 46 => 42 | 5 => 5 | 9 => 9 | n => n, fun | n => n⟩
theorem Try.lays128 : Go.Proofs.Lays.n128 Try.prog Try.lays128_ren := {
  mixed := by kernel_rfl
  f128 := Try.func48.trans (congrArg some (by kernel_rfl))
  t3 := Try.underlying3
  a3 := Try.isAgg3
  z3 := Try.sizeOf3
  v3 := Try.zeroValue3
  t4 := Try.underlying4
  a4 := Try.isAgg4
  z4 := Try.sizeOf4
  v4 := Try.zeroValue4
  t5 := Try.underlying5
  a5 := Try.isAgg5
  z5 := Try.sizeOf5
  v5 := Try.zeroValue5
  t9 := Try.underlying9
  a9 := Try.isAgg9
  z9 := Try.sizeOf9
  v9 := Try.zeroValue9
  t46 := Try.underlying42
  a46 := Try.isAgg42
  z46 := Try.sizeOf42
  v46 := Try.zeroValue42
  t51 := Try.underlying90
  a51 := Try.isAgg90
  z51 := Try.sizeOf90
  v51 := Try.zeroValue90 }
/-- bits.Len32: "Len32 returns the minimum number of bits required to represent x; the result is 0 for x == 0.": IT RETURNS 'Lib.bitLen x'; the world is as it was. ('h0', 'h1': x is a uint32.) (LAID: no walk: one application.) -/
theorem Try.bits_Len32 (x : Int) (w : World) (h0 : 0 ≤ x) (h1 : x ≤ 4294967295) :
    Calls Try.prog 48 #[.int .u32 x] w fun e w' => e = .returned (.int .i64 (Lib.bitLen x.toNat)) ∧ w' = w := Any.bits_Len32 Try.lays128 x w h0 h1
def Try.lays125_ren : Go.Shelf.Ren := ⟨fun | 125 => 34 | 128 => 48 | 129 => 49 | n => n, fun | 46 => 42 | 3 => 3 | 51 => 90 | 53 => 92 | 4 => 4 | 5 => 5 | 9 => 9 | n => n, fun | n => n⟩
theorem Try.lays125 : Go.Proofs.Lays.n125 Try.prog Try.lays125_ren := {
  mixed := by kernel_rfl
  f125 := Try.func34.trans (congrArg some (by kernel_rfl))
  f128 := Try.func48.trans (congrArg some (by kernel_rfl))
  f129 := Try.func49.trans (congrArg some (by kernel_rfl))
  t3 := Try.underlying3
  a3 := Try.isAgg3
  z3 := Try.sizeOf3
  v3 := Try.zeroValue3
  t4 := Try.underlying4
  a4 := Try.isAgg4
  z4 := Try.sizeOf4
  v4 := Try.zeroValue4
  t5 := Try.underlying5
  a5 := Try.isAgg5
  z5 := Try.sizeOf5
  v5 := Try.zeroValue5
  t9 := Try.underlying9
  a9 := Try.isAgg9
  z9 := Try.sizeOf9
  v9 := Try.zeroValue9
  t46 := Try.underlying42
  a46 := Try.isAgg42
  z46 := Try.sizeOf42
  v46 := Try.zeroValue42
  t51 := Try.underlying90
  a51 := Try.isAgg90
  z51 := Try.sizeOf90
  v51 := Try.zeroValue90
  t53 := Try.underlying92
  a53 := Try.isAgg92
  z53 := Try.sizeOf92
  v53 := Try.zeroValue92 }
/-- bits.Len: "Len returns the minimum number of bits required to represent x; the result is 0 for x == 0.": IT RETURNS 'Lib.bitLen x'; the world is as it was. (A uint has 64 bits in the model.) ITS CALLEE bits.Len64 IS MET BY ITS OWN CONTRACT OFF THE SHELF (lay that first). (LAID: no walk: one application.) -/
theorem Try.bits_Len (x : Int) (w : World) (h0 : 0 ≤ x) (h1 : x ≤ 18446744073709551615) :
    Calls Try.prog 34 #[.int .u64 x] w fun e w' => e = .returned (.int .i64 (Lib.bitLen x.toNat)) ∧ w' = w := Any.bits_Len Try.lays125 x w h0 h1
def Try.lays129_ren : Go.Shelf.Ren := ⟨fun | 129 => 49 | n => n, fun | 53 => 92 | 3 => 3 | 4 => 4 | 46 => 42 | 5 => 5 | 9 => 9 | n => n, fun | n => n⟩
theorem Try.lays129 : Go.Proofs.Lays.n129 Try.prog Try.lays129_ren := {
  mixed := by kernel_rfl
  f129 := Try.func49.trans (congrArg some (by kernel_rfl))
  t3 := Try.underlying3
  a3 := Try.isAgg3
  z3 := Try.sizeOf3
  v3 := Try.zeroValue3
  t4 := Try.underlying4
  a4 := Try.isAgg4
  z4 := Try.sizeOf4
  v4 := Try.zeroValue4
  t5 := Try.underlying5
  a5 := Try.isAgg5
  z5 := Try.sizeOf5
  v5 := Try.zeroValue5
  t9 := Try.underlying9
  a9 := Try.isAgg9
  z9 := Try.sizeOf9
  v9 := Try.zeroValue9
  t46 := Try.underlying42
  a46 := Try.isAgg42
  z46 := Try.sizeOf42
  v46 := Try.zeroValue42
  t53 := Try.underlying92
  a53 := Try.isAgg92
  z53 := Try.sizeOf92
  v53 := Try.zeroValue92 }
/-- bits.Len64: "Len64 returns the minimum number of bits required to represent x; the result is 0 for x == 0.": IT RETURNS 'Lib.bitLen x'; the world is as it was. ('h0', 'h1': x is a uint64.) (LAID: no walk: one application.) -/
theorem Try.bits_Len64 (x : Int) (w : World) (h0 : 0 ≤ x) (h1 : x ≤ 18446744073709551615) :
    Calls Try.prog 49 #[.int .u64 x] w fun e w' => e = .returned (.int .i64 (Lib.bitLen x.toNat)) ∧ w' = w := Any.bits_Len64 Try.lays129 x w h0 h1
def Try.laysNm237_ren : Go.Shelf.Ren := ⟨fun | 37 => 56 | n => n, fun | 3 => 3 | 4 => 4 | n => n, fun | n => n⟩
theorem Try.laysNm237 : Go.Proofs.Lays2.n37 Try.prog Try.laysNm237_ren := {
  mixed := by kernel_rfl
  f37 := Try.func56.trans (congrArg some (by kernel_rfl))
  t3 := Try.underlying3
  a3 := Try.isAgg3
  z3 := Try.sizeOf3
  v3 := Try.zeroValue3
  t4 := Try.underlying4
  a4 := Try.isAgg4
  z4 := Try.sizeOf4
  v4 := Try.zeroValue4 }
open Go.RowKit Go.Lib in
/-- cmp.isNaN[int]: 'x != x': false. (LAID: no walk: one application.) -/
theorem Try.cmp_isNaN_int2 (x : Int) (w : World) :
    Calls Try.prog 56 #[.int .i64 x] w fun e w' => e = .returned (.bool false) ∧ w' = w := Any.cmp_isNaN_int2 Try.laysNm237 x w
def Try.laysNm231_ren : Go.Shelf.Ren := ⟨fun | 31 => 45 | 37 => 56 | n => n, fun | 3 => 3 | 4 => 4 | n => n, fun | n => n⟩
theorem Try.laysNm231 : Go.Proofs.Lays2.n31 Try.prog Try.laysNm231_ren := {
  mixed := by kernel_rfl
  f31 := Try.func45.trans (congrArg some (by kernel_rfl))
  f37 := Try.func56.trans (congrArg some (by kernel_rfl))
  t3 := Try.underlying3
  a3 := Try.isAgg3
  z3 := Try.sizeOf3
  v3 := Try.zeroValue3
  t4 := Try.underlying4
  a4 := Try.isAgg4
  z4 := Try.sizeOf4
  v4 := Try.zeroValue4 }
open Go.RowKit Go.Lib in
/-- cmp.Less[int]: "Less reports whether x is less than y.": 'x < y'; the world is as it was. (LAID: no walk: one application.) -/
theorem Try.cmp_Less_int2 (x y : Int) (w : World) :
    Calls Try.prog 45 #[.int .i64 x, .int .i64 y] w fun e w' => e = .returned (.bool (decide (x < y))) ∧ w' = w := Any.cmp_Less_int2 Try.laysNm231 x y w
def Try.laysSlM5_f23_ren : Go.Shelf.Ren := ⟨fun | 5 => 23 | 8 => 34 | 7 => 33 | 19 => 48 | 20 => 49 | 10 => 39 | 11 => 40 | 12 => 41 | 13 => 42 | 14 => 43 | 15 => 44 | 16 => 45 | 17 => 46 | 18 => 47 | 30 => 51 | 31 => 52 | 32 => 53 | 33 => 54 | 34 => 55 | 35 => 56 | 40 => 57 | n => n, fun | 23 => 22 | 25 => 3 | 3 => 3 | 32 => 42 | 22 => 22 | 0 => 0 | 44 => 90 | 46 => 92 | 4 => 4 | 36 => 84 | 35 => 83 | 41 => 65 | 5 => 5 | 9 => 9 | 53 => 94 | 57 => 98 | 63 => 100 | 64 => 101 | n => n, fun | n => n⟩
theorem Try.laysSlM5_f23 : Go.Proofs.SlLaysM.n5 Try.prog Try.laysSlM5_f23_ren := {
  mixed := by kernel_rfl
  f5 := ⟨Try.f23.name, by decide, Try.func23.trans (congrArg some (by kernel_rfl))⟩
  f7 := ⟨Try.f33.name, by decide, Try.func33.trans (congrArg some (by kernel_rfl))⟩
  f8 := Try.func34.trans (congrArg some (by kernel_rfl))
  f10 := ⟨Try.f39.name, by decide, Try.func39.trans (congrArg some (by kernel_rfl))⟩
  f11 := ⟨Try.f40.name, by decide, Try.func40.trans (congrArg some (by kernel_rfl))⟩
  f12 := ⟨Try.f41.name, by decide, Try.func41.trans (congrArg some (by kernel_rfl))⟩
  f13 := ⟨Try.f42.name, by decide, Try.func42.trans (congrArg some (by kernel_rfl))⟩
  f14 := ⟨Try.f43.name, by decide, Try.func43.trans (congrArg some (by kernel_rfl))⟩
  f15 := ⟨Try.f44.name, by decide, Try.func44.trans (congrArg some (by kernel_rfl))⟩
  f16 := ⟨Try.f45.name, by decide, Try.func45.trans (congrArg some (by kernel_rfl))⟩
  f17 := ⟨Try.f46.name, by decide, Try.func46.trans (congrArg some (by kernel_rfl))⟩
  f18 := ⟨Try.f47.name, by decide, Try.func47.trans (congrArg some (by kernel_rfl))⟩
  f19 := Try.func48.trans (congrArg some (by kernel_rfl))
  f20 := Try.func49.trans (congrArg some (by kernel_rfl))
  f30 := ⟨Try.f51.name, by decide, Try.func51.trans (congrArg some (by kernel_rfl))⟩
  f31 := Try.func52.trans (congrArg some (by kernel_rfl))
  f32 := Try.func53.trans (congrArg some (by kernel_rfl))
  f33 := ⟨Try.f54.name, by decide, Try.func54.trans (congrArg some (by kernel_rfl))⟩
  f34 := ⟨Try.f55.name, by decide, Try.func55.trans (congrArg some (by kernel_rfl))⟩
  f35 := ⟨Try.f56.name, by decide, Try.func56.trans (congrArg some (by kernel_rfl))⟩
  f40 := ⟨Try.f57.name, by decide, Try.func57.trans (congrArg some (by kernel_rfl))⟩
  t0 := Try.underlying0
  a0 := Try.isAgg0
  z0 := Try.sizeOf0
  v0 := Try.zeroValue0
  t3 := Try.underlying3
  a3 := Try.isAgg3
  z3 := Try.sizeOf3
  v3 := Try.zeroValue3
  t4 := Try.underlying4
  a4 := Try.isAgg4
  z4 := Try.sizeOf4
  v4 := Try.zeroValue4
  t5 := Try.underlying5
  a5 := Try.isAgg5
  z5 := Try.sizeOf5
  v5 := Try.zeroValue5
  t9 := Try.underlying9
  a9 := Try.isAgg9
  z9 := Try.sizeOf9
  v9 := Try.zeroValue9
  t22 := Try.underlying22
  a22 := Try.isAgg22
  z22 := Try.sizeOf22
  v22 := Try.zeroValue22
  t23 := Try.underlying22
  a23 := Try.isAgg22
  z23 := Try.sizeOf22
  v23 := Try.zeroValue22
  t25 := Try.underlying3
  a25 := Try.isAgg3
  z25 := Try.sizeOf3
  v25 := Try.zeroValue3
  t32 := Try.underlying42
  a32 := Try.isAgg42
  z32 := Try.sizeOf42
  v32 := Try.zeroValue42
  t35 := Try.underlying83
  a35 := Try.isAgg83
  z35 := Try.sizeOf83
  v35 := Try.zeroValue83
  t36 := Try.underlying84
  a36 := Try.isAgg84
  z36 := Try.sizeOf84
  v36 := Try.zeroValue84
  t41 := Try.underlying65
  a41 := Try.isAgg65
  z41 := Try.sizeOf65
  v41 := Try.zeroValue65
  t44 := Try.underlying90
  a44 := Try.isAgg90
  z44 := Try.sizeOf90
  v44 := Try.zeroValue90
  t46 := Try.underlying92
  a46 := Try.isAgg92
  z46 := Try.sizeOf92
  v46 := Try.zeroValue92
  t53 := Try.underlying94
  a53 := Try.isAgg94
  z53 := Try.sizeOf94
  v53 := Try.zeroValue94
  t57 := Try.underlying98
  a57 := Try.isAgg98
  z57 := Try.sizeOf98
  v57 := Try.zeroValue98
  t63 := Try.underlying100
  a63 := Try.isAgg100
  z63 := Try.sizeOf100
  v63 := Try.zeroValue100
  t64 := Try.underlying101
  a64 := Try.isAgg101
  z64 := Try.sizeOf101
  v64 := Try.zeroValue101 }
open Go.Sort Go.RowKit in
theorem Try.slices_Sort_int (blk off cap : Nat) (zs : List Int) (w : World) (hH : Holds (Value.int .i64) w blk off zs.toArray) (hblk : blk < w.heap.size) (hsz : zs.length < 4611686018427387904) :
    Calls Try.prog 23 #[.slice (some ⟨blk, off, none⟩) zs.length cap] w fun e w' =>
      e = .returned (.tuple #[]) ∧ ∃ n os, w' = grow (putRow (Value.int .i64) (Sort.ahead w n) blk off (zs.mergeSort fun x y => decide (x ≤ y)).toArray) os := AnyM.slices_Sort_int Try.laysSlM5_f23 blk off cap zs w hH hblk hsz
open Go.RowKit Go.Sort in
/-- .. and plain. (LAID AT THE INSTANCE 'slices.Sort[[]int,int]': no walk: one application.) -/
theorem Try.slices_Sort_int_none (p : Option Addr) (cap : Nat) (w : World) :
    Calls Try.prog 23 #[.slice p 0 cap] w fun e w' => e = .returned (.tuple #[]) ∧ w' = w := AnyM.slices_Sort_int_none Try.laysSlM5_f23 p cap w
end Go.Proofs
end

section
set_option linter.unusedVariables false
set_option linter.unusedSimpArgs false
namespace Go.Proofs.Ytgkmmdkagiohgaa
open Go.RowKit BigFrame
set_option maxRecDepth 100000
variable {w w' wr : World} {W B a M : Nat} {G : Gr} {ρ : Nat → Nat}

def nv (l : List Nat) : List Value := l.map fun (x : Nat) => .int .i64 (x : Int)
theorem nv_len (l : List Nat) : (nv l).length = l.length := by simp [nv]
theorem nv_one (l : List Nat) : ∀ v ∈ nv l, v.oneCell' = true := by
  intro v hv
  obtain ⟨k, _, rfl⟩ := List.mem_map.1 hv
  rfl
/-- numbers of one's own -/
def OwnZ (w : World) (B : Nat) (v : Value) (l : List Nat) : Prop := w.ownsRow B 3 1 v l.length (nv l)
theorem OwnZ.nil (w : World) (B : Nat) : OwnZ w B (.slice none 0 0) [] := World.ownsRow_nil _ _ _ _
theorem OwnZ.blk {v : Value} {l : List Nat} (h : OwnZ w B v l) (e : ∀ k, v.ownBlock = some k → w'.heap[k]? = w.heap[k]?) : OwnZ w' B v l := by
  obtain ⟨h1, h2⟩ := h
  refine ⟨h1, ?_⟩
  rcases h2 with h2 | ⟨g, cap, cur, rfl, hb, hg, r⟩
  · exact .inl h2
  · exact .inr ⟨g, cap, cur, rfl, hb, (e g rfl).trans hg, r⟩
theorem OwnZ.block {v : Value} {l : List Nat} (h : OwnZ w B v l) : ∀ k, v.ownBlock = some k → B ≤ k ∧ k < w.heap.size := fun k hk => World.ownsRow.lt h k hk
theorem OwnZ.on {v : Value} {l : List Nat} (h : OwnZ w B v l) (hb : Below w.heap.size w w') : OwnZ w' B v l := h.blk fun k hk => hb.block k (h.block k hk).2
theorem OwnZ.alloc {v : Value} {l : List Nat} (h : OwnZ w B v l) (x : Obj) : OwnZ (w.alloc x) B v l := h.blk fun k hk => old_alloc w x k (h.block k hk).2
theorem OwnZ.lower {v : Value} {l : List Nat} {B' : Nat} (h : OwnZ w B v l) (hb : B' ≤ B) : OwnZ w B' v l := by
  obtain ⟨h1, h2⟩ := h
  refine ⟨h1, ?_⟩
  rcases h2 with h2 | ⟨g, cap, cur, e, hg, rest⟩
  · exact .inl h2
  · exact .inr ⟨g, cap, cur, e, Nat.le_trans hb hg, rest⟩
theorem OwnZ.ints {v : Value} {l : List Nat} (h : OwnZ w B v l) : ∃ a cap, v = .slice a l.length cap ∧ (a = none → cap = 0) ∧ IntsAt w a l.length (fun k => ((l.getD k 0 : Nat) : Int)) := by
  have h' := h
  rcases h.2 with ⟨rfl, h0⟩ | ⟨g, cap, cur, rfl, _⟩
  · exact ⟨none, 0, by rw [h0], fun _ => rfl, .inl h0⟩
  · refine ⟨_, cap, rfl, (fun h => by cases h), .inr ⟨g, 0, rfl, fun k hk => ?_⟩⟩
    rw [Nat.zero_add, World.ownsRow.cellAt h' k (by omega)]
    simp [nv, hk, List.getD]
theorem nat_new (w : World) (x : Int) : (w.alloc (.cells #[.int .i64 x] 3)).cell? ⟨w.heap.size, 0, none⟩ = some (.int .i64 x) := by
  rw [cell_of_row _ w.heap.size _ _ _ _ (heap_alloc_new w _)]; rfl
theorem wpList_append_nat {w : World} {ops : Array Oper} {rest : List Oper} {o : Oper} {a : Act} {Q : Exit → Act → World → Prop} (hgd : o.guard = none) (s x : Operand)
    (ho : o.op = .call { callee := .builtin .append, args := #[s, x], argTypes := #[22, 22] })
    (B : Nat) (v : Value) (L : List Nat) (hs : a.eval s = v) (hown : OwnZ w B v L) (ad : Addr) (cap : Nat) (y : Nat) (hx : a.eval x = .slice (some ad) 1 cap) (hsrc : w.cell? ad = some (.int .i64 (y : Int)))
    (hlen : L.length + 1 ≤ 1000000) (hbase : B ≤ w.heap.size)
    (h : ∀ v' w', Hid (OwnZ w' B v' (L ++ [y])) → Hid (w.grownBy w' v.ownBlock) → Hid (v'.ownBlock = v.ownBlock ∨ v'.ownBlock = some w.heap.size) → wpList Try.prog ops Q rest (a.put o.dst v') w') : wpList Try.prog ops Q (o :: rest) a w := by
  obtain ⟨i, hi, hz0, hz1, hz2⟩ := info_parts Try.infoI
  refine wpList_append_own_at w hgd s x 22 ho B 3 i (.int .i64 0) 1 8 Try.underlying22 hi hz0 hz1 hz2 rfl (by decide) v L.length (nv L) hs hown ad 1 cap (nv [y]) hx (by rw [nv_len]; rfl) ?_ (nv_one [y]) (by unfold maxLen; omega) (by omega) hbase ?_
  · intro j u hu
    have hj : j = 0 := by
      have := (List.getElem?_eq_some_iff.1 hu).1
      rw [nv_len] at this
      simp at this
      omega
    subst hj
    have hadd : ad.add 0 = ad := by unfold Addr.add; split <;> simp_all
    rw [hadd, hsrc]
    simpa [nv] using hu
  · intro v' w' h1 h2 _ h4
    refine h v' w' ?_ h2 h4
    show OwnZ w' B v' (L ++ [y])
    unfold OwnZ
    have e : nv (L ++ [y]) = nv L ++ nv [y] := by simp [nv]
    rw [e, List.length_append]; exact h1
/-- rising -/
def srt (l : List Nat) : List Nat := l.mergeSort fun x y => decide (x ≤ y)
theorem srt_perm (l : List Nat) : (srt l).Perm l := List.mergeSort_perm _ _
theorem srt_mem {l : List Nat} {x : Nat} : x ∈ srt l ↔ x ∈ l := (srt_perm l).mem_iff
theorem srt_len (l : List Nat) : (srt l).length = l.length := (srt_perm l).length_eq
theorem srt_int (l : List Nat) : ((l.map fun (x : Nat) => (x : Int)).mergeSort fun x y => decide (x ≤ y)) = (srt l).map fun (x : Nat) => (x : Int) := by
  unfold srt
  rw [List.map_mergeSort]
  intro a _ b _
  exact decide_eq_decide.2 (by omega)
theorem sort_c {v : Value} {l : List Nat} (h : OwnZ w B v l) (hl : l.length ≤ 1000000) :
    Calls Try.prog 23 #[v] w fun e w' => e = .returned (.tuple #[]) ∧ OwnZ w' B v (srt l) ∧ w.grownBy w' v.ownBlock := by
  have h' := h
  rcases h.2 with ⟨rfl, h0⟩ | ⟨g, cap, cur, rfl, hb, hg, hn, hm, hs, ht⟩
  · have hl0 := List.eq_nil_of_length_eq_zero h0
    subst hl0
    refine (Try.slices_Sort_int_none none 0 w).mono fun e w' ⟨he, hw⟩ => ?_
    subst hw
    exact ⟨he, by rw [show srt [] = [] by simp [srt]]; exact h', World.grownBy.refl _ _⟩
  · have e1 : (l.map fun (x : Nat) => (x : Int)).length = l.length := by simp
    have e2 : (l.map fun (x : Nat) => (x : Int)).map (Value.int .i64) = nv l := by simp [nv]
    have hH : Sort.Holds (Value.int .i64) w g 0 (l.map fun (x : Nat) => (x : Int)).toArray := holds_of_blockI hg (by rw [e1, e2]; simpa using ht)
    have hc := Try.slices_Sort_int g 0 cap (l.map fun (x : Nat) => (x : Int)) w hH (Array.getElem?_eq_some_iff.1 hg).1 (by rw [e1]; omega)
    rw [e1] at hc
    refine hc.mono fun e w' ⟨he, n, os, hw⟩ => ?_
    subst hw
    rw [srt_int]
    have e3 : ((srt l).map fun (x : Nat) => (x : Int)).length = (l.map fun (x : Nat) => (x : Int)).length := by simp [srt_len]
    have e4 : ((srt l).map fun (x : Nat) => (x : Int)).map (Value.int .i64) = nv (srt l) := by simp [nv]
    have ho := ownsRow_sortedI (n := n) (os := os) e3 hb hg (by rw [e1]; exact hn) hm hs
    rw [e1, e4] at ho
    refine ⟨he, ?_, grownBy_sortedI _⟩
    unfold OwnZ
    rw [srt_len]
    exact ho
end Go.Proofs.Ytgkmmdkagiohgaa
end

section
set_option linter.unusedVariables false
set_option linter.unusedSimpArgs false
namespace Go.Proofs.Ytgkmmdkagiohgaa
open Go.RowKit BigFrame
set_option maxRecDepth 100000
variable {w w' wr : World} {W B a M : Nat} {G : Gr} {ρ : Nat → Nat}

theorem take_snoc {l : List Nat} {k x : Nat} (h : l[k]? = some x) : l.take (k + 1) = l.take k ++ [x] := by
  rw [List.take_add_one, h]; rfl
/-- what the closure tells -/
structure ClPost (G : Gr) (R : Nat → Int) (n : Nat) (w : World) (e : Ending) (w' : World) : Prop where
  ex : ∃ v O, e = .returned v ∧ OwnZ w' w.heap.size v (srt O) ∧ O.Nodup ∧ (∀ z ∈ O, z ∈ G.ids) ∧ ∀ z, z ∈ O ↔ Clo G R n z
  bel : Below w.heap.size w w'
set_option maxHeartbeats 4000000 in
theorem closure_c {ad : Option Addr} {n cap : Nat} {R : Nat → Int} (h : GrMem w B a M G) (ho : GOk G ρ) (hn : n ≤ 1000) (hR : IntsAt w ad n R) (hb : ∀ k, k < n → -9223372036854775808 ≤ R k ∧ R k ≤ 9223372036854775807) :
    Calls Try.prog 13 #[.pointer (some ⟨a, 0, none⟩), .slice ad n cap] w (ClPost G R n w) := by
  have hod := Lib.hid (ordered_c (cap := cap) h ho hn hR hb)
  have h' := Lib.hid h
  clear h ho hR hb
  go_enter Try.func13, Try.ntmps13
  go_wp2_with fail
  go_at_call 22
  refine hod.out.mono ?_
  rintro e w1 ⟨⟨v1, O, rfl, hs1, ok1, hc1⟩, hb1⟩
  obtain ⟨a1, cap1, hv1, _, hnil, had⟩ := hs1.slice
  subst hv1
  obtain ⟨on, hon⟩ : ∃ on, O.length = on := ⟨_, rfl⟩
  have hOl : O.length ≤ 500 := Nat.le_trans (nodup_sub ok1.nd ok1.sub) h'.out.few
  have hS1 := Lib.hid hs1
  have hB1 := Lib.hid hb1
  have hOk := Lib.hid ok1
  have hC1 := Lib.hid hc1
  have hG1 := Lib.hid (h'.out.on hb1)
  have hon' := Lib.hid hon
  rw [hon] at hOl
  rw [hon] at hS1
  clear hs1 hb1 ok1 hc1 hod hnil had
  rw [hon]
  have hlo := hB1.out.size
  clear hon
  go_wp2_with fail
  go_loopg [5, 7, 12] on (fun g v5 v7 v12 wr => ∃ k : Nat, k + g = on ∧ v12 = .int .i64 (k : Int) ∧ OwnZ wr w1.heap.size v5 (O.take k) ∧ Below w1.heap.size w1 wr)
  case atStart => exact ⟨0, by omega, rfl, OwnZ.nil _ _, Below.refl _ _⟩
  case round =>
    obtain ⟨k, hkg, rfl, hown, hbel⟩ := hrel
    by_cases hlt : k < on
    · obtain ⟨g, rfl⟩ : ∃ g, gk = g + 1 := ⟨gk - 1, by omega⟩
      obtain ⟨x, hx⟩ : ∃ x, O[k]? = some x := ⟨O[k]'(by rw [hon'.out]; exact hlt), List.getElem?_eq_getElem _⟩
      have hxi := hOk.out.sub x (List.mem_of_getElem? hx)
      have hS2 : SlAt wr w.heap.size G.nb (.slice a1 on cap1) O := hS1.out.blk fun j hj => hbel.block j (hS1.out.block j hj).2.1
      obtain ⟨gl, hgl, cx⟩ := hS2.at rfl hx
      subst hgl
      have cn := (hG1.out.on hbel).num hxi
      unfold pv at cx
      have hown' := Lib.hid hown
      have hbel' := Lib.hid hbel
      have hx' := Lib.hid hx
      have hsz := hbel.size
      have htl : (O.take k).length ≤ 500 := by rw [List.length_take]; omega
      clear hown hbel hx hS2
      go_wp2_with (at_builtin; refine wpList_append_nat rfl _ _ rfl w1.heap.size _ (O.take k) rfl (hown'.out.alloc _) _ _ x rfl (nat_new _ _) (by omega) (by rw [size_alloc]; omega) ?_; intro v' w4 ho4 hg4 hat4)
      go_roundg g
      case measure => omega
      case rel =>
        refine ⟨k + 1, by omega, by go_num, by rw [take_snoc hx'.out]; exact ho4.out, ?_⟩
        exact (hbel'.out.alloc hsz _).grown hg4.out (by rw [size_alloc]; omega) (fun j hj => (hown'.out.block j hj).1)
    · have hkn : k = on := by omega
      have ht : O.take k = O := List.take_of_length_le (by rw [hon'.out]; omega)
      rw [ht] at hown
      have hso := Lib.hid (sort_c hown (by rw [hon'.out]; omega))
      have hown' := Lib.hid hown
      have hbel' := Lib.hid hbel
      clear hown hbel
      go_wp2_with (go_at_call 23; refine hso.out.mono ?_; rintro e w5 ⟨rfl, ho5, hg5⟩; have H5 := Lib.hid ho5; have G5 := Lib.hid hg5; clear ho5 hg5)
      go_ret
      exact ⟨⟨_, O, rfl, H5.out.lower hlo, hOk.out.nd, hOk.out.sub, hC1.out⟩, hB1.out.trans ((hbel'.out.grown G5.out hbel'.out.size (fun j hj => (hown'.out.block j hj).1)).mono hlo)⟩
end Go.Proofs.Ytgkmmdkagiohgaa
end
