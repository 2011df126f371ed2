/-
  Copies: of bytes, of integers, of flags.
-/
import Derived.Test.YtmaodnidodoadaaOx
import Derived.Test.YtmaodnidodoadaaDs
import Derived.WalkSpells
namespace Go.Proofs.Ytmaodnidodoadaa
open Go.RowKit BigFrame

set_option maxHeartbeats 400000 in
theorem clone_b (a : Option Addr) (cap n : Nat) (l : List Nat) (w : World) (hl : l.length = n) (hn : n ≤ 100000) (hx : BAt w a l) (hnil : a = none → cap = 0) :
    Calls Try.prog 35 #[.slice a n cap] w (GivesB l w) := by
  have q22 : ∀ (w : World) (a : Option Addr) (n c n' c' : Nat), (binOp .eql 43 (.slice a n c) (.slice none n' c')).run Try.prog w = .ok (.bool a.isNone) w := fun w a n c n' c' => Lib.run_eql_slice_nil w _ _ a n c n' c' Try.underlying43
  cases a with
  | none =>
    have e : l = [] := by
      rcases hx with h | ⟨_, _, e, _⟩
      · exact List.eq_nil_of_length_eq_zero h
      · cases e
    subst e
    go_enter Try.func35, Try.ntmps35
    go_wp2_with fail
    go_ret
    exact ⟨_, rfl, OwnB.nil _ _, Below.refl _ _⟩
  | some ad =>
    have hx' := Lib.hid hx
    have hl' := Lib.hid hl
    have O0 := Lib.hid (show OwnB (w.alloc (.cells #[] 5)) w.heap.size (.slice (some ⟨w.heap.size, 0, none⟩) 0 0) [] from OwnB.made w [] w.heap.size (Nat.le_refl _) (by simp))
    have B0 := Lib.hid ((Below.refl w.heap.size w).alloc (Nat.le_refl _) (.cells #[] 5))
    clear hx hl
    go_enter Try.func35, Try.ntmps35
    go_wp2_with (at_builtin; refine wpList_append_bytes rfl (.tmp 5) (.tmp 6) rfl w.heap.size _ [] rfl O0.out (some ad) n cap l rfl hl'.out (hx'.out.on B0.out (Nat.le_refl _)) (fun h => by cases h) (by simpa using by omega) B0.out.size ?_; intro v2 w2 ho2 hg2 hb2; have B2 := Lib.hid (B0.out.trans hb2); clear hb2 hg2)
    go_ret
    exact ⟨_, rfl, ho2.out, B2.out⟩

/-- flags that lie there, if any -/
def KAt (w : World) (a : Option Addr) (l : List Bool) : Prop := l.length = 0 ∨ ∃ b off, a = some ⟨b, off, none⟩ ∧ ∀ k, k < l.length → w.cell? ⟨b, off + k, none⟩ = some (.bool (l.getD k false))
theorem KAt.on {w w' : World} {a : Option Addr} {l : List Bool} {B : Nat} (h : KAt w a l) (hb : Below B w w') (hB : w.heap.size ≤ B) : KAt w' a l := by
  rcases h with h | ⟨b, off, rfl, hx⟩
  · exact .inl h
  · by_cases h0 : 0 < l.length
    · have hlt : b < w.heap.size := World.block_lt_of_cell? w _ (hx 0 h0)
      exact .inr ⟨b, off, rfl, fun k hk => by rw [hb.cell (p := ⟨b, off + k, none⟩) (by show b < B; omega)]; exact hx k hk⟩
    · exact .inl (by omega)
theorem KAt.drew {w : World} {a : Option Addr} {l : List Bool} {m : Nat} (h : KAt w a l) : KAt (w.drewN m) a l := h
theorem KAt.drew1 {w : World} {a : Option Addr} {l : List Bool} (h : KAt w a l) : KAt w.drew a l := h
theorem kcells_length (l : List Bool) : (kcells l).length = l.length := by simp [kcells]
theorem kcells_at {l : List Bool} {k : Nat} {v : Value} (h : (kcells l)[k]? = some v) : k < l.length ∧ v = .bool (l.getD k false) := by
  have hk : k < l.length := by have := (List.getElem?_eq_some_iff.1 h).1; rwa [kcells_length] at this
  refine ⟨hk, ?_⟩
  simp only [kcells, List.getElem?_map, List.getElem?_eq_getElem hk, Option.map_some, Option.some.injEq] at h
  rw [← h]; simp [List.getD, List.getElem?_eq_getElem hk]
theorem kcells_get {l : List Bool} {k : Nat} (h : k < l.length) : (kcells l)[k]? = some (.bool (l.getD k false)) := by
  simp [kcells, List.getD, List.getElem?_eq_getElem h]
theorem kcells_one (l : List Bool) : ∀ v ∈ kcells l, v.oneCell' = true := by
  intro v hv
  obtain ⟨n, _, rfl⟩ := List.mem_map.1 hv
  rfl
theorem Try.infoK : (Try.prog.info? 4).map (fun i => (i.zero, i.size, i.bytes)) = some (some (.bool false), 1, 1) := by kernel_rfl
/-- a new slice of these flags -/
def GivesK (l : List Bool) (w : World) (e : Ending) (w' : World) : Prop := ∃ v, e = .returned v ∧ w'.ownsRow w.heap.size 4 1 v l.length (kcells l) ∧ Below w.heap.size w w'
theorem own_none (w : World) (_base : Nat) (e : TypeId) (size : Nat) : (w.alloc (.cells #[] e)).ownsRow w.heap.size e size (.slice (some ⟨w.heap.size, 0, none⟩) 0 0) 0 [] :=
  ⟨by simp, .inr ⟨w.heap.size, 0, #[], rfl, Nat.le_refl _, heap_alloc_new w _, Nat.le_refl _, by unfold maxLen; omega, by simp, by simp⟩⟩

set_option maxHeartbeats 400000 in
theorem clone_k (a : Option Addr) (cap n : Nat) (l : List Bool) (w : World) (hl : l.length = n) (hn : n ≤ 100000) (hx : KAt w a l) (hnil : a = none → cap = 0) :
    Calls Try.prog 41 #[.slice a n cap] w (GivesK l w) := by
  have q22 : ∀ (w : World) (a : Option Addr) (n c n' c' : Nat), (binOp .eql 28 (.slice a n c) (.slice none n' c')).run Try.prog w = .ok (.bool a.isNone) w := fun w a n c n' c' => Lib.run_eql_slice_nil w _ _ a n c n' c' Try.underlying28
  cases a with
  | none =>
    have e : l = [] := by
      rcases hx with h | ⟨_, _, e, _⟩
      · exact List.eq_nil_of_length_eq_zero h
      · cases e
    subst e
    go_enter Try.func41, Try.ntmps41
    go_wp2_with fail
    go_ret
    exact ⟨_, rfl, World.ownsRow_nil _ _ _ _, Below.refl _ _⟩
  | some ad =>
    obtain ⟨i, hi, hz0, hz1, hz2⟩ := info_parts Try.infoK
    have B0 := Lib.hid ((Below.refl w.heap.size w).alloc (Nat.le_refl _) (.cells #[] 4))
    have hx' := Lib.hid (hx.on B0.out (Nat.le_refl _))
    have hl' := Lib.hid hl
    have hlk := Lib.hid (show (kcells l).length = n * 1 by rw [kcells_length, hl, Nat.mul_one])
    have hk' := Lib.hid (show ∀ j u, (kcells l)[j]? = some u → (w.alloc (.cells #[] 4)).cell? (ad.add j) = some u from fun j u hu => by
      obtain ⟨hj, rfl⟩ := kcells_at hu
      rcases hx'.out with h | ⟨b, off, e, h⟩
      · omega
      · obtain rfl := Option.some.inj e
        rw [addr_add]; exact h j hj)
    have O0 := Lib.hid (own_none w w.heap.size 4 1)
    have hi' := Lib.hid hi
    have hz0' := Lib.hid hz0
    have hz1' := Lib.hid hz1
    have hz2' := Lib.hid hz2
    clear hx hl hi hz0 hz1 hz2
    go_enter Try.func41, Try.ntmps41
    go_wp2_with (at_builtin; refine wpList_append_own _ rfl (.tmp 5) (.tmp 6) 28 rfl w.heap.size 4 i (.bool false) 1 1 Try.underlying28 hi'.out hz0'.out hz1'.out hz2'.out rfl (by decide) _ 0 [] rfl O0.out ad n cap (kcells l) rfl hlk.out hk'.out (kcells_one l) (by unfold maxLen; omega) (by omega) B0.out.size ?_; intro v2 w2 ho2 hg2 _; have B2 := Lib.hid ((Below.refl w.heap.size w).trans (B0.out.trans ((Below.refl _ _).grown hg2 B0.out.size (fun k hk => (World.ownsRow.lt O0.out k hk).1)))); have O2 := Lib.hid ho2; clear hg2 ho2)
    go_ret
    refine ⟨_, rfl, ?_, B2.out⟩
    have := O2.out
    rw [Nat.zero_add, List.nil_append, ← hl'.out] at this
    exact this
/-- a new slice of these integers -/
def GivesZ (n : Nat) (D : Nat → Int) (w : World) (e : Ending) (w' : World) : Prop := ∃ v, e = .returned v ∧ OwnI w' w.heap.size v n D ∧ Below w.heap.size w w'
set_option maxHeartbeats 400000 in
theorem clone_z (a : Option Addr) (cap n : Nat) (D : Nat → Int) (w : World) (hn : n ≤ 100000) (hx : IntsAt w a n D) (hnil : a = none → cap = 0) :
    Calls Try.prog 36 #[.slice a n cap] w (GivesZ n D w) := by
  have q22 : ∀ (w : World) (a : Option Addr) (n c n' c' : Nat), (binOp .eql 34 (.slice a n c) (.slice none n' c')).run Try.prog w = .ok (.bool a.isNone) w := fun w a n c n' c' => Lib.run_eql_slice_nil w _ _ a n c n' c' Try.underlying34
  cases a with
  | none =>
    have e : n = 0 := by
      rcases hx with h | ⟨_, _, e, _⟩
      · exact h
      · cases e
    subst e
    go_enter Try.func36, Try.ntmps36
    go_wp2_with fail
    go_ret
    exact ⟨_, rfl, OwnI.nil _ _ _, Below.refl _ _⟩
  | some ad =>
    have B0 := Lib.hid ((Below.refl w.heap.size w).alloc (Nat.le_refl _) (.cells #[] 3))
    have hx' := Lib.hid (hx.on B0.out rfl)
    have O0 := Lib.hid (show OwnI (w.alloc (.cells #[] 3)) w.heap.size (.slice (some ⟨w.heap.size, 0, none⟩) 0 0) 0 D from own_none w w.heap.size 3 1)
    clear hx
    go_enter Try.func36, Try.ntmps36
    go_wp2_with (at_builtin; refine wpList_append_ints rfl (.tmp 5) (.tmp 6) rfl w.heap.size 0 _ D rfl O0.out (some ad) n cap D rfl hx'.out (fun h => by cases h) (by omega) B0.out.size ?_; intro v2 w2 ho2 hg2 hb2; have B2 := Lib.hid (B0.out.trans hb2); clear hb2 hg2)
    go_ret
    refine ⟨_, rfl, ?_, B2.out⟩
    have := ho2.out
    rw [Nat.zero_add] at this
    exact this.congr fun p _ => by simp [joinI]
end Go.Proofs.Ytmaodnidodoadaa
