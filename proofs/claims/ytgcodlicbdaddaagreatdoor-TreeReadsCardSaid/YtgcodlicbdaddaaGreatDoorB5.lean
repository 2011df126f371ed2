/-
  Integers: in memory, in slices of the call's own, and how they grow by append.
  Holds, List.
  Close, Get.
  Files compared; the calls, at numbers that are written in any way.
-/
import Derived.Test.YtgcodlicbdaddaaGreatDoorRows
import Derived.Test.YtgcodlicbdaddaaGreatDoorB3
import Derived.WalkKit
import Derived.ProofKit
import Derived.Handy
import Derived.OpenShut
import Derived.Lib.Hide
import Derived.Laws.AppendOwn
import Derived.Laws.AppendOwnNone
import Derived.Laws.CopyOwn
import Derived.Deep.OwnRows
import Derived.OwnWalk
import Derived.Deep.QuietTactic
import Derived.BigQuiet
import Derived.Test.YtgcodlicbdaddaaGreatDoorB4

section
set_option linter.unusedVariables false
set_option linter.unusedSimpArgs false
namespace Go.Proofs.YtgcodlicbdaddaaGreatDoor
open Go.ChangeShapes Go.WideShapes Go.ChangeAt Go.RowKit BigFrame

theorem Tryz.infoI : (Tryz.prog.info? 3).map (fun i => (i.zero, i.size, i.bytes)) = some (some (.int .i64 0), 1, 8) := by kernel_rfl

/-- block g holds these numbers at its first n places -/
def At (g n : Nat) (D : Nat → Int) (w : World) : Prop := ∀ p, p < n → w.cell? ⟨g, p, none⟩ = some (.int .i64 (D p)) ∧ w.frozen? ⟨g, p, none⟩ = false
theorem At.drewN {g n m : Nat} {D : Nat → Int} {w : World} (h : At g n D w) : At g n D (w.drewN m) := h
theorem At.drew {g n : Nat} {D : Nat → Int} {w : World} (h : At g n D w) : At g n D w.drew := h
theorem At.congr {g n : Nat} {D D' : Nat → Int} {w : World} (h : At g n D w) (he : ∀ p, p < n → D' p = D p) : At g n D' w := fun p hp => by rw [he p hp]; exact h p hp
/-- one place written -/
def upd (D : Nat → Int) (q : Nat) (v : Int) (p : Nat) : Int := if p = q then v else D p
theorem At.setCell {g n q : Nat} {D : Nat → Int} {w : World} (h : At g n D w) (hq : q < n) (v : Int) : At g n (upd D q v) (w.setCell ⟨g, q, none⟩ (.int .i64 v)) := by
  intro p hp
  unfold upd
  by_cases e : p = q
  · subst e
    rw [if_pos rfl]
    exact ⟨World.cell?_setCell_same _ _ _ (h p hp).1, by rw [World.frozen?_setCell]; exact (h p hp).2⟩
  · rw [if_neg e]
    exact ⟨by rw [World.cell?_setCell_other _ _ _ _ (by intro h; exact e (Addr.mk.inj h).2.1.symm)]; exact (h p hp).1, by rw [World.frozen?_setCell]; exact (h p hp).2⟩

/-- the integers that lie there, if any -/
def IntsAt (w : World) (a : Option Addr) (n : Nat) (R : Nat → Int) : Prop := n = 0 ∨ ∃ b off, a = some ⟨b, off, none⟩ ∧ ∀ k, k < n → w.cell? ⟨b, off + k, none⟩ = some (.int .i64 (R k))
theorem IntsAt.drew {w : World} {a : Option Addr} {n m : Nat} {R : Nat → Int} (h : IntsAt w a n R) : IntsAt (w.drewN m) a n R := h
theorem IntsAt.on {w w' : World} {a : Option Addr} {n B : Nat} {R : Nat → Int} (h : IntsAt w a n R) (hb : Below B w w') (hB : B = w.heap.size) : IntsAt w' a n R := by
  rcases h with h | ⟨b, off, rfl, hx⟩
  · exact .inl h
  · by_cases h0 : 0 < n
    · have hlt : b < w.heap.size := World.block_lt_of_cell? w _ (hx 0 h0)
      exact .inr ⟨b, off, rfl, fun k hk => by rw [hb.cell (p := ⟨b, off + k, none⟩) (by show b < B; omega)]; exact hx k hk⟩
    · exact .inl (by omega)
theorem At.ints {g n : Nat} {C : Nat → Int} {w : World} (h : At g n C w) : IntsAt w (some ⟨g, 0, none⟩) n C := .inr ⟨g, 0, rfl, fun k hk => by rw [Nat.zero_add]; exact (h k hk).1⟩

/-- the first c, as cells -/
def rl (R : Nat → Int) (c : Nat) : List Value := (List.range c).map fun p => .int .i64 (R p)
theorem rl_succ (R : Nat → Int) (c : Nat) : rl R (c + 1) = rl R c ++ [.int .i64 (R c)] := by simp [rl, List.range_succ]
theorem own_ints {w : World} {B n : Nat} {e : TypeId} {v : Value} {R : Nat → Int} (h : w.ownsRow B e 1 v n (rl R n)) : ∃ a cap, v = .slice a n cap ∧ IntsAt w a n R := by
  have h' := h
  rcases h.2 with ⟨rfl, h0⟩ | ⟨g, cap, cur, rfl, _⟩
  · exact ⟨none, 0, by rw [h0], .inl h0⟩
  · refine ⟨_, cap, rfl, .inr ⟨g, 0, rfl, fun k hk => ?_⟩⟩
    rw [Nat.zero_add, h'.cellAt k (by omega)]
    simp [rl, hk]
def OwnI (w : World) (base : Nat) (v : Value) (n : Nat) (D : Nat → Int) : Prop := w.ownsRow base 3 1 v n (rl D n)
def joinI (D : Nat → Int) (n : Nat) (E : Nat → Int) (p : Nat) : Int := if p < n then D p else E (p - n)
theorem rl_length (D : Nat → Int) (n : Nat) : (rl D n).length = n := by simp [rl]
theorem rl_get {D : Nat → Int} {n k : Nat} (h : k < n) : (rl D n)[k]? = some (.int .i64 (D k)) := by simp [rl, h]
theorem rl_at {D : Nat → Int} {n k : Nat} {v : Value} (h : (rl D n)[k]? = some v) : k < n ∧ v = .int .i64 (D k) := by
  have hk : k < n := by have := (List.getElem?_eq_some_iff.1 h).1; rwa [rl_length] at this
  rw [rl_get hk] at h
  exact ⟨hk, (Option.some.inj h).symm⟩
theorem rl_one (D : Nat → Int) (n : Nat) : ∀ v ∈ rl D n, v.oneCell' = true := by
  intro v hv
  obtain ⟨k, _, rfl⟩ := List.mem_map.1 hv
  rfl
theorem rl_join (D : Nat → Int) (n : Nat) (E : Nat → Int) (m : Nat) : rl (joinI D n E) (n + m) = rl D n ++ rl E m := by
  apply List.ext_getElem?
  intro k
  by_cases h1 : k < n
  · rw [List.getElem?_append_left (by rw [rl_length]; exact h1), rl_get h1, rl_get (by omega)]
    simp [joinI, h1]
  · rw [List.getElem?_append_right (by rw [rl_length]; omega), rl_length]
    by_cases h2 : k < n + m
    · rw [rl_get h2, rl_get (by omega)]
      simp [joinI, h1]
    · rw [List.getElem?_eq_none (by rw [rl_length]; omega), List.getElem?_eq_none (by rw [rl_length]; omega)]
theorem rl_congr {D E : Nat → Int} {n : Nat} (h : ∀ p, p < n → D p = E p) : rl D n = rl E n := by
  unfold rl
  apply List.map_congr_left
  intro p hp
  rw [h p (List.mem_range.1 hp)]
theorem OwnI.congr {w : World} {base n : Nat} {v : Value} {D E : Nat → Int} (h : OwnI w base v n D) (he : ∀ p, p < n → D p = E p) : OwnI w base v n E := by
  unfold OwnI; rw [← rl_congr he]; exact h
theorem OwnI.slice {w : World} {base n : Nat} {v : Value} {D : Nat → Int} (h : OwnI w base v n D) : ∃ a cap, v = .slice a n cap ∧ IntsAt w a n D ∧ (a = none → cap = 0) ∧ n ≤ cap ∧ cap ≤ maxLen ∧ ∀ ad, a = some ad → ∃ b, ad = ⟨b, 0, none⟩ := by
  have h' := h
  rcases h.2 with ⟨rfl, h0⟩ | ⟨g, cap, cur, rfl, _, _, hn, hm, _⟩
  · exact ⟨none, 0, by rw [h0], .inl h0, fun _ => rfl, by omega, by unfold maxLen; omega, fun ad h => by cases h⟩
  · refine ⟨_, cap, rfl, .inr ⟨g, 0, rfl, fun k hk => ?_⟩, (fun h => by cases h), hn, hm, fun ad h => by cases h; exact ⟨g, rfl⟩⟩
    rw [Nat.zero_add, World.ownsRow.cellAt h' k (by omega)]
    simp [rl, hk]
theorem OwnI.nil (w : World) (base : Nat) (D : Nat → Int) : OwnI w base (.slice none 0 0) 0 D := World.ownsRow_nil _ _ _ _

theorem run_append_ints {w : World} (base n : Nat) (v : Value) (D : Nat → Int) (ty : TypeId) (hown : OwnI w base v n D) (sp : Option Addr) (m sCap : Nat) (E : Nat → Int) (hsrc : IntsAt w sp m E) (hnil : sp = none → sCap = 0)
    (hlen : n + m ≤ 1000000) (hbase : base ≤ w.heap.size) :
    ∃ v' w', (Builtin.append_ #[60, 60] ty #[v, .slice sp m sCap]).run Tryz.prog w = .ok v' w' ∧ OwnI w' base v' (n + m) (joinI D n E) ∧ w.grownBy w' v.ownBlock := by
  obtain ⟨i, hi, hz0, hz1, hz2⟩ := info_parts Tryz.infoI
  cases sp with
  | none =>
    obtain rfl := hnil rfl
    have hm : m = 0 := by
      rcases hsrc with h | ⟨_, _, e, _⟩
      · exact h
      · cases e
    subst hm
    have hr := run_append_owned_none (P := Tryz.prog) (w := w) base 60 ty 3 i 1 Tryz.underlying60 hi v n (rl D n) hown
    refine ⟨v, w, hr, ?_, World.grownBy.refl _ _⟩
    exact OwnI.congr (E := joinI D n E) hown (fun p hp => by unfold joinI; rw [if_pos (by omega)])
  | some ad =>
    obtain ⟨v', w', hr, h1, h2, _⟩ := run_append_own (P := Tryz.prog) w base 60 ty 3 i (.int .i64 0) 1 8 Tryz.underlying60 hi hz0 hz1 hz2 rfl (by decide) v n (rl D n) hown ad m sCap (rl E m) (by rw [rl_length, Nat.mul_one]) (by
      intro j u hu
      obtain ⟨hj, rfl⟩ := rl_at hu
      rcases hsrc with h | ⟨b, off, e, h⟩
      · omega
      · obtain rfl := Option.some.inj e
        have hadd : (⟨b, off, none⟩ : Addr).add j = ⟨b, off + j, none⟩ := by unfold Addr.add; split <;> simp_all
        rw [hadd]; exact h j hj) (rl_one E m) (by unfold maxLen; omega) (by omega) hbase
    refine ⟨v', w', hr, ?_, h2⟩
    unfold OwnI
    rw [rl_join]; exact h1

theorem step_append_ints {w : World} {ops : Array Oper} {o : Oper} {a : Act} {K : Act → World → Prop} {Q : Exit → Act → World → Prop} {F : Prop} (hgd : o.guard = none) (s x : Operand)
    (ho : o.op = .call { callee := .builtin .append, args := #[s, x], argTypes := #[60, 60] })
    (base n : Nat) (v : Value) (D : Nat → Int) (hs : a.eval s = v) (hown : OwnI w base v n D) (sp : Option Addr) (m sCap : Nat) (E : Nat → Int) (hx : a.eval x = .slice sp m sCap) (hsrc : IntsAt w sp m E) (hnil : sp = none → sCap = 0)
    (hlen : n + m ≤ 1000000) (hbase : base ≤ w.heap.size)
    (h : ∀ v' w', OwnI w' base v' (n + m) (joinI D n E) → w.grownBy w' v.ownBlock → K (a.put o.dst v') w') :
    if Region.wanted o (yielded ops a.tmps) = true then Oper.wp Tryz.prog o a w K Q else F := by
  have hw : Region.wanted o (yielded ops a.tmps) = true := by simp [Region.wanted, hgd]
  rw [if_pos hw]
  obtain ⟨v', w', hr, h1, h2⟩ := run_append_ints base n v D o.type hown sp m sCap E hsrc hnil hlen hbase
  unfold Oper.wp
  simp [execOp, ho, resolve, invoke, builtin, hs, hx, hr, Result.andThen]
  exact h v' w' h1 h2
theorem IntsAt.less {w : World} {a : Option Addr} {n m : Nat} {R : Nat → Int} (h : IntsAt w a n R) (hm : m ≤ n) : IntsAt w a m R := by
  rcases h with h | ⟨b, off, rfl, hx⟩
  · exact .inl (by omega)
  · exact .inr ⟨b, off, rfl, fun k hk => hx k (by omega)⟩
theorem IntsAt.from {w : World} {b off n q : Nat} {R : Nat → Int} (h : IntsAt w (some ⟨b, off, none⟩) n R) (hq : q ≤ n) : IntsAt w (some ⟨b, off + q, none⟩) (n - q) (fun p => R (q + p)) := by
  rcases h with h | ⟨b', o', e, hx⟩
  · exact .inl (by omega)
  · simp only [Option.some.injEq, Addr.mk.injEq, and_true] at e
    obtain ⟨rfl, rfl⟩ := e
    exact .inr ⟨b, off + q, rfl, fun k hk => by rw [Nat.add_assoc]; exact hx (q + k) (by omega)⟩
theorem int_new (w : World) (x : Int) (t : TypeId) : IntsAt (w.alloc (.cells #[.int .i64 x] t)) (some ⟨w.heap.size, 0, none⟩) 1 (fun _ => x) :=
  .inr ⟨w.heap.size, 0, rfl, fun k hk => by
    obtain rfl : k = 0 := by omega
    rw [cell_of_row _ w.heap.size _ _ _ _ (heap_alloc_new w _)]
    rfl⟩
theorem IntsAt.on' {w w' : World} {a : Option Addr} {n B : Nat} {R : Nat → Int} (h : IntsAt w a n R) (hb : Below B w w') (hB : w.heap.size ≤ B) : IntsAt w' a n R := h.on (hb.mono hB) rfl
theorem below_own {w w' : World} {base n : Nat} {v : Value} {D : Nat → Int} (h : OwnI w base v n D) (hg : w.grownBy w' v.ownBlock) (hb : base ≤ w.heap.size) : Below base w w' :=
  (Below.refl _ _).grown hg hb (fun k hk => (World.ownsRow.lt h k hk).1)

theorem IntsAt.drew1 {w : World} {a : Option Addr} {n : Nat} {R : Nat → Int} (h : IntsAt w a n R) : IntsAt w.drew a n R := h
theorem IntsAt.alloc {w : World} {a : Option Addr} {n : Nat} {R : Nat → Int} (h : IntsAt w a n R) (o : Obj) : IntsAt (w.alloc o) a n R := h.on ((Below.refl _ _).alloc (Nat.le_refl _) _) rfl
theorem OwnI.alloc {w : World} {base n : Nat} {v : Value} {D : Nat → Int} (h : OwnI w base v n D) (o : Obj) : OwnI (w.alloc o) base v n D := World.ownsRow.alloc h o
theorem OwnI.lower {w : World} {base base' n : Nat} {v : Value} {D : Nat → Int} (h : OwnI w base v n D) (hb : base' ≤ base) : OwnI w base' v n D := by
  obtain ⟨h1, h2⟩ := h
  refine ⟨h1, ?_⟩
  rcases h2 with h2 | ⟨g, cap, cur, e, hg, rest⟩
  · exact .inl h2
  · exact .inr ⟨g, cap, cur, e, Nat.le_trans hb hg, rest⟩
theorem below_none {w w' : World} (h : w.grownBy w' none) : Below w.heap.size w w' := (Below.refl _ _).grown h (Nat.le_refl _) (fun k hk => by cases hk)

theorem At.on {g n : Nat} {D : Nat → Int} {w w' : World} {B : Nat} (h : At g n D w) (hb : Below B w w') (hg : g < B) : At g n D w' := fun p hp => by
  rw [hb.cell (p := ⟨g, p, none⟩) hg, hb.frozen (p := ⟨g, p, none⟩) hg]; exact h p hp
theorem wpList_append_ints {w : World} {ops : Array Oper} {rest : List Oper} {o : Oper} {a : Act} {Q : Exit → Act → World → Prop} (hgd : o.guard = none) (s x : Operand)
    (ho : o.op = .call { callee := .builtin .append, args := #[s, x], argTypes := #[60, 60] })
    (base n : Nat) (v : Value) (D : Nat → Int) (hs : a.eval s = v) (hown : OwnI w base v n D) (sp : Option Addr) (m sCap : Nat) (E : Nat → Int) (hx : a.eval x = .slice sp m sCap) (hsrc : IntsAt w sp m E) (hnil : sp = none → sCap = 0)
    (hlen : n + m ≤ 1000000) (hbase : base ≤ w.heap.size)
    (h : ∀ v' w', Hid (OwnI w' base v' (n + m) (joinI D n E)) → w.grownBy w' v.ownBlock → Below base w w' → wpList Tryz.prog ops Q rest (a.put o.dst v') w') : wpList Tryz.prog ops Q (o :: rest) a w := by
  refine wpList_plain hgd fun K hK => ?_
  obtain ⟨v', w', hr, h1, h2⟩ := run_append_ints base n v D o.type hown sp m sCap E hsrc hnil hlen hbase
  unfold Oper.wp
  simp [execOp, ho, resolve, invoke, builtin, hs, hx, hr, Result.andThen]
  exact hK _ _ (h v' w' h1 h2 (below_own hown h2 hbase))

/-- a slice of integers that came in -/
def ZSlice (w : World) (v : Value) (n : Nat) (R : Nat → Int) : Prop :=
  ∃ a cap, v = .slice a n cap ∧ n ≤ cap ∧ IntsAt w a n R ∧ (a = none → cap = 0) ∧ ∀ k, k < n → -9223372036854775808 ≤ R k ∧ R k ≤ 9223372036854775807
theorem open_zs {H : Type} {enc : TypeId × Value → H} {P : Program} {W : World} {t e : TypeId} {base : Nat} {v : Value} {d : DataW H} {ps : List MemPlace} (ht : P.underlying t = some (.slice e)) (he : P.underlying e = some (.int .i64)) (hc : P.cellsOf e = 1)
    (hval : Value.okWide P W .any base t v) (h : DataW.Trod enc P W 0 (fun _ => true) true t v d ps) : ∃ n R, ZSlice W v n R := by
  obtain ⟨a0, len, cap, rfl⟩ := okWide_slice ht hval
  obtain ⟨fuel, hf⟩ := h
  rcases open_ints ht he hc hf with ⟨hcs, _⟩ | ⟨a, len', cap', zs, hcs, _, hl, hm, hz, hx, hcell, hwz⟩
  · simp [Value.cells] at hcs
    obtain ⟨rfl, rfl, rfl⟩ := hcs
    exact ⟨0, fun _ => 0, none, 0, rfl, by omega, .inl rfl, fun _ => rfl, fun k hk => absurd hk (by omega)⟩
  · simp [Value.cells] at hcs
    obtain ⟨rfl, rfl, rfl⟩ := hcs
    simp only [if_true] at hz
    refine ⟨len, fun k => zs.getD k 0, some a, cap, rfl, by omega, ?_, (fun h => by cases h), fun k hk => ?_⟩
    · by_cases h0 : len = 0
      · exact .inl h0
      · obtain ⟨b, off, rfl, hat⟩ := ints_at hcell (by omega)
        exact .inr ⟨b, off, rfl, fun k hk => hat k (by omega)⟩
    · have hk2 : k < zs.length := by omega
      have e2 : zs.getD k 0 = zs[k] := by simp [List.getD, List.getElem?_eq_getElem hk2]
      have h1 := hwz _ (List.getElem_mem hk2)
      simp only [Lit.wf, Bool.and_eq_true, decide_eq_true_eq] at h1
      have h2 : (-9223372036854775808 : Int) ≤ zs[k] := h1.1
      have h3 : zs[k] ≤ 9223372036854775807 := h1.2
      show _ ≤ zs.getD k 0 ∧ zs.getD k 0 ≤ _
      rw [e2]; exact ⟨h2, h3⟩
theorem OwnI.on {w w' : World} {base n : Nat} {v : Value} {D : Nat → Int} (h : OwnI w base v n D) (hb : Below w.heap.size w w') : OwnI w' base v n D :=
  World.ownsRow.kept h (row := none) ⟨hb.os, hb.tape, hb.output, hb.size, fun k hk _ => hb.block k hk⟩ (by cases v.ownBlock with
    | none => exact .inl rfl
    | some k => exact .inr (fun h => by cases h))
theorem OwnI.ints {w : World} {base n cap : Nat} {a : Option Addr} {D : Nat → Int} (h : OwnI w base (.slice a n cap) n D) : IntsAt w a n D := by
  obtain ⟨a', c', e, hx, _⟩ := h.slice
  simp only [Value.slice.injEq, true_and] at e
  rw [e.1]; exact hx
end Go.Proofs.YtgcodlicbdaddaaGreatDoor
end

section
set_option linter.unusedVariables false
set_option linter.unusedSimpArgs false
namespace Go.Proofs.YtgcodlicbdaddaaGreatDoor
open Go.RowKit BigFrame

theorem holds_nil (n : Int) (w : World) : Calls Tryz.prog 173 #[.pointer none, .int .i64 n] w fun e w' => e = .returned (.bool false) ∧ w = w' := by
  go_enter Tryz.func173, Tryz.ntmps173
  go_wp2_with fail
  go_ret
  exact ⟨rfl, rfl⟩
theorem list_nil (w : World) : Calls Tryz.prog 129 #[.pointer none] w fun e w' => e = .returned (.slice none 0 0) ∧ w = w' := by
  go_enter Tryz.func129, Tryz.ntmps129
  go_wp2_with fail
  go_ret
  exact ⟨rfl, rfl⟩

def HoRel (L : List Plc) (n : Int) (w : World) (i : Value) (wr : World) : Prop := ∃ k : Nat, k ≤ 16 ∧ i = .int .i64 k ∧ (∀ j, j < k → ((pl L j).on && ((pl L j).nd == n)) = false) ∧ Below w.heap.size w wr
attribute [local go_sem ↓] ldT_of ixT_of stP_of
set_option maxHeartbeats 1000000 in
theorem holds_any (a : Nat) (n : Int) (L : List Plc) (w : World) (h : TabAt w a L) :
    Calls Tryz.prog 173 #[.pointer (some ⟨a, 0, none⟩), .int .i64 n] w (Tells (.bool (heldB L n 16)) w) := by
  have hld := run_ldT h.row.whole h.len
  have h' := Lib.hid h
  unfold tv at hld
  clear h
  go_enter Tryz.func173, Tryz.ntmps173
  go_wp2_with fail
  clear hld
  go_loopw [13] (fun i wr => HoRel L n w i wr) (fun i _ => 16 - (intOf i).toNat)
  case atStart => exact ⟨0, by omega, rfl, fun k hk => by omega, Below.refl _ _⟩
  case round =>
    obtain ⟨k, hk, rfl, hno0, hbel⟩ := hrel
    have hno := Lib.hid hno0
    have hB := Lib.hid hbel
    clear hno0 hbel
    by_cases hlt : k < 16
    · have k0 : (0 : Int) ≤ (k : Int) := by omega
      have k1 : (k : Int) < 16 := by omega
      have hix := fun w => run_ixT w L k hlt h'.out.len
      obtain ⟨s, hs⟩ : ∃ s, pl L k = s := ⟨_, rfl⟩
      rw [hs] at hix
      have hs' := Lib.hid hs
      clear hs
      unfold tv pv at hix
      cases ho0 : s.on
      · have ho := Lib.hid ho0
        clear ho0
        go_wp2_with (refine wpList_alloc_place rfl rfl ?_; intro g2 w2 hv2 hg2 hb2; have hst := run_stP (s := s) (hv2.out.there (o := 0) (n := 4) (by simp [pc])); have V2 := Lib.hid (hv2.out.over (m := pc s) rfl); have c0 := V2.out.cell (k := 0) rfl; rw [ho.out] at c0; have B2 := Lib.hid (below_setCells (below_two hB.out hb2) (Nat.le_trans hB.out.size hg2) 0 (pc s)); unfold pv at hst; clear hb2)
        exact ⟨⟨k + 1, by omega, by go_num, fun j hj => by
          by_cases e : j = k
          · subst e; rw [hs'.out, ho.out]; rfl
          · exact hno.out j (by omega), B2.out⟩, by simp [intOf]; omega⟩
      · have ho := Lib.hid ho0
        clear ho0
        obtain ⟨z, hz⟩ : ∃ z, s.nd = z := ⟨_, rfl⟩
        have hz' := Lib.hid hz
        clear hz
        cases hn0 : (z == n)
        · go_wp2_with (refine wpList_alloc_place rfl rfl ?_; intro g2 w2 hv2 hg2 hb2; have hst := run_stP (s := s) (hv2.out.there (o := 0) (n := 4) (by simp [pc])); have V2 := Lib.hid (hv2.out.over (m := pc s) rfl); have c0 := V2.out.cell (k := 0) rfl; have c1 := V2.out.cell (k := 1) rfl; rw [ho.out] at c0; rw [hz'.out] at c1; have B2 := Lib.hid (below_setCells (below_two hB.out hb2) (Nat.le_trans hB.out.size hg2) 0 (pc s)); unfold pv at hst; clear hb2)
          exact ⟨⟨k + 1, by omega, by go_num, fun j hj => by
            by_cases e : j = k
            · subst e; rw [hs'.out, ho.out, hz'.out, hn0]; rfl
            · exact hno.out j (by omega), B2.out⟩, by simp [intOf]; omega⟩
        · have hend := Lib.hid (held_yes (L := L) (n := n) (m := 16) hlt (by rw [hs'.out]; exact ho.out) (by rw [hs'.out, hz'.out]; exact hn0))
          go_wp2_with (refine wpList_alloc_place rfl rfl ?_; intro g2 w2 hv2 hg2 hb2; have hst := run_stP (s := s) (hv2.out.there (o := 0) (n := 4) (by simp [pc])); have V2 := Lib.hid (hv2.out.over (m := pc s) rfl); have c0 := V2.out.cell (k := 0) rfl; have c1 := V2.out.cell (k := 1) rfl; rw [ho.out] at c0; rw [hz'.out] at c1; have B2 := Lib.hid (below_setCells (below_two hB.out hb2) (Nat.le_trans hB.out.size hg2) 0 (pc s)); unfold pv at hst; clear hb2)
          go_ret
          exact ⟨by rw [hend.out]; rfl, B2.out⟩
    · obtain rfl : k = 16 := by omega
      have hend := Lib.hid (held_no hno.out)
      go_wp2_with fail
      go_ret
      exact ⟨by rw [hend.out]; rfl, hB.out⟩

theorem own_no {w : World} {base : Nat} {v : Value} {L : List Plc} {k : Nat} (h : OwnI w base v (openC L k) (zn (openN L k))) (ho : (pl L k).on = false) : OwnI w base v (openC L (k + 1)) (zn (openN L (k + 1))) := by
  unfold openC at *
  rw [openN_no ho]; exact h
theorem own_yes {w : World} {base : Nat} {v : Value} {L : List Plc} {k : Nat} (h : OwnI w base v (openC L k + 1) (joinI (zn (openN L k)) (openC L k) (fun _ => (k : Int)))) (ho : (pl L k).on = true) : OwnI w base v (openC L (k + 1)) (zn (openN L (k + 1))) := by
  unfold openC at *
  rw [openN_yes ho, List.length_append]
  refine h.congr fun p hp => ?_
  unfold joinI
  by_cases e : p < (openN L k).length
  · rw [if_pos e, zn_left e]
  · rw [if_neg e, zn_one (by omega)]
def LiRel (L : List Plc) (w : World) (s i : Value) (wr : World) : Prop :=
  ∃ k : Nat, k ≤ 16 ∧ i = .int .i64 k ∧ OwnI wr w.heap.size s (openC L k) (zn (openN L k)) ∧ Below w.heap.size w wr
/-- those that are open, rising, in a slice of the call's own -/
def ListPost (L : List Plc) (w : World) (e : Ending) (w' : World) : Prop :=
  ∃ v, e = .returned v ∧ OwnI w' w.heap.size v (openC L 16) (zn (openN L 16)) ∧ Below w.heap.size w w'
set_option maxHeartbeats 1000000 in
theorem list_any (a : Nat) (L : List Plc) (w : World) (h : TabAt w a L) :
    Calls Tryz.prog 129 #[.pointer (some ⟨a, 0, none⟩)] w (ListPost L w) := by
  have hld := run_ldT h.row.whole h.len
  have h' := Lib.hid h
  unfold tv at hld
  clear h
  go_enter Tryz.func129, Tryz.ntmps129
  go_wp2_with fail
  clear hld
  go_loopw [3, 12] (fun s i wr => LiRel L w s i wr) (fun _ i _ => 16 - (intOf i).toNat)
  case atStart => exact ⟨0, by omega, rfl, OwnI.nil _ _ _, Below.refl _ _⟩
  case round =>
    obtain ⟨k, hk, rfl, hO0, hbel⟩ := hrel
    have hO := Lib.hid hO0
    have hB := Lib.hid hbel
    have hle := openC_le L k
    clear hO0 hbel
    by_cases hlt : k < 16
    · have k0 : (0 : Int) ≤ (k : Int) := by omega
      have k1 : (k : Int) < 16 := by omega
      have hix := fun w => run_ixT w L k hlt h'.out.len
      obtain ⟨s, hs⟩ : ∃ s, pl L k = s := ⟨_, rfl⟩
      rw [hs] at hix
      have hs' := Lib.hid hs
      clear hs
      unfold tv pv at hix
      have tk0 : True := trivial
      cases ho0 : s.on
      · have ho := Lib.hid ho0
        clear ho0
        go_wp2_with (clear tk0; refine wpList_alloc_place rfl rfl ?_; intro g2 w2 hv2 hg2 hb2; have hst := run_stP (s := s) (hv2.out.there (o := 0) (n := 4) (by simp [pc])); have V2 := Lib.hid (hv2.out.over (m := pc s) rfl); have c0 := V2.out.cell (k := 0) rfl; rw [ho.out] at c0; have B2 := Lib.hid (below_setCells (below_two hB.out hb2) (Nat.le_trans hB.out.size hg2) 0 (pc s)); have O2 := Lib.hid (hO.out.on (below_setCells hb2 hg2 0 (pc s))); unfold pv at hst; clear hb2)
        exact ⟨⟨k + 1, by omega, by go_num, own_no O2.out (by rw [hs'.out]; exact ho.out), B2.out⟩, by simp [intOf]; omega⟩
      · have ho := Lib.hid ho0
        clear ho0
        go_wp2_with (first
          | (clear tk0; refine wpList_alloc_place rfl rfl ?_; intro g2 w2 hv2 hg2 hb2; have hst := run_stP (s := s) (hv2.out.there (o := 0) (n := 4) (by simp [pc])); have V2 := Lib.hid (hv2.out.over (m := pc s) rfl); have c0 := V2.out.cell (k := 0) rfl; rw [ho.out] at c0; have B2 := Lib.hid (below_setCells (below_two hB.out hb2) (Nat.le_trans hB.out.size hg2) 0 (pc s)); have O2 := Lib.hid (hO.out.on (below_setCells hb2 hg2 0 (pc s))); unfold pv at hst; clear hb2)
          | (at_builtin; refine wpList_append_ints rfl (.tmp 18) (.tmp 20) rfl w.heap.size (openC L k) _ (zn (openN L k)) rfl (O2.out.alloc _) _ 1 1 (fun _ => (k : Int)) rfl (int_new _ (k : Int) 3) (fun h => by cases h) (by omega) (B2.out.alloc B2.out.size _).size ?_; intro v3 w3 ho3 hg3 hb3; have B3 := Lib.hid ((B2.out.alloc B2.out.size _).trans hb3)))
        exact ⟨⟨k + 1, by omega, by go_num, own_yes ho3.out (by rw [hs'.out]; exact ho.out), B3.out⟩, by simp [intOf]; omega⟩
    · obtain rfl : k = 16 := by omega
      go_wp2_with fail
      go_ret
      exact ⟨_, rfl, hO.out, hB.out⟩
end Go.Proofs.YtgcodlicbdaddaaGreatDoor
end

section
set_option linter.unusedVariables false
set_option linter.unusedSimpArgs false
namespace Go.Proofs.YtgcodlicbdaddaaGreatDoor
open Go.RowKit BigFrame

attribute [local go_sem ↓] ldG_of stG_of stP_of bdP_of bdG_of
theorem close_nil (fd : Int) (w : World) : Calls Tryz.prog 133 #[.pointer none, .int .i64 fd] w fun e w' => e = .returned (.tuple #[.int .i64 0, .int .i64 1]) ∧ w = w' := by
  go_enter Tryz.func133, Tryz.ntmps133
  go_wp2_with (go_at_call 149; refine (find_nil _ _).mono ?_; rintro e w1 ⟨rfl, rfl⟩)
  go_ret2
  exact ⟨rfl, rfl⟩
theorem close_bad (a : Nat) (fd : Int) (L : List Plc) (w : World) (h : TabAt w a L) (hf : thereB L fd = false) :
    Calls Tryz.prog 133 #[.pointer (some ⟨a, 0, none⟩), .int .i64 fd] w (GivesT (.tuple #[.int .i64 0, .int .i64 10]) a L w) := by
  have h' := Lib.hid h
  clear h
  go_enter Tryz.func133, Tryz.ntmps133
  go_wp2_with (go_at_call 149; refine (find_bad _ _ L _ h'.out hf).mono ?_; rintro e w1 ⟨rfl, rfl⟩)
  go_ret2
  exact ⟨rfl, h'.out, Turn.refl _ _⟩
theorem close_on (a k : Nat) (L : List Plc) (w : World) (h : TabAt w a L) (hk : k < 16) (ho : (pl L k).on = true) :
    Calls Tryz.prog 133 #[.pointer (some ⟨a, 0, none⟩), .int .i64 (k : Int)] w (GivesT (.tuple #[.int .i64 (pl L k).nd, .int .i64 0]) a (L.set k p0) w) := by
  have c1 := h.cell (j := 1) hk (by omega) rfl
  have hst := run_stP (s := p0) (h.row.there (o := k * 4) (n := 4) (by rw [tc_length, h.len]; omega))
  have hbd := run_bd0P
  unfold pv at hst hbd
  have h' := Lib.hid h
  clear h
  go_enter Tryz.func133, Tryz.ntmps133
  go_wp2_with (go_at_call 149; refine (find_on _ k L _ h'.out hk ho).mono ?_; rintro e w1 ⟨rfl, rfl⟩)
  go_ret2
  exact ⟨rfl, h'.out.put hk p0, turn_cells _ _ _ _⟩

theorem wpList_alloc_file {w : World} {ops : Array Oper} {rest : List Oper} {o : Oper} {a : Act} {Q : Exit → Act → World → Prop} (hgd : o.guard = none) (ho : o.op = .alloc 113)
    (h : ∀ g w1, Hid (Vw w1 113 g (gc p0)) → w.heap.size ≤ g → Below w.heap.size w w1 → wpList Tryz.prog ops Q rest (a.put o.dst (.pointer (some ⟨g, 0, none⟩))) w1) : wpList Tryz.prog ops Q (o :: rest) a w := by
  refine wpList_plain hgd fun K hK => ?_
  have hz := (zero_of_info Tryz.infoFile).1 w
  unfold Oper.wp
  simp [execOp, ho, Instr.alloc, Sem.run_bind, hz, newVar, Value.cells, gv, Result.andThen]
  exact hK _ _ (h _ _ (heap_alloc_new w _) (Nat.le_refl _) ((Below.refl _ _).alloc (Nat.le_refl _) _))
theorem file_ret {fn : Func} {p u : Tmp} (h : fn.results = #[.cell p 113, .tmp u]) {tmps : Array Value} {w : World} {a : Nat} {s : Plc} (hp : tmps.getD p undef = .pointer (some ⟨a, 0, none⟩)) (hV : Vw w 113 a (gc s)) :
    (results fn tmps).run Tryz.prog w = .ok (.tuple #[gv s, tmps.getD u undef]) w := by
  have hp' : tmps[p]?.getD undef = .pointer (some ⟨a, 0, none⟩) := by simpa using hp
  simp [results, h, hp', asAddr, run_loadVar_row w a _ 113 _ _ _ hV Tryz.underlying113 rfl (by rw [Tryz.sizeFile]; simp [gc]), gv]
theorem get_nil (fd : Int) (w : World) : Calls Tryz.prog 96 #[.pointer none, .int .i64 fd] w (Tells (.tuple #[gv p0, .int .i64 1]) w) := by
  have hbd := run_bd0G
  unfold gv at hbd
  have tk0 : True := trivial
  go_enter Tryz.func96, Tryz.ntmps96
  go_wp2_with (first
    | (go_at_call 149; refine (find_nil _ _).mono ?_; rintro e w2 ⟨rfl, rfl⟩)
    | (clear tk0; refine wpList_alloc_file rfl rfl ?_; intro g w1 hv hg hb; have hst := run_stG (s := p0) (hv.out.there (o := 0) (n := 3) (by simp [gc])); have B1 := Lib.hid hb; unfold gv at hst; clear hb))
  refine bodyPost_ret (file_ret rfl rfl (hv.out.over (m := gc p0) rfl)) rfl ⟨rfl, below_setCells B1.out hg 0 _⟩
theorem get_bad (a : Nat) (fd : Int) (L : List Plc) (w : World) (h : TabAt w a L) (hf : thereB L fd = false) :
    Calls Tryz.prog 96 #[.pointer (some ⟨a, 0, none⟩), .int .i64 fd] w (Tells (.tuple #[gv p0, .int .i64 10]) w) := by
  have h' := Lib.hid h
  clear h
  have hbd := run_bd0G
  unfold gv at hbd
  have tk0 : True := trivial
  go_enter Tryz.func96, Tryz.ntmps96
  go_wp2_with (first
    | (go_at_call 149; refine (find_bad _ _ L _ (h'.out.on' B1.out) hf).mono ?_; rintro e w2 ⟨rfl, rfl⟩)
    | (clear tk0; refine wpList_alloc_file rfl rfl ?_; intro g w1 hv hg hb; have hst := run_stG (s := p0) (hv.out.there (o := 0) (n := 3) (by simp [gc])); have B1 := Lib.hid hb; unfold gv at hst; clear hb))
  refine bodyPost_ret (file_ret rfl rfl (hv.out.over (m := gc p0) rfl)) rfl ⟨rfl, below_setCells B1.out hg 0 _⟩
theorem TabAt.file {w : World} {a : Nat} {L : List Plc} (h : TabAt w a L) {k : Nat} (hk : k < 16) : w.rangeAt a (k * 4 + 1) (gc (pl L k)) := fun j v hv => by
  have hj : j < 3 := (List.getElem?_eq_some_iff.1 hv).1
  rw [Nat.add_assoc]
  refine h.cell hk (by omega) ?_
  rw [← hv, Nat.add_comm]
  rfl
theorem get_on (a k : Nat) (L : List Plc) (w : World) (h : TabAt w a L) (hk : k < 16) (ho : (pl L k).on = true) :
    Calls Tryz.prog 96 #[.pointer (some ⟨a, 0, none⟩), .int .i64 (k : Int)] w (Tells (.tuple #[gv (pl L k), .int .i64 0]) w) := by
  have h' := Lib.hid h
  clear h
  have tk0 : True := trivial
  go_enter Tryz.func96, Tryz.ntmps96
  go_wp2_with (first
    | (go_at_call 149; refine (find_on _ k L _ (h'.out.on' B1.out) hk ho).mono ?_; rintro e w2 ⟨rfl, rfl⟩)
    | (clear tk0; refine wpList_alloc_file rfl rfl ?_; intro g w1 hv hg hb; have hst := run_stG (s := pl L k) (hv.out.there (o := 0) (n := 3) (by simp [gc])); have hld := run_ldG ((h'.out.on' hb).file hk); have B1 := Lib.hid hb; unfold gv at hst hld; clear hb))
  refine bodyPost_ret (file_ret rfl rfl (hv.out.over (m := gc (pl L k)) rfl)) rfl ⟨rfl, below_setCells B1.out hg 0 _⟩
end Go.Proofs.YtgcodlicbdaddaaGreatDoor
end

section
set_option linter.unusedVariables false
set_option linter.unusedSimpArgs false
namespace Go.Proofs.YtgcodlicbdaddaaGreatDoor
open Go.RowKit BigFrame

theorem eqG_of (x y : Value) : Op.equalIn 10000 113 x y = eqA 113 x y := rfl
theorem Tryz.heldFile : Tryz.prog.stoodInHeld 113 = false := by kernel_rfl
theorem Tryz.eqGuardFile : Tryz.prog.eqGuardType Tryz.prog.depth 113 = false := by kernel_rfl
/-- the same file -/
def sameF (s t : Plc) : Bool := (s.nd == t.nd) && ((s.off == t.off) && (s.fl == t.fl))
theorem sameF_refl (s : Plc) : sameF s s = true := by simp [sameF]
set_option maxRecDepth 100000 in
theorem run_eqG (s t : Plc) (w : World) : (eqA 113 (gv s) (gv t)).run Tryz.prog w = .ok (sameF s t) w := by
  have hf : Tryz.prog.underlying 113 = some (.struct (Tryz.prog.fieldsOf 113)) := by unfold Program.fieldsOf; rw [Tryz.underlying113]
  have h := run_equalIn_struct (P := Tryz.prog) w 9999 113 (gc s).toArray (gc t).toArray hf Tryz.heldFile
  unfold gv eqA
  rw [h]
  simp only [Program.fieldsOf, Tryz.underlying113]
  rw [eqFieldsW (a := .int .i64 s.nd) (b := .int .i64 t.nd) (r := s.nd == t.nd) (by decide) Tryz.underlying3 rfl rfl rfl (run_equalIn_int w 9998 _ .i64 .i64 _ _ Tryz.underlying3),
    eqFieldsW (a := .int .i64 s.off) (b := .int .i64 t.off) (r := s.off == t.off) (by decide) Tryz.underlying3 rfl rfl rfl (run_equalIn_int w 9998 _ .i64 .i64 _ _ Tryz.underlying3),
    eqFieldsW (a := .int .i64 s.fl) (b := .int .i64 t.fl) (r := s.fl == t.fl) (by decide) Tryz.underlying3 rfl rfl rfl (run_equalIn_int w 9998 _ .i64 .i64 _ _ Tryz.underlying3), eqFields_nil]
  unfold sameF
  cases (s.nd == t.nd) <;> cases (s.off == t.off) <;> cases (s.fl == t.fl) <;> rfl

theorem get_c (a k : Nat) (K : Int) (L : List Plc) (s : Plc) (w : World) (h : TabAt w a L) (hK : K = (k : Int)) (hk : k < 16) (ho : (pl L k).on = true) (hs : pl L k = s) :
    Calls Tryz.prog 96 #[.pointer (some ⟨a, 0, none⟩), .int .i64 K] w (Tells (.tuple #[gv s, .int .i64 0]) w) := by
  subst hK hs; exact get_on a k L w h hk ho
theorem open_c (a q : Nat) (n f R : Int) (L L' : List Plc) (w : World) (h : TabAt w a L) (hq : LeastP L q) (hq16 : q < 16) (hR : R = (q : Int)) (hL : openL L q n f = L') :
    Calls Tryz.prog 132 #[.pointer (some ⟨a, 0, none⟩), .int .i64 n, .int .i64 f] w (GivesT (.tuple #[.int .i64 R, .int .i64 0]) a L' w) := by
  subst hR hL; exact open_some a q n f L w h hq hq16
theorem holds_is (a : Nat) (n : Int) (L : List Plc) (r : Bool) (w : World) (h : TabAt w a L) (hr : heldB L n 16 = r) :
    Calls Tryz.prog 173 #[.pointer (some ⟨a, 0, none⟩), .int .i64 n] w (Tells (.bool r) w) := by
  subst hr; exact holds_any a n L w h
/-- a file in a variable of the call's own, beside a table -/
structure FileAt (w : World) (g : Nat) (s : Plc) : Prop where
  row : Vw w 113 g (gc s)
theorem FileAt.on' {w w' : World} {g : Nat} {s : Plc} (h : FileAt w g s) (hb : Below w.heap.size w w') : FileAt w' g s := ⟨h.row.on' hb⟩
end Go.Proofs.YtgcodlicbdaddaaGreatDoor
end
