/-
  What a disk has: what is firm, what waits, what is seen; what a flush and a crash make of it. Lists and functions alone.
  A call that only reads.
  Integers: in memory, in slices of the call's own, and how they grow by append.
-/
import Derived.Test.YtnfaeejeipbciaaB1
import Derived.Test.YtnfaeejeipbciaaRows
import Derived.Test.YtnfaeejeipbciaaB2
import Derived.WalkKit
import Derived.ProofKit
import Derived.Handy
import Derived.OpenShut
import Derived.Lib.Hide
import Derived.Laws.AppendOwn
import Derived.Laws.AppendOwnNone
import Derived.Laws.CopyOwn
import Derived.Deep.OwnRows
import Derived.OwnWalk
import Derived.Deep.QuietTactic
import Derived.BigQuiet

section
set_option linter.unusedVariables false
set_option linter.unusedSimpArgs false
namespace Go.Proofs.Ytnfaeejeipbciaa

/-- a function, one place turned -/
def updF (f : Nat → List Nat) (a : Nat) (b : List Nat) (i : Nat) : List Nat := if i = a then b else f i
theorem updF_same (f : Nat → List Nat) (a : Nat) (b : List Nat) : updF f a b a = b := by simp [updF]
theorem updF_other {f : Nat → List Nat} {a i : Nat} {b : List Nat} (h : i ≠ a) : updF f a b i = f i := by simp [updF, h]
/-- writes, one behind the other, over what is there -/
def appl (f : Nat → List Nat) : List (Nat × List Nat) → Nat → List Nat
  | [] => f
  | p :: r => appl (updF f p.1 p.2) r
theorem appl_append : ∀ (l m : List (Nat × List Nat)) (f : Nat → List Nat), appl f (l ++ m) = appl (appl f l) m
  | [], _, _ => rfl
  | _ :: l, m, _ => appl_append l m _
theorem appl_snoc (f : Nat → List Nat) (l : List (Nat × List Nat)) (p : Nat × List Nat) : appl f (l ++ [p]) = updF (appl f l) p.1 p.2 := by
  rw [appl_append]; rfl
theorem appl_congr : ∀ (l : List (Nat × List Nat)) (f g : Nat → List Nat) (i : Nat), f i = g i → appl f l i = appl g l i
  | [], _, _, _, h => h
  | p :: l, f, g, i, h => appl_congr l _ _ i (by unfold updF; split <;> first | rfl | exact h)
theorem appl_away : ∀ (l : List (Nat × List Nat)) (f : Nat → List Nat) (i : Nat), (∀ p ∈ l, p.1 ≠ i) → appl f l i = f i
  | [], _, _, _ => rfl
  | p :: l, f, i, h => by
    show appl (updF f p.1 p.2) l i = f i
    rw [appl_away l _ i (fun q hq => h q (List.mem_cons_of_mem _ hq)), updF_other (fun e => h p List.mem_cons_self e.symm)]
/-- is the i-th one kept? -/
def keepAt (K : List Bool) (i : Nat) : Bool := decide (0 < K.length) && K.getD (i % K.length) false
/-- the i-th of the writes -/
def wtAt (l : List (Nat × List Nat)) (i : Nat) : Nat × List Nat := l.getD i (0, [])
theorem wtAt_get {l : List (Nat × List Nat)} {i : Nat} (h : i < l.length) : wtAt l i = l[i] := by simp [wtAt, List.getD, List.getElem?_eq_getElem h]
theorem wtAt_mem {l : List (Nat × List Nat)} {i : Nat} (h : i < l.length) : wtAt l i ∈ l := by rw [wtAt_get h]; exact List.getElem_mem h
theorem take_succ_wt {l : List (Nat × List Nat)} {k : Nat} (h : k < l.length) : l.take (k + 1) = l.take k ++ [wtAt l k] := by
  rw [wtAt_get h, List.take_succ_eq_append_getElem h]
/-- those of the first k that are kept -/
def keptN (K : List Bool) (l : List (Nat × List Nat)) : Nat → List (Nat × List Nat)
  | 0 => []
  | k + 1 => keptN K l k ++ (if keepAt K k then [wtAt l k] else [])
theorem keptN_mem {K : List Bool} {l : List (Nat × List Nat)} : ∀ {k : Nat}, k ≤ l.length → ∀ p ∈ keptN K l k, p ∈ l
  | 0, _, _, h => by cases h
  | k + 1, hk, p, h => by
    rw [keptN, List.mem_append] at h
    rcases h with h | h
    · exact keptN_mem (by omega) p h
    · split at h
      · rw [List.mem_singleton] at h; subst h; exact wtAt_mem (by omega)
      · cases h
/-- a disk: is it on, how many sectors, what is firm, what waits, what was written, how many flushes, what it is armed for -/
structure Dk where
  on : Bool
  n : Nat
  firm : Nat → List Nat
  waits : List (Nat × List Nat)
  log : List Nat
  flushes : Nat
  set : Bool
  after : Nat
  keep : List Bool
/-- one more waits; one more is told -/
def Dk.waited (d : Dk) (p : Nat × List Nat) : Dk := { d with waits := d.waits ++ [p] }
def Dk.logged (d : Dk) (a : Nat) : Dk := { d with log := d.log ++ [a] }
/-- the same, but for what is firm -/
def Dk.withFirm (d : Dk) (f : Nat → List Nat) : Dk := { d with firm := f }
/-- what is read -/
def Dk.seen (d : Dk) : Nat → List Nat := appl d.firm d.waits
/-- what holds of each -/
structure Dk.Fine (d : Dk) : Prop where
  n : d.n ≤ 2048
  firm : ∀ i, i < d.n → (d.firm i).length = 128
  waits : ∀ p ∈ d.waits, p.1 < d.n ∧ p.2.length = 128
  many : d.waits.length ≤ 1000
  logs : d.log.length ≤ 1000
  flush : d.flushes ≤ 1000
  keeps : d.keep.length ≤ 1000
  aft : d.after < 9223372036854775808
theorem appl_len : ∀ (l : List (Nat × List Nat)) (f : Nat → List Nat) (n : Nat), (∀ i, i < n → (f i).length = 128) → (∀ p ∈ l, p.1 < n ∧ p.2.length = 128) → ∀ i, i < n → (appl f l i).length = 128
  | [], _, _, h, _, i, hi => h i hi
  | p :: l, f, n, h, hl, i, hi => appl_len l (updF f p.1 p.2) n (fun j hj => by
      unfold updF; split
      · exact (hl p List.mem_cons_self).2
      · exact h j hj) (fun q hq => hl q (List.mem_cons_of_mem _ hq)) i hi
theorem Dk.Fine.seen {d : Dk} (h : d.Fine) {i : Nat} (hi : i < d.n) : (d.seen i).length = 128 := appl_len _ _ _ h.firm h.waits i hi
def Dk.wrote (d : Dk) (a : Nat) (b : List Nat) : Dk := { d with waits := d.waits ++ [(a, b)], log := d.log ++ [a] }
def Dk.flushed (d : Dk) : Dk := { d with firm := d.seen, waits := [], flushes := d.flushes + 1 }
def Dk.crashed (d : Dk) (K : List Bool) : Dk := { d with firm := appl d.firm (keptN K d.waits d.waits.length), waits := [], on := false, set := false, after := 0, keep := [] }
def Dk.booted (d : Dk) : Dk := { d with on := true }
def Dk.armed (d : Dk) (a : Nat) (K : List Bool) : Dk := { d with set := true, after := a, keep := K }
def Dk.ticked (d : Dk) : Dk := { d with after := d.after - 1 }
/-- a disk of these sectors -/
def Dk.fresh (n : Nat) (f : Nat → List Nat) : Dk := { on := true, n := n, firm := f, waits := [], log := [], flushes := 0, set := false, after := 0, keep := [] }
theorem crashed_len {d : Dk} (h : d.Fine) (K : List Bool) : ∀ i, i < d.n → ((d.crashed K).firm i).length = 128 :=
  appl_len _ _ _ h.firm (fun p hp => h.waits p (keptN_mem (Nat.le_refl _) p hp))
theorem Dk.Fine.crashed {d : Dk} (h : d.Fine) (K : List Bool) : (d.crashed K).Fine :=
  ⟨h.n, crashed_len h K, (fun p hp => by cases hp), by simp [Dk.crashed], h.logs, h.flush, by simp [Dk.crashed], by simp [Dk.crashed]⟩
theorem Dk.Fine.flushed {d : Dk} (h : d.Fine) (hf : d.flushes < 1000) : d.flushed.Fine :=
  ⟨h.n, fun i hi => h.seen hi, (fun p hp => by cases hp), by simp [Dk.flushed], h.logs, by simp [Dk.flushed]; omega, h.keeps, h.aft⟩
theorem Dk.Fine.wrote {d : Dk} (h : d.Fine) {a : Nat} {b : List Nat} (ha : a < d.n) (hb : b.length = 128) (h1 : d.waits.length < 1000) (h2 : d.log.length < 1000) : (d.wrote a b).Fine :=
  ⟨h.n, h.firm, (fun p hp => by
    simp only [Dk.wrote, List.mem_append, List.mem_singleton] at hp
    rcases hp with hp | rfl
    · exact h.waits p hp
    · exact ⟨ha, hb⟩), by simp [Dk.wrote]; omega, by simp [Dk.wrote]; omega, h.flush, h.keeps, h.aft⟩
theorem Dk.Fine.booted {d : Dk} (h : d.Fine) : d.booted.Fine := ⟨h.n, h.firm, h.waits, h.many, h.logs, h.flush, h.keeps, h.aft⟩
theorem Dk.Fine.armed {d : Dk} (h : d.Fine) {a : Nat} {K : List Bool} (ha : a < 9223372036854775808) (hK : K.length ≤ 1000) : (d.armed a K).Fine := ⟨h.n, h.firm, h.waits, h.many, h.logs, h.flush, hK, ha⟩
theorem Dk.Fine.ticked {d : Dk} (h : d.Fine) : d.ticked.Fine := ⟨h.n, h.firm, h.waits, h.many, h.logs, h.flush, h.keeps, by have := h.aft; simp only [Dk.ticked]; omega⟩
theorem Dk.Fine.fresh {n : Nat} {f : Nat → List Nat} (hn : n ≤ 2048) (hf : ∀ i, i < n → (f i).length = 128) : (Dk.fresh n f).Fine :=
  ⟨hn, hf, (fun p hp => by cases hp), by simp [Dk.fresh], by simp [Dk.fresh], by simp [Dk.fresh], by simp [Dk.fresh], by simp [Dk.fresh]⟩
theorem Dk.Fine.waited {d : Dk} (h : d.Fine) {p : Nat × List Nat} (ha : p.1 < d.n) (hb : p.2.length = 128) (h1 : d.waits.length < 1000) : (d.waited p).Fine :=
  ⟨h.n, h.firm, (fun q hq => by
    simp only [Dk.waited, List.mem_append, List.mem_singleton] at hq
    rcases hq with hq | rfl
    · exact h.waits q hq
    · exact ⟨ha, hb⟩), by simp [Dk.waited]; omega, h.logs, h.flush, h.keeps, h.aft⟩
theorem Dk.Fine.logged {d : Dk} (h : d.Fine) {a : Nat} (h1 : d.log.length < 1000) : (d.logged a).Fine :=
  ⟨h.n, h.firm, h.waits, h.many, by simp [Dk.logged]; omega, h.flush, h.keeps, h.aft⟩
end Go.Proofs.Ytnfaeejeipbciaa
end

section
set_option linter.unusedVariables false
set_option linter.unusedSimpArgs false
namespace Go.Proofs.Ytnfaeejeipbciaa
open Go.RowKit BigFrame

def Told (v : Value) (w : World) (e : Ending) (w' : World) : Prop := e = .returned v ∧ ∃ m, w' = w.drewN m

theorem quiet_told {P : Program} {f : FuncId} {args : Array Value} {w : World} {n : Nat} {v : Value} (h : Calls P f args (w.drewN n) fun e w' => e = .returned v ∧ w.drewN n = w') :
    Calls P f args (w.drewN n) fun e w'' => e = .returned v ∧ ∃ m, w'' = w.drewN m := h.mono fun _ _ ⟨he, hw⟩ => ⟨he, n, hw.symm⟩

theorem below_drewN (w : World) (m : Nat) : Below w.heap.size w (w.drewN m) := ⟨rfl, rfl, rfl, Nat.le_refl _, fun _ _ => rfl⟩
theorem Told.below {v : Value} {w w' : World} {e : Ending} (h : Told v w e w') : e = .returned v ∧ Below w.heap.size w w' := by
  obtain ⟨he, m, rfl⟩ := h
  exact ⟨he, below_drewN w m⟩
end Go.Proofs.Ytnfaeejeipbciaa
end

section
set_option linter.unusedVariables false
set_option linter.unusedSimpArgs false
namespace Go.Proofs.Ytnfaeejeipbciaa
open Go.ChangeShapes Go.WideShapes Go.ChangeAt Go.RowKit BigFrame

theorem Try.infoI : (Try.prog.info? 3).map (fun i => (i.zero, i.size, i.bytes)) = some (some (.int .i64 0), 1, 8) := by kernel_rfl

/-- block g holds these numbers at its first n places -/
def At (g n : Nat) (D : Nat → Int) (w : World) : Prop := ∀ p, p < n → w.cell? ⟨g, p, none⟩ = some (.int .i64 (D p)) ∧ w.frozen? ⟨g, p, none⟩ = false
theorem At.drewN {g n m : Nat} {D : Nat → Int} {w : World} (h : At g n D w) : At g n D (w.drewN m) := h
theorem At.drew {g n : Nat} {D : Nat → Int} {w : World} (h : At g n D w) : At g n D w.drew := h
theorem At.congr {g n : Nat} {D D' : Nat → Int} {w : World} (h : At g n D w) (he : ∀ p, p < n → D' p = D p) : At g n D' w := fun p hp => by rw [he p hp]; exact h p hp
/-- one place written -/
def upd (D : Nat → Int) (q : Nat) (v : Int) (p : Nat) : Int := if p = q then v else D p
theorem At.setCell {g n q : Nat} {D : Nat → Int} {w : World} (h : At g n D w) (hq : q < n) (v : Int) : At g n (upd D q v) (w.setCell ⟨g, q, none⟩ (.int .i64 v)) := by
  intro p hp
  unfold upd
  by_cases e : p = q
  · subst e
    rw [if_pos rfl]
    exact ⟨World.cell?_setCell_same _ _ _ (h p hp).1, by rw [World.frozen?_setCell]; exact (h p hp).2⟩
  · rw [if_neg e]
    exact ⟨by rw [World.cell?_setCell_other _ _ _ _ (by intro h; exact e (Addr.mk.inj h).2.1.symm)]; exact (h p hp).1, by rw [World.frozen?_setCell]; exact (h p hp).2⟩

/-- the integers that lie there, if any -/
def IntsAt (w : World) (a : Option Addr) (n : Nat) (R : Nat → Int) : Prop := n = 0 ∨ ∃ b off, a = some ⟨b, off, none⟩ ∧ ∀ k, k < n → w.cell? ⟨b, off + k, none⟩ = some (.int .i64 (R k))
theorem IntsAt.drew {w : World} {a : Option Addr} {n m : Nat} {R : Nat → Int} (h : IntsAt w a n R) : IntsAt (w.drewN m) a n R := h
theorem IntsAt.on {w w' : World} {a : Option Addr} {n B : Nat} {R : Nat → Int} (h : IntsAt w a n R) (hb : Below B w w') (hB : B = w.heap.size) : IntsAt w' a n R := by
  rcases h with h | ⟨b, off, rfl, hx⟩
  · exact .inl h
  · by_cases h0 : 0 < n
    · have hlt : b < w.heap.size := World.block_lt_of_cell? w _ (hx 0 h0)
      exact .inr ⟨b, off, rfl, fun k hk => by rw [hb.cell (p := ⟨b, off + k, none⟩) (by show b < B; omega)]; exact hx k hk⟩
    · exact .inl (by omega)
theorem At.ints {g n : Nat} {C : Nat → Int} {w : World} (h : At g n C w) : IntsAt w (some ⟨g, 0, none⟩) n C := .inr ⟨g, 0, rfl, fun k hk => by rw [Nat.zero_add]; exact (h k hk).1⟩

/-- the first c, as cells -/
def rl (R : Nat → Int) (c : Nat) : List Value := (List.range c).map fun p => .int .i64 (R p)
theorem rl_succ (R : Nat → Int) (c : Nat) : rl R (c + 1) = rl R c ++ [.int .i64 (R c)] := by simp [rl, List.range_succ]
theorem own_ints {w : World} {B n : Nat} {e : TypeId} {v : Value} {R : Nat → Int} (h : w.ownsRow B e 1 v n (rl R n)) : ∃ a cap, v = .slice a n cap ∧ IntsAt w a n R := by
  have h' := h
  rcases h.2 with ⟨rfl, h0⟩ | ⟨g, cap, cur, rfl, _⟩
  · exact ⟨none, 0, by rw [h0], .inl h0⟩
  · refine ⟨_, cap, rfl, .inr ⟨g, 0, rfl, fun k hk => ?_⟩⟩
    rw [Nat.zero_add, h'.cellAt k (by omega)]
    simp [rl, hk]
def OwnI (w : World) (base : Nat) (v : Value) (n : Nat) (D : Nat → Int) : Prop := w.ownsRow base 3 1 v n (rl D n)
def joinI (D : Nat → Int) (n : Nat) (E : Nat → Int) (p : Nat) : Int := if p < n then D p else E (p - n)
theorem rl_length (D : Nat → Int) (n : Nat) : (rl D n).length = n := by simp [rl]
theorem rl_get {D : Nat → Int} {n k : Nat} (h : k < n) : (rl D n)[k]? = some (.int .i64 (D k)) := by simp [rl, h]
theorem rl_at {D : Nat → Int} {n k : Nat} {v : Value} (h : (rl D n)[k]? = some v) : k < n ∧ v = .int .i64 (D k) := by
  have hk : k < n := by have := (List.getElem?_eq_some_iff.1 h).1; rwa [rl_length] at this
  rw [rl_get hk] at h
  exact ⟨hk, (Option.some.inj h).symm⟩
theorem rl_one (D : Nat → Int) (n : Nat) : ∀ v ∈ rl D n, v.oneCell' = true := by
  intro v hv
  obtain ⟨k, _, rfl⟩ := List.mem_map.1 hv
  rfl
theorem rl_join (D : Nat → Int) (n : Nat) (E : Nat → Int) (m : Nat) : rl (joinI D n E) (n + m) = rl D n ++ rl E m := by
  apply List.ext_getElem?
  intro k
  by_cases h1 : k < n
  · rw [List.getElem?_append_left (by rw [rl_length]; exact h1), rl_get h1, rl_get (by omega)]
    simp [joinI, h1]
  · rw [List.getElem?_append_right (by rw [rl_length]; omega), rl_length]
    by_cases h2 : k < n + m
    · rw [rl_get h2, rl_get (by omega)]
      simp [joinI, h1]
    · rw [List.getElem?_eq_none (by rw [rl_length]; omega), List.getElem?_eq_none (by rw [rl_length]; omega)]
theorem rl_congr {D E : Nat → Int} {n : Nat} (h : ∀ p, p < n → D p = E p) : rl D n = rl E n := by
  unfold rl
  apply List.map_congr_left
  intro p hp
  rw [h p (List.mem_range.1 hp)]
theorem OwnI.congr {w : World} {base n : Nat} {v : Value} {D E : Nat → Int} (h : OwnI w base v n D) (he : ∀ p, p < n → D p = E p) : OwnI w base v n E := by
  unfold OwnI; rw [← rl_congr he]; exact h
theorem OwnI.slice {w : World} {base n : Nat} {v : Value} {D : Nat → Int} (h : OwnI w base v n D) : ∃ a cap, v = .slice a n cap ∧ IntsAt w a n D ∧ (a = none → cap = 0) ∧ n ≤ cap ∧ cap ≤ maxLen ∧ ∀ ad, a = some ad → ∃ b, ad = ⟨b, 0, none⟩ := by
  have h' := h
  rcases h.2 with ⟨rfl, h0⟩ | ⟨g, cap, cur, rfl, _, _, hn, hm, _⟩
  · exact ⟨none, 0, by rw [h0], .inl h0, fun _ => rfl, by omega, by unfold maxLen; omega, fun ad h => by cases h⟩
  · refine ⟨_, cap, rfl, .inr ⟨g, 0, rfl, fun k hk => ?_⟩, (fun h => by cases h), hn, hm, fun ad h => by cases h; exact ⟨g, rfl⟩⟩
    rw [Nat.zero_add, World.ownsRow.cellAt h' k (by omega)]
    simp [rl, hk]
theorem OwnI.nil (w : World) (base : Nat) (D : Nat → Int) : OwnI w base (.slice none 0 0) 0 D := World.ownsRow_nil _ _ _ _

theorem run_append_ints {w : World} (base n : Nat) (v : Value) (D : Nat → Int) (ty : TypeId) (hown : OwnI w base v n D) (sp : Option Addr) (m sCap : Nat) (E : Nat → Int) (hsrc : IntsAt w sp m E) (hnil : sp = none → sCap = 0)
    (hlen : n + m ≤ 1000000) (hbase : base ≤ w.heap.size) :
    ∃ v' w', (Builtin.append_ #[37, 37] ty #[v, .slice sp m sCap]).run Try.prog w = .ok v' w' ∧ OwnI w' base v' (n + m) (joinI D n E) ∧ w.grownBy w' v.ownBlock := by
  obtain ⟨i, hi, hz0, hz1, hz2⟩ := info_parts Try.infoI
  cases sp with
  | none =>
    obtain rfl := hnil rfl
    have hm : m = 0 := by
      rcases hsrc with h | ⟨_, _, e, _⟩
      · exact h
      · cases e
    subst hm
    have hr := run_append_owned_none (P := Try.prog) (w := w) base 37 ty 3 i 1 Try.underlying37 hi v n (rl D n) hown
    refine ⟨v, w, hr, ?_, World.grownBy.refl _ _⟩
    exact OwnI.congr (E := joinI D n E) hown (fun p hp => by unfold joinI; rw [if_pos (by omega)])
  | some ad =>
    obtain ⟨v', w', hr, h1, h2, _⟩ := run_append_own (P := Try.prog) w base 37 ty 3 i (.int .i64 0) 1 8 Try.underlying37 hi hz0 hz1 hz2 rfl (by decide) v n (rl D n) hown ad m sCap (rl E m) (by rw [rl_length, Nat.mul_one]) (by
      intro j u hu
      obtain ⟨hj, rfl⟩ := rl_at hu
      rcases hsrc with h | ⟨b, off, e, h⟩
      · omega
      · obtain rfl := Option.some.inj e
        have hadd : (⟨b, off, none⟩ : Addr).add j = ⟨b, off + j, none⟩ := by unfold Addr.add; split <;> simp_all
        rw [hadd]; exact h j hj) (rl_one E m) (by unfold maxLen; omega) (by omega) hbase
    refine ⟨v', w', hr, ?_, h2⟩
    unfold OwnI
    rw [rl_join]; exact h1

theorem step_append_ints {w : World} {ops : Array Oper} {o : Oper} {a : Act} {K : Act → World → Prop} {Q : Exit → Act → World → Prop} {F : Prop} (hgd : o.guard = none) (s x : Operand)
    (ho : o.op = .call { callee := .builtin .append, args := #[s, x], argTypes := #[37, 37] })
    (base n : Nat) (v : Value) (D : Nat → Int) (hs : a.eval s = v) (hown : OwnI w base v n D) (sp : Option Addr) (m sCap : Nat) (E : Nat → Int) (hx : a.eval x = .slice sp m sCap) (hsrc : IntsAt w sp m E) (hnil : sp = none → sCap = 0)
    (hlen : n + m ≤ 1000000) (hbase : base ≤ w.heap.size)
    (h : ∀ v' w', OwnI w' base v' (n + m) (joinI D n E) → w.grownBy w' v.ownBlock → K (a.put o.dst v') w') :
    if Region.wanted o (yielded ops a.tmps) = true then Oper.wp Try.prog o a w K Q else F := by
  have hw : Region.wanted o (yielded ops a.tmps) = true := by simp [Region.wanted, hgd]
  rw [if_pos hw]
  obtain ⟨v', w', hr, h1, h2⟩ := run_append_ints base n v D o.type hown sp m sCap E hsrc hnil hlen hbase
  unfold Oper.wp
  simp [execOp, ho, resolve, invoke, builtin, hs, hx, hr, Result.andThen]
  exact h v' w' h1 h2
theorem IntsAt.less {w : World} {a : Option Addr} {n m : Nat} {R : Nat → Int} (h : IntsAt w a n R) (hm : m ≤ n) : IntsAt w a m R := by
  rcases h with h | ⟨b, off, rfl, hx⟩
  · exact .inl (by omega)
  · exact .inr ⟨b, off, rfl, fun k hk => hx k (by omega)⟩
theorem IntsAt.from {w : World} {b off n q : Nat} {R : Nat → Int} (h : IntsAt w (some ⟨b, off, none⟩) n R) (hq : q ≤ n) : IntsAt w (some ⟨b, off + q, none⟩) (n - q) (fun p => R (q + p)) := by
  rcases h with h | ⟨b', o', e, hx⟩
  · exact .inl (by omega)
  · simp only [Option.some.injEq, Addr.mk.injEq, and_true] at e
    obtain ⟨rfl, rfl⟩ := e
    exact .inr ⟨b, off + q, rfl, fun k hk => by rw [Nat.add_assoc]; exact hx (q + k) (by omega)⟩
theorem int_new (w : World) (x : Int) (t : TypeId) : IntsAt (w.alloc (.cells #[.int .i64 x] t)) (some ⟨w.heap.size, 0, none⟩) 1 (fun _ => x) :=
  .inr ⟨w.heap.size, 0, rfl, fun k hk => by
    obtain rfl : k = 0 := by omega
    rw [cell_of_row _ w.heap.size _ _ _ _ (heap_alloc_new w _)]
    rfl⟩
theorem IntsAt.on' {w w' : World} {a : Option Addr} {n B : Nat} {R : Nat → Int} (h : IntsAt w a n R) (hb : Below B w w') (hB : w.heap.size ≤ B) : IntsAt w' a n R := h.on (hb.mono hB) rfl
theorem below_own {w w' : World} {base n : Nat} {v : Value} {D : Nat → Int} (h : OwnI w base v n D) (hg : w.grownBy w' v.ownBlock) (hb : base ≤ w.heap.size) : Below base w w' :=
  (Below.refl _ _).grown hg hb (fun k hk => (World.ownsRow.lt h k hk).1)

theorem IntsAt.drew1 {w : World} {a : Option Addr} {n : Nat} {R : Nat → Int} (h : IntsAt w a n R) : IntsAt w.drew a n R := h
theorem IntsAt.alloc {w : World} {a : Option Addr} {n : Nat} {R : Nat → Int} (h : IntsAt w a n R) (o : Obj) : IntsAt (w.alloc o) a n R := h.on ((Below.refl _ _).alloc (Nat.le_refl _) _) rfl
theorem OwnI.alloc {w : World} {base n : Nat} {v : Value} {D : Nat → Int} (h : OwnI w base v n D) (o : Obj) : OwnI (w.alloc o) base v n D := World.ownsRow.alloc h o
theorem OwnI.lower {w : World} {base base' n : Nat} {v : Value} {D : Nat → Int} (h : OwnI w base v n D) (hb : base' ≤ base) : OwnI w base' v n D := by
  obtain ⟨h1, h2⟩ := h
  refine ⟨h1, ?_⟩
  rcases h2 with h2 | ⟨g, cap, cur, e, hg, rest⟩
  · exact .inl h2
  · exact .inr ⟨g, cap, cur, e, Nat.le_trans hb hg, rest⟩
theorem below_none {w w' : World} (h : w.grownBy w' none) : Below w.heap.size w w' := (Below.refl _ _).grown h (Nat.le_refl _) (fun k hk => by cases hk)

theorem At.on {g n : Nat} {D : Nat → Int} {w w' : World} {B : Nat} (h : At g n D w) (hb : Below B w w') (hg : g < B) : At g n D w' := fun p hp => by
  rw [hb.cell (p := ⟨g, p, none⟩) hg, hb.frozen (p := ⟨g, p, none⟩) hg]; exact h p hp
theorem wpList_append_ints {w : World} {ops : Array Oper} {rest : List Oper} {o : Oper} {a : Act} {Q : Exit → Act → World → Prop} (hgd : o.guard = none) (s x : Operand)
    (ho : o.op = .call { callee := .builtin .append, args := #[s, x], argTypes := #[37, 37] })
    (base n : Nat) (v : Value) (D : Nat → Int) (hs : a.eval s = v) (hown : OwnI w base v n D) (sp : Option Addr) (m sCap : Nat) (E : Nat → Int) (hx : a.eval x = .slice sp m sCap) (hsrc : IntsAt w sp m E) (hnil : sp = none → sCap = 0)
    (hlen : n + m ≤ 1000000) (hbase : base ≤ w.heap.size)
    (h : ∀ v' w', Hid (OwnI w' base v' (n + m) (joinI D n E)) → w.grownBy w' v.ownBlock → Below base w w' → wpList Try.prog ops Q rest (a.put o.dst v') w') : wpList Try.prog ops Q (o :: rest) a w := by
  refine wpList_plain hgd fun K hK => ?_
  obtain ⟨v', w', hr, h1, h2⟩ := run_append_ints base n v D o.type hown sp m sCap E hsrc hnil hlen hbase
  unfold Oper.wp
  simp [execOp, ho, resolve, invoke, builtin, hs, hx, hr, Result.andThen]
  exact hK _ _ (h v' w' h1 h2 (below_own hown h2 hbase))

/-- a slice of integers that came in -/
def ZSlice (w : World) (v : Value) (n : Nat) (R : Nat → Int) : Prop :=
  ∃ a cap, v = .slice a n cap ∧ n ≤ cap ∧ IntsAt w a n R ∧ (a = none → cap = 0) ∧ ∀ k, k < n → -9223372036854775808 ≤ R k ∧ R k ≤ 9223372036854775807
theorem open_zs {H : Type} {enc : TypeId × Value → H} {P : Program} {W : World} {t e : TypeId} {base : Nat} {v : Value} {d : DataW H} {ps : List MemPlace} (ht : P.underlying t = some (.slice e)) (he : P.underlying e = some (.int .i64)) (hc : P.cellsOf e = 1)
    (hval : Value.okWide P W .any base t v) (h : DataW.Trod enc P W 0 (fun _ => true) true t v d ps) : ∃ n R, ZSlice W v n R := by
  obtain ⟨a0, len, cap, rfl⟩ := okWide_slice ht hval
  obtain ⟨fuel, hf⟩ := h
  rcases open_ints ht he hc hf with ⟨hcs, _⟩ | ⟨a, len', cap', zs, hcs, _, hl, hm, hz, hx, hcell, hwz⟩
  · simp [Value.cells] at hcs
    obtain ⟨rfl, rfl, rfl⟩ := hcs
    exact ⟨0, fun _ => 0, none, 0, rfl, by omega, .inl rfl, fun _ => rfl, fun k hk => absurd hk (by omega)⟩
  · simp [Value.cells] at hcs
    obtain ⟨rfl, rfl, rfl⟩ := hcs
    simp only [if_true] at hz
    refine ⟨len, fun k => zs.getD k 0, some a, cap, rfl, by omega, ?_, (fun h => by cases h), fun k hk => ?_⟩
    · by_cases h0 : len = 0
      · exact .inl h0
      · obtain ⟨b, off, rfl, hat⟩ := ints_at hcell (by omega)
        exact .inr ⟨b, off, rfl, fun k hk => hat k (by omega)⟩
    · have hk2 : k < zs.length := by omega
      have e2 : zs.getD k 0 = zs[k] := by simp [List.getD, List.getElem?_eq_getElem hk2]
      have h1 := hwz _ (List.getElem_mem hk2)
      simp only [Lit.wf, Bool.and_eq_true, decide_eq_true_eq] at h1
      have h2 : (-9223372036854775808 : Int) ≤ zs[k] := h1.1
      have h3 : zs[k] ≤ 9223372036854775807 := h1.2
      show _ ≤ zs.getD k 0 ∧ zs.getD k 0 ≤ _
      rw [e2]; exact ⟨h2, h3⟩
theorem OwnI.on {w w' : World} {base n : Nat} {v : Value} {D : Nat → Int} (h : OwnI w base v n D) (hb : Below w.heap.size w w') : OwnI w' base v n D :=
  World.ownsRow.kept h (row := none) ⟨hb.os, hb.tape, hb.output, hb.size, fun k hk _ => hb.block k hk⟩ (by cases v.ownBlock with
    | none => exact .inl rfl
    | some k => exact .inr (fun h => by cases h))
theorem OwnI.ints {w : World} {base n cap : Nat} {a : Option Addr} {D : Nat → Int} (h : OwnI w base (.slice a n cap) n D) : IntsAt w a n D := by
  obtain ⟨a', c', e, hx, _⟩ := h.slice
  simp only [Value.slice.injEq, true_and] at e
  rw [e.1]; exact hx
end Go.Proofs.Ytnfaeejeipbciaa
end
