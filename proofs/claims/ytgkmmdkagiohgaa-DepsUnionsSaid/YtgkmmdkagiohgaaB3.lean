/-
  Sets of nodes in memory: a list of pointers, and where in it each one stands, by its number.
  A call that only reads.
  A set of nodes: has, empty, last.
  A set of nodes: one is added.
-/
import Derived.Test.YtgkmmdkagiohgaaB1
import Derived.Test.YtgkmmdkagiohgaaB2
import Derived.Maps.AppendAt

section
set_option linter.unusedVariables false
set_option linter.unusedSimpArgs false
namespace Go.Proofs.Ytgkmmdkagiohgaa
open Go.RowKit BigFrame

theorem Try.infoPt : (Try.prog.info? 47).map (fun i => (i.zero, i.size, i.bytes)) = some (some (.pointer none), 1, 8) := by kernel_rfl

/-- from w to w' nothing has turned but blocks of S, and new ones -/
structure TurnS (S : Nat → Prop) (w w' : World) : Prop where
  os : w'.os = w.os
  tape : w'.tape = w.tape
  output : w'.output = w.output
  size : w.heap.size ≤ w'.heap.size
  block : ∀ k, k < w.heap.size → ¬ S k → w'.heap[k]? = w.heap[k]?
theorem TurnS.refl (S : Nat → Prop) (w : World) : TurnS S w w := ⟨rfl, rfl, rfl, Nat.le_refl _, fun _ _ _ => rfl⟩
theorem TurnS.trans {S : Nat → Prop} {u v w : World} (h : TurnS S u v) (k : TurnS S v w) : TurnS S u w :=
  ⟨k.os.trans h.os, k.tape.trans h.tape, k.output.trans h.output, Nat.le_trans h.size k.size, fun i hi hn => (k.block i (Nat.lt_of_lt_of_le hi h.size) hn).trans (h.block i hi hn)⟩
/-- what the second turned may be new, too -/
theorem TurnS.then {S T : Nat → Prop} {u v w : World} (h : TurnS S u v) (k : TurnS T v w) (hs : ∀ j, j < u.heap.size → T j → S j) : TurnS S u w :=
  ⟨k.os.trans h.os, k.tape.trans h.tape, k.output.trans h.output, Nat.le_trans h.size k.size, fun i hi hn => (k.block i (Nat.lt_of_lt_of_le hi h.size) (fun ht => hn (hs i hi ht))).trans (h.block i hi hn)⟩
theorem TurnS.of_below {w w' : World} (S : Nat → Prop) (h : Below w.heap.size w w') : TurnS S w w' := ⟨h.os, h.tape, h.output, h.size, fun k hk _ => h.block k hk⟩
theorem TurnS.mono {S T : Nat → Prop} {w w' : World} (h : TurnS S w w') (hs : ∀ k, k < w.heap.size → S k → T k) : TurnS T w w' := ⟨h.os, h.tape, h.output, h.size, fun k hk hn => h.block k hk fun hf => hn (hs k hk hf)⟩
theorem TurnS.below {S : Nat → Prop} {B : Nat} {w w' : World} (h : TurnS S w w') (hB : B ≤ w.heap.size) (hF : ∀ k, S k → B ≤ k) : Below B w w' :=
  ⟨h.os, h.tape, h.output, h.size, fun k hk => h.block k (by omega) fun hf => by have := hF k hf; omega⟩
theorem TurnS.set (S : Nat → Prop) (w : World) {s : Nat} (hs : S s) (c : Nat) (v : Value) : TurnS S w (w.setCell ⟨s, c, none⟩ v) :=
  ⟨rfl, rfl, rfl, by simp [World.setCell], fun k hk hn => by
    have hne : k ≠ s := fun e => hn (e ▸ hs)
    exact Below.heap_setCell w ⟨s, c, none⟩ v k hne⟩
theorem TurnS.alloc (S : Nat → Prop) (w : World) (o : Obj) : TurnS S w (w.alloc o) := TurnS.of_below S ((Below.refl _ _).alloc (Nat.le_refl _) o)
theorem TurnS.grown {S : Nat → Prop} {w w' : World} {r : Option Nat} (h : w.grownBy w' r) (hs : ∀ k, r = some k → S k) : TurnS S w w' :=
  ⟨h.os, h.tape, h.output, h.size, fun k hk hn => h.block k hk (fun e => hn (hs k e.symm))⟩
theorem TurnS.turned {S : Nat → Prop} {w w' : World} {b : Nat} (h : w.mapTurned w' b) (hs : S b) : TurnS S w w' := TurnS.grown h.grown (fun k e => by cases e; exact hs)
theorem TurnS.drew (S : Nat → Prop) (w : World) (m : Nat) : TurnS S w (w.drewN m) := ⟨rfl, rfl, rfl, Nat.le_refl _, fun _ _ _ => rfl⟩
theorem Vw.turnS {S : Nat → Prop} {g : Nat} {w w' : World} {t : TypeId} {l : List Value} (h : Vw w t g l) (hT : TurnS S w w') (hn : ¬ S g) : Vw w' t g l := by
  unfold Vw; rw [hT.block g h.lt hn]; exact h

/-! ### What stands where -/
/-- the place of x in a list -/
def ix : List Nat → Nat → Option Nat
  | [], _ => none
  | y :: r, x => if y = x then some 0 else (ix r x).map (· + 1)
theorem ix_none : ∀ {L : List Nat} {x : Nat}, x ∉ L → ix L x = none
  | [], _, _ => rfl
  | y :: r, x, h => by
    unfold ix
    rw [if_neg (fun e => h (List.mem_cons.2 (.inl e.symm))), ix_none (fun h2 => h (List.mem_cons_of_mem _ h2))]
    rfl
theorem ix_some : ∀ {L : List Nat} {x : Nat}, x ∈ L → ∃ k, ix L x = some k ∧ k < L.length ∧ L[k]? = some x
  | y :: r, x, h => by
    unfold ix
    by_cases e : y = x
    · rw [if_pos e]; exact ⟨0, rfl, by simp, by simp [e]⟩
    · rw [if_neg e]
      rcases List.mem_cons.1 h with h | h
      · exact absurd h.symm e
      · obtain ⟨k, h1, h2, h3⟩ := ix_some h
        exact ⟨k + 1, by rw [h1]; rfl, by simp only [List.length_cons]; omega, by simpa using h3⟩
theorem ix_isSome (L : List Nat) (x : Nat) : (ix L x).isSome = decide (x ∈ L) := by
  by_cases h : x ∈ L
  · obtain ⟨k, h1, _⟩ := ix_some h
    rw [h1, decide_eq_true h]; rfl
  · rw [ix_none h, decide_eq_false h]; rfl
theorem ix_snoc {L : List Nat} {y : Nat} (hy : y ∉ L) (x : Nat) : ix (L ++ [y]) x = if x = y then some L.length else ix L x := by
  induction L with
  | nil =>
    by_cases e : y = x
    · simp [ix, e]
    · rw [if_neg (Ne.symm e)]; simp [ix, e]
  | cons z r ih =>
    have ih' := ih (fun h => hy (List.mem_cons_of_mem _ h))
    show (if z = x then some 0 else (ix (r ++ [y]) x).map (· + 1)) = _
    rw [ih']
    by_cases e : x = y
    · subst e
      rw [if_neg (fun h => hy (List.mem_cons.2 (.inl h.symm))), if_pos rfl, if_pos rfl]; rfl
    · rw [if_neg e, if_neg e]; rfl

/-! ### Maps -/
theorem key_int {k : Int} (h1 : -9223372036854775808 ≤ k) (h2 : k ≤ 9223372036854775807) : keyOf Try.prog 3 (.int .i64 k) = some (.int .i64 k) :=
  Maps.keyOf_int_mk Try.underlying3 (by simp only [Lit.wf, Bool.and_eq_true, decide_eq_true_eq]; exact ⟨h1, h2⟩)
theorem key_nat {k : Nat} (h : k ≤ 1000000) : keyOf Try.prog 3 (.int .i64 (k : Int)) = some (.int .i64 (k : Int)) := key_int (by omega) (by omega)
theorem same_int (a b : Int) : (Lit.int .i64 a).sameKey (.int .i64 b) = decide (a = b) := by
  by_cases e : a = b
  · subst e
    rw [decide_eq_true rfl]
    simp [Lit.sameKey]
  · rw [decide_eq_false e]
    simp [Lit.sameKey, e]
theorem find_insL (x : Lit × Value) (q : Lit × Value → Bool) : ∀ l : List (Lit × Value), (∀ y ∈ l, q x = true → q y = false) → (insL x l).find? q = if q x = true then some x else l.find? q
  | [], _ => by
    unfold insL
    by_cases e : q x = true
    · simp [e]
    · simp [e]
  | y :: r, h => by
    unfold insL
    by_cases hb : x.1.before y.1 = true
    · rw [if_pos hb]
      by_cases e : q x = true
      · simp [e]
      · simp [e]
    · rw [if_neg hb, List.find?_cons, find_insL x q r (fun z hz => h z (List.mem_cons_of_mem _ hz))]
      by_cases e : q x = true
      · have := h y List.mem_cons_self e
        simp [e, this]
      · rw [if_neg e, if_neg e, List.find?_cons]
theorem fndL_put (l : List (Lit × Value)) (a b : Int) (v : Value) : fndL (insL (.int .i64 a, v) (strL l (.int .i64 a))) (.int .i64 b) = if b = a then some v else fndL l (.int .i64 b) := by
  unfold fndL
  rw [find_insL]
  · simp only [same_int]
    by_cases e : a = b
    · subst e; simp
    · rw [if_neg (by simpa using e), if_neg (Ne.symm e)]
      congr 1
      unfold strL
      rw [List.find?_filter]
      congr 1
      funext p
      by_cases hp : p.1.sameKey (.int .i64 b) = true
      · have := WideAt.sameKey_eq hp
        rw [hp, this, same_int, decide_eq_false (Ne.symm e)]
        simp
      · simp [hp]
  · intro y hy hq
    simp only [same_int, decide_eq_true_eq] at hq
    subst hq
    have := (List.mem_filter.1 hy).2
    simpa using this
theorem strL_none {l : List (Lit × Value)} {kl : Lit} (h : fndL l kl = none) : strL l kl = l := by
  unfold fndL at h
  rw [Option.map_eq_none_iff, List.find?_eq_none] at h
  exact List.filter_eq_self.2 fun p hp => by simpa using h p hp
theorem fndL_str (l : List (Lit × Value)) (a b : Int) : fndL (strL l (.int .i64 a)) (.int .i64 b) = if b = a then none else fndL l (.int .i64 b) := by
  unfold fndL strL
  rw [List.find?_filter]
  by_cases e : b = a
  · subst e
    rw [if_pos rfl, Option.map_eq_none_iff, List.find?_eq_none]
    intro p _
    cases p.1.sameKey (.int .i64 b) <;> simp
  · rw [if_neg e]
    congr 2
    funext p
    by_cases hp : p.1.sameKey (.int .i64 b) = true
    · have := WideAt.sameKey_eq hp
      rw [hp, this, same_int, decide_eq_false e]
      simp
    · simp [hp]

/-! ### A set -/
def pv (b : Nat) : Value := .pointer (some ⟨b, 0, none⟩)
def ptrs (nb : Nat → Nat) (L : List Nat) : List Value := L.map fun x => pv (nb x)
theorem ptrs_len (nb : Nat → Nat) (L : List Nat) : (ptrs nb L).length = L.length := by simp [ptrs]
theorem ptrs_get {nb : Nat → Nat} {L : List Nat} {k x : Nat} (h : L[k]? = some x) : (ptrs nb L)[k]? = some (pv (nb x)) := by simp [ptrs, h]
theorem ptrs_one (nb : Nat → Nat) (L : List Nat) : ∀ v ∈ ptrs nb L, v.oneCell' = true := by
  intro v hv
  obtain ⟨k, _, rfl⟩ := List.mem_map.1 hv
  rfl
/-- a list of nodes of one's own -/
def SlAt (w : World) (B : Nat) (nb : Nat → Nat) (v : Value) (L : List Nat) : Prop := w.ownsRow B 47 1 v L.length (ptrs nb L)
theorem SlAt.slice {w : World} {B : Nat} {nb : Nat → Nat} {v : Value} {L : List Nat} (h : SlAt w B nb v L) : ∃ a cap, v = .slice a L.length cap ∧ L.length ≤ cap ∧ (a = none → L = []) ∧ ∀ ad, a = some ad → ∃ b, ad = ⟨b, 0, none⟩ ∧ v.ownBlock = some b ∧ b < w.heap.size ∧ B ≤ b ∧ ∀ k x, L[k]? = some x → w.cell? ⟨b, k, none⟩ = some (pv (nb x)) := by
  have h' := h
  rcases h.2 with ⟨rfl, h0⟩ | ⟨g, cap, cur, rfl, hb, hg, hn, hm, _⟩
  · exact ⟨none, 0, by rw [h0], by omega, fun _ => List.eq_nil_of_length_eq_zero h0, fun ad h => by cases h⟩
  · refine ⟨_, cap, rfl, hn, (fun h => by cases h), fun ad h => ?_⟩
    cases h
    exact ⟨g, rfl, rfl, (Array.getElem?_eq_some_iff.1 hg).1, hb, fun k x hk => by
      rw [World.ownsRow.cellAt h' k (by have := (List.getElem?_eq_some_iff.1 hk).1; omega)]
      exact ptrs_get hk⟩
theorem SlAt.nil (w : World) (B : Nat) (nb : Nat → Nat) : SlAt w B nb (.slice none 0 0) [] := World.ownsRow_nil _ _ _ _
theorem SlAt.blk {w w' : World} {B : Nat} {nb : Nat → Nat} {v : Value} {L : List Nat} (h : SlAt w B nb v L) (e : ∀ k, v.ownBlock = some k → w'.heap[k]? = w.heap[k]?) : SlAt w' B nb v L := by
  obtain ⟨h1, h2⟩ := h
  refine ⟨h1, ?_⟩
  rcases h2 with h2 | ⟨g, cap, cur, rfl, hb, hg, r⟩
  · exact .inl h2
  · exact .inr ⟨g, cap, cur, rfl, hb, (e g rfl).trans hg, r⟩
theorem SlAt.block {w : World} {B : Nat} {nb : Nat → Nat} {v : Value} {L : List Nat} (h : SlAt w B nb v L) : ∀ k, v.ownBlock = some k → B ≤ k ∧ k < w.heap.size ∧ ∃ c, w.heap[k]? = some (.cells c 47 (0, 0)) := fun k hk => by
  rcases h.2 with ⟨rfl, _⟩ | ⟨g, cap, cur, rfl, hb, hg, r⟩
  · cases hk
  · cases hk
    exact ⟨hb, (Array.getElem?_eq_some_iff.1 hg).1, cur, hg⟩
theorem SlAt.lower {w : World} {B B' : Nat} {nb : Nat → Nat} {v : Value} {L : List Nat} (h : SlAt w B nb v L) (hb : B' ≤ B) : SlAt w B' nb v L := by
  obtain ⟨h1, h2⟩ := h
  refine ⟨h1, ?_⟩
  rcases h2 with h2 | ⟨g, cap, cur, e, hg, rest⟩
  · exact .inl h2
  · exact .inr ⟨g, cap, cur, e, Nat.le_trans hb hg, rest⟩
theorem SlAt.congr {w : World} {B : Nat} {nb nb' : Nat → Nat} {v : Value} {L : List Nat} (h : SlAt w B nb v L) (e : ∀ x ∈ L, nb' x = nb x) : SlAt w B nb' v L := by
  unfold SlAt
  have : ptrs nb' L = ptrs nb L := List.map_congr_left fun x hx => by rw [e x hx]
  rw [this]; exact h
/-- where each of a list stands -/
def MpAt (w : World) (B : Nat) (m : Value) (L : List Nat) : Prop :=
  (m = .map none ∧ L = []) ∨ ∃ b l, m = .map (some b) ∧ B ≤ b ∧ MapAt 3 w b l ∧ l.length = L.length ∧ ∀ x : Nat, fndL l (.int .i64 (x : Int)) = (ix L x).map fun i => .int .i64 ((i : Nat) : Int)
theorem MpAt.blk {w w' : World} {B : Nat} {m : Value} {L : List Nat} (h : MpAt w B m L) (e : ∀ k, m = .map (some k) → w'.heap[k]? = w.heap[k]?) : MpAt w' B m L := by
  rcases h with h | ⟨b, l, rfl, h1, h2, h3⟩
  · exact .inl h
  · exact .inr ⟨b, l, rfl, h1, h2.blk (e b rfl), h3⟩
theorem MpAt.lower {w : World} {B B' : Nat} {m : Value} {L : List Nat} (h : MpAt w B m L) (hb : B' ≤ B) : MpAt w B' m L := by
  rcases h with h | ⟨b, l, rfl, h1, h2, h3⟩
  · exact .inl h
  · exact .inr ⟨b, l, rfl, Nat.le_trans hb h1, h2, h3⟩
theorem MpAt.block {w : World} {B : Nat} {m : Value} {L : List Nat} (h : MpAt w B m L) : ∀ k, m = .map (some k) → B ≤ k ∧ k < w.heap.size ∧ ∃ es c, w.heap[k]? = some (.map es c) := fun k hk => by
  rcases h with ⟨rfl, _⟩ | ⟨b, l, rfl, h1, h2, h3⟩
  · cases hk
  · cases hk
    refine ⟨h1, h2.lt, ?_⟩
    obtain ⟨es, c, hb, _⟩ := h2
    exact ⟨es, c, hb⟩
/-- a set: its list, its map -/
structure SetIs (w : World) (B : Nat) (nb : Nat → Nat) (sl mp : Value) (L : List Nat) : Prop where
  sl : SlAt w B nb sl L
  mp : MpAt w B mp L
  one : L.Nodup
/-- a block of a set's -/
def InS (sl mp : Value) (k : Nat) : Prop := sl.ownBlock = some k ∨ mp = .map (some k)
theorem SetIs.blk {w w' : World} {B : Nat} {nb : Nat → Nat} {sl mp : Value} {L : List Nat} (h : SetIs w B nb sl mp L) (e : ∀ k, InS sl mp k → w'.heap[k]? = w.heap[k]?) : SetIs w' B nb sl mp L :=
  ⟨h.sl.blk fun k hk => e k (.inl hk), h.mp.blk fun k hk => e k (.inr hk), h.one⟩
theorem SetIs.block {w : World} {B : Nat} {nb : Nat → Nat} {sl mp : Value} {L : List Nat} (h : SetIs w B nb sl mp L) : ∀ k, InS sl mp k → B ≤ k ∧ k < w.heap.size := fun k hk => by
  rcases hk with hk | hk
  · have := h.sl.block k hk; exact ⟨this.1, this.2.1⟩
  · have := h.mp.block k hk; exact ⟨this.1, this.2.1⟩
theorem SetIs.turn {S : Nat → Prop} {w w' : World} {B : Nat} {nb : Nat → Nat} {sl mp : Value} {L : List Nat} (h : SetIs w B nb sl mp L) (hT : TurnS S w w') (hs : ∀ k, InS sl mp k → ¬ S k) : SetIs w' B nb sl mp L :=
  h.blk fun k hk => hT.block k (h.block k hk).2 (hs k hk)
theorem SetIs.on {w w' : World} {B : Nat} {nb : Nat → Nat} {sl mp : Value} {L : List Nat} (h : SetIs w B nb sl mp L) (hb : Below w.heap.size w w') : SetIs w' B nb sl mp L := h.blk fun k hk => hb.block k (h.block k hk).2
theorem SetIs.drew {w : World} {B m : Nat} {nb : Nat → Nat} {sl mp : Value} {L : List Nat} (h : SetIs w B nb sl mp L) : SetIs (w.drewN m) B nb sl mp L := h.blk fun _ _ => rfl
theorem SetIs.lower {w : World} {B B' : Nat} {nb : Nat → Nat} {sl mp : Value} {L : List Nat} (h : SetIs w B nb sl mp L) (hb : B' ≤ B) : SetIs w B' nb sl mp L := ⟨h.sl.lower hb, h.mp.lower hb, h.one⟩
theorem SetIs.congr {w : World} {B : Nat} {nb nb' : Nat → Nat} {sl mp : Value} {L : List Nat} (h : SetIs w B nb sl mp L) (e : ∀ x ∈ L, nb' x = nb x) : SetIs w B nb' sl mp L := ⟨h.sl.congr e, h.mp, h.one⟩
theorem SetIs.none (w : World) (B : Nat) (nb : Nat → Nat) : SetIs w B nb (.slice none 0 0) (.map none) [] := ⟨SlAt.nil w B nb, .inl ⟨rfl, rfl⟩, List.nodup_nil⟩
end Go.Proofs.Ytgkmmdkagiohgaa
end

section
set_option linter.unusedVariables false
set_option linter.unusedSimpArgs false
namespace Go.Proofs.Ytgkmmdkagiohgaa
open Go.RowKit BigFrame

def Told (v : Value) (w : World) (e : Ending) (w' : World) : Prop := e = .returned v ∧ ∃ m, w' = w.drewN m

theorem quiet_told {P : Program} {f : FuncId} {args : Array Value} {w : World} {n : Nat} {v : Value} (h : Calls P f args (w.drewN n) fun e w' => e = .returned v ∧ w.drewN n = w') :
    Calls P f args (w.drewN n) fun e w'' => e = .returned v ∧ ∃ m, w'' = w.drewN m := h.mono fun _ _ ⟨he, hw⟩ => ⟨he, n, hw.symm⟩

theorem below_drewN (w : World) (m : Nat) : Below w.heap.size w (w.drewN m) := ⟨rfl, rfl, rfl, Nat.le_refl _, fun _ _ => rfl⟩
theorem Told.below {v : Value} {w w' : World} {e : Ending} (h : Told v w e w') : e = .returned v ∧ Below w.heap.size w w' := by
  obtain ⟨he, m, rfl⟩ := h
  exact ⟨he, below_drewN w m⟩
end Go.Proofs.Ytgkmmdkagiohgaa
end

section
set_option linter.unusedVariables false
set_option linter.unusedSimpArgs false
namespace Go.Proofs.Ytgkmmdkagiohgaa
open Go.RowKit BigFrame
set_option maxRecDepth 100000

section
variable {w : World} {B b o : Nat} {nb : Nat → Nat} {sl mp : Value} {L : List Nat}
set_option maxHeartbeats 400000 in
theorem has_c (hc : w.cell? ⟨b, o + 1, none⟩ = some mp) (h : MpAt w B mp L) (x : Nat) (hx : x ≤ 1000000) :
    Calls Try.prog 19 #[.pointer (some ⟨b, o, none⟩), .int .i64 (x : Int)] w fun e w' => e = .returned (.bool (decide (x ∈ L))) ∧ w = w' := by
  rcases h with ⟨rfl, rfl⟩ | ⟨m, l, rfl, h1, h2, h3, h4⟩
  · have hl : (Instr.lookup 49 (.map none) (.int .i64 (x : Int)) true).run Try.prog w = .ok (.tuple #[.int .i64 0, .bool false]) w := Maps.look_nil true law_int Try.underlying49 (z := .int .i64 0) rfl (key_nat hx)
    go_enter Try.func19, Try.ntmps19
    go_wp2_with fail
    go_ret
    exact ⟨rfl, rfl⟩
  · have hl := h2.look_ok law_int Try.underlying49 (z := .int .i64 0) rfl (key_nat hx)
    rw [h4 x, Option.isSome_map, ix_isSome] at hl
    clear h2 h3 h4
    go_enter Try.func19, Try.ntmps19
    go_wp2_with fail
    go_ret
    exact ⟨rfl, rfl⟩
theorem empty_c (hc : w.cell? ⟨b, o, none⟩ = some sl) (h : SlAt w B nb sl L) :
    Calls Try.prog 25 #[.pointer (some ⟨b, o, none⟩)] w fun e w' => e = .returned (.bool (decide (L = []))) ∧ w = w' := by
  obtain ⟨a, cap, rfl, _⟩ := h.slice
  have hL : Hid (((L.length : Int) == 0) = decide (L = [])) := Lib.hid (by cases L <;> simp; omega)
  clear h
  go_enter Try.func25, Try.ntmps25
  go_wp2_with fail
  go_ret
  exact ⟨congrArg (fun t => Ending.returned (Value.bool t)) hL.out, rfl⟩
theorem last_c (hc : w.cell? ⟨b, o, none⟩ = some sl) (x : Nat) (L' : List Nat) (hL : L = L' ++ [x]) (h : SlAt w B nb sl L) (hn : L.length ≤ 1000000) :
    Calls Try.prog 38 #[.pointer (some ⟨b, o, none⟩)] w (Told (pv (nb x)) w) := by
  obtain ⟨a, cap, rfl, hcap, ha, hx⟩ := h.slice
  cases a with
  | none => exact absurd (ha rfl) (by rw [hL]; simp)
  | some ad =>
    obtain ⟨g, rfl, _, _, _, hg⟩ := hx ad rfl
    have hk := hg L'.length x (by rw [hL]; simp)
    obtain ⟨n, hn'⟩ : ∃ n, L'.length = n := ⟨_, rfl⟩
    have hln : L.length = n + 1 := by rw [hL, List.length_append, hn']; rfl
    rw [hn'] at hk
    rw [hln] at hc hn
    unfold pv at hk ⊢
    clear h ha hx hg hL hcap hln hn'
    go_enter Try.func38, Try.ntmps38
    go_wp2_with fail
    go_quiet (fail)
    go_wp2_with fail
    go_ret
    exact ⟨rfl, _, rfl⟩
end
end Go.Proofs.Ytgkmmdkagiohgaa
end

section
set_option linter.unusedVariables false
set_option linter.unusedSimpArgs false
namespace Go.Proofs.Ytgkmmdkagiohgaa
open Go.RowKit BigFrame
set_option maxRecDepth 100000

theorem step_ptr (w : World) (b : Nat) : (w.alloc (.cells #[pv b] 47)).cell? ⟨w.heap.size, 0, none⟩ = some (pv b) := by
  rw [cell_of_row _ w.heap.size _ _ _ _ (heap_alloc_new w _)]; rfl
theorem ret_bool {a b : Bool} (h : a = b) : Ending.returned (.bool a) = .returned (.bool b) := by rw [h]
theorem nil_map (w : World) : Sem.run Try.prog (binOp BinOp.eql 49 (.map none) (.map none)) w = .ok (.bool true) w := by kernel_rfl
theorem some_map (m : Nat) (w : World) : Sem.run Try.prog (binOp BinOp.eql 49 (.map (some m)) (.map none)) w = .ok (.bool false) w := by kernel_rfl
/-- append of a pointer to a list of nodes -/
theorem wpList_append_ptr {w : World} {ops : Array Oper} {rest : List Oper} {o : Oper} {a : Act} {Q : Exit → Act → World → Prop} (hgd : o.guard = none) (s x : Operand)
    (ho : o.op = .call { callee := .builtin .append, args := #[s, x], argTypes := #[48, 48] })
    (B : Nat) (nb : Nat → Nat) (v : Value) (L : List Nat) (hs : a.eval s = v) (hown : SlAt w B nb v L) (ad : Addr) (cap : Nat) (y : Nat) (hx : a.eval x = .slice (some ad) 1 cap) (hsrc : w.cell? ad = some (pv (nb y)))
    (hlen : L.length + 1 ≤ 1000000) (hbase : B ≤ w.heap.size)
    (h : ∀ v' w', Hid (SlAt w' B nb v' (L ++ [y])) → Hid (w.grownBy w' v.ownBlock) → Hid (v'.ownBlock = v.ownBlock ∨ v'.ownBlock = some w.heap.size) → wpList Try.prog ops Q rest (a.put o.dst v') w') : wpList Try.prog ops Q (o :: rest) a w := by
  obtain ⟨i, hi, hz0, hz1, hz2⟩ := info_parts Try.infoPt
  refine wpList_append_own_at w hgd s x 48 ho B 47 i (.pointer none) 1 8 Try.underlying48 hi hz0 hz1 hz2 rfl (by decide) v L.length (ptrs nb L) hs hown ad 1 cap (ptrs nb [y]) hx (by rw [ptrs_len]; rfl) ?_ (ptrs_one nb [y]) (by unfold maxLen; omega) (by omega) hbase ?_
  · intro j u hu
    have hj : j = 0 := by
      have := (List.getElem?_eq_some_iff.1 hu).1
      rw [ptrs_len] at this
      simp at this
      omega
    subst hj
    have hadd : ad.add 0 = ad := by unfold Addr.add; split <;> simp_all
    rw [hadd, hsrc]
    simpa [ptrs] using hu
  · intro v' w' h1 h2 _ h4
    refine h v' w' ?_ h2 h4
    show SlAt w' B nb v' (L ++ [y])
    unfold SlAt
    have e : ptrs nb (L ++ [y]) = ptrs nb L ++ ptrs nb [y] := by simp [ptrs]
    rw [e, List.length_append]; exact h1

/-- a value is a map that is there no more than B ago -/
structure AddPost (B : Nat) (nb : Nat → Nat) (b o : Nat) (t : TypeId) (C : List Value) (sl mp : Value) (L : List Nat) (x : Nat) (w : World) (e : Ending) (w' : World) : Prop where
  ret : e = .returned (.bool (decide (x ∉ L)))
  turn : TurnS (fun k => k = b ∨ InS sl mp k) w w'
  post : (x ∈ L → w' = w) ∧ (x ∉ L → ∃ sl' mp', Vw w' t b ((C.set o sl').set (o + 1) mp') ∧ SetIs w' B nb sl' mp' (L ++ [x]) ∧ ∀ k, InS sl' mp' k → InS sl mp k ∨ w.heap.size ≤ k)

/-- ahead of the number's place: the map is there -/
structure AddMid (w1 : World) (B : Nat) (nb : Nat → Nat) (b : Nat) (t : TypeId) (C1 : List Value) (sl : Value) (m : Nat) (l : List (Lit × Value)) (L : List Nat) (o x : Nat) : Prop where
  row : Vw w1 t b C1
  c0 : C1[o]? = some sl
  c1 : C1[o + 1]? = some (.map (some m))
  map : MapAt 3 w1 m l
  len : l.length = L.length
  spec : ∀ x : Nat, fndL l (.int .i64 (x : Int)) = (ix L x).map fun i => .int .i64 ((i : Nat) : Int)
  sl : SlAt w1 B nb sl L
  lo : B ≤ m
  ne : m ≠ b
  num : w1.cell? ⟨nb x, 0, none⟩ = some (.int .i64 (x : Int))
  big : B ≤ w1.heap.size
theorem heap_set_other (w : World) (a : Addr) (u : Value) {k : Nat} (h : k ≠ a.block) : (w.setCell a u).heap[k]? = w.heap[k]? := Below.heap_setCell w a u k h
theorem size_set (w : World) (a : Addr) (u : Value) : (w.setCell a u).heap.size = w.heap.size := by simp [World.setCell]
theorem size_alloc (w : World) (x : Obj) : (w.alloc x).heap.size = w.heap.size + 1 := by
  show (w.heap.push x).size = _
  simp
theorem old_alloc (w : World) (x : Obj) (k : Nat) (h : k < w.heap.size) : (w.alloc x).heap[k]? = w.heap[k]? := by
  show (w.heap.push x)[k]? = _
  rw [Array.getElem?_push, if_neg (by omega)]
theorem mid_new {w : World} {B b o : Nat} {t : TypeId} {C : List Value} {nb : Nat → Nat} {sl : Value} {L : List Nat} {x : Nat} (hV : Vw w t b C) (h0 : C[o]? = some sl) (hol : o + 1 < C.length) (hsl : SlAt w B nb sl L) (hL : L = []) (hB : B ≤ w.heap.size) (hb : sl.ownBlock ≠ some b)
    (hi : w.cell? ⟨nb x, 0, none⟩ = some (.int .i64 (x : Int))) (hnx : nb x ≠ b) :
    AddMid ((w.alloc (.map #[] 0)).setCell ⟨b, o + 1, none⟩ (.map (some w.heap.size))) B nb b t (C.set (o + 1) (.map (some w.heap.size))) sl w.heap.size [] L o x := by
  have hbl := hV.lt
  have hxl : nb x < w.heap.size := World.block_lt_of_cell? w _ hi
  refine ⟨?_, by rw [List.getElem?_set_ne (by omega)]; exact h0, by rw [List.getElem?_set_self hol], ?_, by rw [hL]; rfl, fun x => by rw [hL]; rfl, ?_, hB, Nat.ne_of_gt hbl, ?_, by rw [size_set, size_alloc]; omega⟩
  · exact (hV.turnS (TurnS.alloc (fun _ => False) w _) (fun h => h)).set (o + 1) _
  · exact (MapAt.made 3 w).blk (heap_set_other _ ⟨b, o + 1, none⟩ _ (Nat.ne_of_gt hbl))
  · refine hsl.blk fun k hk => ?_
    have hk1 := hsl.block k hk
    have hkb : k ≠ b := fun e => hb (e ▸ hk)
    rw [heap_set_other _ ⟨b, o + 1, none⟩ _ hkb]
    exact old_alloc w _ k hk1.2.1
  · rw [World.cell?_setCell_other _ _ _ _ (by intro h; exact hnx (Addr.mk.inj h).1.symm)]
    rw [World.cell?_of_block (w := w) (old_alloc w _ _ hxl)]
    exact hi

theorem SlAt.alloc {w : World} {B : Nat} {nb : Nat → Nat} {v : Value} {L : List Nat} (h : SlAt w B nb v L) (x : Obj) : SlAt (w.alloc x) B nb v L := h.blk fun k hk => old_alloc w x k (h.block k hk).2.1
theorem SlAt.turned {w w' : World} {B m : Nat} {nb : Nat → Nat} {v : Value} {L : List Nat} {l : List (Lit × Value)} (h : SlAt w B nb v L) (hm : MapAt 3 w m l) (ht : w.mapTurned w' m) : SlAt w' B nb v L := h.blk fun k hk => by
  refine mturn_blk ht fun e => ?_
  obtain ⟨_, _, cc, h1⟩ := h.block k hk
  obtain ⟨es, c', h2, _⟩ := hm
  rw [e, h2] at h1
  cases h1
theorem set_same {C : List Value} {k : Nat} {v : Value} (h : C[k]? = some v) : C.set k v = C := by
  apply List.ext_getElem?
  intro j
  rw [List.getElem?_set]
  by_cases e : k = j
  · subst e; rw [if_pos rfl, if_pos (List.getElem?_eq_some_iff.1 h).1, h]
  · rw [if_neg e]
/-- what turned ahead of the place, and behind it -/
structure AddEnd (B : Nat) (nb : Nat → Nat) (b o : Nat) (t : TypeId) (C1 : List Value) (sl sl' : Value) (m : Nat) (L : List Nat) (x : Nat) (w1 w5 : World) : Prop where
  row : Vw w5 t b (C1.set o sl')
  set : SetIs w5 B nb sl' (.map (some m)) (L ++ [x])
  at' : sl'.ownBlock = sl.ownBlock ∨ ∀ k, sl'.ownBlock = some k → w1.heap.size ≤ k
  turn : TurnS (fun k => k = b ∨ sl.ownBlock = some k ∨ k = m) w1 w5
theorem mid_end {w1 w2 w4 : World} {B b o : Nat} {t ty : TypeId} {C1 : List Value} {nb : Nat → Nat} {sl sl' : Value} {L : List Nat} {x m : Nat} {l : List (Lit × Value)} {c : Array Value} (q : AddMid w1 B nb b t C1 sl m l L o x) (hx : x ∉ L) (hone : L.Nodup)
    (hb : sl.ownBlock ≠ some b) (hol : o < C1.length)
    (hm2 : MapAt 3 w2 m (insL (.int .i64 (x : Int), .int .i64 ((L.length : Nat) : Int)) (strL l (.int .i64 (x : Int))))) (ht2 : w1.drew.mapTurned w2 m)
    (hs4 : SlAt w4 B nb sl' (L ++ [x])) (hg4 : (w2.alloc (.cells c ty)).grownBy w4 sl.ownBlock) (hat : sl'.ownBlock = sl.ownBlock ∨ sl'.ownBlock = some (w2.alloc (.cells c ty)).heap.size) :
    AddEnd B nb b o t C1 sl sl' m L x w1 (w4.setCell ⟨b, o, none⟩ sl') := by
  have hbl := q.row.lt
  have hml : m < w1.heap.size := q.map.lt
  have e2 : w2.heap.size = w1.heap.size := mturn_size (w := w1.drew) ht2
  have hT2 : TurnS (fun k => k = b ∨ sl.ownBlock = some k ∨ k = m) w1 w2 := (TurnS.drew _ w1 1).trans (TurnS.turned ht2 (.inr (.inr rfl)))
  have hT3 := hT2.trans (TurnS.alloc _ w2 (.cells c ty))
  have hT4 := hT3.trans (TurnS.grown hg4 fun k hk => .inr (.inl hk))
  have hT5 := hT4.trans (TurnS.set _ w4 (s := b) (.inl rfl) o sl')
  have hslm : sl.ownBlock ≠ some m := fun e => by
    obtain ⟨_, _, cc, h1⟩ := q.sl.block m e
    obtain ⟨es, c', h2, _⟩ := q.map
    rw [h1] at h2
    cases h2
  have hsz3 : (w2.alloc (.cells c ty)).heap.size = w1.heap.size + 1 := by rw [size_alloc, e2]
  have hsz4 := hg4.size
  rw [hsz3] at hsz4 hat
  have hb4 : Vw w4 t b C1 := ((q.row.turnS (S := fun k => k = m) ((TurnS.drew _ w1 1).trans (TurnS.turned ht2 rfl)) (Ne.symm q.ne)).turnS (TurnS.alloc (fun _ => False) w2 _) (fun h => h)).turnS (TurnS.grown (S := fun k => sl.ownBlock = some k) hg4 fun k hk => hk) hb
  have hm4 : w4.heap[m]? = w2.heap[m]? := by
    rw [hg4.block m (by omega) (Ne.symm hslm)]
    exact old_alloc w2 _ m (by omega)
  have hne' : sl'.ownBlock ≠ some b := fun e => by
    rcases hat with h | h
    · exact hb (h ▸ e)
    · have := Option.some.inj (e.symm.trans h); omega
  refine ⟨hb4.set o sl', ⟨?_, .inr ⟨m, insL (.int .i64 (x : Int), .int .i64 ((L.length : Nat) : Int)) (strL l (.int .i64 (x : Int))), rfl, q.lo, ?_, ?_, ?_⟩, ?_⟩, ?_, hT5⟩
  · exact hs4.blk fun k hk => heap_set_other _ ⟨b, o, none⟩ _ (fun e => hne' (hk.trans (congrArg some e)))
  · exact hm2.blk ((heap_set_other _ ⟨b, o, none⟩ _ q.ne).trans hm4)
  · rw [insL_length, strL_none (by rw [q.spec, ix_none hx]; rfl), q.len, List.length_append]; rfl
  · intro y
    rw [fndL_put, ix_snoc hx, q.spec]
    by_cases e : y = x
    · subst e; rw [if_pos rfl, if_pos rfl]; rfl
    · rw [if_neg (by omega), if_neg e]
  · rw [List.nodup_append]
    exact ⟨hone, by simp, by intro a ha b hb; simp at hb; subst hb; exact fun e => hx (e ▸ ha)⟩
  · rcases hat with h | h
    · exact .inl h
    · exact .inr fun k hk => by have := Option.some.inj (hk.symm.trans h); omega

end Go.Proofs.Ytgkmmdkagiohgaa
end
