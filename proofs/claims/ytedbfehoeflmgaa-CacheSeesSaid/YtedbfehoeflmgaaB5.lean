/-
  Frames by a predicate on blocks; maps with numbers as keys.
  What a cache holds: sectors by age; the oldest of those that may go, gone; no memory here.
-/
import Derived.Test.YtedbfehoeflmgaaB1
import Derived.Test.YtedbfehoeflmgaaB2
import Derived.Test.YtedbfehoeflmgaaB4
import Derived.Maps.AppendAt

section
set_option linter.unusedVariables false
set_option linter.unusedSimpArgs false
namespace Go.Proofs.Ytedbfehoeflmgaa
open Go.RowKit BigFrame

/-- from w to w' nothing has turned but blocks of S, and new ones -/
structure TurnS (S : Nat → Prop) (w w' : World) : Prop where
  os : w'.os = w.os
  tape : w'.tape = w.tape
  output : w'.output = w.output
  size : w.heap.size ≤ w'.heap.size
  block : ∀ k, k < w.heap.size → ¬ S k → w'.heap[k]? = w.heap[k]?
theorem TurnS.refl (S : Nat → Prop) (w : World) : TurnS S w w := ⟨rfl, rfl, rfl, Nat.le_refl _, fun _ _ _ => rfl⟩
theorem TurnS.trans {S : Nat → Prop} {u v w : World} (h : TurnS S u v) (k : TurnS S v w) : TurnS S u w :=
  ⟨k.os.trans h.os, k.tape.trans h.tape, k.output.trans h.output, Nat.le_trans h.size k.size, fun i hi hn => (k.block i (Nat.lt_of_lt_of_le hi h.size) hn).trans (h.block i hi hn)⟩
/-- what the second turned may be new, too -/
theorem TurnS.then {S T : Nat → Prop} {u v w : World} (h : TurnS S u v) (k : TurnS T v w) (hs : ∀ j, j < u.heap.size → T j → S j) : TurnS S u w :=
  ⟨k.os.trans h.os, k.tape.trans h.tape, k.output.trans h.output, Nat.le_trans h.size k.size, fun i hi hn => (k.block i (Nat.lt_of_lt_of_le hi h.size) (fun ht => hn (hs i hi ht))).trans (h.block i hi hn)⟩
theorem TurnS.of_below {w w' : World} (S : Nat → Prop) (h : Below w.heap.size w w') : TurnS S w w' := ⟨h.os, h.tape, h.output, h.size, fun k hk _ => h.block k hk⟩
theorem TurnS.mono {S T : Nat → Prop} {w w' : World} (h : TurnS S w w') (hs : ∀ k, k < w.heap.size → S k → T k) : TurnS T w w' := ⟨h.os, h.tape, h.output, h.size, fun k hk hn => h.block k hk fun hf => hn (hs k hk hf)⟩
theorem TurnS.below {S : Nat → Prop} {B : Nat} {w w' : World} (h : TurnS S w w') (hB : B ≤ w.heap.size) (hF : ∀ k, S k → B ≤ k) : Below B w w' :=
  ⟨h.os, h.tape, h.output, h.size, fun k hk => h.block k (by omega) fun hf => by have := hF k hf; omega⟩
theorem TurnS.set (S : Nat → Prop) (w : World) {s : Nat} (hs : S s) (c : Nat) (v : Value) : TurnS S w (w.setCell ⟨s, c, none⟩ v) :=
  ⟨rfl, rfl, rfl, by simp [World.setCell], fun k hk hn => by
    have hne : k ≠ s := fun e => hn (e ▸ hs)
    exact Below.heap_setCell w ⟨s, c, none⟩ v k hne⟩
theorem TurnS.alloc (S : Nat → Prop) (w : World) (o : Obj) : TurnS S w (w.alloc o) := TurnS.of_below S ((Below.refl _ _).alloc (Nat.le_refl _) o)
theorem TurnS.grown {S : Nat → Prop} {w w' : World} {r : Option Nat} (h : w.grownBy w' r) (hs : ∀ k, r = some k → S k) : TurnS S w w' :=
  ⟨h.os, h.tape, h.output, h.size, fun k hk hn => h.block k hk (fun e => hn (hs k e.symm))⟩
theorem TurnS.turned {S : Nat → Prop} {w w' : World} {b : Nat} (h : w.mapTurned w' b) (hs : S b) : TurnS S w w' := TurnS.grown h.grown (fun k e => by cases e; exact hs)
theorem TurnS.drew (S : Nat → Prop) (w : World) (m : Nat) : TurnS S w (w.drewN m) := ⟨rfl, rfl, rfl, Nat.le_refl _, fun _ _ _ => rfl⟩
theorem Vw.turnS {S : Nat → Prop} {g : Nat} {w w' : World} {t : TypeId} {l : List Value} (h : Vw w t g l) (hT : TurnS S w w') (hn : ¬ S g) : Vw w' t g l := by
  unfold Vw; rw [hT.block g h.lt hn]; exact h

/-! ### Maps -/
theorem key_int {k : Int} (h1 : -9223372036854775808 ≤ k) (h2 : k ≤ 9223372036854775807) : keyOf Try.prog 3 (.int .i64 k) = some (.int .i64 k) :=
  Maps.keyOf_int_mk Try.underlying3 (by simp only [Lit.wf, Bool.and_eq_true, decide_eq_true_eq]; exact ⟨h1, h2⟩)
theorem key_nat {k : Nat} (h : k ≤ 1000000) : keyOf Try.prog 3 (.int .i64 (k : Int)) = some (.int .i64 (k : Int)) := key_int (by omega) (by omega)
theorem same_int (a b : Int) : (Lit.int .i64 a).sameKey (.int .i64 b) = decide (a = b) := by
  by_cases e : a = b
  · subst e
    rw [decide_eq_true rfl]
    simp [Lit.sameKey]
  · rw [decide_eq_false e]
    simp [Lit.sameKey, e]
theorem find_insL (x : Lit × Value) (q : Lit × Value → Bool) : ∀ l : List (Lit × Value), (∀ y ∈ l, q x = true → q y = false) → (insL x l).find? q = if q x = true then some x else l.find? q
  | [], _ => by
    unfold insL
    by_cases e : q x = true
    · simp [e]
    · simp [e]
  | y :: r, h => by
    unfold insL
    by_cases hb : x.1.before y.1 = true
    · rw [if_pos hb]
      by_cases e : q x = true
      · simp [e]
      · simp [e]
    · rw [if_neg hb, List.find?_cons, find_insL x q r (fun z hz => h z (List.mem_cons_of_mem _ hz))]
      by_cases e : q x = true
      · have := h y List.mem_cons_self e
        simp [e, this]
      · rw [if_neg e, if_neg e, List.find?_cons]
theorem fndL_put (l : List (Lit × Value)) (a b : Int) (v : Value) : fndL (insL (.int .i64 a, v) (strL l (.int .i64 a))) (.int .i64 b) = if b = a then some v else fndL l (.int .i64 b) := by
  unfold fndL
  rw [find_insL]
  · simp only [same_int]
    by_cases e : a = b
    · subst e; simp
    · rw [if_neg (by simpa using e), if_neg (Ne.symm e)]
      congr 1
      unfold strL
      rw [List.find?_filter]
      congr 1
      funext p
      by_cases hp : p.1.sameKey (.int .i64 b) = true
      · have := WideAt.sameKey_eq hp
        rw [hp, this, same_int, decide_eq_false (Ne.symm e)]
        simp
      · simp [hp]
  · intro y hy hq
    simp only [same_int, decide_eq_true_eq] at hq
    subst hq
    have := (List.mem_filter.1 hy).2
    simpa using this
theorem strL_none {l : List (Lit × Value)} {kl : Lit} (h : fndL l kl = none) : strL l kl = l := by
  unfold fndL at h
  rw [Option.map_eq_none_iff, List.find?_eq_none] at h
  exact List.filter_eq_self.2 fun p hp => by simpa using h p hp
theorem fndL_str (l : List (Lit × Value)) (a b : Int) : fndL (strL l (.int .i64 a)) (.int .i64 b) = if b = a then none else fndL l (.int .i64 b) := by
  unfold fndL strL
  rw [List.find?_filter]
  by_cases e : b = a
  · subst e
    rw [if_pos rfl, Option.map_eq_none_iff, List.find?_eq_none]
    intro p _
    cases p.1.sameKey (.int .i64 b) <;> simp
  · rw [if_neg e]
    congr 2
    funext p
    by_cases hp : p.1.sameKey (.int .i64 b) = true
    · have := WideAt.sameKey_eq hp
      rw [hp, this, same_int, decide_eq_false e]
      simp
    · simp [hp]

/-! ### Worlds -/
theorem heap_set_other (w : World) (a : Addr) (u : Value) {k : Nat} (h : k ≠ a.block) : (w.setCell a u).heap[k]? = w.heap[k]? := Below.heap_setCell w a u k h
theorem size_set (w : World) (a : Addr) (u : Value) : (w.setCell a u).heap.size = w.heap.size := by simp [World.setCell]
theorem size_alloc (w : World) (x : Obj) : (w.alloc x).heap.size = w.heap.size + 1 := by
  show (w.heap.push x).size = _
  simp
theorem old_alloc (w : World) (x : Obj) (k : Nat) (h : k < w.heap.size) : (w.alloc x).heap[k]? = w.heap[k]? := by
  show (w.heap.push x)[k]? = _
  rw [Array.getElem?_push, if_neg (by omega)]
theorem set_same {C : List Value} {k : Nat} {v : Value} (h : C[k]? = some v) : C.set k v = C := by
  apply List.ext_getElem?
  intro j
  rw [List.getElem?_set]
  by_cases e : k = j
  · subst e; rw [if_pos rfl, if_pos (List.getElem?_eq_some_iff.1 h).1, h]
  · rw [if_neg e]
end Go.Proofs.Ytedbfehoeflmgaa
end

section
set_option linter.unusedVariables false
set_option linter.unusedSimpArgs false
namespace Go.Proofs.Ytedbfehoeflmgaa

/-- a sector that is held: its block, its place, its bytes, its age, whether it is dirty, whether it is pinned -/
structure Sx where
  blk : Nat
  pos : Nat
  b : List Nat
  used : Nat
  dirty : Bool
  pin : Bool
def Sx.free (x : Sx) : Bool := !x.dirty && !x.pin
/-- those that may go -/
def fr (H : List Sx) : List Sx := H.filter Sx.free
/-- those that may go, but x -/
def frx (x : Sx) (H : List Sx) : List Sx := H.filter fun y => y.free && decide (y.used ≠ x.used)
/-- all but x -/
def but (x : Sx) (H : List Sx) : List Sx := H.filter fun y => decide (y.used ≠ x.used)
/-- the sector that is held of a place -/
def get (H : List Sx) (a : Int) : Option Sx := H.find? fun x => decide ((x.pos : Int) = a)
/-- the oldest n of those that may go, gone -/
def dropN : List Sx → Nat → List Sx
  | [], _ => []
  | x :: r, n => if x.free = true ∧ 0 < n then dropN r (n - 1) else x :: dropN r n
/-- x instead of the one of its age -/
def putS (x : Sx) (H : List Sx) : List Sx := H.map fun y => if y.used = x.used then x else y

theorem dropN_zero : ∀ H : List Sx, dropN H 0 = H
  | [] => rfl
  | x :: r => by rw [dropN, if_neg (by omega), dropN_zero r]
theorem dropN_sub : ∀ (H : List Sx) (n : Nat), (dropN H n).Sublist H
  | [], _ => List.Sublist.refl _
  | x :: r, n => by
    rw [dropN]
    split
    · exact (dropN_sub r (n - 1)).cons _
    · exact (dropN_sub r n).cons_cons _
theorem fr_cons (x : Sx) (r : List Sx) : fr (x :: r) = if x.free = true then x :: fr r else fr r := by
  unfold fr; rw [List.filter_cons]
theorem dropN_fr : ∀ (H : List Sx) (n : Nat), fr (dropN H n) = (fr H).drop n
  | [], n => by simp [dropN, fr]
  | x :: r, n => by
    rw [dropN]
    split
    · rename_i h
      rw [dropN_fr r (n - 1), fr_cons, if_pos h.1]
      obtain ⟨m, rfl⟩ : ∃ m, n = m + 1 := ⟨n - 1, by omega⟩
      rfl
    · rename_i h
      rw [fr_cons, fr_cons, dropN_fr r n]
      by_cases hx : x.free = true
      · have : n = 0 := by
          by_cases hn : 0 < n
          · exact absurd ⟨hx, hn⟩ h
          · omega
        subst this
        rw [if_pos hx, if_pos hx]; rfl
      · rw [if_neg hx, if_neg hx]
theorem dropN_len : ∀ (H : List Sx) (n : Nat), (dropN H n).length = H.length - min n (fr H).length
  | [], n => by simp [dropN]
  | x :: r, n => by
    have hle : (fr r).length ≤ r.length := List.length_filter_le _ _
    rw [dropN, fr_cons]
    split
    · rename_i h
      rw [dropN_len r (n - 1), if_pos h.1]
      simp only [List.length_cons]
      omega
    · rename_i h
      simp only [List.length_cons]
      rw [dropN_len r n]
      by_cases hx : x.free = true
      · have : n = 0 := by
          by_cases hn : 0 < n
          · exact absurd ⟨hx, hn⟩ h
          · omega
        subst this
        simp
      · rw [if_neg hx]; omega
theorem dropN_add : ∀ (H : List Sx) (a b : Nat), dropN (dropN H a) b = dropN H (a + b)
  | [], _, _ => rfl
  | x :: r, a, b => by
    by_cases h : x.free = true ∧ 0 < a
    · rw [dropN, if_pos h, dropN_add r (a - 1) b]
      rw [show dropN (x :: r) (a + b) = dropN r (a + b - 1) from by rw [dropN, if_pos ⟨h.1, by omega⟩]]
      congr 1; omega
    · rw [show dropN (x :: r) a = x :: dropN r a from by rw [dropN, if_neg h]]
      rw [dropN, dropN_add r a b, dropN_add r a (b - 1)]
      by_cases hx : x.free = true
      · have : a = 0 := by
          by_cases hn : 0 < a
          · exact absurd ⟨hx, hn⟩ h
          · omega
        subst this
        simp only [Nat.zero_add]
        rw [dropN]
      · rw [if_neg (fun e => hx e.1), dropN, if_neg (fun e => hx e.1)]
/-- those that may go as well as all the others, if not so many are -/
theorem dropN_all (H : List Sx) (n : Nat) (h : (fr H).length ≤ n) : dropN H n = H.filter fun x => !x.free := by
  induction H generalizing n with
  | nil => rfl
  | cons x r ih =>
    rw [dropN, List.filter_cons]
    rw [fr_cons] at h
    by_cases hx : x.free = true
    · rw [if_pos hx] at h
      simp only [List.length_cons] at h
      rw [if_pos ⟨hx, by omega⟩, ih (n - 1) (by omega), hx]; rfl
    · rw [if_neg hx] at h
      rw [if_neg (fun e => hx e.1), ih n h, if_pos (by simpa using hx)]

/-! ### In order -/
def Srt (H : List Sx) : Prop := H.Pairwise fun x y => x.used < y.used
theorem Srt.uniq : ∀ {H : List Sx}, Srt H → ∀ {x y : Sx}, x ∈ H → y ∈ H → x.used = y.used → x = y
  | [], _, _, _, h, _, _ => by simp at h
  | a :: r, hs, x, y, hx, hy, e => by
    obtain ⟨h1, h2⟩ := List.pairwise_cons.1 hs
    rcases List.mem_cons.1 hx with ex | hx2
    · rcases List.mem_cons.1 hy with ey | hy2
      · rw [ex, ey]
      · have := h1 y hy2; rw [← ex] at this; omega
    · rcases List.mem_cons.1 hy with ey | hy2
      · have := h1 x hx2; rw [← ey] at this; omega
      · exact Srt.uniq h2 hx2 hy2 e
/-- how many are older than x -/
def older (x : Sx) (L : List Sx) : Nat := L.countP fun y => decide (y.used < x.used)
theorem older_le (x : Sx) (L : List Sx) : older x L ≤ L.length := List.countP_le_length
theorem older_cons (x y : Sx) (L : List Sx) : older x (y :: L) = if y.used < x.used then older x L + 1 else older x L := by
  unfold older
  rw [List.countP_cons]
  split <;> simp_all
theorem older_none {x : Sx} : ∀ {L : List Sx}, (∀ y ∈ L, x.used ≤ y.used) → older x L = 0 := fun h => by
  unfold older
  rw [List.countP_eq_zero]
  intro y hy
  have := h y hy
  simp; omega
/-- x put at its place among the others: all of them -/
theorem ins_fr : ∀ {H : List Sx}, Srt H → ∀ {x : Sx}, x ∈ H → x.free = true → (frx x H).take (older x (frx x H)) ++ x :: (frx x H).drop (older x (frx x H)) = fr H
  | [], _, _, h, _ => by simp at h
  | a :: r, hs, x, hx, hf => by
    obtain ⟨h1, h2⟩ := List.pairwise_cons.1 hs
    by_cases e : a.used = x.used
    · have ea : a = x := Srt.uniq hs List.mem_cons_self hx e
      subst ea
      have e1 : frx a (a :: r) = fr r := by
        unfold frx fr
        rw [List.filter_cons, if_neg (by simp)]
        refine List.filter_congr fun y hy => ?_
        have := h1 y hy
        rw [decide_eq_true (show y.used ≠ a.used by omega), Bool.and_true]
      have e2 : older a (fr r) = 0 := older_none fun y hy => Nat.le_of_lt (h1 y (List.mem_filter.1 hy).1)
      rw [e1, e2, fr_cons, if_pos hf]; rfl
    · have hx' : x ∈ r := by
        rcases List.mem_cons.1 hx with h | h
        · exact absurd (congrArg Sx.used h.symm) e
        · exact h
      have hlt := h1 x hx'
      have ih := ins_fr h2 hx' hf
      by_cases ha : a.free = true
      · have e1 : frx x (a :: r) = a :: frx x r := by
          unfold frx
          rw [List.filter_cons, if_pos (by simp [ha, e])]
        rw [e1, older_cons, if_pos hlt, fr_cons, if_pos ha]
        simp only [List.take_succ_cons, List.drop_succ_cons, List.cons_append]
        rw [ih]
      · have e1 : frx x (a :: r) = frx x r := by
          unfold frx
          rw [List.filter_cons, if_neg (by simp [ha])]
        rw [e1, ih, fr_cons, if_neg ha]
/-- where x stands in a list in order; without it -/
theorem at_older : ∀ {L : List Sx}, Srt L → ∀ {x : Sx}, x ∈ L → L[older x L]? = some x ∧ L.take (older x L) ++ L.drop (older x L + 1) = but x L
  | [], _, _, h => by simp at h
  | a :: r, hs, x, hx => by
    obtain ⟨h1, h2⟩ := List.pairwise_cons.1 hs
    by_cases e : a.used = x.used
    · have ea : a = x := Srt.uniq hs List.mem_cons_self hx e
      subst ea
      have e0 : older a (a :: r) = 0 := older_none fun y hy => by
        rcases List.mem_cons.1 hy with rfl | hy
        · exact Nat.le_refl _
        · exact Nat.le_of_lt (h1 y hy)
      rw [e0]
      refine ⟨rfl, ?_⟩
      unfold but
      rw [List.filter_cons, if_neg (by simp)]
      rw [List.filter_eq_self.2]
      · rfl
      · intro y hy
        have := h1 y hy
        simp; omega
    · have hx' : x ∈ r := by
        rcases List.mem_cons.1 hx with h | h
        · exact absurd (congrArg Sx.used h.symm) e
        · exact h
      obtain ⟨i1, i2⟩ := at_older h2 hx'
      rw [older_cons, if_pos (h1 x hx')]
      refine ⟨by simpa using i1, ?_⟩
      simp only [List.take_succ_cons, List.drop_succ_cons, List.cons_append]
      rw [i2]
      unfold but
      rw [List.filter_cons, if_pos (by simp [e])]
/-- x is not there: it is not found -/
theorem not_older {L : List Sx} {x : Sx} (h : ∀ y ∈ L, y.used ≠ x.used) (y : Sx) (hy : L[older x L]? = some y) : ¬ y.used = x.used := h y (List.mem_of_getElem? hy)
theorem but_none {L : List Sx} {x : Sx} (h : ∀ y ∈ L, y.used ≠ x.used) : but x L = L := by
  unfold but
  rw [List.filter_eq_self]
  intro y hy
  simpa using h y hy
theorem but_fr (x : Sx) (H : List Sx) : but x (fr H) = frx x H := by
  unfold but fr frx
  rw [List.filter_filter]
  refine List.filter_congr fun y _ => ?_
  cases y.free <;> simp

/-! ### Places -/
theorem get_some {H : List Sx} {a : Int} {x : Sx} (h : get H a = some x) : x ∈ H ∧ (x.pos : Int) = a :=
  ⟨List.mem_of_find?_eq_some h, by simpa using List.find?_some h⟩
theorem get_none {H : List Sx} {a : Int} (h : get H a = none) : ∀ x ∈ H, (x.pos : Int) ≠ a := fun x hx => by
  have := List.find?_eq_none.1 h x hx
  simpa using this
def Apart (H : List Sx) : Prop := (H.map Sx.pos).Nodup
theorem Apart.uniq : ∀ {H : List Sx}, Apart H → ∀ {x y : Sx}, x ∈ H → y ∈ H → x.pos = y.pos → x = y
  | [], _, _, _, h, _, _ => by simp at h
  | a :: r, hs, x, y, hx, hy, e => by
    have hs' : (a.pos :: r.map Sx.pos).Nodup := hs
    obtain ⟨h1, h2⟩ := List.nodup_cons.1 hs'
    rcases List.mem_cons.1 hx with ex | hx2
    · rcases List.mem_cons.1 hy with ey | hy2
      · rw [ex, ey]
      · exact absurd (List.mem_map.2 ⟨y, hy2, by rw [← e, ex]⟩) h1
    · rcases List.mem_cons.1 hy with ey | hy2
      · exact absurd (List.mem_map.2 ⟨x, hx2, by rw [e, ey]⟩) h1
      · exact Apart.uniq h2 hx2 hy2 e
theorem Apart.sub {H H' : List Sx} (h : Apart H) (hs : H'.Sublist H) : Apart H' := h.sublist (hs.map _)
theorem get_at {H : List Sx} (hA : Apart H) {x : Sx} (hx : x ∈ H) : get H (x.pos : Int) = some x := by
  cases h : get H (x.pos : Int) with
  | none => exact absurd rfl (get_none h x hx)
  | some y =>
    obtain ⟨h1, h2⟩ := get_some h
    rw [hA.uniq h1 hx (by omega)]
/-- the oldest that may go, gone: its place is held no more -/
theorem get_drop1 : ∀ {H : List Sx}, Apart H → ∀ {y : Sx} {r : List Sx}, fr H = y :: r → ∀ a : Int, get (dropN H 1) a = if a = (y.pos : Int) then none else get H a
  | [], _, _, _, h, _ => by simp [fr] at h
  | x :: H, hA, y, r, h, a => by
    have hA' : (x.pos :: H.map Sx.pos).Nodup := hA
    obtain ⟨h1, h2⟩ := List.nodup_cons.1 hA'
    rw [fr_cons] at h
    by_cases hx : x.free = true
    · rw [if_pos hx] at h
      obtain ⟨e1, e2⟩ := List.cons.inj h
      subst e1
      rw [dropN, if_pos ⟨hx, by omega⟩, show (1 : Nat) - 1 = 0 from rfl, dropN_zero]
      by_cases ea : a = (x.pos : Int)
      · rw [if_pos ea]
        unfold get
        rw [List.find?_eq_none]
        intro z hz
        have : z.pos ≠ x.pos := fun e => h1 (List.mem_map.2 ⟨z, hz, e⟩)
        simp only [decide_eq_true_eq]
        omega
      · rw [if_neg ea]
        unfold get
        rw [List.find?_cons, decide_eq_false (fun e => ea e.symm)]
    · rw [if_neg hx] at h
      rw [dropN, if_neg (fun e => hx e.1)]
      have ih := get_drop1 (show Apart H from h2) h a
      have hy : y ∈ H := (List.mem_filter.1 (show y ∈ fr H by rw [h]; exact List.mem_cons_self)).1
      have hne : x.pos ≠ y.pos := fun e => h1 (List.mem_map.2 ⟨y, hy, e.symm⟩)
      unfold get at ih ⊢
      rw [List.find?_cons, List.find?_cons, ih]
      by_cases ea : a = (y.pos : Int)
      · rw [if_pos ea, if_pos ea, decide_eq_false (by omega)]
      · rw [if_neg ea, if_neg ea]
theorem get_dropS {H : List Sx} (hA : Apart H) {k : Nat} {y : Sx} (h : (fr H)[k]? = some y) (a : Int) : get (dropN H (k + 1)) a = if a = (y.pos : Int) then none else get (dropN H k) a := by
  rw [← dropN_add H k 1]
  have hk := (List.getElem?_eq_some_iff.1 h)
  refine get_drop1 (hA.sub (dropN_sub H k)) (y := y) (r := (fr H).drop (k + 1)) ?_ a
  rw [dropN_fr, List.drop_eq_getElem_cons hk.1, hk.2]
theorem nodup_below : ∀ (n : Nat) {l : List Nat}, l.Nodup → (∀ x ∈ l, x < n) → l.length ≤ n
  | 0, l, _, hs => by
    cases l with
    | nil => simp
    | cons x r => exact absurd (hs x List.mem_cons_self) (by omega)
  | n + 1, l, hn, hs => by
    have ih := nodup_below n (l := l.erase n) (hn.erase n) fun x hx => by
      have h1 := hs x (List.mem_of_mem_erase hx)
      have h2 : x ≠ n := fun e => by subst e; exact absurd hx hn.not_mem_erase
      omega
    by_cases hm : n ∈ l
    · rw [List.length_erase_of_mem hm] at ih; omega
    · rw [List.erase_of_not_mem hm] at ih; omega
end Go.Proofs.Ytedbfehoeflmgaa
end
