/-
  What a disk has: what is firm, what waits, what is seen; what a flush and a crash make of it. Lists and functions alone.
-/
import Derived.Test.YtmaodnidodoadaaRw
namespace Go.Proofs.Ytmaodnidodoadaa

/-- a function, one place turned -/
def updF (f : Nat → List Nat) (a : Nat) (b : List Nat) (i : Nat) : List Nat := if i = a then b else f i
theorem updF_same (f : Nat → List Nat) (a : Nat) (b : List Nat) : updF f a b a = b := by simp [updF]
theorem updF_other {f : Nat → List Nat} {a i : Nat} {b : List Nat} (h : i ≠ a) : updF f a b i = f i := by simp [updF, h]
/-- writes, one behind the other, over what is there -/
def appl (f : Nat → List Nat) : List (Nat × List Nat) → Nat → List Nat
  | [] => f
  | p :: r => appl (updF f p.1 p.2) r
theorem appl_append : ∀ (l m : List (Nat × List Nat)) (f : Nat → List Nat), appl f (l ++ m) = appl (appl f l) m
  | [], _, _ => rfl
  | _ :: l, m, _ => appl_append l m _
theorem appl_snoc (f : Nat → List Nat) (l : List (Nat × List Nat)) (p : Nat × List Nat) : appl f (l ++ [p]) = updF (appl f l) p.1 p.2 := by
  rw [appl_append]; rfl
theorem appl_congr : ∀ (l : List (Nat × List Nat)) (f g : Nat → List Nat) (i : Nat), f i = g i → appl f l i = appl g l i
  | [], _, _, _, h => h
  | p :: l, f, g, i, h => appl_congr l _ _ i (by unfold updF; split <;> first | rfl | exact h)
theorem appl_away : ∀ (l : List (Nat × List Nat)) (f : Nat → List Nat) (i : Nat), (∀ p ∈ l, p.1 ≠ i) → appl f l i = f i
  | [], _, _, _ => rfl
  | p :: l, f, i, h => by
    show appl (updF f p.1 p.2) l i = f i
    rw [appl_away l _ i (fun q hq => h q (List.mem_cons_of_mem _ hq)), updF_other (fun e => h p List.mem_cons_self e.symm)]
/-- is the i-th one kept? -/
def keepAt (K : List Bool) (i : Nat) : Bool := decide (0 < K.length) && K.getD (i % K.length) false
/-- the i-th of the writes -/
def wtAt (l : List (Nat × List Nat)) (i : Nat) : Nat × List Nat := l.getD i (0, [])
theorem wtAt_get {l : List (Nat × List Nat)} {i : Nat} (h : i < l.length) : wtAt l i = l[i] := by simp [wtAt, List.getD, List.getElem?_eq_getElem h]
theorem wtAt_mem {l : List (Nat × List Nat)} {i : Nat} (h : i < l.length) : wtAt l i ∈ l := by rw [wtAt_get h]; exact List.getElem_mem h
theorem take_succ_wt {l : List (Nat × List Nat)} {k : Nat} (h : k < l.length) : l.take (k + 1) = l.take k ++ [wtAt l k] := by
  rw [wtAt_get h, List.take_succ_eq_append_getElem h]
/-- those of the first k that are kept -/
def keptN (K : List Bool) (l : List (Nat × List Nat)) : Nat → List (Nat × List Nat)
  | 0 => []
  | k + 1 => keptN K l k ++ (if keepAt K k then [wtAt l k] else [])
theorem keptN_mem {K : List Bool} {l : List (Nat × List Nat)} : ∀ {k : Nat}, k ≤ l.length → ∀ p ∈ keptN K l k, p ∈ l
  | 0, _, _, h => by cases h
  | k + 1, hk, p, h => by
    rw [keptN, List.mem_append] at h
    rcases h with h | h
    · exact keptN_mem (by omega) p h
    · split at h
      · rw [List.mem_singleton] at h; subst h; exact wtAt_mem (by omega)
      · cases h
/-- a disk: is it on, how many sectors, what is firm, what waits, what was written, how many flushes, what it is armed for -/
structure Dk where
  on : Bool
  n : Nat
  firm : Nat → List Nat
  waits : List (Nat × List Nat)
  log : List Nat
  flushes : Nat
  set : Bool
  after : Nat
  keep : List Bool
/-- one more waits; one more is told -/
def Dk.waited (d : Dk) (p : Nat × List Nat) : Dk := { d with waits := d.waits ++ [p] }
def Dk.logged (d : Dk) (a : Nat) : Dk := { d with log := d.log ++ [a] }
/-- the same, but for what is firm -/
def Dk.withFirm (d : Dk) (f : Nat → List Nat) : Dk := { d with firm := f }
/-- what is read -/
def Dk.seen (d : Dk) : Nat → List Nat := appl d.firm d.waits
/-- what holds of each -/
structure Dk.Fine (d : Dk) : Prop where
  n : d.n ≤ 2048
  firm : ∀ i, i < d.n → (d.firm i).length = 128
  waits : ∀ p ∈ d.waits, p.1 < d.n ∧ p.2.length = 128
  many : d.waits.length ≤ 1000
  logs : d.log.length ≤ 1000
  flush : d.flushes ≤ 1000
  keeps : d.keep.length ≤ 1000
  aft : d.after < 9223372036854775808
theorem appl_len : ∀ (l : List (Nat × List Nat)) (f : Nat → List Nat) (n : Nat), (∀ i, i < n → (f i).length = 128) → (∀ p ∈ l, p.1 < n ∧ p.2.length = 128) → ∀ i, i < n → (appl f l i).length = 128
  | [], _, _, h, _, i, hi => h i hi
  | p :: l, f, n, h, hl, i, hi => appl_len l (updF f p.1 p.2) n (fun j hj => by
      unfold updF; split
      · exact (hl p List.mem_cons_self).2
      · exact h j hj) (fun q hq => hl q (List.mem_cons_of_mem _ hq)) i hi
theorem Dk.Fine.seen {d : Dk} (h : d.Fine) {i : Nat} (hi : i < d.n) : (d.seen i).length = 128 := appl_len _ _ _ h.firm h.waits i hi
def Dk.wrote (d : Dk) (a : Nat) (b : List Nat) : Dk := { d with waits := d.waits ++ [(a, b)], log := d.log ++ [a] }
def Dk.flushed (d : Dk) : Dk := { d with firm := d.seen, waits := [], flushes := d.flushes + 1 }
def Dk.crashed (d : Dk) (K : List Bool) : Dk := { d with firm := appl d.firm (keptN K d.waits d.waits.length), waits := [], on := false, set := false, after := 0, keep := [] }
def Dk.booted (d : Dk) : Dk := { d with on := true }
def Dk.armed (d : Dk) (a : Nat) (K : List Bool) : Dk := { d with set := true, after := a, keep := K }
def Dk.ticked (d : Dk) : Dk := { d with after := d.after - 1 }
/-- a disk of these sectors -/
def Dk.fresh (n : Nat) (f : Nat → List Nat) : Dk := { on := true, n := n, firm := f, waits := [], log := [], flushes := 0, set := false, after := 0, keep := [] }
theorem crashed_len {d : Dk} (h : d.Fine) (K : List Bool) : ∀ i, i < d.n → ((d.crashed K).firm i).length = 128 :=
  appl_len _ _ _ h.firm (fun p hp => h.waits p (keptN_mem (Nat.le_refl _) p hp))
theorem Dk.Fine.crashed {d : Dk} (h : d.Fine) (K : List Bool) : (d.crashed K).Fine :=
  ⟨h.n, crashed_len h K, (fun p hp => by cases hp), by simp [Dk.crashed], h.logs, h.flush, by simp [Dk.crashed], by simp [Dk.crashed]⟩
theorem Dk.Fine.flushed {d : Dk} (h : d.Fine) (hf : d.flushes < 1000) : d.flushed.Fine :=
  ⟨h.n, fun i hi => h.seen hi, (fun p hp => by cases hp), by simp [Dk.flushed], h.logs, by simp [Dk.flushed]; omega, h.keeps, h.aft⟩
theorem Dk.Fine.wrote {d : Dk} (h : d.Fine) {a : Nat} {b : List Nat} (ha : a < d.n) (hb : b.length = 128) (h1 : d.waits.length < 1000) (h2 : d.log.length < 1000) : (d.wrote a b).Fine :=
  ⟨h.n, h.firm, (fun p hp => by
    simp only [Dk.wrote, List.mem_append, List.mem_singleton] at hp
    rcases hp with hp | rfl
    · exact h.waits p hp
    · exact ⟨ha, hb⟩), by simp [Dk.wrote]; omega, by simp [Dk.wrote]; omega, h.flush, h.keeps, h.aft⟩
theorem Dk.Fine.booted {d : Dk} (h : d.Fine) : d.booted.Fine := ⟨h.n, h.firm, h.waits, h.many, h.logs, h.flush, h.keeps, h.aft⟩
theorem Dk.Fine.armed {d : Dk} (h : d.Fine) {a : Nat} {K : List Bool} (ha : a < 9223372036854775808) (hK : K.length ≤ 1000) : (d.armed a K).Fine := ⟨h.n, h.firm, h.waits, h.many, h.logs, h.flush, hK, ha⟩
theorem Dk.Fine.ticked {d : Dk} (h : d.Fine) : d.ticked.Fine := ⟨h.n, h.firm, h.waits, h.many, h.logs, h.flush, h.keeps, by have := h.aft; simp only [Dk.ticked]; omega⟩
theorem Dk.Fine.fresh {n : Nat} {f : Nat → List Nat} (hn : n ≤ 2048) (hf : ∀ i, i < n → (f i).length = 128) : (Dk.fresh n f).Fine :=
  ⟨hn, hf, (fun p hp => by cases hp), by simp [Dk.fresh], by simp [Dk.fresh], by simp [Dk.fresh], by simp [Dk.fresh], by simp [Dk.fresh]⟩
theorem Dk.Fine.waited {d : Dk} (h : d.Fine) {p : Nat × List Nat} (ha : p.1 < d.n) (hb : p.2.length = 128) (h1 : d.waits.length < 1000) : (d.waited p).Fine :=
  ⟨h.n, h.firm, (fun q hq => by
    simp only [Dk.waited, List.mem_append, List.mem_singleton] at hq
    rcases hq with hq | rfl
    · exact h.waits q hq
    · exact ⟨ha, hb⟩), by simp [Dk.waited]; omega, h.logs, h.flush, h.keeps, h.aft⟩
theorem Dk.Fine.logged {d : Dk} (h : d.Fine) {a : Nat} (h1 : d.log.length < 1000) : (d.logged a).Fine :=
  ⟨h.n, h.firm, h.waits, h.many, by simp [Dk.logged]; omega, h.flush, h.keeps, h.aft⟩
end Go.Proofs.Ytmaodnidodoadaa
