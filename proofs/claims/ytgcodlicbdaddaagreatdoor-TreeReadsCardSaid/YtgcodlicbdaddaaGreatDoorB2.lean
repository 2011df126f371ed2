/-
  Paths as lists of bytes: their parts, what is left of these, what is joined of them; what is told of any bytes.
  A tree of files, as lists: its nodes by their numbers, its places; how a path is gone.
-/
import Derived.Test.YtgcodlicbdaddaaGreatDoorB1

section
set_option linter.unusedVariables false
set_option linter.unusedSimpArgs false
namespace Go.Proofs.YtgcodlicbdaddaaGreatDoor

/-- what stands between slashes (acc: what stands ahead already) -/
def pcs : List Nat → List Nat → List (List Nat)
  | acc, [] => [acc]
  | acc, x :: l => if x = 47 then acc :: pcs [] l else pcs (acc ++ [x]) l
theorem pcs_slash (acc b : List Nat) : pcs acc (47 :: b) = acc :: pcs [] b := by rw [pcs, if_pos rfl]
theorem pcs_other (acc b : List Nat) {x : Nat} (h : x ≠ 47) : pcs acc (x :: b) = pcs (acc ++ [x]) b := by rw [pcs, if_neg h]
theorem pcs_cut : ∀ (a acc b : List Nat), pcs acc (a ++ 47 :: b) = pcs acc a ++ pcs [] b
  | [], acc, b => by rw [List.nil_append, pcs_slash]; rfl
  | x :: a, acc, b => by
    by_cases h : x = 47
    · subst h
      rw [List.cons_append, pcs_slash, pcs_slash, pcs_cut a [] b]; rfl
    · rw [List.cons_append, pcs_other _ _ h, pcs_other _ _ h, pcs_cut a _ b]
theorem pcs_one : ∀ (a acc : List Nat), 47 ∉ a → pcs acc a = [acc ++ a]
  | [], acc, _ => by rw [List.append_nil]; rfl
  | x :: a, acc, h => by
    rw [List.mem_cons, not_or] at h
    rw [pcs_other _ _ (Ne.symm h.1), pcs_one a _ h.2, List.append_assoc]; rfl
theorem pcs_mem : ∀ (l acc : List Nat) (p : List Nat), 47 ∉ acc → p ∈ pcs acc l → 47 ∉ p ∧ ∀ x ∈ p, x ∈ acc ∨ x ∈ l
  | [], acc, p, h, hp => by
    obtain rfl := List.mem_singleton.1 hp
    exact ⟨h, fun x hx => .inl hx⟩
  | y :: l, acc, p, h, hp => by
    by_cases e : y = 47
    · subst e
      rw [pcs_slash, List.mem_cons] at hp
      rcases hp with rfl | hp
      · exact ⟨h, fun x hx => .inl hx⟩
      · obtain ⟨h1, h2⟩ := pcs_mem l [] p (by simp) hp
        exact ⟨h1, fun x hx => .inr (List.mem_cons_of_mem _ ((h2 x hx).resolve_left (by simp)))⟩
    · rw [pcs_other _ _ e] at hp
      obtain ⟨h1, h2⟩ := pcs_mem l (acc ++ [y]) p (by simp [h, Ne.symm e]) hp
      refine ⟨h1, fun x hx => ?_⟩
      rcases h2 x hx with h3 | h3
      · rcases List.mem_append.1 h3 with h4 | h4
        · exact .inl h4
        · obtain rfl := List.mem_singleton.1 h4
          exact .inr (List.mem_cons_self ..)
      · exact .inr (List.mem_cons_of_mem _ h3)
/-- so many bytes, and one for each -/
def sizeL : List (List Nat) → Nat
  | [] => 0
  | p :: ps => p.length + 1 + sizeL ps
theorem pcs_size : ∀ (l acc : List Nat), sizeL (pcs acc l) = acc.length + l.length + 1
  | [], acc => by simp [pcs, sizeL]
  | x :: l, acc => by
    by_cases e : x = 47
    · subst e
      rw [pcs_slash, sizeL, pcs_size l []]; simp; omega
    · rw [pcs_other _ _ e, pcs_size l _]; simp; omega
theorem sizeL_append : ∀ (a b : List (List Nat)), sizeL (a ++ b) = sizeL a + sizeL b
  | [], b => by simp [sizeL]
  | p :: a, b => by rw [List.cons_append, sizeL, sizeL, sizeL_append a b]; omega
theorem sizeL_sub {a b : List (List Nat)} (h : a.Sublist b) : sizeL a ≤ sizeL b := by
  induction h with
  | slnil => simp
  | cons p _ ih => simp only [sizeL]; omega
  | cons_cons p _ ih => simp only [sizeL]; omega

/-- the directory itself, the one above -/
def dot : List Nat := [46]
def dots : List Nat := [46, 46]
theorem dots_octs : Octs dots := .cons (by omega) (.cons (by omega) .nil)
theorem dot_octs : Octs dot := .cons (by omega) .nil
def realB (p : List Nat) : Bool := decide (p ≠ []) && decide (p ≠ dot)
theorem realB_iff {p : List Nat} : realB p = true ↔ p ≠ [] ∧ p ≠ dot := by simp [realB]
/-- the parts -/
def partsL (l : List Nat) : List (List Nat) := (pcs [] l).filter realB
theorem partsL_cut (a b : List Nat) : partsL (a ++ 47 :: b) = partsL a ++ partsL b := by unfold partsL; rw [pcs_cut, List.filter_append]
theorem partsL_slash (b : List Nat) : partsL (47 :: b) = partsL b := by
  have := partsL_cut [] b
  rw [List.nil_append] at this
  rw [this]; rfl
theorem partsL_one {a : List Nat} (h : 47 ∉ a) (hr : realB a = true) : partsL a = [a] := by
  unfold partsL
  rw [pcs_one a [] h, List.nil_append, List.filter_cons_of_pos hr]; rfl
theorem partsL_mem {l p : List Nat} (h : p ∈ partsL l) : 47 ∉ p ∧ realB p = true ∧ ∀ x ∈ p, x ∈ l := by
  obtain ⟨h1, h2⟩ := List.mem_filter.1 h
  obtain ⟨h3, h4⟩ := pcs_mem l [] p (by simp) h1
  exact ⟨h3, h2, fun x hx => (h4 x hx).resolve_left (by simp)⟩
theorem partsL_size (l : List Nat) : sizeL (partsL l) ≤ l.length + 1 := by
  have := sizeL_sub (List.filter_sublist (p := realB) (l := pcs [] l))
  rw [pcs_size] at this
  simpa [partsL] using this
theorem partsL_size_slash (b : List Nat) : sizeL (partsL (47 :: b)) ≤ (47 :: b).length := by
  rw [partsL_slash]; simpa using partsL_size b

/-- parts that may be: no slash within, and none that is left out -/
def Parts (ps : List (List Nat)) : Prop := ∀ p ∈ ps, 47 ∉ p ∧ realB p = true
theorem Parts.of (l : List Nat) : Parts (partsL l) := fun _p h => ⟨(partsL_mem h).1, (partsL_mem h).2.1⟩
theorem Parts.sub {a b : List (List Nat)} (h : Parts b) (hs : a.Sublist b) : Parts a := fun p hp => h p (hs.subset hp)
/-- / and the parts with / between -/
def joinL (ps : List (List Nat)) : List Nat := if ps = [] then [47] else ps.flatMap (fun p => 47 :: p)
theorem partsL_flat : ∀ {ps : List (List Nat)}, Parts ps → ∀ (a : List Nat), 47 ∉ a → partsL (a ++ ps.flatMap (fun p => 47 :: p)) = (if realB a then [a] else []) ++ ps
  | [], _, a, ha => by
    rw [List.flatMap_nil, List.append_nil, List.append_nil]
    unfold partsL
    rw [pcs_one a [] ha, List.nil_append]
    cases h : realB a <;> simp [h]
  | p :: ps, h, a, ha => by
    have hp := h p (List.mem_cons_self ..)
    rw [List.flatMap_cons, List.cons_append, partsL_cut, partsL_flat (fun q hq => h q (List.mem_cons_of_mem _ hq)) p hp.1, hp.2]
    unfold partsL
    rw [pcs_one a [] ha, List.nil_append]
    cases hr : realB a <;> simp [hr]
theorem partsL_join {ps : List (List Nat)} (h : Parts ps) : partsL (joinL ps) = ps := by
  unfold joinL
  split
  · rename_i e; subst e; rfl
  · have := partsL_flat h [] (by simp)
    rw [List.nil_append] at this
    rw [this]; rfl
theorem flat_length : ∀ (ps : List (List Nat)), (ps.flatMap (fun p => 47 :: p)).length = sizeL ps
  | [] => rfl
  | p :: ps => by rw [List.flatMap_cons, List.length_append, flat_length ps, sizeL]; rfl
theorem joinL_length {ps : List (List Nat)} (h : ps ≠ []) : (joinL ps).length = sizeL ps := by rw [joinL, if_neg h, flat_length]
theorem joinL_le (ps : List (List Nat)) : (joinL ps).length ≤ max 1 (sizeL ps) := by
  by_cases h : ps = []
  · subst h; decide
  · rw [joinL_length h]; omega
theorem joinL_head (ps : List (List Nat)) : ∃ b, joinL ps = 47 :: b := by
  cases ps with
  | nil => exact ⟨[], rfl⟩
  | cons p ps => exact ⟨_, by rw [joinL, if_neg (by simp), List.flatMap_cons]; rfl⟩
theorem joinL_mem {ps : List (List Nat)} {x : Nat} (h : x ∈ joinL ps) : x = 47 ∨ ∃ p ∈ ps, x ∈ p := by
  unfold joinL at h
  split at h
  · exact .inl (List.mem_singleton.1 h)
  · obtain ⟨p, hp, hx⟩ := List.mem_flatMap.1 h
    rcases List.mem_cons.1 hx with rfl | hx
    · exact .inl rfl
    · exact .inr ⟨p, hp, hx⟩

/-- is there a part that is too long, or too many? -/
def longL (ps : List (List Nat)) : Bool := ps.any (fun p => decide (24 < p.length)) || decide (20 < ps.length)
theorem longL_no {ps : List (List Nat)} : longL ps = false ↔ (∀ p ∈ ps, p.length ≤ 24) ∧ ps.length ≤ 20 := by
  simp [longL]
theorem longL_sub {a b : List (List Nat)} (h : longL b = false) (hs : a.Sublist b) : longL a = false := by
  obtain ⟨h1, h2⟩ := longL_no.1 h
  exact longL_no.2 ⟨fun p hp => h1 p (hs.subset hp), Nat.le_trans hs.length_le h2⟩
/-- what is told of any bytes, of up to so many -/
def codeS (most : Nat) (l : List Nat) : Int := if l = [] ∨ 0 ∈ l then 2 else if most < l.length ∨ longL (partsL l) = true then 11 else 0
def codeP (l : List Nat) : Int := if l.head? = some 47 then codeS 200 l else 2
/-- is it gone from the root on? -/
def rootT (l : List Nat) : Bool := decide (codeS 100 l = 0) && decide (l.head? = some 47)
def psOf (c : Int) (l : List Nat) : List (List Nat) := if c = 0 then partsL l else []
theorem codeS_zero {most : Nat} {l : List Nat} : codeS most l = 0 ↔ l ≠ [] ∧ 0 ∉ l ∧ l.length ≤ most ∧ longL (partsL l) = false := by
  unfold codeS
  by_cases h1 : l = [] ∨ 0 ∈ l
  · rw [if_pos h1]
    constructor
    · intro h; omega
    · rintro ⟨h2, h3, _⟩
      exact absurd h1 (by rintro (h | h); exact h2 h; exact h3 h)
  · rw [if_neg h1]
    have h1' := not_or.1 h1
    by_cases h2 : most < l.length ∨ longL (partsL l) = true
    · rw [if_pos h2]
      constructor
      · intro h; omega
      · rintro ⟨_, _, h3, h4⟩
        rcases h2 with h2 | h2
        · omega
        · rw [h4] at h2; cases h2
    · rw [if_neg h2]
      have h2' := not_or.1 h2
      exact ⟨fun _ => ⟨h1'.1, h1'.2, by omega, by simpa using h2'.2⟩, fun _ => rfl⟩
theorem codeP_zero {l : List Nat} : codeP l = 0 ↔ (∃ b, l = 47 :: b) ∧ 0 ∉ l ∧ l.length ≤ 200 ∧ longL (partsL l) = false := by
  unfold codeP
  by_cases h : l.head? = some 47
  · rw [if_pos h, codeS_zero]
    have : ∃ b, l = 47 :: b := by
      cases l with
      | nil => simp at h
      | cons x b => simp at h; exact ⟨b, by rw [h]⟩
    constructor
    · rintro ⟨_, h2⟩; exact ⟨this, h2⟩
    · rintro ⟨⟨b, rfl⟩, h2⟩; exact ⟨by simp, h2⟩
  · rw [if_neg h]
    constructor
    · intro h2; omega
    · rintro ⟨⟨b, rfl⟩, _⟩; simp at h

/-- how many parts ahead are taken away -/
def need : List (List Nat) → Nat
  | [] => 0
  | p :: ps => if p = dots then need ps + 1 else need ps - 1
/-- those that are left -/
def lasts : List (List Nat) → List (List Nat)
  | [] => []
  | p :: ps => if p ≠ dots ∧ need ps = 0 then p :: lasts ps else lasts ps
/-- going down a name and up with each .. -/
def stk : List (List Nat) → List (List Nat) → List (List Nat)
  | acc, [] => acc
  | acc, p :: ps => if p = dots then stk acc.dropLast ps else stk (acc ++ [p]) ps
theorem stk_is : ∀ (ps acc : List (List Nat)), stk acc ps = acc.take (acc.length - need ps) ++ lasts ps
  | [], acc => by simp [stk, need, lasts]
  | p :: ps, acc => by
    unfold stk need lasts
    by_cases h : p = dots
    · rw [if_pos h, if_pos h, if_neg (fun e => e.1 h), stk_is ps]
      congr 1
      rw [List.dropLast_eq_take, List.length_take, List.take_take]
      congr 1
      omega
    · rw [if_neg h, if_neg h, stk_is ps]
      by_cases h0 : need ps = 0
      · rw [if_pos ⟨h, h0⟩, h0, Nat.sub_zero, Nat.sub_zero, List.take_of_length_le (Nat.le_refl _), List.take_of_length_le (Nat.le_refl _), List.append_assoc]; rfl
      · rw [if_neg (fun e => h0 e.2)]
        congr 1
        rw [List.length_append, List.length_singleton, List.take_append_of_le_length (by omega)]
        congr 1
        omega
theorem stk_lasts (ps : List (List Nat)) : stk [] ps = lasts ps := by rw [stk_is]; simp
theorem stk_append : ∀ (a acc b : List (List Nat)), stk acc (a ++ b) = stk (stk acc a) b
  | [], acc, b => rfl
  | p :: a, acc, b => by
    rw [List.cons_append, stk, stk]
    by_cases h : p = dots
    · rw [if_pos h, if_pos h]; exact stk_append a _ b
    · rw [if_neg h, if_neg h]; exact stk_append a _ b
theorem lasts_sub : ∀ (ps : List (List Nat)), (lasts ps).Sublist ps
  | [] => by simp [lasts]
  | p :: ps => by
    unfold lasts
    split
    · exact (lasts_sub ps).cons_cons p
    · exact (lasts_sub ps).cons p
theorem lasts_dots : ∀ (ps : List (List Nat)), dots ∉ lasts ps
  | [] => by simp [lasts]
  | p :: ps => by
    unfold lasts
    split
    · rename_i h
      rw [List.mem_cons, not_or]
      exact ⟨Ne.symm h.1, lasts_dots ps⟩
    · exact lasts_dots ps
theorem need_none : ∀ (ps : List (List Nat)), dots ∉ ps → need ps = 0
  | [], _ => rfl
  | p :: ps, h => by
    rw [List.mem_cons, not_or] at h
    unfold need
    rw [if_neg (Ne.symm h.1), need_none ps h.2]
theorem lasts_none : ∀ (ps : List (List Nat)), dots ∉ ps → lasts ps = ps
  | [], _ => rfl
  | p :: ps, h => by
    rw [List.mem_cons, not_or] at h
    unfold lasts
    rw [if_pos ⟨Ne.symm h.1, need_none ps h.2⟩, lasts_none ps h.2]
theorem lasts_twice (ps : List (List Nat)) : lasts (lasts ps) = lasts ps := lasts_none _ (lasts_dots ps)
theorem lasts_detour (ps : List (List Nat)) {p : List Nat} (h : p ≠ dots) : lasts (ps ++ [p, dots]) = lasts ps := by
  rw [← stk_lasts, stk_append, stk_lasts]
  unfold stk
  rw [if_neg h]
  unfold stk
  rw [if_pos rfl]
  simp [stk]
/-- what is told of a path, cleaned -/
def cleanL (l : List Nat) : List Nat := if codeP l = 0 then joinL (lasts (partsL l)) else []
theorem clean_ok {l : List Nat} (h : codeP l = 0) : codeP (joinL (lasts (partsL l))) = 0 ∧ partsL (joinL (lasts (partsL l))) = lasts (partsL l) := by
  obtain ⟨⟨b, rfl⟩, h2, h3, h4⟩ := codeP_zero.1 h
  have hp := partsL_join ((Parts.of (47 :: b)).sub (lasts_sub _))
  refine ⟨codeP_zero.2 ⟨joinL_head _, fun h0 => ?_, ?_, ?_⟩, hp⟩
  · rcases joinL_mem h0 with h0 | ⟨p, hp, h0⟩
    · omega
    · exact h2 ((partsL_mem ((lasts_sub _).subset hp)).2.2 0 h0)
  · have h5 := joinL_le (lasts (partsL (47 :: b)))
    have h6 := sizeL_sub (lasts_sub (partsL (47 :: b)))
    have h7 := partsL_size_slash b
    omega
  · rw [hp]; exact longL_sub h4 (lasts_sub _)
/-- is there a last part? -/
def codeL (l : List Nat) : Int := if codeP l = 0 then (if partsL l = [] ∨ (partsL l).getLast? = some dots then 2 else 0) else codeP l
def headL (l : List Nat) : List Nat := if codeL l = 0 then joinL (partsL l).dropLast else []
def lastL (l : List Nat) : List Nat := if codeL l = 0 then (partsL l).getLast?.getD [] else []
theorem Octs.of {l p : List Nat} (h : Octs l) (hs : ∀ x ∈ p, x ∈ l) : Octs p := octs_mem fun x hx => h.mem x (hs x hx)
/-- all of them bytes -/
def OctsL (ps : List (List Nat)) : Prop := ∀ p ∈ ps, Octs p
theorem OctsL.parts {l : List Nat} (h : Octs l) : OctsL (partsL l) := fun _ hp => h.of (partsL_mem hp).2.2
theorem OctsL.psOf {l : List Nat} (h : Octs l) (c : Int) : OctsL (psOf c l) := by
  unfold Proofs.YtgcodlicbdaddaaGreatDoor.psOf
  split
  · exact .parts h
  · exact fun p hp => absurd hp (by simp)
theorem OctsL.sub {a b : List (List Nat)} (h : OctsL b) (hs : a.Sublist b) : OctsL a := fun p hp => h p (hs.subset hp)
theorem OctsL.join {ps : List (List Nat)} (h : OctsL ps) : Octs (joinL ps) := octs_mem fun x hx => by
  rcases joinL_mem hx with rfl | ⟨p, hp, hx⟩
  · omega
  · exact (h p hp).mem x hx
end Go.Proofs.YtgcodlicbdaddaaGreatDoor
end

section
set_option linter.unusedVariables false
set_option linter.unusedSimpArgs false
namespace Go.Proofs.YtgcodlicbdaddaaGreatDoor

/-- a node -/
structure Nd where
  kind : Nat
  links : Nat
  data : List Nat
  wr : List Bool
  ents : List (List Nat × Nat)
  most : Nat
  up : Nat
  nm : List Nat
/-- none -/
def nd0 : Nd := ⟨0, 0, [], [], [], 0, 0, []⟩
/-- none of 162 blocks was written -/
def wr0 : List Bool := List.replicate 162 false
/-- a new one -/
def ndNew (k : Nat) : Nd := { nd0 with kind := k, wr := wr0 }
/-- a tree: its nodes by their numbers (those that are gone: none), its places -/
structure Tr where
  nd : List (Option Nd)
  tb : List Plc
def Tr.opt (s : Tr) (i : Nat) : Option Nd := s.nd.getD i none
def Tr.at (s : Tr) (i : Nat) : Nd := (s.opt i).getD nd0
theorem Tr.opt_lt {s : Tr} {i : Nat} {x : Nd} (h : s.opt i = some x) : i < s.nd.length := by
  unfold Tr.opt at h
  by_cases e : i < s.nd.length
  · exact e
  · rw [List.getD, List.getElem?_eq_none (by omega)] at h; cases h
theorem Tr.at_of {s : Tr} {i : Nat} {x : Nd} (h : s.opt i = some x) : s.at i = x := by unfold Tr.at; rw [h]; rfl
/-- a node laid -/
def Tr.put (s : Tr) (i : Nat) (x : Nd) : Tr := { s with nd := s.nd.set i (some x) }
def Tr.del (s : Tr) (i : Nat) : Tr := { s with nd := s.nd.set i none }
def tr0 : Tr := ⟨[none, some { ndNew 2 with links := 1 }], z16⟩

/-- the node of a name; 0 -/
def lookE : List (List Nat × Nat) → List Nat → Nat
  | [], _ => 0
  | e :: r, p => if e.1 = p then e.2 else lookE r p
def Nd.look (x : Nd) (p : List Nat) : Nat := lookE x.ents p
/-- one name among the others, by their order -/
def insE (p : List Nat) (n : Nat) : List (List Nat × Nat) → List (List Nat × Nat)
  | [] => [(p, n)]
  | e :: r => if p < e.1 then (p, n) :: e :: r else e :: insE p n r
def delE (p : List Nat) (l : List (List Nat × Nat)) : List (List Nat × Nat) := l.filter fun e => decide (e.1 ≠ p)

/-- one part: a code, the node -/
def Tr.step (s : Tr) (i : Nat) (p : List Nat) : Int × Nat :=
  if (s.at i).kind ≠ 2 then (7, 0) else
  if p = dots then (0, if (s.at i).up = 0 then i else (s.at i).up) else
  match (s.at i).look p with
  | 0 => (5, 0)
  | j + 1 => (0, j + 1)
/-- the parts, till a link is met -/
def Tr.walkIn (s : Tr) (itself : Bool) (cont : List (List Nat) → Nat → Int × Nat) : List (List Nat) → Nat → Int × Nat
  | [], i => (0, i)
  | p :: r, i =>
    if (s.step i p).1 ≠ 0 then ((s.step i p).1, 0) else
    if (s.at (s.step i p).2).kind ≠ 3 ∨ itself = true ∧ r = [] then s.walkIn itself cont r (s.step i p).2 else
    cont (psOf (codeS 100 (s.at (s.step i p).2).data) (s.at (s.step i p).2).data ++ r) (if rootT (s.at (s.step i p).2).data then 1 else i)
def Tr.walk (s : Tr) (itself : Bool) : Nat → List (List Nat) → Nat → Int × Nat
  | 0, _, _ => (12, 0)
  | k + 1, l, i => s.walkIn itself (s.walk itself k) l i
def Tr.find (s : Tr) (p : List Nat) (itself : Bool) : Int × Nat :=
  if codeP p ≠ 0 then (codeP p, 0) else s.walk itself 9 (partsL p) 1

/-- the names from the root to a directory -/
def Tr.pathF (s : Tr) : Nat → Nat → List (List Nat)
  | 0, _ => []
  | k + 1, i => if (s.at i).up = 0 then [] else s.pathF k (s.at i).up ++ [(s.at i).nm]
def Tr.path (s : Tr) (i : Nat) : List (List Nat) := s.pathF 21 i
/-- may no path go as far? -/
def far (long parts : Nat) : Bool := decide (200 < long) || decide (20 < parts)
/-- a place: its directory, the name, the node there -/
structure Spot where
  dir : Nat
  nm : List Nat
  there : Nat
def spot0 : Spot := ⟨0, [], 0⟩
def Tr.place (s : Tr) (p : List Nat) : Int × Spot :=
  if codeL p ≠ 0 then (codeL p, spot0) else
  if (s.find (headL p) false).1 ≠ 0 then ((s.find (headL p) false).1, spot0) else
  if (s.at (s.find (headL p) false).2).kind ≠ 2 then (7, spot0) else
  if far (sizeL (s.path (s.find (headL p) false).2) + 1 + (lastL p).length) ((s.path (s.find (headL p) false).2).length + 1) then (11, spot0) else
  (0, ⟨(s.find (headL p) false).2, lastL p, (s.at (s.find (headL p) false).2).look (lastL p)⟩)
/-- does it lie within? -/
def Tr.withinF (s : Tr) : Nat → Nat → Nat → Bool
  | 0, i, top => decide (i = top)
  | k + 1, i, top => if i ≠ top ∧ (s.at i).up ≠ 0 then s.withinF k (s.at i).up top else decide (i = top)
def Tr.within (s : Tr) (i top : Nat) : Bool := s.withinF 21 i top
/-- would something within be too far? -/
def Tr.overF (s : Tr) : Nat → Nat → Nat → Nat → Bool
  | 0, _, _, _ => false
  | k + 1, i, b, n => (s.at i).ents.any fun e => far (b + 1 + e.1.length) (n + 1) || s.overF k e.2 (b + 1 + e.1.length) (n + 1)

/-! ### What turns -/
/-- a new node, of the next number -/
def Tr.make (s : Tr) (x : Nd) : Tr := { s with nd := s.nd ++ [some x] }
/-- gone, if nothing is left by which it can be reached -/
def Tr.leave (s : Tr) (i : Nat) : Tr := if (s.at i).links = 0 ∧ heldB s.tb i 16 = false then s.del i else s
def Nd.enter (x : Nd) (p : List Nat) (n : Nat) : Nd := { x with ents := insE p n x.ents, most := max x.most (x.ents.length + 1) }
def Nd.named (x : Nd) (dir : Nat) (p : List Nat) : Nd := if x.kind = 2 then { x with links := x.links + 1, up := dir, nm := p } else { x with links := x.links + 1 }
def Nd.unnamed (x : Nd) : Nd := if x.kind = 2 then { x with links := x.links - 1, up := 0, nm := [] } else { x with links := x.links - 1 }
def Tr.hang (s : Tr) (q : Spot) (i : Nat) : Tr := (s.put q.dir ((s.at q.dir).enter q.nm i)).put i (((s.put q.dir ((s.at q.dir).enter q.nm i)).at i).named q.dir q.nm)
def Tr.take (s : Tr) (q : Spot) : Tr :=
  (s.put q.dir { s.at q.dir with ents := delE q.nm (s.at q.dir).ents }).put q.there (((s.put q.dir { s.at q.dir with ents := delE q.nm (s.at q.dir).ents }).at q.there).unnamed)
def Tr.lose (s : Tr) (q : Spot) : Tr := (s.take q).leave q.there

/-! ### A file's bytes -/
def needB (n : Nat) : Nat := (n + 127) / 128
def Nd.resize (x : Nd) (n : Nat) : Nd :=
  if x.data.length < n then { x with data := x.data ++ List.replicate (n - x.data.length) 0 } else
  { x with data := x.data.take n, wr := x.wr.take (needB n) ++ List.replicate (162 - needB n) false }
/-- those from a on, below b -/
def markW (a b : Nat) (l : List Bool) : List Bool := l.take a ++ List.replicate (b - a) true ++ l.drop (max a b)
def Nd.grow (x : Nd) (n : Nat) : Nd := if x.data.length < n then x.resize n else x
def Nd.write (x : Nd) (at_ : Nat) (b : List Nat) : Nd :=
  { (x.grow (at_ + b.length)) with data := splice (x.grow (at_ + b.length)).data at_ b, wr := markW (at_ / 128) (needB (at_ + b.length)) (x.grow (at_ + b.length)).wr }
def Nd.read (x : Nd) (at_ many : Nat) : List Nat := (x.data.drop at_).take many
/-- how long it is -/
def Nd.size (x : Nd) : Nat := if x.kind = 2 then x.ents.length else x.data.length
end Go.Proofs.YtgcodlicbdaddaaGreatDoor
end
