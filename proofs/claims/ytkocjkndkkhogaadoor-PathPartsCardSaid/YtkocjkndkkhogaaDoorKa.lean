/-
  Paths as lists of bytes: their parts, what is left of these, what is joined of them; what is told of any bytes.
-/
import Derived.Test.YtkocjkndkkhogaaDoorTx
namespace Go.Proofs.YtkocjkndkkhogaaDoor

/-- what stands between slashes (acc: what stands ahead already) -/
def pcs : List Nat → List Nat → List (List Nat)
  | acc, [] => [acc]
  | acc, x :: l => if x = 47 then acc :: pcs [] l else pcs (acc ++ [x]) l
theorem pcs_slash (acc b : List Nat) : pcs acc (47 :: b) = acc :: pcs [] b := by rw [pcs, if_pos rfl]
theorem pcs_other (acc b : List Nat) {x : Nat} (h : x ≠ 47) : pcs acc (x :: b) = pcs (acc ++ [x]) b := by rw [pcs, if_neg h]
theorem pcs_cut : ∀ (a acc b : List Nat), pcs acc (a ++ 47 :: b) = pcs acc a ++ pcs [] b
  | [], acc, b => by rw [List.nil_append, pcs_slash]; rfl
  | x :: a, acc, b => by
    by_cases h : x = 47
    · subst h
      rw [List.cons_append, pcs_slash, pcs_slash, pcs_cut a [] b]; rfl
    · rw [List.cons_append, pcs_other _ _ h, pcs_other _ _ h, pcs_cut a _ b]
theorem pcs_one : ∀ (a acc : List Nat), 47 ∉ a → pcs acc a = [acc ++ a]
  | [], acc, _ => by rw [List.append_nil]; rfl
  | x :: a, acc, h => by
    rw [List.mem_cons, not_or] at h
    rw [pcs_other _ _ (Ne.symm h.1), pcs_one a _ h.2, List.append_assoc]; rfl
theorem pcs_mem : ∀ (l acc : List Nat) (p : List Nat), 47 ∉ acc → p ∈ pcs acc l → 47 ∉ p ∧ ∀ x ∈ p, x ∈ acc ∨ x ∈ l
  | [], acc, p, h, hp => by
    obtain rfl := List.mem_singleton.1 hp
    exact ⟨h, fun x hx => .inl hx⟩
  | y :: l, acc, p, h, hp => by
    by_cases e : y = 47
    · subst e
      rw [pcs_slash, List.mem_cons] at hp
      rcases hp with rfl | hp
      · exact ⟨h, fun x hx => .inl hx⟩
      · obtain ⟨h1, h2⟩ := pcs_mem l [] p (by simp) hp
        exact ⟨h1, fun x hx => .inr (List.mem_cons_of_mem _ ((h2 x hx).resolve_left (by simp)))⟩
    · rw [pcs_other _ _ e] at hp
      obtain ⟨h1, h2⟩ := pcs_mem l (acc ++ [y]) p (by simp [h, Ne.symm e]) hp
      refine ⟨h1, fun x hx => ?_⟩
      rcases h2 x hx with h3 | h3
      · rcases List.mem_append.1 h3 with h4 | h4
        · exact .inl h4
        · obtain rfl := List.mem_singleton.1 h4
          exact .inr (List.mem_cons_self ..)
      · exact .inr (List.mem_cons_of_mem _ h3)
/-- so many bytes, and one for each -/
def sizeL : List (List Nat) → Nat
  | [] => 0
  | p :: ps => p.length + 1 + sizeL ps
theorem pcs_size : ∀ (l acc : List Nat), sizeL (pcs acc l) = acc.length + l.length + 1
  | [], acc => by simp [pcs, sizeL]
  | x :: l, acc => by
    by_cases e : x = 47
    · subst e
      rw [pcs_slash, sizeL, pcs_size l []]; simp; omega
    · rw [pcs_other _ _ e, pcs_size l _]; simp; omega
theorem sizeL_append : ∀ (a b : List (List Nat)), sizeL (a ++ b) = sizeL a + sizeL b
  | [], b => by simp [sizeL]
  | p :: a, b => by rw [List.cons_append, sizeL, sizeL, sizeL_append a b]; omega
theorem sizeL_sub {a b : List (List Nat)} (h : a.Sublist b) : sizeL a ≤ sizeL b := by
  induction h with
  | slnil => simp
  | cons p _ ih => simp only [sizeL]; omega
  | cons_cons p _ ih => simp only [sizeL]; omega

/-- the directory itself, the one above -/
def dot : List Nat := [46]
def dots : List Nat := [46, 46]
theorem dots_octs : Octs dots := .cons (by omega) (.cons (by omega) .nil)
theorem dot_octs : Octs dot := .cons (by omega) .nil
def realB (p : List Nat) : Bool := decide (p ≠ []) && decide (p ≠ dot)
theorem realB_iff {p : List Nat} : realB p = true ↔ p ≠ [] ∧ p ≠ dot := by simp [realB]
/-- the parts -/
def partsL (l : List Nat) : List (List Nat) := (pcs [] l).filter realB
theorem partsL_cut (a b : List Nat) : partsL (a ++ 47 :: b) = partsL a ++ partsL b := by unfold partsL; rw [pcs_cut, List.filter_append]
theorem partsL_slash (b : List Nat) : partsL (47 :: b) = partsL b := by
  have := partsL_cut [] b
  rw [List.nil_append] at this
  rw [this]; rfl
theorem partsL_one {a : List Nat} (h : 47 ∉ a) (hr : realB a = true) : partsL a = [a] := by
  unfold partsL
  rw [pcs_one a [] h, List.nil_append, List.filter_cons_of_pos hr]; rfl
theorem partsL_mem {l p : List Nat} (h : p ∈ partsL l) : 47 ∉ p ∧ realB p = true ∧ ∀ x ∈ p, x ∈ l := by
  obtain ⟨h1, h2⟩ := List.mem_filter.1 h
  obtain ⟨h3, h4⟩ := pcs_mem l [] p (by simp) h1
  exact ⟨h3, h2, fun x hx => (h4 x hx).resolve_left (by simp)⟩
theorem partsL_size (l : List Nat) : sizeL (partsL l) ≤ l.length + 1 := by
  have := sizeL_sub (List.filter_sublist (p := realB) (l := pcs [] l))
  rw [pcs_size] at this
  simpa [partsL] using this
theorem partsL_size_slash (b : List Nat) : sizeL (partsL (47 :: b)) ≤ (47 :: b).length := by
  rw [partsL_slash]; simpa using partsL_size b

/-- parts that may be: no slash within, and none that is left out -/
def Parts (ps : List (List Nat)) : Prop := ∀ p ∈ ps, 47 ∉ p ∧ realB p = true
theorem Parts.of (l : List Nat) : Parts (partsL l) := fun _p h => ⟨(partsL_mem h).1, (partsL_mem h).2.1⟩
theorem Parts.sub {a b : List (List Nat)} (h : Parts b) (hs : a.Sublist b) : Parts a := fun p hp => h p (hs.subset hp)
/-- / and the parts with / between -/
def joinL (ps : List (List Nat)) : List Nat := if ps = [] then [47] else ps.flatMap (fun p => 47 :: p)
theorem partsL_flat : ∀ {ps : List (List Nat)}, Parts ps → ∀ (a : List Nat), 47 ∉ a → partsL (a ++ ps.flatMap (fun p => 47 :: p)) = (if realB a then [a] else []) ++ ps
  | [], _, a, ha => by
    rw [List.flatMap_nil, List.append_nil, List.append_nil]
    unfold partsL
    rw [pcs_one a [] ha, List.nil_append]
    cases h : realB a <;> simp [h]
  | p :: ps, h, a, ha => by
    have hp := h p (List.mem_cons_self ..)
    rw [List.flatMap_cons, List.cons_append, partsL_cut, partsL_flat (fun q hq => h q (List.mem_cons_of_mem _ hq)) p hp.1, hp.2]
    unfold partsL
    rw [pcs_one a [] ha, List.nil_append]
    cases hr : realB a <;> simp [hr]
theorem partsL_join {ps : List (List Nat)} (h : Parts ps) : partsL (joinL ps) = ps := by
  unfold joinL
  split
  · rename_i e; subst e; rfl
  · have := partsL_flat h [] (by simp)
    rw [List.nil_append] at this
    rw [this]; rfl
theorem flat_length : ∀ (ps : List (List Nat)), (ps.flatMap (fun p => 47 :: p)).length = sizeL ps
  | [] => rfl
  | p :: ps => by rw [List.flatMap_cons, List.length_append, flat_length ps, sizeL]; rfl
theorem joinL_length {ps : List (List Nat)} (h : ps ≠ []) : (joinL ps).length = sizeL ps := by rw [joinL, if_neg h, flat_length]
theorem joinL_le (ps : List (List Nat)) : (joinL ps).length ≤ max 1 (sizeL ps) := by
  by_cases h : ps = []
  · subst h; decide
  · rw [joinL_length h]; omega
theorem joinL_head (ps : List (List Nat)) : ∃ b, joinL ps = 47 :: b := by
  cases ps with
  | nil => exact ⟨[], rfl⟩
  | cons p ps => exact ⟨_, by rw [joinL, if_neg (by simp), List.flatMap_cons]; rfl⟩
theorem joinL_mem {ps : List (List Nat)} {x : Nat} (h : x ∈ joinL ps) : x = 47 ∨ ∃ p ∈ ps, x ∈ p := by
  unfold joinL at h
  split at h
  · exact .inl (List.mem_singleton.1 h)
  · obtain ⟨p, hp, hx⟩ := List.mem_flatMap.1 h
    rcases List.mem_cons.1 hx with rfl | hx
    · exact .inl rfl
    · exact .inr ⟨p, hp, hx⟩

/-- is there a part that is too long, or too many? -/
def longL (ps : List (List Nat)) : Bool := ps.any (fun p => decide (24 < p.length)) || decide (20 < ps.length)
theorem longL_no {ps : List (List Nat)} : longL ps = false ↔ (∀ p ∈ ps, p.length ≤ 24) ∧ ps.length ≤ 20 := by
  simp [longL]
theorem longL_sub {a b : List (List Nat)} (h : longL b = false) (hs : a.Sublist b) : longL a = false := by
  obtain ⟨h1, h2⟩ := longL_no.1 h
  exact longL_no.2 ⟨fun p hp => h1 p (hs.subset hp), Nat.le_trans hs.length_le h2⟩
/-- what is told of any bytes, of up to so many -/
def codeS (most : Nat) (l : List Nat) : Int := if l = [] ∨ 0 ∈ l then 2 else if most < l.length ∨ longL (partsL l) = true then 11 else 0
def codeP (l : List Nat) : Int := if l.head? = some 47 then codeS 200 l else 2
def psOf (c : Int) (l : List Nat) : List (List Nat) := if c = 0 then partsL l else []
theorem codeS_zero {most : Nat} {l : List Nat} : codeS most l = 0 ↔ l ≠ [] ∧ 0 ∉ l ∧ l.length ≤ most ∧ longL (partsL l) = false := by
  unfold codeS
  by_cases h1 : l = [] ∨ 0 ∈ l
  · rw [if_pos h1]
    constructor
    · intro h; omega
    · rintro ⟨h2, h3, _⟩
      exact absurd h1 (by rintro (h | h); exact h2 h; exact h3 h)
  · rw [if_neg h1]
    have h1' := not_or.1 h1
    by_cases h2 : most < l.length ∨ longL (partsL l) = true
    · rw [if_pos h2]
      constructor
      · intro h; omega
      · rintro ⟨_, _, h3, h4⟩
        rcases h2 with h2 | h2
        · omega
        · rw [h4] at h2; cases h2
    · rw [if_neg h2]
      have h2' := not_or.1 h2
      exact ⟨fun _ => ⟨h1'.1, h1'.2, by omega, by simpa using h2'.2⟩, fun _ => rfl⟩
theorem codeP_zero {l : List Nat} : codeP l = 0 ↔ (∃ b, l = 47 :: b) ∧ 0 ∉ l ∧ l.length ≤ 200 ∧ longL (partsL l) = false := by
  unfold codeP
  by_cases h : l.head? = some 47
  · rw [if_pos h, codeS_zero]
    have : ∃ b, l = 47 :: b := by
      cases l with
      | nil => simp at h
      | cons x b => simp at h; exact ⟨b, by rw [h]⟩
    constructor
    · rintro ⟨_, h2⟩; exact ⟨this, h2⟩
    · rintro ⟨⟨b, rfl⟩, h2⟩; exact ⟨by simp, h2⟩
  · rw [if_neg h]
    constructor
    · intro h2; omega
    · rintro ⟨⟨b, rfl⟩, _⟩; simp at h

/-- how many parts ahead are taken away -/
def need : List (List Nat) → Nat
  | [] => 0
  | p :: ps => if p = dots then need ps + 1 else need ps - 1
/-- those that are left -/
def lasts : List (List Nat) → List (List Nat)
  | [] => []
  | p :: ps => if p ≠ dots ∧ need ps = 0 then p :: lasts ps else lasts ps
/-- going down a name and up with each .. -/
def stk : List (List Nat) → List (List Nat) → List (List Nat)
  | acc, [] => acc
  | acc, p :: ps => if p = dots then stk acc.dropLast ps else stk (acc ++ [p]) ps
theorem stk_is : ∀ (ps acc : List (List Nat)), stk acc ps = acc.take (acc.length - need ps) ++ lasts ps
  | [], acc => by simp [stk, need, lasts]
  | p :: ps, acc => by
    unfold stk need lasts
    by_cases h : p = dots
    · rw [if_pos h, if_pos h, if_neg (fun e => e.1 h), stk_is ps]
      congr 1
      rw [List.dropLast_eq_take, List.length_take, List.take_take]
      congr 1
      omega
    · rw [if_neg h, if_neg h, stk_is ps]
      by_cases h0 : need ps = 0
      · rw [if_pos ⟨h, h0⟩, h0, Nat.sub_zero, Nat.sub_zero, List.take_of_length_le (Nat.le_refl _), List.take_of_length_le (Nat.le_refl _), List.append_assoc]; rfl
      · rw [if_neg (fun e => h0 e.2)]
        congr 1
        rw [List.length_append, List.length_singleton, List.take_append_of_le_length (by omega)]
        congr 1
        omega
theorem stk_lasts (ps : List (List Nat)) : stk [] ps = lasts ps := by rw [stk_is]; simp
theorem stk_append : ∀ (a acc b : List (List Nat)), stk acc (a ++ b) = stk (stk acc a) b
  | [], acc, b => rfl
  | p :: a, acc, b => by
    rw [List.cons_append, stk, stk]
    by_cases h : p = dots
    · rw [if_pos h, if_pos h]; exact stk_append a _ b
    · rw [if_neg h, if_neg h]; exact stk_append a _ b
theorem lasts_sub : ∀ (ps : List (List Nat)), (lasts ps).Sublist ps
  | [] => by simp [lasts]
  | p :: ps => by
    unfold lasts
    split
    · exact (lasts_sub ps).cons_cons p
    · exact (lasts_sub ps).cons p
theorem lasts_dots : ∀ (ps : List (List Nat)), dots ∉ lasts ps
  | [] => by simp [lasts]
  | p :: ps => by
    unfold lasts
    split
    · rename_i h
      rw [List.mem_cons, not_or]
      exact ⟨Ne.symm h.1, lasts_dots ps⟩
    · exact lasts_dots ps
theorem need_none : ∀ (ps : List (List Nat)), dots ∉ ps → need ps = 0
  | [], _ => rfl
  | p :: ps, h => by
    rw [List.mem_cons, not_or] at h
    unfold need
    rw [if_neg (Ne.symm h.1), need_none ps h.2]
theorem lasts_none : ∀ (ps : List (List Nat)), dots ∉ ps → lasts ps = ps
  | [], _ => rfl
  | p :: ps, h => by
    rw [List.mem_cons, not_or] at h
    unfold lasts
    rw [if_pos ⟨Ne.symm h.1, need_none ps h.2⟩, lasts_none ps h.2]
theorem lasts_twice (ps : List (List Nat)) : lasts (lasts ps) = lasts ps := lasts_none _ (lasts_dots ps)
theorem lasts_detour (ps : List (List Nat)) {p : List Nat} (h : p ≠ dots) : lasts (ps ++ [p, dots]) = lasts ps := by
  rw [← stk_lasts, stk_append, stk_lasts]
  unfold stk
  rw [if_neg h]
  unfold stk
  rw [if_pos rfl]
  simp [stk]
/-- what is told of a path, cleaned -/
def cleanL (l : List Nat) : List Nat := if codeP l = 0 then joinL (lasts (partsL l)) else []
theorem clean_ok {l : List Nat} (h : codeP l = 0) : codeP (joinL (lasts (partsL l))) = 0 ∧ partsL (joinL (lasts (partsL l))) = lasts (partsL l) := by
  obtain ⟨⟨b, rfl⟩, h2, h3, h4⟩ := codeP_zero.1 h
  have hp := partsL_join ((Parts.of (47 :: b)).sub (lasts_sub _))
  refine ⟨codeP_zero.2 ⟨joinL_head _, fun h0 => ?_, ?_, ?_⟩, hp⟩
  · rcases joinL_mem h0 with h0 | ⟨p, hp, h0⟩
    · omega
    · exact h2 ((partsL_mem ((lasts_sub _).subset hp)).2.2 0 h0)
  · have h5 := joinL_le (lasts (partsL (47 :: b)))
    have h6 := sizeL_sub (lasts_sub (partsL (47 :: b)))
    have h7 := partsL_size_slash b
    omega
  · rw [hp]; exact longL_sub h4 (lasts_sub _)
/-- is there a last part? -/
def codeL (l : List Nat) : Int := if codeP l = 0 then (if partsL l = [] ∨ (partsL l).getLast? = some dots then 2 else 0) else codeP l
def headL (l : List Nat) : List Nat := if codeL l = 0 then joinL (partsL l).dropLast else []
def lastL (l : List Nat) : List Nat := if codeL l = 0 then (partsL l).getLast?.getD [] else []
theorem Octs.of {l p : List Nat} (h : Octs l) (hs : ∀ x ∈ p, x ∈ l) : Octs p := octs_mem fun x hx => h.mem x (hs x hx)
/-- all of them bytes -/
def OctsL (ps : List (List Nat)) : Prop := ∀ p ∈ ps, Octs p
theorem OctsL.parts {l : List Nat} (h : Octs l) : OctsL (partsL l) := fun _ hp => h.of (partsL_mem hp).2.2
theorem OctsL.psOf {l : List Nat} (h : Octs l) (c : Int) : OctsL (psOf c l) := by
  unfold Proofs.YtkocjkndkkhogaaDoor.psOf
  split
  · exact .parts h
  · exact fun p hp => absurd hp (by simp)
theorem OctsL.sub {a b : List (List Nat)} (h : OctsL b) (hs : a.Sublist b) : OctsL a := fun p hp => h p (hs.subset hp)
theorem OctsL.join {ps : List (List Nat)} (h : OctsL ps) : Octs (joinL ps) := octs_mem fun x hx => by
  rcases joinL_mem hx with rfl | ⟨p, hp, hx⟩
  · omega
  · exact (h p hp).mem x hx
end Go.Proofs.YtkocjkndkkhogaaDoor
