/-
  The rows of all nodes: how many there are; their paths differ; there is one order.
  Rows sorted by their paths: the closure that compares.
  Nodes.
-/
import Derived.Test.YtgcodlicbdaddaaGreatDoorB30
import Derived.Test.YtgcodlicbdaddaaGreatDoorB6
import Derived.Test.YtgcodlicbdaddaaGreatDoorB43
import Derived.Test.YtgcodlicbdaddaaGreatDoorB37
import Derived.Shelf.SlSortCmp.WholeK
import Derived.Sort.OwnSorted
import Derived.Laws.Cover1
import Derived.Test.YtgcodlicbdaddaaGreatDoorB42

section
set_option linter.unusedVariables false
set_option linter.unusedSimpArgs false
namespace Go.Proofs.YtgcodlicbdaddaaGreatDoor
set_option maxRecDepth 100000

section
variable {b : Nat} {s : Tr}
/-- the directories that are passed through -/
def Tr.dirsF (s : Tr) : Nat → Nat → List Nat
  | 0, _ => []
  | k + 1, i => if (s.at i).kind = 2 then i :: (s.at i).ents.flatMap fun e => s.dirsF k e.2 else []
def entS (s : Tr) : List Nat → Nat
  | [] => 0
  | i :: r => (s.at i).ents.length + entS s r
theorem entS_append (s : Tr) : ∀ l m : List Nat, entS s (l ++ m) = entS s l + entS s m
  | [], m => by rw [List.nil_append]; show _ = 0 + _; omega
  | i :: r, m => by
    show (s.at i).ents.length + entS s (r ++ m) = (s.at i).ents.length + entS s r + entS s m
    rw [entS_append s r m]
    omega
theorem Ok.child_kind (ho : Ok b s) {k i : Nat} {x : Nd} (hx : s.opt i = some x) {e : List Nat × Nat} (he : e ∈ x.ents) {d : Nat} (hd : d ∈ s.dirsF k e.2) : s.path e.2 = s.path i ++ [e.1] := by
  obtain ⟨y, hy, hyd⟩ := ho.ent i x hx e he
  have hk : y.kind = 2 := by
    cases k with
    | zero => cases hd
    | succ k =>
      unfold Tr.dirsF at hd
      rw [Tr.at_of hy] at hd
      by_cases h : y.kind = 2
      · exact h
      · rw [if_neg h] at hd; cases hd
  obtain ⟨e1, e2⟩ := hyd hk
  have := ho.path_up hy (by rw [e1]; exact ho.e.pos hx)
  rw [this, e1, e2]
theorem dirsF_mem (ho : Ok b s) : ∀ (k i : Nat) (x : Nd), s.opt i = some x → ∀ d ∈ s.dirsF k i, (∃ y, s.opt d = some y) ∧ ∃ t, s.path d = s.path i ++ t
  | 0, _, _, _, _, hd => by cases hd
  | k + 1, i, x, hx, d, hd => by
    unfold Tr.dirsF at hd
    rw [Tr.at_of hx] at hd
    split at hd
    · rcases List.mem_cons.1 hd with rfl | hd
      · exact ⟨⟨x, hx⟩, [], (List.append_nil _).symm⟩
      · obtain ⟨e, he, hd⟩ := List.mem_flatMap.1 hd
        obtain ⟨y, hy, _⟩ := ho.ent i x hx e he
        obtain ⟨h1, t, h2⟩ := dirsF_mem ho k e.2 y hy d hd
        exact ⟨h1, [e.1] ++ t, by rw [h2, ho.child_kind hx he hd, List.append_assoc]⟩
    · cases hd
theorem dirsF_nodup (ho : Ok b s) : ∀ (k i : Nat) (x : Nd), s.opt i = some x → (s.dirsF k i).Nodup
  | 0, _, _, _ => List.nodup_nil
  | k + 1, i, x, hx => by
    unfold Tr.dirsF
    rw [Tr.at_of hx]
    split
    · have hdeep : ∀ e ∈ x.ents, ∀ d ∈ s.dirsF k e.2, ∃ t, s.path d = s.path i ++ e.1 :: t := fun e he d hd => by
        obtain ⟨y, hy, _⟩ := ho.ent i x hx e he
        obtain ⟨_, t, h2⟩ := dirsF_mem ho k e.2 y hy d hd
        exact ⟨t, by rw [h2, ho.child_kind hx he hd, List.append_assoc]; rfl⟩
      rw [List.nodup_cons]
      refine ⟨fun h => ?_, ?_⟩
      · obtain ⟨e, he, hd⟩ := List.mem_flatMap.1 h
        obtain ⟨t, ht⟩ := hdeep e he i hd
        have := congrArg List.length ht
        rw [List.length_append, List.length_cons] at this
        omega
      · show List.Pairwise _ _
        rw [List.pairwise_flatMap]
        refine ⟨fun e he => ?_, ?_⟩
        · obtain ⟨y, hy, _⟩ := ho.ent i x hx e he
          exact dirsF_nodup ho k e.2 y hy
        · refine List.Pairwise.imp_of_mem ?_ (ho.each i x hx).sorted
          intro e e' he he' hlt d hd d' hd' heq
          subst heq
          obtain ⟨t, ht⟩ := hdeep e he d hd
          obtain ⟨t', ht'⟩ := hdeep e' he' d hd'
          rw [ht] at ht'
          have := List.append_cancel_left ht'
          rw [List.cons.injEq] at this
          exact absurd (this.1 ▸ hlt) (List.lt_irrefl _)
    · exact List.nodup_nil
theorem belowF_len (ho : Ok b s) : ∀ (k i : Nat) (x : Nd) (p : List Nat), s.opt i = some x → (s.belowF k p i).length ≤ 1 + entS s (s.dirsF k i)
  | 0, _, _, _, _ => Nat.zero_le _
  | k + 1, i, x, p, hx => by
    unfold Tr.belowF Tr.dirsF
    rw [Tr.at_of hx, List.length_cons]
    by_cases hk : x.kind = 2
    · rw [if_pos hk]
      have key : ∀ l : List (List Nat × Nat), (∀ e ∈ l, ∃ y, s.opt e.2 = some y) → (l.flatMap fun e => s.belowF k (p ++ 47 :: e.1) e.2).length ≤ l.length + entS s (l.flatMap fun e => s.dirsF k e.2) := fun l => by
        induction l with
        | nil => intro _; exact Nat.zero_le _
        | cons e r ih =>
          intro h
          obtain ⟨y, hy⟩ := h e List.mem_cons_self
          have h1 := belowF_len ho k e.2 y (p ++ 47 :: e.1) hy
          have h2 := ih fun q hq => h q (List.mem_cons_of_mem _ hq)
          rw [List.flatMap_cons, List.flatMap_cons, List.length_append, entS_append, List.length_cons]
          omega
      have h1 := key x.ents fun e he => (ho.ent i x hx e he).imp fun _ h => h.1
      show _ ≤ 1 + ((s.at i).ents.length + entS s _)
      rw [Tr.at_of hx]
      omega
    · rw [((ho.each i x hx).noent hk).1]
      show 0 + 1 ≤ _
      omega
theorem nodup_le : ∀ (n : Nat) (l : List Nat), l.Nodup → (∀ i ∈ l, i < n) → l.length ≤ n
  | 0, [], _, _ => Nat.le_refl _
  | 0, i :: r, _, h => absurd (h i List.mem_cons_self) (Nat.not_lt_zero _)
  | n + 1, l, hn, h => by
    by_cases hm : n ∈ l
    · have hp := List.perm_cons_erase hm
      have hn2 := hp.nodup_iff.1 hn
      obtain ⟨h1, h2⟩ := List.nodup_cons.1 hn2
      have := nodup_le n (l.erase n) h2 fun i hi => by
        have h3 := h i (List.mem_of_mem_erase hi)
        have : i ≠ n := fun e => h1 (e ▸ hi)
        omega
      rw [hp.length_eq, List.length_cons]
      omega
    · have := nodup_le n l hn fun i hi => by
        have h3 := h i hi
        have : i ≠ n := fun e => hm (e ▸ hi)
        omega
      omega
theorem entS_le (ho : Ok b s) : ∀ l : List Nat, (∀ i ∈ l, ∃ y, s.opt i = some y) → entS s l ≤ l.length * b
  | [], _ => Nat.zero_le _
  | i :: r, h => by
    obtain ⟨y, hy⟩ := h i List.mem_cons_self
    have h1 := (ho.each i y hy).few
    have h2 := entS_le ho r fun j hj => h j (List.mem_cons_of_mem _ hj)
    show (s.at i).ents.length + entS s r ≤ (r.length + 1) * b
    rw [Tr.at_of hy, Nat.add_mul]
    omega
theorem Ok.rows (ho : Ok b s) (hb : b ≤ 900000) {i : Nat} {x : Nd} (hx : s.opt i = some x) (k : Nat) (p : List Nat) : (s.belowF k p i).length ≤ 1000000000000 := by
  have h1 := belowF_len ho k i x p hx
  have h2 := entS_le ho (s.dirsF k i) fun d hd => (dirsF_mem ho k i x hx d hd).1
  have h3 := nodup_le s.nd.length _ (dirsF_nodup ho k i x hx) fun d hd => by
    obtain ⟨⟨y, hy⟩, _⟩ := dirsF_mem ho k i x hx d hd
    exact Tr.opt_lt hy
  have h4 := ho.len.2
  have h5 : (s.dirsF k i).length * b ≤ 900002 * 900000 := Nat.mul_le_mul (by omega) hb
  omega

/-! ### Their paths differ -/
theorem belowF_path (ho : Ok b s) : ∀ (k i : Nat) (x : Nd) (p : List Nat), s.opt i = some x → ∀ r ∈ s.belowF k p i, ∃ t, r.path = p ++ t ∧ (t = [] ∨ ∃ u, t = 47 :: u) ∧ Octs t
  | 0, _, _, _, _, _, hr => by cases hr
  | k + 1, i, x, p, hx, r, hr => by
    unfold Tr.belowF at hr
    rw [Tr.at_of hx] at hr
    rcases List.mem_cons.1 hr with rfl | hr
    · exact ⟨[], (List.append_nil _).symm, .inl rfl, .nil⟩
    · obtain ⟨e, he, hr⟩ := List.mem_flatMap.1 hr
      obtain ⟨y, hy, _⟩ := ho.ent i x hx e he
      obtain ⟨t, ht, _, ho2⟩ := belowF_path ho k e.2 y _ hy r hr
      exact ⟨47 :: (e.1 ++ t), by rw [ht]; simp, .inr ⟨_, rfl⟩, .cons (by decide) (((ho.each i x hx).names e he).octs.append ho2)⟩
theorem cut_name : ∀ {a c t u : List Nat}, 47 ∉ a → 47 ∉ c → (t = [] ∨ ∃ v, t = 47 :: v) → (u = [] ∨ ∃ v, u = 47 :: v) → a ++ t = c ++ u → a = c
  | [], [], _, _, _, _, _, _, _ => rfl
  | [], y :: c, t, u, _, hc, ht, _, h => by
    rw [List.nil_append, List.cons_append] at h
    rcases ht with rfl | ⟨v, rfl⟩
    · cases h
    · rw [List.cons.injEq] at h
      exact absurd (h.1 ▸ List.mem_cons_self) hc
  | x :: a, [], t, u, ha, _, _, hu, h => by
    rw [List.nil_append, List.cons_append] at h
    rcases hu with rfl | ⟨v, rfl⟩
    · cases h
    · rw [List.cons.injEq] at h
      exact absurd (h.1 ▸ List.mem_cons_self) ha
  | x :: a, y :: c, t, u, ha, hc, ht, hu, h => by
    rw [List.cons_append, List.cons_append, List.cons.injEq] at h
    rw [h.1, cut_name (fun hm => ha (List.mem_cons_of_mem _ hm)) (fun hm => hc (List.mem_cons_of_mem _ hm)) ht hu h.2]
theorem belowF_apart (ho : Ok b s) : ∀ (k i : Nat) (x : Nd) (p : List Nat), s.opt i = some x → (s.belowF k p i).Pairwise fun q r => q.path ≠ r.path
  | 0, _, _, _, _ => List.Pairwise.nil
  | k + 1, i, x, p, hx => by
    unfold Tr.belowF
    rw [Tr.at_of hx, List.pairwise_cons]
    have hin : ∀ e ∈ x.ents, ∀ r ∈ s.belowF k (p ++ 47 :: e.1) e.2, ∃ t, r.path = p ++ 47 :: (e.1 ++ t) ∧ (t = [] ∨ ∃ u, t = 47 :: u) := fun e he r hr => by
      obtain ⟨y, hy, _⟩ := ho.ent i x hx e he
      obtain ⟨t, ht, h2, _⟩ := belowF_path ho k e.2 y _ hy r hr
      exact ⟨t, by rw [ht]; simp, h2⟩
    refine ⟨fun r hr h => ?_, ?_⟩
    · obtain ⟨e, he, hr⟩ := List.mem_flatMap.1 hr
      obtain ⟨t, ht, _⟩ := hin e he r hr
      have h2 : p = r.path := h
      rw [ht] at h2
      have := congrArg List.length h2
      rw [List.length_append, List.length_cons] at this
      omega
    · rw [List.pairwise_flatMap]
      refine ⟨fun e he => ?_, ?_⟩
      · obtain ⟨y, hy, _⟩ := ho.ent i x hx e he
        exact belowF_apart ho k e.2 y _ hy
      · refine List.Pairwise.imp_of_mem ?_ (ho.each i x hx).sorted
        intro e e' he he' hlt q hq r hr heq
        obtain ⟨t, ht, h2⟩ := hin e he q hq
        obtain ⟨t', ht', h2'⟩ := hin e' he' r hr
        rw [ht, ht'] at heq
        have := List.append_cancel_left heq
        rw [List.cons.injEq] at this
        have h3 := cut_name ((ho.each i x hx).names e he).slash ((ho.each i x hx).names e' he').slash h2 h2' this.2
        exact absurd (h3 ▸ hlt) (List.lt_irrefl _)

/-! ### One order -/
theorem insR_perm (x : Row5) : ∀ l : List Row5, (insR x l).Perm (x :: l)
  | [] => List.Perm.refl _
  | y :: r => by
    unfold insR
    split
    · exact List.Perm.refl _
    · exact ((insR_perm x r).cons y).trans (List.Perm.swap _ _ _)
theorem sortR_perm : ∀ l : List Row5, (l.foldr insR []).Perm l
  | [] => List.Perm.refl _
  | x :: r => (insR_perm x _).trans ((sortR_perm r).cons x)
theorem nat_tri {p q : List Nat} (h1 : ¬ q < p) (h2 : p ≠ q) : p < q := by
  by_cases h3 : p < q
  · exact h3
  · exact absurd (List.le_antisymm (List.not_lt.1 h1) (List.not_lt.1 h3)) h2
theorem insR_rise (x : Row5) : ∀ l : List Row5, (l.Pairwise fun q r => q.path < r.path) → (∀ y ∈ l, x.path ≠ y.path) → (insR x l).Pairwise fun q r => q.path < r.path
  | [], _, _ => List.pairwise_singleton _ _
  | y :: r, h, hn => by
    obtain ⟨h1, h2⟩ := List.pairwise_cons.1 h
    unfold insR
    split
    · rename_i hlt
      refine List.pairwise_cons.2 ⟨fun z hz => ?_, h⟩
      rcases List.mem_cons.1 hz with rfl | hz
      · exact hlt
      · exact List.lt_trans hlt (h1 z hz)
    · rename_i hlt
      refine List.pairwise_cons.2 ⟨fun z hz => ?_, insR_rise x r h2 fun z hz => hn z (List.mem_cons_of_mem _ hz)⟩
      rcases List.mem_cons.1 ((insR_perm x r).mem_iff.1 hz) with rfl | hz
      · exact nat_tri hlt (hn y List.mem_cons_self).symm
      · exact h1 z hz
theorem sortR_rise : ∀ l : List Row5, (l.Pairwise fun q r => q.path ≠ r.path) → (l.foldr insR []).Pairwise fun q r => q.path < r.path
  | [], _ => List.Pairwise.nil
  | x :: r, h => by
    obtain ⟨h1, h2⟩ := List.pairwise_cons.1 h
    exact insR_rise x _ (sortR_rise r h2) fun y hy => h1 y ((sortR_perm r).mem_iff.1 hy)
/-- the rows, the root's under its own name -/
def Tr.rows (s : Tr) : List Row5 := s.row [47] 1 :: (s.at 1).ents.flatMap fun e => s.belowF 21 (47 :: e.1) e.2
theorem rows_apart (ho : Ok b s) : s.rows.Pairwise fun q r => q.path ≠ r.path := by
  have hx := ho.alive
  have h := belowF_apart ho 22 1 (s.at 1) [] hx
  unfold Tr.belowF at h
  obtain ⟨_, h2⟩ := List.pairwise_cons.1 h
  refine List.pairwise_cons.2 ⟨fun r hr heq => ?_, h2⟩
  obtain ⟨e, he, hr⟩ := List.mem_flatMap.1 hr
  obtain ⟨y, hy, _⟩ := ho.ent 1 _ hx e he
  obtain ⟨t, ht, _⟩ := belowF_path ho 21 e.2 y _ hy r hr
  have h3 : [47] = r.path := heq
  rw [ht, List.cons_append, List.cons.injEq] at h3
  have h4 := (List.append_eq_nil_iff.1 h3.2.symm).1
  exact ((ho.each 1 _ hx).names e he).real.1 h4
theorem rows_octs (ho : Ok b s) : ∀ r ∈ s.rows, Octs r.path := fun r hr => by
  rcases List.mem_cons.1 hr with rfl | hr
  · exact .cons (by decide) .nil
  · obtain ⟨e, he, hr⟩ := List.mem_flatMap.1 hr
    obtain ⟨y, hy, _⟩ := ho.ent 1 _ ho.alive e he
    obtain ⟨t, ht, _, ho2⟩ := belowF_path ho 21 e.2 y _ hy r hr
    rw [ht, List.cons_append]
    exact .cons (by decide) (((ho.each 1 _ ho.alive).names e he).octs.append ho2)
theorem nodes_perm (s : Tr) : s.nodes.Perm s.rows := sortR_perm _
theorem nodes_rise (ho : Ok b s) : s.nodes.Pairwise fun q r => q.path < r.path := sortR_rise _ (rows_apart ho)
theorem nodes_unique (ho : Ok b s) {l : List Row5} (hp : l.Perm s.rows) (hs : l.Pairwise fun q r => ¬ r.path < q.path) : l = s.nodes := by
  have ha : l.Pairwise fun q r => q.path ≠ r.path := hp.symm.pairwise (rows_apart ho) fun h => h.symm
  have hr : l.Pairwise fun q r => q.path < r.path := hs.imp₂ (fun q r h1 h2 => nat_tri h1 h2) ha
  exact List.Perm.eq_of_pairwise (fun q r _ _ h1 h2 => absurd (List.lt_trans h1 h2) (List.lt_irrefl _)) hr (nodes_rise ho) (hp.trans (nodes_perm s).symm)
end
end Go.Proofs.YtgcodlicbdaddaaGreatDoor
end

section
set_option linter.unusedVariables false
set_option linter.unusedSimpArgs false
namespace Go.Proofs.YtgcodlicbdaddaaGreatDoor
open Go.RowKit BigFrame Go.Sort Go.Shelf
set_option maxRecDepth 100000

/-- cmp.Compare of strings -/
def cmpS (p q : List UInt8) : Int := if p < q then -1 else if q < p then 1 else 0
theorem cmpS_neg (p q : List UInt8) : cmpS p q < 0 ↔ p < q := by
  unfold cmpS
  by_cases h : p < q
  · rw [if_pos h]; exact ⟨fun _ => h, fun _ => by decide⟩
  · rw [if_neg h]
    constructor
    · intro h2
      split at h2
      · exact absurd h2 (by decide)
      · exact absurd h2 (by decide)
    · exact fun h2 => absurd h2 h
theorem cmpS_is (p q : List UInt8) : (Op.bytesLess p q = true → cmpS p q = -1) ∧ (Op.bytesLess p q = false → (!(p == q)) = true → cmpS p q = 1) ∧ (Op.bytesLess p q = false → (!(p == q)) = false → cmpS p q = 0) := by
  rw [bytesLess_eq]
  unfold cmpS
  refine ⟨fun h => ?_, fun h h2 => ?_, fun h h2 => ?_⟩
  · rw [if_pos (of_decide_eq_true h)]
  · have h3 := of_decide_eq_false h
    rw [if_neg h3, if_pos]
    have hne : p ≠ q := by simpa using h2
    by_cases h4 : q < p
    · exact h4
    · exact absurd (List.le_antisymm (List.not_lt.1 h4) (List.not_lt.1 h3)) hne
  · have h3 := of_decide_eq_false h
    have he : p = q := by simpa using h2
    subst he
    rw [if_neg h3, if_neg h3]
theorem isNaN_no (a : ByteArray) (W : World) : Calls Tryz.prog 124 #[.string a] W fun e w' => e = .returned (.bool false) ∧ w' = W := by
  go_enter Tryz.func124, Tryz.ntmps124
  go_wp2_with fail
  go_ret
  exact ⟨rfl, rfl⟩
theorem compare_s (a c : ByteArray) (W : World) : Calls Tryz.prog 72 #[.string a, .string c] W fun e w' => e = .returned (.int .i64 (cmpS a.toList c.toList)) ∧ w' = W := by
  have h1 := fun W' => isNaN_no a W'
  have h2 := fun W' => isNaN_no c W'
  obtain ⟨r, hr⟩ : ∃ r, cmpS a.toList c.toList = r := ⟨_, rfl⟩
  rw [hr]
  have hr' := Lib.hid hr
  clear hr
  go_enter Tryz.func72, Tryz.ntmps72
  go_wp2_with (go_at_call 124; first | (refine (h1 _).mono ?_; rintro e w' ⟨rfl, rfl⟩) | (refine (h2 _).mono ?_; rintro e w' ⟨rfl, rfl⟩))
  all_goals go_ret
  · rw [← hr'.out, (cmpS_is _ _).1 (by assumption)]
    exact ⟨rfl, rfl⟩
  · rw [← hr'.out, (cmpS_is _ _).2.1 (by assumption) (by assumption)]
    exact ⟨rfl, rfl⟩
  · rw [← hr'.out, (cmpS_is _ _).2.2 (by assumption) (by assumption)]
    exact ⟨rfl, rfl⟩
set_option maxHeartbeats 1000000 in
/-- the closure -/
theorem nodesLess_a (sx sy : ByteArray) (a1 a2 a3 b1 b2 b3 : Int) (va vb : Value) (W : World) : Calls Tryz.prog 71 #[.agg #[.string sx, .int .i64 a1, .int .i64 a2, .int .i64 a3, va], .agg #[.string sy, .int .i64 b1, .int .i64 b2, .int .i64 b3, vb]] W fun e w' => e = .returned (.int .i64 (cmpS sx.toList sy.toList)) ∧ ∃ q os', w' = grow (W.drewN q) os' := by
  have hcon := fun W' => compare_s sx sy W'
  generalize cmpS sx.toList sy.toList = r at hcon ⊢
  go_enter Tryz.func71, Tryz.ntmps71
  go_wp2_with (go_at_call 72; refine (hcon _).mono ?_; rintro e w' ⟨rfl, rfl⟩)
  go_ret
  exact ⟨rfl, 0, _, by rw [alloc_eq_grow, alloc_eq_grow, grow_grow]; rfl⟩
instance : Inhabited Ro := ⟨⟨⟨[], 0, 0, 0, []⟩, .slice none 0 0⟩⟩
/-- a row's cells, whatever its last one is -/
def roE (r : Ro) : List Value := [.string (strOf r.row.path), .int .i64 ((r.row.num : Nat) : Int), .int .i64 ((r.row.kind : Nat) : Int), .int .i64 ((r.row.links : Nat) : Int), if r.dv.oneCell' = true then r.dv else .slice none 0 0]
theorem roE_one (r : Ro) : ∀ v ∈ roE r, v.oneCell' = true := fun v hv => by
  simp only [roE, List.mem_cons, List.mem_nil_iff, or_false] at hv
  rcases hv with rfl | rfl | rfl | rfl | rfl
  · rfl
  · rfl
  · rfl
  · rfl
  · split
    · assumption
    · rfl
def rosE (L : List Ro) : List Value := L.flatMap roE
theorem rosE_length : ∀ L : List Ro, (rosE L).length = L.length * 5
  | [] => rfl
  | r :: L => by
    have ih := rosE_length L
    unfold rosE at ih ⊢
    rw [List.flatMap_cons, List.length_append, ih]
    simp [roE]
    omega
theorem rosE_is : ∀ {L : List Ro}, (∀ r ∈ L, r.dv.oneCell' = true) → rosE L = rosC L
  | [], _ => rfl
  | r :: L, h => by
    show roE r ++ rosE L = roC r ++ rosC L
    rw [rosE_is fun q hq => h q (List.mem_cons_of_mem _ hq)]
    unfold roE roC
    rw [if_pos (h r List.mem_cons_self)]
def cfR (x y : Ro) : Int := cmpS (strOf x.row.path).toList (strOf y.row.path).toList
theorem nodesLess_c (blk off size : Nat) (w : World) : CmpLays Tryz.prog 71 #[] roE 5 cfR blk off size w :=
  fun _ _ _ _ x y => nodesLess_a _ _ _ _ _ _ _ _ _ _ _
theorem ltR (x y : Ro) : ltOf cfR x y = ltStr (strOf x.row.path).toList (strOf y.row.path).toList := by
  unfold ltOf cfR ltStr
  exact decide_eq_decide.2 (cmpS_neg _ _)
theorem swoR : SWO (ltOf cfR) where
  irrefl x := by rw [ltR]; exact swo_ltStr.irrefl _
  trans x y z h1 h2 := by rw [ltR] at *; exact swo_ltStr.trans _ _ _ h1 h2
  ntrans x y z h1 h2 := by rw [ltR] at *; exact swo_ltStr.ntrans _ _ _ h1 h2
/-! ### The row, sorted -/
theorem flatK_list (l : List Ro) : (flatK roE 5 l.toArray).toList = rosE l := by
  refine List.ext_getElem (by rw [Array.length_toList, size_flatK, rosE_length]; simp) fun t h1 h2 => ?_
  have ht : t < l.length * 5 := by rwa [rosE_length] at h2
  rw [Array.getElem_toList]
  have h3 := get_flatK roE 5 l.toArray t (by simpa using ht)
  rw [getElem!_pos _ t (by simpa using ht)] at h3
  rw [h3]
  have key : ∀ (l : List Ro) (t : Nat) (h : t < l.length * 5), (rosE l)[t]? = some ((roE (l.toArray[t / 5]!))[t % 5]!) := fun l => by
    induction l with
    | nil => intro t h; simp at h
    | cons r l ih =>
      intro t h
      show (roE r ++ rosE l)[t]? = _
      have hr5 : (roE r).length = 5 := rfl
      by_cases h5 : t < 5
      · rw [List.getElem?_append_left (by omega), Nat.div_eq_of_lt h5, Nat.mod_eq_of_lt h5, List.getElem?_eq_getElem (by omega)]
        simp [hr5, h5]
      · rw [List.getElem?_append_right (by omega), hr5, ih (t - 5) (by rw [List.length_cons] at h; omega)]
        have e1 : t / 5 = (t - 5) / 5 + 1 := by omega
        have e2 : t % 5 = (t - 5) % 5 := by omega
        rw [e1, e2]
        simp
  have h4 := key l t ht
  rw [List.getElem?_eq_getElem h2] at h4
  exact (Option.some.inj h4).symm
theorem heap_sortedK {w : World} {g n : Nat} {os : Array Obj} {cur : Array Value} {e : TypeId} {fr : Nat × Nat} (d : Array Ro) (hb : w.heap[g]? = some (.cells cur e fr)) :
    (sortWorldK roE 5 w g 0 n d os).heap[g]? = some (.cells (putCells id 0 (flatK roE 5 d) cur) e fr) := by
  have hg : g < w.heap.size := (Array.getElem?_eq_some_iff.1 hb).1
  unfold sortWorldK putRowK
  rw [heap_grow_old _ _ (by simpa using hg)]
  simp [putRow, mapBlock, Sort.ahead, Array.getElem?_modify, hb, onCells]
theorem grownBy_sortedK {w : World} {g n : Nat} {os : Array Obj} (d : Array Ro) : w.grownBy (sortWorldK roE 5 w g 0 n d os) (some g) := by
  unfold sortWorldK putRowK
  refine ⟨rfl, rfl, rfl, by simp, fun k hk hne => ?_⟩
  rw [heap_grow_old _ _ (by simpa using hk)]
  have : g ≠ k := fun e => hne (by rw [e])
  simp [putRow, mapBlock, Sort.ahead, Array.getElem?_modify, this]
theorem take_putCellsK (cur : Array Value) (l : List Ro) (h : l.length * 5 ≤ cur.size) : (putCells id 0 (flatK roE 5 l.toArray) cur).toList.take (l.length * 5) = rosE l := by
  apply List.ext_getElem?
  intro j
  by_cases hj : j < l.length * 5
  · rw [List.getElem?_take_of_lt hj, Array.getElem?_toList, ← flatK_list, Array.getElem?_toList]
    simp [putCells, hj, show j < cur.size by omega]
  · rw [List.getElem?_take_eq_none (by omega), List.getElem?_eq_none (by rw [rosE_length]; omega)]
theorem holdsK_block {w : World} {g : Nat} {cur : Array Value} {e : TypeId} {l : List Ro} (hb : w.heap[g]? = some (.cells cur e (0, 0))) (ht : cur.toList.take (l.length * 5) = rosE l) : HoldsK roE 5 w g 0 l.toArray := by
  intro j hj
  have hj' : j < l.length * 5 := by simpa using hj
  refine ⟨?_, by simp [World.frozen?, hb]⟩
  have h1 : (cur.toList.take (l.length * 5))[j]? = (rosE l)[j]? := by rw [ht]
  rw [List.getElem?_take_of_lt hj', ← flatK_list, Array.getElem?_toList, Array.getElem?_toList] at h1
  simp only [World.cell?, hb, Nat.zero_add]
  simp only [Option.isSome_none, Bool.false_eq_true, if_false]
  rw [h1]
  simp [hj']
end Go.Proofs.YtgcodlicbdaddaaGreatDoor
end

section
set_option linter.unusedVariables false
set_option linter.unusedSimpArgs false
namespace Go.Proofs.YtgcodlicbdaddaaGreatDoor
open Go.RowKit BigFrame Go.Sort Go.Shelf
set_option maxRecDepth 100000

theorem NodesO.block_ne {w : World} {base : Nat} {v : Value} {L : List Ro} (h : NodesO w base v L) {q : Ro} (hq : q ∈ L) {g : Nat} (e : q.dv.ownBlock = some g) : some g ≠ v.ownBlock := fun e2 => by
  rcases h.row.2 with ⟨rfl, _⟩ | ⟨g2, cap, cur, rfl, _, h2, _⟩
  · cases e2
  · obtain rfl : g = g2 := by simpa [Value.ownBlock] using e2
    rcases (h.dat q hq).2 with ⟨e3, _⟩ | ⟨g3, cap3, cur3, e3, _, h4, _⟩
    · rw [e3] at e; cases e
    · rw [e3] at e
      obtain rfl : g3 = g := by simpa [Value.ownBlock] using e
      rw [h2] at h4
      have := Option.some.inj h4
      simp only [Obj.cells.injEq] at this
      exact absurd this.2.1 (by decide)
theorem apart_perm {L L' : List Ro} (hp : L'.Perm L) (h : L.Pairwise fun p q => ∀ g, p.dv.ownBlock = some g → q.dv.ownBlock ≠ some g) : L'.Pairwise fun p q => ∀ g, p.dv.ownBlock = some g → q.dv.ownBlock ≠ some g :=
  hp.symm.pairwise h fun h1 g e1 e2 => h1 g e2 e1
theorem sortNodes_c {w : World} {base : Nat} {v : Value} {L : List Ro} (h : NodesO w base v L) (h0 : L ≠ []) (hn : L.length ≤ 1000000000000) :
    Calls Tryz.prog 70 #[v, .func (.func 71) #[] #[]] w fun e w' => e = .returned (.tuple #[]) ∧ ∃ L' : List Ro, L'.Perm L ∧ (L'.Pairwise fun q r => ltOf cfR r q = false) ∧ NodesO w' base v L' ∧ w.grownBy w' v.ownBlock := by
  rcases id h.row with ⟨hl, ⟨_, h1⟩ | ⟨g, cap, cur, rfl, hg, hb, hc, hm, hs, ht⟩⟩
  · exact absurd (List.eq_nil_of_length_eq_zero h1) h0
  · have eg : ∀ args w, (callFunc 71 args).run Tryz.prog w = .ok (.enter 71 args) w := enters_of Tryz.func71 (by kernel_rfl) rfl
    have hone : ∀ r ∈ L, r.dv.oneCell' = true := fun r hr => by
      obtain ⟨_, _, e, _⟩ := (h.dat r hr).slice
      rw [e]; rfl
    have hcon := AnyQ.slices_SortFunc Tryz.sortNodes 5 Tryz.isAgg59 Tryz.sizeOf59 roE (fun _ => rfl) roE_one cfR swoR 71 #[] g 0 cap L.toArray w eg (nodesLess_c g 0 _ w) (holdsK_block hb (by rw [rosE_is hone]; exact ht)) (Array.getElem?_eq_some_iff.1 hb).1 (by simp; omega)
    change Calls Tryz.prog 70 _ _ _ at hcon
    rw [List.size_toArray] at hcon
    refine hcon.mono ?_
    rintro e w' ⟨he, d', n, os, hp, hso, rfl⟩
    obtain ⟨p1, _, p3⟩ := hp
    have p1' : d'.size = L.length := by rw [p1]; simp
    rw [show d'.extract 0 L.length = d' by rw [← p1']; exact Array.extract_size, show L.toArray.extract 0 L.length = L.toArray from Array.extract_size] at p3
    have p4 : d'.toList.Perm L := p3
    have hone' : ∀ r ∈ d'.toList, r.dv.oneCell' = true := fun r hr => hone r (p4.mem_iff.1 hr)
    have hl' : d'.toList.length = L.length := by rw [Array.length_toList, p1']
    have hgr := grownBy_sortedK (w := w) (g := g) (n := n) (os := os) d'
    refine ⟨he, d'.toList, p4, ?_, ⟨?_, fun q hq => ?_, apart_perm p4 h.apart⟩, hgr⟩
    · rw [List.pairwise_iff_getElem]
      intro i j hi hj hij
      have := hso i j (Nat.zero_le _) hij (by rw [← hl']; exact hj)
      rw [getElem!_pos d' j (by simpa using hj), getElem!_pos d' i (by simpa using hi)] at this
      simpa using this
    · refine ⟨by rw [rosC_length], .inr ⟨g, cap, putCells id 0 (flatK roE 5 d') cur, by rw [hl'], hg, heap_sortedK _ hb, by rw [hl']; exact hc, hm, by simp [putCells, hs], ?_⟩⟩
      have := take_putCellsK cur d'.toList (by rw [hl', hs]; exact Nat.mul_le_mul_right _ hc)
      rw [rosE_is hone'] at this
      simpa using this
    · have hq' := p4.mem_iff.1 hq
      exact (h.dat q hq').blk fun k e => hgr.block k ((h.dat q hq').hi e).2 (h.block_ne hq' e)
/-- its first one's path -/
theorem NodesO.setPath {w : World} {base : Nat} {g cap n : Nat} {L : List Ro} {r : Ro} (h : NodesO w base (.slice (some ⟨g, 0, none⟩) n cap) (r :: L)) (p : List Nat) :
    NodesO (w.setCell ⟨g, 0, none⟩ (.string (strOf p))) base (.slice (some ⟨g, 0, none⟩) n cap) (⟨⟨p, r.row.num, r.row.kind, r.row.links, r.row.data⟩, r.dv⟩ :: L) := by
  have hblk : ∀ k, k ≠ g → (w.setCell ⟨g, 0, none⟩ (.string (strOf p))).heap[k]? = w.heap[k]? := fun k hk => by
    simp [World.setCell, Array.getElem?_modify, Ne.symm hk]
  have hd : ∀ q ∈ r :: L, OwnB (w.setCell ⟨g, 0, none⟩ (.string (strOf p))) base q.dv q.row.data := fun q hq => (h.dat q hq).blk fun k e => hblk k (fun e2 => h.block_ne hq e (by rw [e2]; rfl))
  rcases id h.row with ⟨hl, ⟨e, _⟩ | ⟨g', cap', cur, e, hg, hb, hc, hm, hs, ht⟩⟩
  · cases e
  · cases e
    refine ⟨⟨by rw [rosC_length], .inr ⟨g, cap, cur.setIfInBounds 0 (.string (strOf p)), rfl, hg, ?_, hc, hm, by rw [Array.size_setIfInBounds]; exact hs, ?_⟩⟩, fun q hq => ?_, ?_⟩
    · simp [World.setCell, Array.getElem?_modify, hb]
    · rw [Array.toList_setIfInBounds, List.take_set]
      show ((cur.toList.take ((L.length + 1) * 5)).set 0 _) = _
      have ht' : cur.toList.take ((L.length + 1) * 5) = rosC (r :: L) := ht
      rw [ht']
      rfl
    · rcases List.mem_cons.1 hq with rfl | hq
      · exact hd r List.mem_cons_self
      · exact hd q (List.mem_cons_of_mem _ hq)
    · exact List.pairwise_cons.2 (List.pairwise_cons.1 h.apart)
theorem NodesO.shape {w : World} {base : Nat} {v : Value} {L : List Ro} {r : Ro} (h : NodesO w base v (r :: L)) : ∃ g cap, v = .slice (some ⟨g, 0, none⟩) (L.length + 1) cap ∧ base ≤ g ∧ g < w.heap.size ∧ L.length + 1 ≤ cap ∧ w.frozen? ⟨g, 0, none⟩ = false ∧ w.cell? ⟨g, 0, none⟩ = some (.string (strOf r.row.path)) := by
  rcases id h.row with ⟨hl, ⟨_, h1⟩ | ⟨g, cap, cur, rfl, hg, hb, hc, hm, hs, ht⟩⟩
  · cases h1
  · have e := World.ownsRow.cells h.row (g := g) rfl 0 (.string (strOf r.row.path)) rfl
    exact ⟨g, cap, rfl, hg, (Array.getElem?_eq_some_iff.1 hb).1, hc, by simp [World.frozen?, hb], e⟩
section
variable {w : World} {B b : Nat} {A : Ad} {s : Tr}
theorem TreeAt.lows (h : TreeAt w B A s) : Low A w.heap.size := ⟨fun g r e => (h.hi g r e).2⟩
/-- what Nodes tells -/
def NodesPost (s : Tr) (w : World) (e : Ending) (w' : World) : Prop := ∃ v R, e = .returned v ∧ NodesO w' w.heap.size v R ∧ R.map (·.row) = s.nodes ∧ Below w.heap.size w w'
theorem strOf_u8s (l : List Nat) : (strOf l).toList = u8s l := strOf_toList l
set_option maxHeartbeats 2000000 in
theorem treeNodes_any (h : TreeAt w B A s) (ho : Ok b s) (hb : b ≤ 900000) :
    Calls Tryz.prog 32 #[.pointer (some ⟨A.t, 0, none⟩)] w (NodesPost s w) := by
  have h' := Lib.hid h
  have hal := ho.alive
  have hcnt := ho.rows hb hal (21 + 1) []
  have hbel := Lib.hid (below_all (B := B) (A := A) ho hb 21 w w.heap.size (.slice none 0 0) [] 1 _ [] h h.lows (Nat.le_refl _) (NodesO.nil _ _) hal (fun _ => by omega) (by simp) (by rw [List.length_nil]; omega))
  have hcnt' := Lib.hid hcnt
  clear h hcnt
  go_enter Tryz.func32, Tryz.ntmps32
  go_wp2_with (first
    | (go_at_call 44; refine (noneT_no h'.out).mono ?_; rintro e w9 ⟨rfl, rfl⟩)
    | (go_at_call 69; refine (root_any h'.out ho).mono ?_; rintro e w9 ⟨rfl, rfl⟩)
    | (go_at_call 68; refine hbel.out.mono ?_; rintro e w1 ⟨v1, r0, R, rfl, hN, hrow, hperm, hB, hK⟩; have hN' := Lib.hid hN; have hrow' := Lib.hid hrow; have hperm' := Lib.hid hperm; have hB' := Lib.hid hB; obtain ⟨g, cap, rfl, hg, hgl, hcp, hfr, hc0⟩ := NodesO.shape (L := R) (r := r0) hN; have hN2 := Lib.hid (NodesO.setPath (L := R) (r := r0) hN [47]); have hB2 := Lib.hid (hB.setCell hg _ : Below w.heap.size w (w1.setCell ⟨g, 0, none⟩ (.string (strOf [47])))); clear hN hrow hperm hB hK)
    | (go_at_call 70; refine (sortNodes_c hN2.out (by simp) (by
        have h1 := hperm'.out.length_eq
        have h2 := hcnt'.out
        have h3 : (s.belowF (21 + 1) [] 1).length = ((s.at 1).ents.flatMap fun e => s.belowF 21 ([] ++ 47 :: e.1) e.2).length + 1 := rfl
        rw [List.length_map] at h1
        rw [List.length_cons]
        omega)).mono ?_; rintro e w2 ⟨rfl, L', hp, hso, hN3, hg3⟩; have hp' := Lib.hid hp; have hso' := Lib.hid hso; have hN3' := Lib.hid hN3; have hB3 := Lib.hid (hB2.out.grown hg3 hB2.out.size (fun k hk => by have : g = k := Option.some.inj hk; omega)); clear hp hso hN3 hg3))
  go_ret
  have hrows : (L'.map (·.row)).Perm s.rows := by
    refine (hp'.out.map _).trans ?_
    rw [List.map_cons]
    unfold Tr.rows
    have e1 : (⟨[47], r0.row.num, r0.row.kind, r0.row.links, r0.row.data⟩ : Row5) = s.row [47] 1 := by rw [hrow'.out]; rfl
    show ((⟨[47], r0.row.num, r0.row.kind, r0.row.links, r0.row.data⟩ : Row5) :: R.map (·.row)).Perm _
    rw [e1]
    exact hperm'.out.cons _
  refine ⟨_, L', rfl, hN3'.out, nodes_unique ho hrows ?_, hB3.out⟩
  rw [List.pairwise_map]
  refine List.Pairwise.imp_of_mem ?_ hso'.out
  intro q r hq hr h1 h2
  have oq := rows_octs ho _ (hrows.mem_iff.1 (List.mem_map_of_mem hq))
  have or := rows_octs ho _ (hrows.mem_iff.1 (List.mem_map_of_mem hr))
  rw [ltR, strOf_u8s, strOf_u8s] at h1
  unfold ltStr at h1
  exact of_decide_eq_false h1 (u8s_lt or oq h2)
end
end Go.Proofs.YtgcodlicbdaddaaGreatDoor
end
