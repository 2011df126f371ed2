/-
  The levels of a closure: how deep each node lies; the lists in memory.
  Levels under way: what is in memory, and how it goes on.
-/
import Derived.Test.YtgkmmdkagiohgaaB9
import Derived.Deep.RegionLaw

section
set_option linter.unusedVariables false
set_option linter.unusedSimpArgs false
namespace Go.Proofs.Ytgkmmdkagiohgaa
open Go.RowKit BigFrame
set_option maxRecDepth 100000
variable {w w' wr : World} {W B a M : Nat} {G : Gr} {ρ : Nat → Nat}

/-- one more than the deepest of some -/
def mx (lv : Nat → Nat) (L : List Nat) : Nat := L.foldl (fun m y => max m (lv y + 1)) 0
theorem mx_snoc (lv : Nat → Nat) (L : List Nat) (y : Nat) : mx lv (L ++ [y]) = max (mx lv L) (lv y + 1) := by
  unfold mx; rw [List.foldl_append]; rfl
theorem mx_le {lv : Nat → Nat} {n : Nat} {L : List Nat} (h : ∀ y ∈ L, lv y < n) : mx lv L ≤ n := by
  have : ∀ (L : List Nat) (m : Nat), m ≤ n → (∀ y ∈ L, lv y < n) → L.foldl (fun m y => max m (lv y + 1)) m ≤ n := by
    intro L
    induction L with
    | nil => intro m hm _; exact hm
    | cons y r ih => intro m hm hy; exact ih (max m (lv y + 1)) (by have := hy y List.mem_cons_self; omega) fun z hz => hy z (List.mem_cons_of_mem _ hz)
  exact this L 0 (Nat.zero_le _) h
theorem mx_ge {lv : Nat → Nat} {L : List Nat} {y : Nat} (h : y ∈ L) : lv y + 1 ≤ mx lv L := by
  have hm : ∀ (L : List Nat) (m : Nat), m ≤ L.foldl (fun m y => max m (lv y + 1)) m := by
    intro L
    induction L with
    | nil => intro m; exact Nat.le_refl _
    | cons y r ih => intro m; exact Nat.le_trans (Nat.le_max_left _ _) (ih _)
  have : ∀ (L : List Nat) (m : Nat), y ∈ L → lv y + 1 ≤ L.foldl (fun m y => max m (lv y + 1)) m := by
    intro L
    induction L with
    | nil => intro m h; cases h
    | cons z r ih =>
      intro m h
      rcases List.mem_cons.1 h with rfl | h
      · exact Nat.le_trans (Nat.le_max_right _ _) (hm r _)
      · exact ih _ h
  exact this L 0 h
theorem mx_at {lv : Nat → Nat} {L : List Nat} (h : 0 < mx lv L) : ∃ y ∈ L, lv y + 1 = mx lv L := by
  have : ∀ (L : List Nat) (m : Nat), L.foldl (fun m y => max m (lv y + 1)) m = m ∨ ∃ y ∈ L, lv y + 1 = L.foldl (fun m y => max m (lv y + 1)) m := by
    intro L
    induction L with
    | nil => intro m; exact .inl rfl
    | cons y r ih =>
      intro m
      show r.foldl _ (max m (lv y + 1)) = m ∨ ∃ z ∈ y :: r, lv z + 1 = r.foldl _ (max m (lv y + 1))
      rcases ih (max m (lv y + 1)) with h1 | ⟨z, hz, h1⟩
      · by_cases e : lv y + 1 ≤ m
        · exact .inl (by rw [h1]; omega)
        · exact .inr ⟨y, List.mem_cons_self, by rw [h1]; omega⟩
      · exact .inr ⟨z, List.mem_cons_of_mem _ hz, h1⟩
  rcases this L 0 with h1 | h1
  · unfold mx at h; omega
  · exact h1
/-- how deep each lies: behind all of its needs, and no deeper -/
def Deep (G : Gr) (lv : Nat → Nat) : Prop := ∀ x ∈ G.ids, lv x = mx lv (G.lk 0 x)

/-- the lists of so many that have got their places -/
structure LvOk (lv : Nat → Nat) (P : List Nat) (LL : List (List Nat)) : Prop where
  at' : ∀ p, p < LL.length → LL[p]? = some (P.filter fun x => decide (lv x = p))
  lt : ∀ x ∈ P, lv x < LL.length
  full : ∀ p, p < LL.length → ∃ x ∈ P, lv x = p
theorem LvOk.nil (lv : Nat → Nat) : LvOk lv [] [] := ⟨(fun p h => by simp at h), (fun x h => by cases h), (fun p h => by simp at h)⟩
theorem filter_snoc (q : Nat → Bool) (P : List Nat) (x : Nat) : (P ++ [x]).filter q = if q x = true then P.filter q ++ [x] else P.filter q := by
  rw [List.filter_append]
  by_cases h : q x = true
  · rw [if_pos h]; simp [h]
  · rw [if_neg h]; simp [h]
theorem LvOk.into {lv : Nat → Nat} {P : List Nat} {LL : List (List Nat)} {x : Nat} {l : List Nat} (h : LvOk lv P LL) (hx : lv x < LL.length) (hl : LL[lv x]? = some l) : LvOk lv (P ++ [x]) (LL.set (lv x) (l ++ [x])) := by
  have hlx : l = P.filter fun y => decide (lv y = lv x) := by
    have := h.at' _ hx
    rw [hl] at this
    exact Option.some.inj this
  refine ⟨fun p hp => ?_, fun y hy => ?_, fun p hp => ?_⟩
  · rw [List.length_set] at hp
    rw [List.getElem?_set, filter_snoc]
    by_cases e : lv x = p
    · rw [if_pos e, if_pos hx, if_pos (by simpa using e), hlx]
      rw [e]
    · rw [if_neg e, if_neg (by simpa using e)]
      exact h.at' p hp
  · rw [List.length_set]
    rcases List.mem_append.1 hy with h1 | h1
    · exact h.lt y h1
    · simp at h1; rw [h1]; exact hx
  · rw [List.length_set] at hp
    obtain ⟨y, hy, e⟩ := h.full p hp
    exact ⟨y, List.mem_append.2 (.inl hy), e⟩
theorem LvOk.more {lv : Nat → Nat} {P : List Nat} {LL : List (List Nat)} {x : Nat} (h : LvOk lv P LL) (hx : lv x = LL.length) : LvOk lv (P ++ [x]) ((LL ++ [[]]).set (lv x) ([] ++ [x])) := by
  refine ⟨fun p hp => ?_, fun y hy => ?_, fun p hp => ?_⟩
  · rw [List.length_set, List.length_append] at hp
    have hp' : p < LL.length + 1 := hp
    rw [List.getElem?_set, filter_snoc]
    by_cases e : lv x = p
    · rw [if_pos e, if_pos (by rw [List.length_append, e]; exact hp), if_pos (by simpa using e)]
      have : (P.filter fun y => decide (lv y = p)) = [] := List.filter_eq_nil_iff.2 fun y hy => by
        have := h.lt y hy
        simp; omega
      rw [this]
    · rw [if_neg e, if_neg (by simpa using e), List.getElem?_append_left (by omega)]
      exact h.at' p (by omega)
  · rw [List.length_set, List.length_append]
    rcases List.mem_append.1 hy with h1 | h1
    · have := h.lt y h1; exact Nat.lt_succ_of_lt this
    · simp at h1; rw [h1, hx]; exact Nat.lt_succ_self _
  · rw [List.length_set, List.length_append] at hp
    have hp' : p < LL.length + 1 := hp
    by_cases e : p = LL.length
    · exact ⟨x, by simp, by omega⟩
    · obtain ⟨y, hy, e⟩ := h.full p (by omega)
      exact ⟨y, List.mem_append.2 (.inl hy), e⟩

/-! ### In memory -/
/-- lists of numbers of one's own -/
structure LsAt (w : World) (W : Nat) (v : Value) (S : List Value) (LL : List (List Nat)) : Prop where
  row : w.ownsRow W 22 1 v S.length S
  len : S.length = LL.length
  each : ∀ (p : Nat) (s : Value) (l : List Nat), S[p]? = some s → LL[p]? = some l → OwnZ w W s l
  ap : ∀ (p q : Nat) (s t : Value) (k : Nat), p ≠ q → S[p]? = some s → S[q]? = some t → s.ownBlock = some k → t.ownBlock ≠ some k
theorem LsAt.nil (w : World) (W : Nat) : LsAt w W (.slice none 0 0) [] [] := ⟨World.ownsRow_nil _ _ _ _, rfl, (fun p s l h => by simp at h), (fun p q s t k _ h => by simp at h)⟩
/-- whose block it is -/
def OwnL (v : Value) (S : List Value) (k : Nat) : Prop := v.ownBlock = some k ∨ ∃ (p : Nat) (s : Value), S[p]? = some s ∧ s.ownBlock = some k
theorem row_blk {t : TypeId} {v : Value} {n : Nat} {S : List Value} (h : w.ownsRow W t 1 v n S) (e : ∀ k, v.ownBlock = some k → w'.heap[k]? = w.heap[k]?) : w'.ownsRow W t 1 v n S := by
  obtain ⟨h1, h2⟩ := h
  refine ⟨h1, ?_⟩
  rcases h2 with h2 | ⟨g, cap, cur, rfl, hb, hg, r⟩
  · exact .inl h2
  · exact .inr ⟨g, cap, cur, rfl, hb, (e g rfl).trans hg, r⟩
theorem row_kind {t : TypeId} {s : Nat} {v : Value} {n : Nat} {S : List Value} (h : w.ownsRow W t s v n S) {k : Nat} (hk : v.ownBlock = some k) : ∃ c, w.heap[k]? = some (.cells c t (0, 0)) := by
  rcases h.2 with ⟨rfl, _⟩ | ⟨g, cap, cur, rfl, hb, hg, r⟩
  · cases hk
  · cases hk; exact ⟨cur, hg⟩
/-- rows of two types lie apart -/
theorem row_apart {t u : TypeId} {s s' : Nat} {v v' : Value} {n n' : Nat} {S S' : List Value} (h : w.ownsRow W t s v n S) (h' : w.ownsRow W u s' v' n' S') (hne : t ≠ u) {k : Nat} (hk : v.ownBlock = some k) : v'.ownBlock ≠ some k := fun hk' => by
  obtain ⟨c, e⟩ := row_kind h hk
  obtain ⟨c', e'⟩ := row_kind h' hk'
  rw [e] at e'
  injection e' with e'
  injection e' with _ e'
  exact hne e'
/-- a row is no map -/
theorem row_map {t : TypeId} {s : Nat} {v : Value} {n b : Nat} {S : List Value} {l : List (Lit × Value)} (h : w.ownsRow W t s v n S) (hm : MapAt 3 w b l) : v.ownBlock ≠ some b := fun hk => by
  obtain ⟨c, e⟩ := row_kind h hk
  obtain ⟨es, c', e', _⟩ := hm
  rw [e] at e'
  cases e'
theorem LsAt.blk {v : Value} {S : List Value} {LL : List (List Nat)} (h : LsAt w W v S LL) (e : ∀ k, OwnL v S k → w'.heap[k]? = w.heap[k]?) : LsAt w' W v S LL :=
  ⟨row_blk h.row fun k hk => e k (.inl hk), h.len, fun p s l hs hl => (h.each p s l hs hl).blk fun k hk => e k (.inr ⟨p, s, hs, hk⟩), h.ap⟩
theorem LsAt.block {v : Value} {S : List Value} {LL : List (List Nat)} (h : LsAt w W v S LL) : ∀ k, OwnL v S k → W ≤ k ∧ k < w.heap.size := fun k hk => by
  rcases hk with hk | ⟨p, s, hs, hk⟩
  · exact World.ownsRow.lt h.row k hk
  · have hp := (List.getElem?_eq_some_iff.1 hs).1
    exact (h.each p s _ hs (List.getElem?_eq_getElem (by rw [← h.len]; exact hp))).block k hk
/-- one more list, of none -/
theorem LsAt.more {v v' : Value} {S : List Value} {LL : List (List Nat)} (h : LsAt w W v S LL) (hr : w'.ownsRow W 22 1 v' (S.length + 1) (S ++ [.slice none 0 0])) (hg : TurnS (fun k => v.ownBlock = some k) w w') : LsAt w' W v' (S ++ [.slice none 0 0]) (LL ++ [[]]) := by
  refine ⟨by rw [List.length_append]; exact hr, by simp [h.len], fun p s l hs hl => ?_, fun p q s t k hpq hs ht hk hk' => ?_⟩
  · by_cases e : p < S.length
    · rw [List.getElem?_append_left e] at hs
      rw [List.getElem?_append_left (by rw [← h.len]; exact e)] at hl
      have ho := h.each p s l hs hl
      exact ho.blk fun k hk => hg.block k (ho.block k hk).2 fun hv => row_apart (t := 22) (u := 3) h.row ho (by decide) hv hk
    · rw [List.getElem?_append_right (by omega)] at hs
      rw [List.getElem?_append_right (by rw [← h.len]; omega)] at hl
      have h1 : s = .slice none 0 0 := by have := List.mem_of_getElem? hs; simpa using this
      have h2 : l = [] := by have := List.mem_of_getElem? hl; simpa using this
      subst h1; subst h2
      exact OwnZ.nil _ _
  · have hno : ∀ (j : Nat) (u : Value), (S ++ [.slice none 0 0])[j]? = some u → ∀ k, u.ownBlock = some k → S[j]? = some u := fun j u hu k hk => by
      by_cases e : j < S.length
      · rw [List.getElem?_append_left e] at hu; exact hu
      · rw [List.getElem?_append_right (by omega)] at hu
        have h1 : u = .slice none 0 0 := by have := List.mem_of_getElem? hu; simpa using this
        subst h1; cases hk
    exact h.ap p q s t k hpq (hno p s hs k hk) (hno q t ht k hk') hk hk'
/-- one more number in one of the lists: it has grown; then it is stored in its place -/
theorem LsAt.into {w4 : World} {g m cap : Nat} {S : List Value} {LL : List (List Nat)} {p : Nat} {s s' : Value} {l l' : List Nat} (h : LsAt w W (.slice (some ⟨g, 0, none⟩) m cap) S LL) (hm : m = S.length) (hs : S[p]? = some s) (hl : LL[p]? = some l)
    (ho : OwnZ w4 W s' l') (hg : TurnS (fun k => s.ownBlock = some k) w w4) (hat : s'.ownBlock = s.ownBlock ∨ ∀ k, s'.ownBlock = some k → w.heap.size ≤ k) :
    LsAt (w4.setCell ⟨g, p, none⟩ s') W (.slice (some ⟨g, 0, none⟩) m cap) (S.set p s') (LL.set p l') := by
  have hp : p < S.length := (List.getElem?_eq_some_iff.1 hs).1
  have hos := h.each p s l hs hl
  have hrow := h.row
  rw [← hm] at hrow
  have hgk : g < w.heap.size := (World.ownsRow.lt hrow g rfl).2
  have hsg : s.ownBlock ≠ some g := fun e => row_apart (t := 22) (u := 3) hrow hos (by decide) (k := g) rfl e
  have hr4 := row_blk hrow (w' := w4) fun k hk => hg.block k (World.ownsRow.lt hrow k hk).2 fun e => row_apart (t := 22) (u := 3) hrow hos (by decide) hk e
  have hrs := (World.ownsRow.stored hr4 p s').1
  have hne : ∀ k, s'.ownBlock = some k → k ≠ g := fun k hk e => by
    rcases hat with h1 | h1
    · exact hsg (by rw [← h1, hk, e])
    · have := h1 k hk; omega
  refine ⟨by rw [List.length_set, ← hm]; exact hrs, by rw [List.length_set, List.length_set]; exact h.len, fun q t k ht hk => ?_, fun q r t u k hqr ht hu hk hk' => ?_⟩
  · rw [List.getElem?_set] at ht hk
    by_cases e : p = q
    · rw [if_pos e, if_pos (by omega)] at ht
      rw [if_pos e, if_pos (by rw [← h.len]; omega)] at hk
      rw [← Option.some.inj ht, ← Option.some.inj hk]
      exact ho.blk fun j hj => heap_set_other w4 ⟨g, p, none⟩ _ (hne j hj)
    · rw [if_neg e] at ht hk
      have ho2 := h.each q t k ht hk
      refine ho2.blk fun j hj => (heap_set_other w4 ⟨g, p, none⟩ _ (fun e2 => ?_)).trans (hg.block j (ho2.block j hj).2 fun e2 => h.ap p q s t j e hs ht e2 hj)
      exact row_apart (t := 22) (u := 3) hrow ho2 (by decide) (k := g) rfl (by rw [hj, e2])
  · rw [List.getElem?_set] at ht hu
    have hold : ∀ (j : Nat) (x : Value), p ≠ j → S[j]? = some x → ∀ i, s'.ownBlock = some i → x.ownBlock ≠ some i := fun j x hj hx i hi hi' => by
      rcases hat with h1 | h1
      · exact h.ap p j s x i hj hs hx (h1 ▸ hi) hi'
      · have h2 := h1 i hi
        have hjl := (List.getElem?_eq_some_iff.1 hx).1
        have := ((h.each j x _ hx (List.getElem?_eq_getElem (by rw [← h.len]; exact hjl))).block i hi').2
        omega
    by_cases e : p = q
    · rw [if_pos e, if_pos (by omega)] at ht
      have et := Option.some.inj ht
      rw [if_neg (by omega)] at hu
      exact hold r u (by omega) hu k (et ▸ hk) hk'
    · rw [if_neg e] at ht
      by_cases e2 : p = r
      · rw [if_pos e2, if_pos (by omega)] at hu
        have eu := Option.some.inj hu
        exact hold q t e ht k (eu ▸ hk') hk
      · rw [if_neg e2] at hu
        exact h.ap q r t u k hqr ht hu hk hk'
end Go.Proofs.Ytgkmmdkagiohgaa
end

section
set_option linter.unusedVariables false
set_option linter.unusedSimpArgs false
namespace Go.Proofs.Ytgkmmdkagiohgaa
open Go.RowKit BigFrame
set_option maxRecDepth 100000
variable {w w' wr : World} {W B a M : Nat} {G : Gr} {ρ : Nat → Nat}

theorem Try.infoSl : (Try.prog.info? 22).map (fun i => (i.zero, i.size, i.bytes)) = some (some (.slice none 0 0), 1, 24) := by kernel_rfl
structure LvAt (w0 : World) (B a M : Nat) (G : Gr) (lv : Nat → Nat) (b0 : Nat) (vo : Value) (O : List Nat) (wr : World) (v : Value) (S : List Value) (LL : List (List Nat)) (P : List Nat) : Prop where
  sl : SlAt wr w0.heap.size G.nb vo O
  map : ∃ l, MapAt 3 wr b0 l ∧ l.length ≤ P.length ∧ ∀ x : Nat, fndL l (.int .i64 (x : Int)) = if x ∈ P then some (.int .i64 ((lv x : Nat) : Int)) else none
  ls : LsAt wr w0.heap.size v S LL
  gr : GrMem wr B a M G
  bel : Below w0.heap.size w0 wr
  lob : w0.heap.size ≤ b0
variable {lv : Nat → Nat} {b0 : Nat} {vo v : Value} {O P : List Nat} {S : List Value} {LL : List (List Nat)} {w0 : World}
theorem LvAt.frame (h : LvAt w0 B a M G lv b0 vo O wr v S LL P) (hG : ∀ k r, G.own k = some r → k < w0.heap.size) {T : Nat → Prop} (hT : TurnS T wr w') (hs : ∀ k, T k → w0.heap.size ≤ k) : GrMem w' B a M G ∧ Below w0.heap.size w0 w' :=
  ⟨h.gr.turn hT fun k ⟨r, hr⟩ hh => by
    have := hG k r hr
    have := hs k hh
    omega, h.bel.trans (hT.below h.bel.size hs)⟩
theorem LvAt.drew (h : LvAt w0 B a M G lv b0 vo O wr v S LL P) (m : Nat) : LvAt w0 B a M G lv b0 vo O (wr.drewN m) v S LL P := by
  obtain ⟨l, h1, h2⟩ := h.map
  exact ⟨h.sl.blk fun _ _ => rfl, ⟨l, h1, h2⟩, h.ls.blk fun _ _ => rfl, h.gr.drew m, h.bel.trans ((below_drewN _ _).mono h.bel.size), h.lob⟩
theorem LvAt.look (h : LvAt w0 B a M G lv b0 vo O wr v S LL P) {y : Nat} (hy : y ∈ P) (hl : y ≤ 1000000) : (Instr.lookup 49 (.map (some b0)) (.int .i64 (y : Int)) false).run Try.prog wr = .ok (.int .i64 ((lv y : Nat) : Int)) wr := by
  obtain ⟨l, h1, _, h2⟩ := h.map
  have := h1.look law_int Try.underlying49 (z := .int .i64 0) rfl (key_nat hl)
  rw [h2 y, if_pos hy] at this
  exact this
theorem MapAt.noRow {b : Nat} {l : List (Lit × Value)} (hm : MapAt 3 wr b l) {t : TypeId} {s n : Nat} {u : Value} {X : List Value} (h : wr.ownsRow W t s u n X) : ∀ k, u.ownBlock = some k → k ≠ b := fun k hk e => row_map h hm (e ▸ hk)
/-- one has got its level -/
theorem LvAt.place {l : List (Lit × Value)} {x : Nat} (h : LvAt w0 B a M G lv b0 vo O wr v S LL P) (hG : ∀ k r, G.own k = some r → k < w0.heap.size) (hl : MapAt 3 wr b0 l) (hl1 : l.length ≤ P.length) (hl2 : ∀ x : Nat, fndL l (.int .i64 (x : Int)) = if x ∈ P then some (.int .i64 ((lv x : Nat) : Int)) else none) (hx : x ∉ P)
    (hm : MapAt 3 w' b0 (insL (.int .i64 (x : Int), .int .i64 ((lv x : Nat) : Int)) (strL l (.int .i64 (x : Int))))) (ht : wr.mapTurned w' b0) : LvAt w0 B a M G lv b0 vo O w' v S LL (P ++ [x]) := by
  have hT := TurnS.turned (S := fun k => k = b0) ht rfl
  obtain ⟨t1, t2⟩ := h.frame hG hT fun k e => e ▸ h.lob
  refine ⟨h.sl.blk fun k hk => hT.block k (h.sl.block k hk).2.1 (hl.noRow h.sl k hk), ⟨_, hm, ?_, fun y => ?_⟩, h.ls.blk fun k hk => hT.block k (h.ls.block k hk).2 ?_, t1, t2, h.lob⟩
  · rw [insL_length, List.length_append]
    have : (strL l (.int .i64 (x : Int))).length ≤ l.length := List.length_filter_le _ _
    simp; omega
  · rw [fndL_put, hl2]
    by_cases e : y = x
    · subst e; rw [if_pos rfl, if_pos (by simp)]
    · rw [if_neg (by omega)]
      by_cases e2 : y ∈ P
      · rw [if_pos e2, if_pos (by simp [e2])]
      · rw [if_neg e2, if_neg (by simp [e2, e])]
  · rcases hk with hk | ⟨p, s, hs, hk⟩
    · exact hl.noRow h.ls.row k hk
    · have hp := (List.getElem?_eq_some_iff.1 hs).1
      exact hl.noRow (h.ls.each p s _ hs (List.getElem?_eq_getElem (by rw [← h.ls.len]; exact hp))) k hk
/-- one more list -/
theorem LvAt.more {v' : Value} {w3 : World} {c : Array Value} {ty : TypeId} (h : LvAt w0 B a M G lv b0 vo O wr v S LL P) (hG : ∀ k r, G.own k = some r → k < w0.heap.size) (hw3 : w3 = wr.alloc (.cells c ty)) (hr : w'.ownsRow w0.heap.size 22 1 v' (S.length + 1) (S ++ [.slice none 0 0])) (hg : w3.grownBy w' v.ownBlock) :
    LvAt w0 B a M G lv b0 vo O w' v' (S ++ [.slice none 0 0]) (LL ++ [[]]) P := by
  have hT : TurnS (fun k => v.ownBlock = some k) wr w' := (hw3 ▸ TurnS.alloc _ wr _).trans (TurnS.grown hg fun k hk => hk)
  obtain ⟨t1, t2⟩ := h.frame hG hT fun k e => (h.ls.block k (.inl e)).1
  obtain ⟨l, h1, h2⟩ := h.map
  exact ⟨h.sl.blk fun k hk => hT.block k (h.sl.block k hk).2.1 fun e => row_apart (t := 47) (u := 22) h.sl h.ls.row (by decide) hk e, ⟨l, h1.blk (hT.block b0 h1.lt (fun e => row_map h.ls.row h1 e)), h2⟩, h.ls.more hr hT, t1, t2, h.lob⟩
/-- one more number in a list -/
theorem LvAt.into {w3 w4 : World} {g m cap p : Nat} {s s' : Value} {l l' : List Nat} {c : Array Value} {ty : TypeId} (h : LvAt w0 B a M G lv b0 vo O wr (.slice (some ⟨g, 0, none⟩) m cap) S LL P) (hG : ∀ k r, G.own k = some r → k < w0.heap.size) (hm : m = S.length) (hs : S[p]? = some s) (hl : LL[p]? = some l)
    (hw3 : w3 = wr.alloc (.cells c ty)) (ho : OwnZ w4 w0.heap.size s' l') (hg : w3.grownBy w4 s.ownBlock) (hat : s'.ownBlock = s.ownBlock ∨ s'.ownBlock = some w3.heap.size) :
    LvAt w0 B a M G lv b0 vo O (w4.setCell ⟨g, p, none⟩ s') (.slice (some ⟨g, 0, none⟩) m cap) (S.set p s') (LL.set p l') P := by
  have hsz : w3.heap.size = wr.heap.size + 1 := by rw [hw3]; exact size_alloc _ _
  have hT : TurnS (fun k => s.ownBlock = some k) wr w4 := (hw3 ▸ TurnS.alloc _ wr _).trans (TurnS.grown hg fun k hk => hk)
  have hT2 : TurnS (fun k => s.ownBlock = some k ∨ k = g) wr (w4.setCell ⟨g, p, none⟩ s') := (hT.mono fun k _ hk => .inl hk).trans (TurnS.set _ w4 (s := g) (.inr rfl) p s')
  have hos := h.ls.each p s l hs hl
  have hgl := h.ls.block g (.inl rfl)
  have hr := h.ls.row
  obtain ⟨t1, t2⟩ := h.frame hG hT2 fun k e => by
    rcases e with e | e
    · exact (hos.block k e).1
    · rw [e]; exact hgl.1
  obtain ⟨q, h1, h2⟩ := h.map
  refine ⟨h.sl.blk fun k hk => hT2.block k (h.sl.block k hk).2.1 fun e => ?_, ⟨q, h1.blk (hT2.block b0 h1.lt fun e => ?_), h2⟩, h.ls.into hm hs hl ho hT ?_, t1, t2, h.lob⟩
  · rcases e with e | e
    · exact row_apart (t := 47) (u := 3) h.sl hos (by decide) hk e
    · exact row_apart (t := 47) (u := 22) h.sl hr (by decide) hk (by rw [e]; rfl)
  · rcases e with e | e
    · exact row_map hos h1 e
    · exact row_map hr h1 (by rw [e]; rfl)
  · rcases hat with h3 | h3
    · exact .inl h3
    · exact .inr fun k hk => by have := Option.some.inj (hk.symm.trans h3); omega
/-- one list rises -/
theorem LvAt.sorted {p : Nat} {s : Value} {l l' : List Nat} (h : LvAt w0 B a M G lv b0 vo O wr v S LL P) (hG : ∀ k r, G.own k = some r → k < w0.heap.size) (hs : S[p]? = some s) (hl : LL[p]? = some l) (ho : OwnZ w' w0.heap.size s l') (hg : wr.grownBy w' s.ownBlock) :
    LvAt w0 B a M G lv b0 vo O w' v S (LL.set p l') P := by
  have hT : TurnS (fun k => s.ownBlock = some k) wr w' := TurnS.grown hg fun k hk => hk
  have hos := h.ls.each p s l hs hl
  obtain ⟨t1, t2⟩ := h.frame hG hT fun k e => (hos.block k e).1
  obtain ⟨q, h1, h2⟩ := h.map
  refine ⟨h.sl.blk fun k hk => hT.block k (h.sl.block k hk).2.1 fun e => row_apart (t := 47) (u := 3) h.sl hos (by decide) hk e, ⟨q, h1.blk (hT.block b0 h1.lt fun e => row_map hos h1 e), h2⟩, ⟨row_blk h.ls.row fun k hk => hT.block k (World.ownsRow.lt h.ls.row k hk).2 fun e => row_apart (t := 22) (u := 3) h.ls.row hos (by decide) hk e, by rw [List.length_set]; exact h.ls.len, fun j t k ht hk => ?_, h.ls.ap⟩, t1, t2, h.lob⟩
  rw [List.getElem?_set] at hk
  by_cases e : p = j
  · subst e
    have hp := (List.getElem?_eq_some_iff.1 hl).1
    rw [if_pos rfl, if_pos hp] at hk
    rw [← Option.some.inj hk]
    rw [hs] at ht
    rw [← Option.some.inj ht]
    exact ho
  · rw [if_neg e] at hk
    have ho2 := h.ls.each j t k ht hk
    exact ho2.blk fun i hi => hT.block i (ho2.block i hi).2 fun e2 => h.ls.ap p j s t i e hs ht e2 hi
/-- append of a list of none -/
theorem wpList_append_sl {w : World} {ops : Array Oper} {rest : List Oper} {o : Oper} {a : Act} {Q : Exit → Act → World → Prop} (hgd : o.guard = none) (s x : Operand)
    (ho : o.op = .call { callee := .builtin .append, args := #[s, x], argTypes := #[32, 32] })
    (B : Nat) (v : Value) (S : List Value) (hs : a.eval s = v) (hown : w.ownsRow B 22 1 v S.length S) (ad : Addr) (cap : Nat) (hx : a.eval x = .slice (some ad) 1 cap) (hsrc : w.cell? ad = some (.slice none 0 0))
    (hlen : S.length + 1 ≤ 1000000) (hbase : B ≤ w.heap.size)
    (h : ∀ v' w', Hid (w'.ownsRow B 22 1 v' (S.length + 1) (S ++ [.slice none 0 0])) → Hid (w.grownBy w' v.ownBlock) → wpList Try.prog ops Q rest (a.put o.dst v') w') : wpList Try.prog ops Q (o :: rest) a w := by
  obtain ⟨i, hi, hz0, hz1, hz2⟩ := info_parts Try.infoSl
  refine wpList_append_own_at w hgd s x 32 ho B 22 i (.slice none 0 0) 1 24 Try.underlying32 hi hz0 hz1 hz2 rfl (by decide) v S.length S hs hown ad 1 cap [.slice none 0 0] hx rfl ?_ (by simp [Value.oneCell']) (by unfold maxLen; omega) (by omega) hbase ?_
  · intro j u hu
    have hj : j = 0 := by
      have := (List.getElem?_eq_some_iff.1 hu).1
      simp at this
      omega
    subst hj
    have hadd : ad.add 0 = ad := by unfold Addr.add; split <;> simp_all
    rw [hadd, hsrc]
    simpa using hu
  · intro v' w' h1 h2 _ h4
    exact h v' w' h1 h2
theorem step_append_nat {w : World} {ops : Array Oper} {o : Oper} {a : Act} {K : Act → World → Prop} {Q : Exit → Act → World → Prop} {F : Prop} (hgd : o.guard = none) (s x : Operand)
    (ho : o.op = .call { callee := .builtin .append, args := #[s, x], argTypes := #[22, 22] })
    (B : Nat) (v : Value) (L : List Nat) (hs : a.eval s = v) (hown : OwnZ w B v L) (ad : Addr) (cap : Nat) (y : Nat) (hx : a.eval x = .slice (some ad) 1 cap) (hsrc : w.cell? ad = some (.int .i64 (y : Int)))
    (hlen : L.length + 1 ≤ 1000000) (hbase : B ≤ w.heap.size)
    (h : ∀ v' w', Hid (OwnZ w' B v' (L ++ [y])) → Hid (w.grownBy w' v.ownBlock) → Hid (v'.ownBlock = v.ownBlock ∨ v'.ownBlock = some w.heap.size) → K (a.put o.dst v') w') :
    if Region.wanted o (yielded ops a.tmps) = true then Oper.wp Try.prog o a w K Q else F := by
  have hw : Region.wanted o (yielded ops a.tmps) = true := by simp [Region.wanted, hgd]
  rw [if_pos hw]
  obtain ⟨i, hi, hz0, hz1, hz2⟩ := info_parts Try.infoI
  obtain ⟨v', w', hr, h1, h2, _, h4⟩ := run_append_own_at (P := Try.prog) w B 22 o.type 3 i (.int .i64 0) 1 8 Try.underlying22 hi hz0 hz1 hz2 rfl (by decide) v L.length (nv L) hown ad 1 cap (nv [y]) (by rw [nv_len]; rfl) (by
    intro j u hu
    have hj : j = 0 := by
      have := (List.getElem?_eq_some_iff.1 hu).1
      rw [nv_len] at this
      simp at this
      omega
    subst hj
    have hadd : ad.add 0 = ad := by unfold Addr.add; split <;> simp_all
    rw [hadd, hsrc]
    simpa [nv] using hu) (nv_one [y]) (by unfold maxLen; omega) (by omega) hbase
  unfold Oper.wp
  simp [execOp, ho, resolve, invoke, builtin, hs, hx, hr, Result.andThen]
  refine h v' w' ?_ h2 h4
  show OwnZ w' B v' (L ++ [y])
  unfold OwnZ
  have e : nv (L ++ [y]) = nv L ++ nv [y] := by simp [nv]
  rw [e, List.length_append]; exact h1
end Go.Proofs.Ytgkmmdkagiohgaa
end
