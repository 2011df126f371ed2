/-
  Texts: in memory, in slices of the call's own, and how they grow by append.
-/
import Derived.Test.YtgcodlicbdaddaaGreatDoorB1
import Derived.Test.YtgcodlicbdaddaaGreatDoorB3
import Derived.Laws.AppendOwn
import Derived.Laws.AppendOwnNone
import Derived.Laws.OwnMore
import Derived.Laws.CopyOwn
import Derived.Deep.OwnRows
import Derived.OwnWalk
import Derived.Deep.AppendLies
import Derived.Maps.AppendAt

section
set_option linter.unusedVariables false
set_option linter.unusedSimpArgs false
namespace Go.Proofs.YtgcodlicbdaddaaGreatDoor
open Go.RowKit BigFrame

theorem Tryz.infoT : (Tryz.prog.info? 9).map (fun i => (i.zero, i.size, i.bytes)) = some (some (.string ByteArray.empty), 1, 16) := by kernel_rfl

/-- the n-th of some texts -/
def tz (L : List (List Nat)) (k : Nat) : List Nat := L.getD k []
theorem tz_get {L : List (List Nat)} {k : Nat} (h : k < L.length) : tz L k = L[k] := by simp [tz, List.getD, List.getElem?_eq_getElem h]
theorem tz_mem {L : List (List Nat)} {k : Nat} (h : k < L.length) : tz L k ∈ L := by rw [tz_get h]; exact List.getElem_mem h
theorem tz_ext {l m : List (List Nat)} (h : l.length = m.length) (hx : ∀ k, k < l.length → tz l k = tz m k) : l = m := by
  apply List.ext_getElem h
  intro k h1 h2
  rw [← tz_get h1, ← tz_get h2]
  exact hx k h1
theorem tz_drop {L : List (List Nat)} {k : Nat} (h : k < L.length) : L.drop k = tz L k :: L.drop (k + 1) := by rw [tz_get h, List.drop_eq_getElem_cons h]
theorem tz_append_left {l m : List (List Nat)} {k : Nat} (h : k < l.length) : tz (l ++ m) k = tz l k := by simp [tz, List.getD, List.getElem?_append_left h]
theorem tz_append_last (l : List (List Nat)) (p : List Nat) : tz (l ++ [p]) l.length = p := by simp [tz, List.getD]
theorem tz_take {L : List (List Nat)} {m k : Nat} (h : k < m) : tz (L.take m) k = tz L k := by simp [tz, List.getD, h]
/-- texts as cells -/
def tl (L : List (List Nat)) : List Value := L.map fun p => Value.string (strOf p)
theorem tl_length (L : List (List Nat)) : (tl L).length = L.length := by simp [tl]
theorem tl_get {L : List (List Nat)} {k : Nat} (h : k < L.length) : (tl L)[k]? = some (.string (strOf (tz L k))) := by simp [tl, tz_get h, h]
theorem tl_at {L : List (List Nat)} {k : Nat} {v : Value} (h : (tl L)[k]? = some v) : k < L.length ∧ v = .string (strOf (tz L k)) := by
  have hk : k < L.length := by have := (List.getElem?_eq_some_iff.1 h).1; rwa [tl_length] at this
  rw [tl_get hk] at h
  exact ⟨hk, (Option.some.inj h).symm⟩
theorem tl_one (L : List (List Nat)) : ∀ v ∈ tl L, v.oneCell' = true := by
  intro v hv
  obtain ⟨p, _, rfl⟩ := List.mem_map.1 hv
  rfl
theorem tl_append (l m : List (List Nat)) : tl (l ++ m) = tl l ++ tl m := by simp [tl]
theorem tl_take (l : List (List Nat)) (k : Nat) : tl (l.take k) = (tl l).take k := by simp [tl]

/-- texts lie there, if any -/
def TAt (w : World) (a : Option Addr) (L : List (List Nat)) : Prop :=
  L.length = 0 ∨ ∃ b off, a = some ⟨b, off, none⟩ ∧ ∀ k, k < L.length → w.cell? ⟨b, off + k, none⟩ = some (.string (strOf (tz L k)))
theorem TAt.drew {w : World} {a : Option Addr} {L : List (List Nat)} {m : Nat} (h : TAt w a L) : TAt (w.drewN m) a L := h
theorem TAt.drew1 {w : World} {a : Option Addr} {L : List (List Nat)} (h : TAt w a L) : TAt w.drew a L := h
theorem TAt.cell {w : World} {b off : Nat} {L : List (List Nat)} (h : TAt w (some ⟨b, off, none⟩) L) {k : Nat} (hk : k < L.length) : w.cell? ⟨b, off + k, none⟩ = some (.string (strOf (tz L k))) := by
  rcases h with h | ⟨b', o', e, h⟩
  · omega
  · simp only [Option.some.injEq, Addr.mk.injEq, and_true] at e
    obtain ⟨rfl, rfl⟩ := e
    exact h k hk
theorem TAt.addr {w : World} {a : Option Addr} {L : List (List Nat)} (h : TAt w a L) (h0 : 0 < L.length) : ∃ b off, a = some ⟨b, off, none⟩ := by
  rcases h with h | ⟨b, o, e, _⟩
  · omega
  · exact ⟨b, o, e⟩
theorem TAt.on {w w' : World} {a : Option Addr} {L : List (List Nat)} {B : Nat} (h : TAt w a L) (hb : Below B w w') (hB : w.heap.size ≤ B) : TAt w' a L := by
  rcases h with h | ⟨b, off, rfl, hx⟩
  · exact .inl h
  · by_cases h0 : 0 < L.length
    · have hlt : b < w.heap.size := World.block_lt_of_cell? w _ (hx 0 h0)
      exact .inr ⟨b, off, rfl, fun k hk => by rw [hb.cell (p := ⟨b, off + k, none⟩) (by show b < B; omega)]; exact hx k hk⟩
    · exact .inl (by omega)
theorem TAt.take {w : World} {a : Option Addr} {L : List (List Nat)} (h : TAt w a L) (k : Nat) : TAt w a (L.take k) := by
  rcases h with h | ⟨b, off, rfl, hx⟩
  · exact .inl (by rw [List.length_take]; omega)
  · refine .inr ⟨b, off, rfl, fun j hj => ?_⟩
    rw [List.length_take] at hj
    rw [tz_take (by omega)]
    exact hx j (by omega)
theorem TAt.drop {w : World} {b off : Nat} {L : List (List Nat)} (h : TAt w (some ⟨b, off, none⟩) L) (k : Nat) (hk : k ≤ L.length) : TAt w (some ⟨b, off + k, none⟩) (L.drop k) := by
  rcases h with h | ⟨b', o', e, hx⟩
  · exact .inl (by rw [List.length_drop]; omega)
  · simp only [Option.some.injEq, Addr.mk.injEq, and_true] at e
    obtain ⟨rfl, rfl⟩ := e
    refine .inr ⟨b, off + k, rfl, fun j hj => ?_⟩
    rw [List.length_drop] at hj
    rw [Nat.add_assoc, hx (k + j) (by omega)]
    simp [tz, List.getD]

/-- a slice of texts of one's own -/
def OwnT (w : World) (base : Nat) (v : Value) (L : List (List Nat)) : Prop := w.ownsRow base 9 1 v L.length (tl L)
theorem OwnT.nil (w : World) (base : Nat) : OwnT w base (.slice none 0 0) [] := World.ownsRow_nil _ _ _ _
theorem OwnT.alloc {w : World} {base : Nat} {v : Value} {L : List (List Nat)} (h : OwnT w base v L) (o : Obj) : OwnT (w.alloc o) base v L := World.ownsRow.alloc h o
theorem OwnT.drew {w : World} {base m : Nat} {v : Value} {L : List (List Nat)} (h : OwnT w base v L) : OwnT (w.drewN m) base v L := h
theorem OwnT.lower {w : World} {base base' : Nat} {v : Value} {L : List (List Nat)} (h : OwnT w base v L) (hb : base' ≤ base) : OwnT w base' v L := by
  obtain ⟨h1, h2⟩ := h
  refine ⟨h1, ?_⟩
  rcases h2 with h2 | ⟨g, cap, cur, e, hg, rest⟩
  · exact .inl h2
  · exact .inr ⟨g, cap, cur, e, Nat.le_trans hb hg, rest⟩
theorem OwnT.block {w : World} {base : Nat} {v : Value} {L : List (List Nat)} (h : OwnT w base v L) : ∀ k, v.ownBlock = some k → base ≤ k ∧ k < w.heap.size := fun k hk => World.ownsRow.lt h k hk
theorem OwnT.kept {w w' : World} {base : Nat} {v : Value} {L : List (List Nat)} {r : Option Nat} (h : OwnT w base v L) (hg : w.grownBy w' r) (hr : ∀ k, v.ownBlock = some k → some k ≠ r) : OwnT w' base v L :=
  World.ownsRow.kept h hg (by cases e : v.ownBlock with
    | none => exact .inl rfl
    | some k => exact .inr (hr k e))
theorem OwnT.on {w w' : World} {base B : Nat} {v : Value} {L : List (List Nat)} (h : OwnT w base v L) (hb : Below B w w') (hB : w.heap.size ≤ B) : OwnT w' base v L := by
  refine ⟨h.1, ?_⟩
  rcases h.2 with h2 | ⟨g, cap, cur, e, hg, hh, rest⟩
  · exact .inl h2
  · have hlt : g < w.heap.size := (Array.getElem?_eq_some_iff.1 hh).1
    exact .inr ⟨g, cap, cur, e, hg, by rw [hb.block g (by omega)]; exact hh, rest⟩
theorem OwnT.slice {w : World} {base : Nat} {v : Value} {L : List (List Nat)} (h : OwnT w base v L) : ∃ a cap, v = .slice a L.length cap ∧ TAt w a L ∧ (a = none → cap = 0) ∧ L.length ≤ cap ∧ cap ≤ maxLen ∧ ∀ ad, a = some ad → ∃ b, ad = ⟨b, 0, none⟩ ∧ b < w.heap.size := by
  have h' := h
  rcases h.2 with ⟨rfl, h0⟩ | ⟨g, cap, cur, rfl, _, hh, hn, hm, _⟩
  · exact ⟨none, 0, by rw [h0], .inl h0, fun _ => rfl, by omega, by unfold maxLen; omega, fun ad h => by cases h⟩
  · refine ⟨_, cap, rfl, .inr ⟨g, 0, rfl, fun k hk => ?_⟩, (fun h => by cases h), hn, hm, fun ad h => by cases h; exact ⟨g, rfl, (Array.getElem?_eq_some_iff.1 hh).1⟩⟩
    rw [Nat.zero_add, World.ownsRow.cellAt h' k (by omega)]
    exact tl_get hk
theorem OwnT.tat {w : World} {base n cap : Nat} {a : Option Addr} {L : List (List Nat)} (h : OwnT w base (.slice a n cap) L) : TAt w a L ∧ n = L.length ∧ n ≤ cap := by
  obtain ⟨a', cap', e, h1, _, h2, _⟩ := h.slice
  cases e
  exact ⟨h1, rfl, h2⟩
theorem OwnT.cut {w : World} {base g n cap : Nat} {L : List (List Nat)} (h : OwnT w base (.slice (some ⟨g, 0, none⟩) n cap) L) (k : Nat) (hk : k ≤ L.length) : OwnT w base (.slice (some ⟨g, 0, none⟩) k cap) (L.take k) := by
  rcases h.2 with ⟨e, _⟩ | ⟨g', cap', cur, e, hb, hg, hnc, hcm, hcs, ht⟩
  · cases e
  · simp only [Value.slice.injEq, Option.some.injEq, Addr.mk.injEq, and_true] at e
    obtain ⟨rfl, rfl, rfl⟩ := e
    have hl : (L.take k).length = k := by rw [List.length_take]; omega
    refine ⟨by rw [tl_length, Nat.mul_one], .inr ⟨g, cap, cur, by rw [hl], hb, hg, by rw [hl]; omega, hcm, hcs, ?_⟩⟩
    rw [tl_take, ← ht, List.take_take, hl]
    congr 1
    omega

theorem run_append_texts {w : World} (base : Nat) (v : Value) (L : List (List Nat)) (ty : TypeId) (hown : OwnT w base v L) (ad : Addr) (m sCap : Nat) (M : List (List Nat)) (hm : M.length = m) (hsrc : TAt w (some ad) M)
    (hlen : L.length + m ≤ 1000000) (hbase : base ≤ w.heap.size) :
    ∃ v' w', (Builtin.append_ #[36, 36] ty #[v, .slice (some ad) m sCap]).run Tryz.prog w = .ok v' w' ∧ OwnT w' base v' (L ++ M) ∧ w.grownBy w' v.ownBlock := by
  obtain ⟨i, hi, hz0, hz1, hz2⟩ := info_parts Tryz.infoT
  obtain ⟨v', w', hr, h1, h2, _⟩ := run_append_own (P := Tryz.prog) w base 36 ty 9 i (.string ByteArray.empty) 1 16 Tryz.underlying36 hi hz0 hz1 hz2 rfl (by decide) v L.length (tl L) hown ad m sCap (tl M) (by rw [tl_length, Nat.mul_one, hm]) (by
    intro j u hu
    obtain ⟨hj, rfl⟩ := tl_at hu
    rcases hsrc with h | ⟨b, off, e, h⟩
    · omega
    · obtain rfl := Option.some.inj e
      have hadd : (⟨b, off, none⟩ : Addr).add j = ⟨b, off + j, none⟩ := by unfold Addr.add; split <;> simp_all
      rw [hadd]; exact h j hj) (tl_one M) (by unfold maxLen; omega) (by omega) hbase
  refine ⟨v', w', hr, ?_, h2⟩
  unfold OwnT
  rw [tl_append, List.length_append, hm]; exact h1
theorem below_ownT {w w' : World} {base : Nat} {v : Value} {L : List (List Nat)} (h : OwnT w base v L) (hg : w.grownBy w' v.ownBlock) (hb : base ≤ w.heap.size) : Below base w w' :=
  (Below.refl _ _).grown hg hb (fun k hk => (World.ownsRow.lt h k hk).1)
theorem wpList_append_texts {w : World} {ops : Array Oper} {rest : List Oper} {o : Oper} {a : Act} {Q : Exit → Act → World → Prop} (hgd : o.guard = none) (s x : Operand)
    (ho : o.op = .call { callee := .builtin .append, args := #[s, x], argTypes := #[36, 36] })
    (base : Nat) (v : Value) (L : List (List Nat)) (hs : a.eval s = v) (hown : OwnT w base v L) (ad : Addr) (m sCap : Nat) (M : List (List Nat)) (hm : M.length = m) (hx : a.eval x = .slice (some ad) m sCap) (hsrc : TAt w (some ad) M)
    (hlen : L.length + m ≤ 1000000) (hbase : base ≤ w.heap.size)
    (h : ∀ v' w', Hid (OwnT w' base v' (L ++ M)) → w.grownBy w' v.ownBlock → Below base w w' → wpList Tryz.prog ops Q rest (a.put o.dst v') w') : wpList Tryz.prog ops Q (o :: rest) a w := by
  refine wpList_plain hgd fun K hK => ?_
  obtain ⟨v', w', hr, h1, h2⟩ := run_append_texts base v L o.type hown ad m sCap M hm hsrc hlen hbase
  unfold Oper.wp
  simp [execOp, ho, resolve, invoke, builtin, hs, hx, hr, Result.andThen]
  exact hK _ _ (h v' w' h1 h2 (below_ownT hown h2 hbase))
/-- under a guard that says yes -/
theorem wpList_append_texts_want {w : World} {ops : Array Oper} {rest : List Oper} {o : Oper} {a : Act} {Q : Exit → Act → World → Prop} (hw : Region.wanted o (yielded ops a.tmps) = true) (s x : Operand)
    (ho : o.op = .call { callee := .builtin .append, args := #[s, x], argTypes := #[36, 36] })
    (base : Nat) (v : Value) (L : List (List Nat)) (hs : a.eval s = v) (hown : OwnT w base v L) (ad : Addr) (m sCap : Nat) (M : List (List Nat)) (hm : M.length = m) (hx : a.eval x = .slice (some ad) m sCap) (hsrc : TAt w (some ad) M)
    (hlen : L.length + m ≤ 1000000) (hbase : base ≤ w.heap.size)
    (h : ∀ v' w', Hid (OwnT w' base v' (L ++ M)) → w.grownBy w' v.ownBlock → Below base w w' → wpList Tryz.prog ops Q rest (a.put o.dst v') w') : wpList Tryz.prog ops Q (o :: rest) a w := by
  refine wpList_want hw fun K hK => ?_
  obtain ⟨v', w', hr, h1, h2⟩ := run_append_texts base v L o.type hown ad m sCap M hm hsrc hlen hbase
  unfold Oper.wp
  simp [execOp, ho, resolve, invoke, builtin, hs, hx, hr, Result.andThen]
  exact hK _ _ (h v' w' h1 h2 (below_ownT hown h2 hbase))
theorem text_new (w : World) (p : List Nat) : TAt (w.alloc (.cells #[.string (strOf p)] 9)) (some ⟨w.heap.size, 0, none⟩) [p] :=
  .inr ⟨w.heap.size, 0, rfl, fun k hk => by
    obtain rfl : k = 0 := by simpa using hk
    rw [cell_of_row _ w.heap.size _ _ _ _ (heap_alloc_new w _)]
    rfl⟩
/-- strings compared with one that is known -/
theorem strOf_size (p : List Nat) : (strOf p).size = p.length := by
  unfold strOf
  show (Array.size _) = _
  simp
theorem toList_u (s : ByteArray) : s.toList = s.data.toList := by
  obtain ⟨⟨l⟩⟩ := s
  rw [ByteArray.toList_mk]
theorem str_is {p : List Nat} (hp : Octs p) (q : List Nat) (hq : Octs q) : ((strOf p).toList == q.map UInt8.ofNat) = decide (p = q) := by
  have h := toList_nb (strOf p) (strOf q)
  rw [strOf_toList q] at h
  rw [h]
  by_cases e : p = q
  · subst e; rw [decide_eq_true rfl, decide_eq_true rfl]
  · rw [decide_eq_false e, decide_eq_false (fun h2 => e (by rw [← nb_strOf hp, h2, nb_strOf hq]))]
end Go.Proofs.YtgcodlicbdaddaaGreatDoor
end
