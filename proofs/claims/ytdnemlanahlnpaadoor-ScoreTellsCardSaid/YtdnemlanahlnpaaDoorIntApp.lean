/-
  Integers that grow by append: onto a slice of the call's own.
-/
import Derived.Test.YtdnemlanahlnpaaDoorSame
namespace Go.Proofs.YtdnemlanahlnpaaDoor
open Go.RowKit Fl BigFrame

def OwnI (w : World) (base : Nat) (v : Value) (n : Nat) (D : Nat → Int) : Prop := w.ownsRow base 3 1 v n (rl D n)
def joinI (D : Nat → Int) (n : Nat) (E : Nat → Int) (p : Nat) : Int := if p < n then D p else E (p - n)
theorem rl_length (D : Nat → Int) (n : Nat) : (rl D n).length = n := by simp [rl]
theorem rl_get {D : Nat → Int} {n k : Nat} (h : k < n) : (rl D n)[k]? = some (.int .i64 (D k)) := by simp [rl, h]
theorem rl_at {D : Nat → Int} {n k : Nat} {v : Value} (h : (rl D n)[k]? = some v) : k < n ∧ v = .int .i64 (D k) := by
  have hk : k < n := by have := (List.getElem?_eq_some_iff.1 h).1; rwa [rl_length] at this
  rw [rl_get hk] at h
  exact ⟨hk, (Option.some.inj h).symm⟩
theorem rl_one (D : Nat → Int) (n : Nat) : ∀ v ∈ rl D n, v.oneCell' = true := by
  intro v hv
  obtain ⟨k, _, rfl⟩ := List.mem_map.1 hv
  rfl
theorem rl_join (D : Nat → Int) (n : Nat) (E : Nat → Int) (m : Nat) : rl (joinI D n E) (n + m) = rl D n ++ rl E m := by
  apply List.ext_getElem?
  intro k
  by_cases h1 : k < n
  · rw [List.getElem?_append_left (by rw [rl_length]; exact h1), rl_get h1, rl_get (by omega)]
    simp [joinI, h1]
  · rw [List.getElem?_append_right (by rw [rl_length]; omega), rl_length]
    by_cases h2 : k < n + m
    · rw [rl_get h2, rl_get (by omega)]
      simp [joinI, h1]
    · rw [List.getElem?_eq_none (by rw [rl_length]; omega), List.getElem?_eq_none (by rw [rl_length]; omega)]
theorem rl_congr {D E : Nat → Int} {n : Nat} (h : ∀ p, p < n → D p = E p) : rl D n = rl E n := by
  unfold rl
  apply List.map_congr_left
  intro p hp
  rw [h p (List.mem_range.1 hp)]
theorem OwnI.congr {w : World} {base n : Nat} {v : Value} {D E : Nat → Int} (h : OwnI w base v n D) (he : ∀ p, p < n → D p = E p) : OwnI w base v n E := by
  unfold OwnI; rw [← rl_congr he]; exact h
theorem OwnI.slice {w : World} {base n : Nat} {v : Value} {D : Nat → Int} (h : OwnI w base v n D) : ∃ a cap, v = .slice a n cap ∧ IntsAt w a n D ∧ (a = none → cap = 0) ∧ n ≤ cap ∧ cap ≤ maxLen ∧ ∀ ad, a = some ad → ∃ b, ad = ⟨b, 0, none⟩ := by
  have h' := h
  rcases h.2 with ⟨rfl, h0⟩ | ⟨g, cap, cur, rfl, _, _, hn, hm, _⟩
  · exact ⟨none, 0, by rw [h0], .inl h0, fun _ => rfl, by omega, by unfold maxLen; omega, fun ad h => by cases h⟩
  · refine ⟨_, cap, rfl, .inr ⟨g, 0, rfl, fun k hk => ?_⟩, (fun h => by cases h), hn, hm, fun ad h => by cases h; exact ⟨g, rfl⟩⟩
    rw [Nat.zero_add, World.ownsRow.cellAt h' k (by omega)]
    simp [rl, hk]
theorem OwnI.nil (w : World) (base : Nat) (D : Nat → Int) : OwnI w base (.slice none 0 0) 0 D := World.ownsRow_nil _ _ _ _

theorem run_append_ints {w : World} (base n : Nat) (v : Value) (D : Nat → Int) (ty : TypeId) (hown : OwnI w base v n D) (sp : Option Addr) (m sCap : Nat) (E : Nat → Int) (hsrc : IntsAt w sp m E) (hnil : sp = none → sCap = 0)
    (hlen : n + m ≤ 1000000) (hbase : base ≤ w.heap.size) :
    ∃ v' w', (Builtin.append_ #[29, 29] ty #[v, .slice sp m sCap]).run Tryd.prog w = .ok v' w' ∧ OwnI w' base v' (n + m) (joinI D n E) ∧ w.grownBy w' v.ownBlock := by
  obtain ⟨i, hi, hz0, hz1, hz2⟩ := info_parts Tryd.infoI
  cases sp with
  | none =>
    obtain rfl := hnil rfl
    have hm : m = 0 := by
      rcases hsrc with h | ⟨_, _, e, _⟩
      · exact h
      · cases e
    subst hm
    have hr := run_append_owned_none (P := Tryd.prog) (w := w) base 29 ty 3 i 1 Tryd.underlying29 hi v n (rl D n) hown
    refine ⟨v, w, hr, ?_, World.grownBy.refl _ _⟩
    exact OwnI.congr (E := joinI D n E) hown (fun p hp => by unfold joinI; rw [if_pos (by omega)])
  | some ad =>
    obtain ⟨v', w', hr, h1, h2, _⟩ := run_append_own (P := Tryd.prog) w base 29 ty 3 i (.int .i64 0) 1 8 Tryd.underlying29 hi hz0 hz1 hz2 rfl (by decide) v n (rl D n) hown ad m sCap (rl E m) (by rw [rl_length, Nat.mul_one]) (by
      intro j u hu
      obtain ⟨hj, rfl⟩ := rl_at hu
      rcases hsrc with h | ⟨b, off, e, h⟩
      · omega
      · obtain rfl := Option.some.inj e
        have hadd : (⟨b, off, none⟩ : Addr).add j = ⟨b, off + j, none⟩ := by unfold Addr.add; split <;> simp_all
        rw [hadd]; exact h j hj) (rl_one E m) (by unfold maxLen; omega) (by omega) hbase
    refine ⟨v', w', hr, ?_, h2⟩
    unfold OwnI
    rw [rl_join]; exact h1

theorem step_append_ints {w : World} {ops : Array Oper} {o : Oper} {a : Act} {K : Act → World → Prop} {Q : Exit → Act → World → Prop} {F : Prop} (hgd : o.guard = none) (s x : Operand)
    (ho : o.op = .call { callee := .builtin .append, args := #[s, x], argTypes := #[29, 29] })
    (base n : Nat) (v : Value) (D : Nat → Int) (hs : a.eval s = v) (hown : OwnI w base v n D) (sp : Option Addr) (m sCap : Nat) (E : Nat → Int) (hx : a.eval x = .slice sp m sCap) (hsrc : IntsAt w sp m E) (hnil : sp = none → sCap = 0)
    (hlen : n + m ≤ 1000000) (hbase : base ≤ w.heap.size)
    (h : ∀ v' w', OwnI w' base v' (n + m) (joinI D n E) → w.grownBy w' v.ownBlock → K (a.put o.dst v') w') :
    if Region.wanted o (yielded ops a.tmps) = true then Oper.wp Tryd.prog o a w K Q else F := by
  have hw : Region.wanted o (yielded ops a.tmps) = true := by simp [Region.wanted, hgd]
  rw [if_pos hw]
  obtain ⟨v', w', hr, h1, h2⟩ := run_append_ints base n v D o.type hown sp m sCap E hsrc hnil hlen hbase
  unfold Oper.wp
  simp [execOp, ho, resolve, invoke, builtin, hs, hx, hr, Result.andThen]
  exact h v' w' h1 h2
end Go.Proofs.YtdnemlanahlnpaaDoor
