/-
  Integers are appended, and where the new slice lies; two slices of integers of the call's own, beside each other.
-/
import Derived.Test.YtdkjmpicdkfgoaaIt
import Derived.Maps.AppendAt
namespace Go.Proofs.Ytdkjmpicdkfgoaa
open Go.RowKit BigFrame

theorem OwnI.kept {w w' : World} {base n : Nat} {v : Value} {D : Nat → Int} {r : Option Nat} (h : OwnI w base v n D) (hg : w.grownBy w' r) (hr : ∀ k, v.ownBlock = some k → some k ≠ r) : OwnI w' base v n D :=
  World.ownsRow.kept h hg (by cases e : v.ownBlock with
    | none => exact .inl rfl
    | some k => exact .inr (hr k e))
theorem OwnI.block {w : World} {base n : Nat} {v : Value} {D : Nat → Int} (h : OwnI w base v n D) : ∀ k, v.ownBlock = some k → base ≤ k ∧ k < w.heap.size := fun k hk => World.ownsRow.lt h k hk
/-- two of them, apart -/
def TwoI (w : World) (base : Nat) (v1 : Value) (n1 : Nat) (D1 : Nat → Int) (v2 : Value) (n2 : Nat) (D2 : Nat → Int) : Prop :=
  OwnI w base v1 n1 D1 ∧ OwnI w base v2 n2 D2 ∧ ∀ k, v1.ownBlock = some k → some k ≠ v2.ownBlock
theorem TwoI.alloc {w : World} {base n1 n2 : Nat} {v1 v2 : Value} {D1 D2 : Nat → Int} (h : TwoI w base v1 n1 D1 v2 n2 D2) (o : Obj) : TwoI (w.alloc o) base v1 n1 D1 v2 n2 D2 := ⟨h.1.alloc o, h.2.1.alloc o, h.2.2⟩
theorem TwoI.grow1 {w w' : World} {base n1 n2 n : Nat} {v1 v2 v : Value} {D1 D2 D : Nat → Int} (h : TwoI w base v1 n1 D1 v2 n2 D2) (ho : OwnI w' base v n D) (hg : w.grownBy w' v1.ownBlock) (hat : v.ownBlock = v1.ownBlock ∨ v.ownBlock = some w.heap.size) : TwoI w' base v n D v2 n2 D2 := by
  obtain ⟨h1, h2, h3⟩ := h
  refine ⟨ho, h2.kept hg (fun k hk e => h3 k e.symm hk.symm), fun k hk e => ?_⟩
  rcases hat with ha | ha
  · exact h3 k (ha ▸ hk) e
  · have e1 : some k = some w.heap.size := hk.symm.trans ha
    have := (h2.block k e.symm).2
    have := Option.some.inj e1
    omega
theorem TwoI.grow2 {w w' : World} {base n1 n2 n : Nat} {v1 v2 v : Value} {D1 D2 D : Nat → Int} (h : TwoI w base v1 n1 D1 v2 n2 D2) (ho : OwnI w' base v n D) (hg : w.grownBy w' v2.ownBlock) (hat : v.ownBlock = v2.ownBlock ∨ v.ownBlock = some w.heap.size) : TwoI w' base v1 n1 D1 v n D := by
  obtain ⟨h1, h2, h3⟩ := h
  refine ⟨h1.kept hg h3, ho, fun k hk e => ?_⟩
  rcases hat with ha | ha
  · exact h3 k hk (e.trans ha)
  · have := (h1.block k hk).2
    have := Option.some.inj (e.trans ha)
    omega
theorem wpList_append_ints_at {w : World} {ops : Array Oper} {rest : List Oper} {o : Oper} {a : Act} {Q : Exit → Act → World → Prop} (hgd : o.guard = none) (s x : Operand)
    (ho : o.op = .call { callee := .builtin .append, args := #[s, x], argTypes := #[47, 47] })
    (base n : Nat) (v : Value) (D : Nat → Int) (hs : a.eval s = v) (hown : OwnI w base v n D) (ad : Addr) (m sCap : Nat) (E : Nat → Int) (hx : a.eval x = .slice (some ad) m sCap) (hsrc : IntsAt w (some ad) m E)
    (hlen : n + m ≤ 1000000) (hbase : base ≤ w.heap.size)
    (h : ∀ v' w', Hid (OwnI w' base v' (n + m) (joinI D n E)) → w.grownBy w' v.ownBlock → (v'.ownBlock = v.ownBlock ∨ v'.ownBlock = some w.heap.size) → Below base w w' → wpList Try.prog ops Q rest (a.put o.dst v') w') : wpList Try.prog ops Q (o :: rest) a w := by
  obtain ⟨i, hi, hz0, hz1, hz2⟩ := info_parts Try.infoI
  refine wpList_append_own_at w hgd s x 47 ho base 3 i (.int .i64 0) 1 8 Try.underlying47 hi hz0 hz1 hz2 rfl (by decide) v n (rl D n) hs hown ad m sCap (rl E m) hx (by rw [rl_length, Nat.mul_one]) ?_ (rl_one E m) (by unfold maxLen; omega) (by omega) hbase ?_
  · intro j u hu
    obtain ⟨hj, rfl⟩ := rl_at hu
    rcases hsrc with h | ⟨b, off, e, h⟩
    · omega
    · obtain rfl := Option.some.inj e
      have hadd : (⟨b, off, none⟩ : Addr).add j = ⟨b, off + j, none⟩ := by unfold Addr.add; split <;> simp_all
      rw [hadd]; exact h j hj
  · intro v' w' h1 h2 _ h4
    refine h v' w' ?_ h2 h4 (below_own hown h2 hbase)
    show OwnI w' base v' (n + m) (joinI D n E)
    unfold OwnI
    rw [rl_join]; exact h1
end Go.Proofs.Ytdkjmpicdkfgoaa
