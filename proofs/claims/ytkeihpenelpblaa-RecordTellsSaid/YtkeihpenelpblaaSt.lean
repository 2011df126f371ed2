/-
  An append of a string as a step of a region that draws its order.
-/
import Derived.Test.YtkeihpenelpblaaSe
import Derived.Test.YtkeihpenelpblaaTx
import Derived.Lib.AppendStr
namespace Go.Proofs.Ytkeihpenelpblaa
open Go.RowKit

theorem nb_strCells (s : ByteArray) : Lib.strCells s = bv (nb s) := by
  unfold Lib.strCells bv nb
  rw [List.map_map]
  rfl
theorem step_append_text {w : World} {ops : Array Oper} {o : Oper} {a : Act} {K : Act → World → Prop} {Q : Exit → Act → World → Prop} {F : Prop} (hgd : o.guard = none) (s x : Operand)
    (ho : o.op = .call { callee := .builtin .append, args := #[s, x], argTypes := #[24, 9] })
    (base : Nat) (v : Value) (L : List Nat) (hs : a.eval s = v) (hown : OwnB w base v L) (t : ByteArray) (hx : a.eval x = .string t)
    (hlen : L.length + (nb t).length ≤ 1000000) (hbase : base ≤ w.heap.size)
    (h : ∀ v' w', OwnB w' base v' (L ++ nb t) → w.grownBy w' v.ownBlock → K (a.put o.dst v') w') :
    if Region.wanted o (yielded ops a.tmps) = true then Oper.wp Try.prog o a w K Q else F := by
  have hw : Region.wanted o (yielded ops a.tmps) = true := by simp [Region.wanted, hgd]
  rw [if_pos hw]
  obtain ⟨i, hi, hz0, hz1, hz2⟩ := info_parts Try.infoB
  have hz := nb_length t
  obtain ⟨v', w', hr, h1, h2, _⟩ := Lib.run_append_own_string (P := Try.prog) w base 24 9 o.type 5 i Try.underlying24 Try.underlying9 hi hz0 hz1 hz2 v L.length (bv L) hown t (by unfold maxLen; omega) (by omega) hbase
  unfold Oper.wp
  simp [execOp, ho, resolve, invoke, builtin, hs, hx, hr, Result.andThen]
  refine h v' w' ?_ h2
  show OwnB w' base v' (L ++ nb t)
  unfold OwnB
  rw [nb_strCells] at h1
  rw [List.length_append, bv_append, hz]; exact h1
/-- the same, where the order is the text's -/
theorem wpList_append_text {w : World} {ops : Array Oper} {rest : List Oper} {o : Oper} {a : Act} {Q : Exit → Act → World → Prop} (hgd : o.guard = none) (s x : Operand)
    (ho : o.op = .call { callee := .builtin .append, args := #[s, x], argTypes := #[24, 9] })
    (base : Nat) (v : Value) (L : List Nat) (hs : a.eval s = v) (hown : OwnB w base v L) (t : ByteArray) (hx : a.eval x = .string t)
    (hlen : L.length + (nb t).length ≤ 1000000) (hbase : base ≤ w.heap.size)
    (h : ∀ v' w', Hid (OwnB w' base v' (L ++ nb t)) → w.grownBy w' v.ownBlock → Below base w w' → wpList Try.prog ops Q rest (a.put o.dst v') w') : wpList Try.prog ops Q (o :: rest) a w := by
  refine wpList_plain hgd fun K hK => ?_
  obtain ⟨i, hi, hz0, hz1, hz2⟩ := info_parts Try.infoB
  have hz := nb_length t
  obtain ⟨v', w', hr, h1, h2, _⟩ := Lib.run_append_own_string (P := Try.prog) w base 24 9 o.type 5 i Try.underlying24 Try.underlying9 hi hz0 hz1 hz2 v L.length (bv L) hown t (by unfold maxLen; omega) (by omega) hbase
  unfold Oper.wp
  simp [execOp, ho, resolve, invoke, builtin, hs, hx, hr, Result.andThen]
  refine hK _ _ (h v' w' ?_ h2 (hown.grown h2 hbase))
  show OwnB w' base v' (L ++ nb t)
  unfold OwnB
  rw [nb_strCells] at h1
  rw [List.length_append, bv_append, hz]; exact h1
end Go.Proofs.Ytkeihpenelpblaa
