/-
  A string is copied into a row of bytes of the call's own.
-/
import Derived.Test.YtmoclgijjmmdjaaRw
import Derived.Lib.BufferWrite
namespace Go.Proofs.Ytmoclgijjmmdjaa
open Go.RowKit

theorem wpList_copy_text {w : World} {ops : Array Oper} {rest : List Oper} {o : Oper} {a : Act} {Q : Exit → Act → World → Prop} (hgd : o.guard = none) (d s : Operand)
    (ho : o.op = .call { callee := .builtin .copy, args := #[d, s], argTypes := #[24, 9] })
    (g off dLen dCap : Nat) (t : ByteArray) (L m : List Nat) (hd : a.eval d = .slice (some ⟨g, off, none⟩) dLen dCap) (hs : a.eval s = .string t) (hm : Lib.byteCells t.data.toList = bv m) (hz : t.size = m.length)
    (hrow : Row w g L) (hle : m.length ≤ dLen) (hfit : off + m.length ≤ L.length) (B : Nat) (w0 : World) (hb : Below B w0 w) (hBg : B ≤ g)
    (h : ∀ w', Hid (Row w' g (splice L off m)) → Below B w0 w' → wpList Try.prog ops Q rest (a.put o.dst (goInt m.length)) w') : wpList Try.prog ops Q (o :: rest) a w := by
  have hsz : (Try.prog.info? 5).map (·.size) = some 1 := by
    obtain ⟨i, hi, hz0, hz1, hz2⟩ := info_parts Try.infoB
    rw [hi]; simp [hz1]
  have hrun := Lib.run_copy_row_string (P := Try.prog) w 24 9 o.type 5 g off dLen dCap t (bv L).toArray 5 Try.underlying24 hsz hrow (by omega) (by simp [bv_length]; omega)
  rw [hm, hz] at hrun
  have e : ((bv L).toArray.toList.take off ++ bv m ++ (bv L).toArray.toList.drop (off + m.length)) = bv (splice L off m) := by
    rw [← bv_splice]; simp [splice, bv_length]
  rw [e] at hrun
  refine wpList_plain hgd fun K hK => ?_
  unfold Oper.wp
  simp [execOp, ho, resolve, invoke, builtin, hd, hs, hrun, Result.andThen]
  exact hK _ _ (h _ (setRow_heap w g _ _ _ _ hrow) (below_setRow hb hBg _))
end Go.Proofs.Ytmoclgijjmmdjaa
