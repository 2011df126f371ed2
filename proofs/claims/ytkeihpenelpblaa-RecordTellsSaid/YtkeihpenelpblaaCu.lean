/-
  A string is copied into a variable of the call's own, of whatever type its block is of; a part of it is cleared.
-/
import Derived.Test.YtkeihpenelpblaaQt
import Derived.Test.YtkeihpenelpblaaTx
import Derived.Test.YtkeihpenelpblaaAw
import Derived.Lib.BufferWrite
import Derived.Lib.SliceRun
namespace Go.Proofs.Ytkeihpenelpblaa
open Go.RowKit BigFrame

theorem RowT.vw {w : World} {t : TypeId} {g : Nat} {l : List Nat} (h : RowT w t g l) : Vw w t g (bv l) := h
theorem RowT.there {w : World} {t : TypeId} {g : Nat} {l : List Nat} (h : RowT w t g l) {o n : Nat} (hn : o + n ≤ l.length) : w.there g o n := h.vw.there (by rw [bv_length]; exact hn)
theorem RowT.put {w : World} {t : TypeId} {g : Nat} {l : List Nat} (h : RowT w t g l) (m : List Nat) (o : Nat) (hm : o + m.length ≤ l.length) : RowT (w.setCells g o (bv m)) t g (splice l o m) := by
  have := Vw.put (bv m) o h.vw (by rw [bv_length, bv_length]; exact hm)
  rw [bv_splice] at this
  exact this
theorem oth_setRow (g : Nat) (w : World) (cs : Array Value) : Oth g w (w.setRow g cs) := ⟨rfl, rfl, rfl, by simp [World.setRow], fun k hk => setRow_other w g k cs hk⟩
theorem oth_cells {g : Nat} : ∀ (vs : List Value) (o : Nat) {a w : World}, Oth g a w → Oth g a (w.setCells g o vs)
  | [], _, _, _, h => h
  | v :: r, o, _, _, h => oth_cells r (o + 1) (h.setCell (p := o) v)
theorem nb_cells (s : ByteArray) : Lib.byteCells s.data.toList = bv (nb s) := by
  unfold Lib.byteCells bv nb
  rw [List.map_map]
  rfl
theorem wpList_copy_textT {w : World} {ops : Array Oper} {rest : List Oper} {o : Oper} {a : Act} {Q : Exit → Act → World → Prop} (hgd : o.guard = none) (d s : Operand)
    (ho : o.op = .call { callee := .builtin .copy, args := #[d, s], argTypes := #[24, 9] })
    (bt : TypeId) (g off dLen dCap : Nat) (t : ByteArray) (L : List Nat) (hd : a.eval d = .slice (some ⟨g, off, none⟩) dLen dCap) (hs : a.eval s = .string t)
    (hrow : RowT w bt g L) (hle : (nb t).length ≤ dLen) (hfit : off + (nb t).length ≤ L.length)
    (h : ∀ w', Hid (RowT w' bt g (splice L off (nb t))) → Hid (Oth g w w') → wpList Try.prog ops Q rest (a.put o.dst (.int .i64 (((nb t).length : Nat) : Int))) w') : wpList Try.prog ops Q (o :: rest) a w := by
  have hsz : (Try.prog.info? 5).map (·.size) = some 1 := by
    obtain ⟨i, hi, hz0, hz1, hz2⟩ := info_parts Try.infoB
    rw [hi]; simp [hz1]
  have hz := nb_length t
  have hrun := Lib.run_copy_row_string (P := Try.prog) w 24 9 o.type 5 g off dLen dCap t (bv L).toArray bt Try.underlying24 hsz hrow (by omega) (by simp [bv_length]; omega)
  rw [nb_cells, ← hz] at hrun
  have e : ((bv L).toArray.toList.take off ++ bv (nb t) ++ (bv L).toArray.toList.drop (off + (nb t).length)) = bv (splice L off (nb t)) := by
    rw [← bv_splice]; simp [splice, bv_length]
  rw [e] at hrun
  refine wpList_plain hgd fun K hK => ?_
  unfold Oper.wp
  simp [execOp, ho, resolve, invoke, builtin, hd, hs, hrun, Result.andThen]
  exact hK _ _ (h _ (setRow_heap w g _ _ _ _ hrow) (oth_setRow _ _ _))
theorem zero_byte (w : World) : (zeroValue 5).run Try.prog w = .ok (.int .u8 0) w := by
  obtain ⟨i, hi, hz0, hz1, hz2⟩ := info_parts Try.infoB
  simp [zeroValue, typeInfo, hi, hz0]
theorem bv_zs (n : Nat) : bv (zs n) = List.replicate n (.int .u8 0) := by simp [bv, zs]
theorem wpList_clear_T {w : World} {ops : Array Oper} {rest : List Oper} {o : Oper} {a : Act} {Q : Exit → Act → World → Prop} (hgd : o.guard = none) (x : Operand)
    (ho : o.op = .call { callee := .builtin .clear, args := #[x], argTypes := #[24] })
    (bt : TypeId) (g off n c : Nat) (L : List Nat) (hx : a.eval x = .slice (some ⟨g, off, none⟩) n c)
    (hrow : RowT w bt g L) (hn : 0 < n) (hfit : off + n ≤ L.length)
    (h : ∀ w', Hid (RowT w' bt g (splice L off (zs n))) → Hid (Oth g w w') → wpList Try.prog ops Q rest (a.put o.dst (.tuple #[])) w') : wpList Try.prog ops Q (o :: rest) a w := by
  have ht := hrow.there (o := off) (n := n) hfit
  have hrun := Lib.run_clear_slice (P := Try.prog) w 24 5 o.type (.int .u8 0) Try.underlying24 zero_byte rfl rfl g off n c hn (fun j hj => (ht j hj).1) (fun j hj => (ht j hj).2)
  rw [← bv_zs] at hrun
  have h1 := hrow.put (zs n) off (by rw [zs_length]; exact hfit)
  refine wpList_plain hgd fun K hK => ?_
  unfold Oper.wp
  simp [execOp, ho, resolve, invoke, builtin, hx, hrun, Result.andThen]
  exact hK _ _ (h _ h1 (oth_cells (bv (zs n)) off (Oth.refl g w)))
theorem wpList_clear_0 {w : World} {ops : Array Oper} {rest : List Oper} {o : Oper} {a : Act} {Q : Exit → Act → World → Prop} (hgd : o.guard = none) (x : Operand)
    (ho : o.op = .call { callee := .builtin .clear, args := #[x], argTypes := #[24] })
    (p : Option Addr) (c : Nat) (hx : a.eval x = .slice p 0 c) (h : wpList Try.prog ops Q rest (a.put o.dst (.tuple #[])) w) : wpList Try.prog ops Q (o :: rest) a w := by
  have hrun : (Builtin.clear_ #[24] o.type #[.slice p 0 c]).run Try.prog w = .ok (.tuple #[]) w := by
    cases p <;> simp [Builtin.clear_, run_underlying Try.underlying24]
  refine wpList_plain hgd fun K hK => ?_
  unfold Oper.wp
  simp [execOp, ho, resolve, invoke, builtin, hx, hrun, Result.andThen]
  exact hK _ _ h
end Go.Proofs.Ytkeihpenelpblaa
