/-
  Twelve pointers in memory: loaded, stored, made, compared; as the walks meet them.
-/
import Derived.Test.YtdpmpchmbjcocaaHa
import Derived.Test.YtdpmpchmbjcocaaTe
import Derived.Test.YtdpmpchmbjcocaaAv
import Derived.Deep.WholeRow
namespace Go.Proofs.Ytdpmpchmbjcocaa
open Go.RowKit BigFrame

theorem Try.sizeTw : (Try.prog.info? 22).map (·.size) = some 12 := by kernel_rfl
theorem Try.infoTw : (Try.prog.info? 22).map (fun i => (i.zero, i.size)) = some (some (av (zz 12)), 12) := by kernel_rfl

theorem ldT_of (v : Value) : Instr.loadAt 22 v = ldA 22 v := rfl
theorem stT_of (p v : Value) : Instr.storeAt 22 p v = stA 22 p v := rfl
theorem ixT_of (x i : Value) : Instr.index 22 x i = ixA 22 x i := rfl
theorem eqT_of (x y : Value) : Op.equalIn 10000 22 x y = eqA 22 x y := rfl
theorem bdT_of (ps : Array (Nat × Value)) : Instr.build 22 ps = bdA 22 ps := rfl

theorem run_ldT {w : World} {g o : Nat} {l : List Int} (hr : w.rangeAt g o (iv l)) (hl : l.length = 12) : (ldA 22 (.pointer (some ⟨g, o, none⟩))).run Try.prog w = .ok (av l) w :=
  run_ldA 12 _ hr hl Try.underlying22 rfl Try.sizeTw
theorem run_stT {w : World} {g o : Nat} {m : List Int} (hm : m.length = 12) (ht : w.there g o 12) : (stA 22 (.pointer (some ⟨g, o, none⟩)) (av m)).run Try.prog w = .ok () (w.setCells g o (iv m)) :=
  run_stA 12 hm ht Try.sizeTw
theorem run_ixT (w : World) (L : List Int) (k : Nat) (hk : k < 12) (hL : L.length = 12) : (ixA 22 (av L) (.int .i64 (k : Int))).run Try.prog w = .ok (.int .i64 (zi L k)) w :=
  run_ixA_int Try.underlying22 Try.underlying3 Try.sizeInt w L k hk hL
theorem run_bd0T (w : World) : (bdA 22 #[]).run Try.prog w = .ok (av (zz 12)) w := by
  unfold bdA
  exact run_build w _ _ _ (by kernel_rfl)
theorem run_eqT (X Y : List Int) (w : World) (hX : X.length = 12) (hY : Y.length = 12) : (eqA 22 (av X) (av Y)).run Try.prog w = .ok (decide (X = Y)) w :=
  run_eq_ints Try.underlying22 Try.underlying3 Try.sizeInt 9998 w X Y hX hY
theorem Try.eqGuardT : Try.prog.eqGuardType Try.prog.depth 22 = false := by kernel_rfl

theorem zero_tw (w : World) : (zeroValue 22).run Try.prog w = .ok (av (zz 12)) w := (zero_of_info Try.infoTw).1 w
theorem wpList_alloc_tw {w : World} {ops : Array Oper} {rest : List Oper} {o : Oper} {a : Act} {Q : Exit → Act → World → Prop} (hgd : o.guard = none) (ho : o.op = .alloc 22)
    (h : ∀ g w1, Hid (Vi w1 22 g (zz 12)) → w.heap.size ≤ g → Below w.heap.size w w1 → wpList Try.prog ops Q rest (a.put o.dst (.pointer (some ⟨g, 0, none⟩))) w1) : wpList Try.prog ops Q (o :: rest) a w := by
  refine wpList_plain hgd fun K hK => ?_
  have hz := zero_tw w
  unfold Oper.wp
  simp [execOp, ho, Instr.alloc, Sem.run_bind, hz, newVar, Value.cells, av, Result.andThen]
  exact hK _ _ (h _ _ (heap_alloc_new w _) (Nat.le_refl _) ((Below.refl _ _).alloc (Nat.le_refl _) _))
/-- the results are twelve that lie in a block, and one more -/
theorem tw_ret {fn : Func} {p u : Tmp} (h : fn.results = #[.cell p 22, .tmp u]) {tmps : Array Value} {w : World} {a : Nat} {L : List Int} (hp : tmps.getD p undef = .pointer (some ⟨a, 0, none⟩)) (hV : Vi w 22 a L) (hL : L.length = 12) :
    (results fn tmps).run Try.prog w = .ok (.tuple #[av L, tmps.getD u undef]) w := by
  have hp' : tmps[p]?.getD undef = .pointer (some ⟨a, 0, none⟩) := by simpa using hp
  simp [results, h, hp', asAddr, run_loadVar_row w a _ 22 _ _ _ hV Try.underlying22 rfl (by rw [Try.sizeTw]; simp [iv_length, hL]), av]
def readPV (l : List Nat) : Value := .tuple #[av (readP l).1, .int .i64 (readP l).2]
theorem below_set {w0 w : World} {B g : Nat} (h : Below B w0 w) (hg : B ≤ g) (k : Nat) (v : Value) : Below B w0 (w.setCell ⟨g, k, none⟩ v) := h.setCell (p := ⟨g, k, none⟩) hg v
end Go.Proofs.Ytdpmpchmbjcocaa
