/-
  Slots in memory: loaded, stored, made, compared; as the walks meet them.
-/
import Derived.Test.YtpogaognobgfhaaEa
import Derived.Test.YtpogaognobgfhaaAw
import Derived.Test.YtpogaognobgfhaaTe
import Derived.Deep.WholeRow
namespace Go.Proofs.Ytpogaognobgfhaa
open Go.RowKit BigFrame

/-- slots as cells, as values -/
def sc (s : Slt) : List Value := [.int .i64 s.ino, .int .i64 s.kind, .string s.name]
def fc : List Slt → List Value
  | [] => []
  | s :: r => .int .i64 s.ino :: .int .i64 s.kind :: .string s.name :: fc r
def sv (s : Slt) : Value := .agg (sc s).toArray
def fv (L : List Slt) : Value := .agg (fc L).toArray
theorem sc_length (s : Slt) : (sc s).length = 3 := rfl
theorem fc_length : ∀ L : List Slt, (fc L).length = 3 * L.length
  | [] => rfl
  | _ :: r => by simp only [fc, List.length_cons, fc_length r]; omega
theorem fc_append : ∀ L M : List Slt, fc (L ++ M) = fc L ++ fc M
  | [], _ => rfl
  | s :: r, M => by simp only [List.cons_append, fc, fc_append r M]
theorem fc_at : ∀ {L : List Slt} {k : Nat}, k < L.length → ((fc L).drop (k * 3)).take 3 = sc (sl L k)
  | [], _, h => by simp at h
  | s :: r, 0, _ => rfl
  | s :: r, k + 1, h => by
    rw [sl_cons_succ, ← fc_at (L := r) (k := k) (by simpa using h), show (k + 1) * 3 = k * 3 + 1 + 1 + 1 by omega]
    simp only [fc, List.drop_succ_cons]
theorem sc_inj {s t : Slt} (h : sc s = sc t) : s = t := by
  unfold sc at h
  simp only [List.cons.injEq, Value.int.injEq, Value.string.injEq, true_and, and_true] at h
  exact Slt.ext' h.1 h.2.1 h.2.2
theorem fc_inj {L M : List Slt} (hl : L.length = M.length) (h : fc L = fc M) : L = M := by
  refine sl_ext hl fun k hk => sc_inj ?_
  rw [← fc_at hk, ← fc_at (by omega), h]
theorem fc_one : ∀ (L : List Slt), ∀ v ∈ fc L, v.oneCell' = true
  | [], _, h => by simp [fc] at h
  | s :: r, v, h => by
    simp only [fc, List.mem_cons] at h
    rcases h with rfl | rfl | rfl | h
    · rfl
    · rfl
    · rfl
    · exact fc_one r v h
theorem fc_all (L : List Slt) : (fc L).toArray.all (·.oneCell') = true := all_oneCell_toArray (fc_one L)
theorem sc_one (s : Slt) : (sc s).toArray.all (·.oneCell') = true := fc_all [s]
def z4 : List Slt := List.replicate 4 s0

theorem Try.sizeSlot : (Try.prog.info? 23).map (·.size) = some 3 := by kernel_rfl
theorem Try.sizeSlots : (Try.prog.info? 24).map (·.size) = some 12 := by kernel_rfl
theorem Try.infoSlot : (Try.prog.info? 23).map (fun i => (i.zero, i.size)) = some (some (sv s0), 3) := by kernel_rfl
theorem Try.infoSlots : (Try.prog.info? 24).map (fun i => (i.zero, i.size)) = some (some (fv z4), 12) := by kernel_rfl

theorem ldL_of (v : Value) : Instr.loadAt 23 v = ldA 23 v := rfl
theorem ldLs_of (v : Value) : Instr.loadAt 24 v = ldA 24 v := rfl
theorem stL_of (p v : Value) : Instr.storeAt 23 p v = stA 23 p v := rfl
theorem stLs_of (p v : Value) : Instr.storeAt 24 p v = stA 24 p v := rfl
theorem ixLs_of (x i : Value) : Instr.index 24 x i = ixA 24 x i := rfl
theorem eqL_of (x y : Value) : Op.equalIn 10000 23 x y = eqA 23 x y := rfl
theorem eqLs_of (x y : Value) : Op.equalIn 10000 24 x y = eqA 24 x y := rfl
theorem bdL_of (ps : Array (Nat × Value)) : Instr.build 23 ps = bdA 23 ps := rfl
theorem bdLs_of (ps : Array (Nat × Value)) : Instr.build 24 ps = bdA 24 ps := rfl

theorem run_ldL {w : World} {g o : Nat} {s : Slt} (hr : w.rangeAt g o (sc s)) : (ldA 23 (.pointer (some ⟨g, o, none⟩))).run Try.prog w = .ok (sv s) w :=
  run_ldW 3 _ hr rfl Try.underlying23 rfl Try.sizeSlot
theorem run_ldLs {w : World} {g o : Nat} {L : List Slt} (hr : w.rangeAt g o (fc L)) (hl : L.length = 4) : (ldA 24 (.pointer (some ⟨g, o, none⟩))).run Try.prog w = .ok (fv L) w :=
  run_ldW 12 _ hr (by rw [fc_length, hl]) Try.underlying24 rfl Try.sizeSlots
theorem run_stL {w : World} {g o : Nat} {s : Slt} (ht : w.there g o 3) : (stA 23 (.pointer (some ⟨g, o, none⟩)) (sv s)).run Try.prog w = .ok () (w.setCells g o (sc s)) :=
  run_stW 3 rfl (sc_one s) ht Try.sizeSlot
theorem run_stLs {w : World} {g o : Nat} {L : List Slt} (hl : L.length = 4) (ht : w.there g o 12) : (stA 24 (.pointer (some ⟨g, o, none⟩)) (fv L)).run Try.prog w = .ok () (w.setCells g o (fc L)) :=
  run_stW 12 (by rw [fc_length, hl]) (fc_all L) ht Try.sizeSlots
theorem run_ixLs (w : World) (L : List Slt) (k : Nat) (hk : k < 4) (hl : L.length = 4) : (ixA 24 (fv L) (.int .i64 (k : Int))).run Try.prog w = .ok (sv (sl L k)) w := by
  have h := run_ixW_row Try.underlying24 Try.underlying23 rfl Try.sizeSlot w (fc L) k hk
  rw [fc_at (by omega)] at h
  exact h
theorem run_bd0L (w : World) : (bdA 23 #[]).run Try.prog w = .ok (sv s0) w := by
  unfold bdA
  exact run_build w _ _ _ (by kernel_rfl)
theorem run_bd0Ls (w : World) : (bdA 24 #[]).run Try.prog w = .ok (fv z4) w := by
  unfold bdA
  exact run_build w _ _ _ (by kernel_rfl)
theorem run_bdL (w : World) (i k : Int) (n : ByteArray) : (bdA 23 #[(0, .int .i64 i), (1, .int .i64 k), (2, .string n)]).run Try.prog w = .ok (sv ⟨i, k, n⟩) w := by
  unfold bdA
  exact run_build w _ _ _ (by kernel_rfl)
theorem Try.heldSlot : Try.prog.stoodInHeld 23 = false := by kernel_rfl
theorem run_eqL' (d : Nat) (s t : Slt) (w : World) : (Op.equalIn (d + 2) 23 (sv s) (sv t)).run Try.prog w = .ok (decide (s = t)) w := by
  have hf : Try.prog.underlying 23 = some (.struct (Try.prog.fieldsOf 23)) := by unfold Program.fieldsOf; rw [Try.underlying23]
  have h := run_equalIn_struct (P := Try.prog) w (d + 1) 23 (sc s).toArray (sc t).toArray hf Try.heldSlot
  unfold sv
  rw [h]
  simp only [Program.fieldsOf, Try.underlying23]
  rw [eqFieldsW (a := .int .i64 s.ino) (b := .int .i64 t.ino) (r := s.ino == t.ino) (by decide) Try.underlying3 rfl rfl rfl (run_equalIn_int w d _ .i64 .i64 _ _ Try.underlying3),
    eqFieldsW (a := .int .i64 s.kind) (b := .int .i64 t.kind) (r := s.kind == t.kind) (by decide) Try.underlying3 rfl rfl rfl (run_equalIn_int w d _ .i64 .i64 _ _ Try.underlying3),
    eqFieldsW (a := .string s.name) (b := .string t.name) (r := s.name.toList == t.name.toList) (by decide) Try.underlying9 rfl rfl rfl (run_equalIn_string w d _ _ _ Try.underlying9), eqFields_nil, toList_nb]
  by_cases h1 : s.ino = t.ino
  · rw [if_pos (beq_iff_eq.2 h1)]
    by_cases h2 : s.kind = t.kind
    · rw [if_pos (beq_iff_eq.2 h2)]
      by_cases h3 : s.name = t.name
      · rw [if_pos (decide_eq_true h3), decide_eq_true (Slt.ext' h1 h2 h3)]
      · rw [if_neg (by rw [decide_eq_true_eq]; exact h3), decide_eq_false (fun e => h3 (by rw [e]))]
    · rw [if_neg (by rw [beq_iff_eq]; exact h2), decide_eq_false (fun e => h2 (by rw [e]))]
  · rw [if_neg (by rw [beq_iff_eq]; exact h1), decide_eq_false (fun e => h1 (by rw [e]))]
theorem run_eqL (s t : Slt) (w : World) : (eqA 23 (sv s) (sv t)).run Try.prog w = .ok (decide (s = t)) w := run_eqL' 9998 s t w
theorem run_eqLs (L M : List Slt) (w : World) (hL : L.length = 4) (hM : M.length = 4) : (eqA 24 (fv L) (fv M)).run Try.prog w = .ok (decide (L = M)) w := by
  refine run_eqW_rows Try.underlying24 Try.sizeSlot 9998 w (fc L) (fc M) (fun i => decide (sl L i = sl M i)) _ ?_ (fun i hi => ?_)
  · simp only [decide_eq_true_eq]
    constructor
    · rintro rfl j _; rfl
    · intro h
      exact sl_ext (by omega) fun k hk => h k (by omega)
  · refine partedW_row (d := 9998) Try.underlying23 rfl Try.sizeSlot w (fc L) (fc M) (fun i => decide (sl L i = sl M i)) i ?_
    rw [fc_at (by omega), fc_at (by omega)]
    exact run_eqL' 9997 (sl L i) (sl M i) w
theorem Try.eqGuardL : Try.prog.eqGuardType Try.prog.depth 23 = false := by kernel_rfl
theorem Try.eqGuardLs : Try.prog.eqGuardType Try.prog.depth 24 = false := by kernel_rfl

theorem wpList_alloc_slot {w : World} {ops : Array Oper} {rest : List Oper} {o : Oper} {a : Act} {Q : Exit → Act → World → Prop} (hgd : o.guard = none) (ho : o.op = .alloc 23)
    (h : ∀ g w1, Hid (Vw w1 23 g (sc s0)) → w.heap.size ≤ g → Below w.heap.size w w1 → wpList Try.prog ops Q rest (a.put o.dst (.pointer (some ⟨g, 0, none⟩))) w1) : wpList Try.prog ops Q (o :: rest) a w := by
  refine wpList_plain hgd fun K hK => ?_
  have hz := (zero_of_info Try.infoSlot).1 w
  unfold Oper.wp
  simp [execOp, ho, Instr.alloc, Sem.run_bind, hz, newVar, Value.cells, sv, Result.andThen]
  exact hK _ _ (h _ _ (heap_alloc_new w _) (Nat.le_refl _) ((Below.refl _ _).alloc (Nat.le_refl _) _))
theorem wpList_alloc_slots {w : World} {ops : Array Oper} {rest : List Oper} {o : Oper} {a : Act} {Q : Exit → Act → World → Prop} (hgd : o.guard = none) (ho : o.op = .alloc 24)
    (h : ∀ g w1, Hid (Vw w1 24 g (fc z4)) → w.heap.size ≤ g → Below w.heap.size w w1 → wpList Try.prog ops Q rest (a.put o.dst (.pointer (some ⟨g, 0, none⟩))) w1) : wpList Try.prog ops Q (o :: rest) a w := by
  refine wpList_plain hgd fun K hK => ?_
  have hz := (zero_of_info Try.infoSlots).1 w
  unfold Oper.wp
  simp [execOp, ho, Instr.alloc, Sem.run_bind, hz, newVar, Value.cells, fv, Result.andThen]
  exact hK _ _ (h _ _ (heap_alloc_new w _) (Nat.le_refl _) ((Below.refl _ _).alloc (Nat.le_refl _) _))
/-- the results are four that lie in a block, and one more; one, and one more -/
theorem slots_ret {fn : Func} {p u : Tmp} (h : fn.results = #[.cell p 24, .tmp u]) {tmps : Array Value} {w : World} {a : Nat} {L : List Slt} (hp : tmps.getD p undef = .pointer (some ⟨a, 0, none⟩)) (hV : Vw w 24 a (fc L)) (hL : L.length = 4) :
    (results fn tmps).run Try.prog w = .ok (.tuple #[fv L, tmps.getD u undef]) w := by
  have hp' : tmps[p]?.getD undef = .pointer (some ⟨a, 0, none⟩) := by simpa using hp
  simp [results, h, hp', asAddr, run_loadVar_row w a _ 24 _ _ _ hV Try.underlying24 rfl (by rw [Try.sizeSlots]; simp [fc_length, hL]), fv]
theorem slot_ret {fn : Func} {p u : Tmp} (h : fn.results = #[.cell p 23, .tmp u]) {tmps : Array Value} {w : World} {a : Nat} {s : Slt} (hp : tmps.getD p undef = .pointer (some ⟨a, 0, none⟩)) (hV : Vw w 23 a (sc s)) :
    (results fn tmps).run Try.prog w = .ok (.tuple #[sv s, tmps.getD u undef]) w := by
  have hp' : tmps[p]?.getD undef = .pointer (some ⟨a, 0, none⟩) := by simpa using hp
  simp [results, h, hp', asAddr, run_loadVar_row w a _ 23 _ _ _ hV Try.underlying23 rfl (by rw [Try.sizeSlot]; simp [sc_length]), sv]
end Go.Proofs.Ytpogaognobgfhaa
