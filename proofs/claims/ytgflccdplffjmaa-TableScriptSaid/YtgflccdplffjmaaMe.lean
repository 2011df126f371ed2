/-
  Close, Get.
-/
import Derived.Test.YtgflccdplffjmaaMd
namespace Go.Proofs.Ytgflccdplffjmaa
open Go.RowKit BigFrame

attribute [local go_sem ↓] ldG_of stG_of stP_of bdP_of bdG_of
theorem close_nil (fd : Int) (w : World) : Calls Try.prog 10 #[.pointer none, .int .i64 fd] w fun e w' => e = .returned (.tuple #[.int .i64 0, .int .i64 1]) ∧ w = w' := by
  go_enter Try.func10, Try.ntmps10
  go_wp2_with (go_at_call 23; refine (find_nil _ _).mono ?_; rintro e w1 ⟨rfl, rfl⟩)
  go_ret2
  exact ⟨rfl, rfl⟩
theorem close_bad (a : Nat) (fd : Int) (L : List Plc) (w : World) (h : TabAt w a L) (hf : thereB L fd = false) :
    Calls Try.prog 10 #[.pointer (some ⟨a, 0, none⟩), .int .i64 fd] w (GivesT (.tuple #[.int .i64 0, .int .i64 10]) a L w) := by
  have h' := Lib.hid h
  clear h
  go_enter Try.func10, Try.ntmps10
  go_wp2_with (go_at_call 23; refine (find_bad _ _ L _ h'.out hf).mono ?_; rintro e w1 ⟨rfl, rfl⟩)
  go_ret2
  exact ⟨rfl, h'.out, Turn.refl _ _⟩
theorem close_on (a k : Nat) (L : List Plc) (w : World) (h : TabAt w a L) (hk : k < 16) (ho : (pl L k).on = true) :
    Calls Try.prog 10 #[.pointer (some ⟨a, 0, none⟩), .int .i64 (k : Int)] w (GivesT (.tuple #[.int .i64 (pl L k).nd, .int .i64 0]) a (L.set k p0) w) := by
  have c1 := h.cell (j := 1) hk (by omega) rfl
  have hst := run_stP (s := p0) (h.row.there (o := k * 4) (n := 4) (by rw [tc_length, h.len]; omega))
  have hbd := run_bd0P
  unfold pv at hst hbd
  have h' := Lib.hid h
  clear h
  go_enter Try.func10, Try.ntmps10
  go_wp2_with (go_at_call 23; refine (find_on _ k L _ h'.out hk ho).mono ?_; rintro e w1 ⟨rfl, rfl⟩)
  go_ret2
  exact ⟨rfl, h'.out.put hk p0, turn_cells _ _ _ _⟩

theorem wpList_alloc_file {w : World} {ops : Array Oper} {rest : List Oper} {o : Oper} {a : Act} {Q : Exit → Act → World → Prop} (hgd : o.guard = none) (ho : o.op = .alloc 40)
    (h : ∀ g w1, Hid (Vw w1 40 g (gc p0)) → w.heap.size ≤ g → Below w.heap.size w w1 → wpList Try.prog ops Q rest (a.put o.dst (.pointer (some ⟨g, 0, none⟩))) w1) : wpList Try.prog ops Q (o :: rest) a w := by
  refine wpList_plain hgd fun K hK => ?_
  have hz := (zero_of_info Try.infoFile).1 w
  unfold Oper.wp
  simp [execOp, ho, Instr.alloc, Sem.run_bind, hz, newVar, Value.cells, gv, Result.andThen]
  exact hK _ _ (h _ _ (heap_alloc_new w _) (Nat.le_refl _) ((Below.refl _ _).alloc (Nat.le_refl _) _))
theorem file_ret {fn : Func} {p u : Tmp} (h : fn.results = #[.cell p 40, .tmp u]) {tmps : Array Value} {w : World} {a : Nat} {s : Plc} (hp : tmps.getD p undef = .pointer (some ⟨a, 0, none⟩)) (hV : Vw w 40 a (gc s)) :
    (results fn tmps).run Try.prog w = .ok (.tuple #[gv s, tmps.getD u undef]) w := by
  have hp' : tmps[p]?.getD undef = .pointer (some ⟨a, 0, none⟩) := by simpa using hp
  simp [results, h, hp', asAddr, run_loadVar_row w a _ 40 _ _ _ hV Try.underlying40 rfl (by rw [Try.sizeFile]; simp [gc]), gv]
theorem get_nil (fd : Int) (w : World) : Calls Try.prog 14 #[.pointer none, .int .i64 fd] w (Tells (.tuple #[gv p0, .int .i64 1]) w) := by
  have hbd := run_bd0G
  unfold gv at hbd
  have tk0 : True := trivial
  go_enter Try.func14, Try.ntmps14
  go_wp2_with (first
    | (go_at_call 23; refine (find_nil _ _).mono ?_; rintro e w2 ⟨rfl, rfl⟩)
    | (clear tk0; refine wpList_alloc_file rfl rfl ?_; intro g w1 hv hg hb; have hst := run_stG (s := p0) (hv.out.there (o := 0) (n := 3) (by simp [gc])); have B1 := Lib.hid hb; unfold gv at hst; clear hb))
  refine bodyPost_ret (file_ret rfl rfl (hv.out.over (m := gc p0) rfl)) rfl ⟨rfl, below_setCells B1.out hg 0 _⟩
theorem get_bad (a : Nat) (fd : Int) (L : List Plc) (w : World) (h : TabAt w a L) (hf : thereB L fd = false) :
    Calls Try.prog 14 #[.pointer (some ⟨a, 0, none⟩), .int .i64 fd] w (Tells (.tuple #[gv p0, .int .i64 10]) w) := by
  have h' := Lib.hid h
  clear h
  have hbd := run_bd0G
  unfold gv at hbd
  have tk0 : True := trivial
  go_enter Try.func14, Try.ntmps14
  go_wp2_with (first
    | (go_at_call 23; refine (find_bad _ _ L _ (h'.out.on' B1.out) hf).mono ?_; rintro e w2 ⟨rfl, rfl⟩)
    | (clear tk0; refine wpList_alloc_file rfl rfl ?_; intro g w1 hv hg hb; have hst := run_stG (s := p0) (hv.out.there (o := 0) (n := 3) (by simp [gc])); have B1 := Lib.hid hb; unfold gv at hst; clear hb))
  refine bodyPost_ret (file_ret rfl rfl (hv.out.over (m := gc p0) rfl)) rfl ⟨rfl, below_setCells B1.out hg 0 _⟩
theorem TabAt.file {w : World} {a : Nat} {L : List Plc} (h : TabAt w a L) {k : Nat} (hk : k < 16) : w.rangeAt a (k * 4 + 1) (gc (pl L k)) := fun j v hv => by
  have hj : j < 3 := (List.getElem?_eq_some_iff.1 hv).1
  rw [Nat.add_assoc]
  refine h.cell hk (by omega) ?_
  rw [← hv, Nat.add_comm]
  rfl
theorem get_on (a k : Nat) (L : List Plc) (w : World) (h : TabAt w a L) (hk : k < 16) (ho : (pl L k).on = true) :
    Calls Try.prog 14 #[.pointer (some ⟨a, 0, none⟩), .int .i64 (k : Int)] w (Tells (.tuple #[gv (pl L k), .int .i64 0]) w) := by
  have h' := Lib.hid h
  clear h
  have tk0 : True := trivial
  go_enter Try.func14, Try.ntmps14
  go_wp2_with (first
    | (go_at_call 23; refine (find_on _ k L _ (h'.out.on' B1.out) hk ho).mono ?_; rintro e w2 ⟨rfl, rfl⟩)
    | (clear tk0; refine wpList_alloc_file rfl rfl ?_; intro g w1 hv hg hb; have hst := run_stG (s := pl L k) (hv.out.there (o := 0) (n := 3) (by simp [gc])); have hld := run_ldG ((h'.out.on' hb).file hk); have B1 := Lib.hid hb; unfold gv at hst hld; clear hb))
  refine bodyPost_ret (file_ret rfl rfl (hv.out.over (m := gc (pl L k)) rfl)) rfl ⟨rfl, below_setCells B1.out hg 0 _⟩
end Go.Proofs.Ytgflccdplffjmaa
