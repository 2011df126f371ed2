/-
  Open.
-/
import Derived.Test.YtgflccdplffjmaaMd
import Derived.Deep.LoopGhost
namespace Go.Proofs.Ytgflccdplffjmaa
open Go.RowKit BigFrame

/-- places as a value -/
def tv (L : List Plc) : Value := .agg (tc L).toArray
theorem ldT_of (v : Value) : Instr.loadAt 54 v = ldA 54 v := rfl
theorem ixT_of (x i : Value) : Instr.index 54 x i = ixA 54 x i := rfl
theorem run_ldT {w : World} {g o : Nat} {L : List Plc} (hr : w.rangeAt g o (tc L)) (hl : L.length = 16) : (ldA 54 (.pointer (some ⟨g, o, none⟩))).run Try.prog w = .ok (tv L) w :=
  run_ldW 64 _ hr (by rw [tc_length, hl]) Try.underlying54 rfl Try.sizePlaces
theorem run_ixT (w : World) (L : List Plc) (k : Nat) (hk : k < 16) (hl : L.length = 16) : (ixA 54 (tv L) (.int .i64 (k : Int))).run Try.prog w = .ok (pv (pl L k)) w := by
  have h := run_ixW_row Try.underlying54 Try.underlying53 rfl Try.sizePlace w (tc L) k hk
  rw [tc_at (by omega)] at h
  exact h
theorem wpList_alloc_place {w : World} {ops : Array Oper} {rest : List Oper} {o : Oper} {a : Act} {Q : Exit → Act → World → Prop} (hgd : o.guard = none) (ho : o.op = .alloc 53)
    (h : ∀ g w1, Hid (Vw w1 53 g (pc p0)) → w.heap.size ≤ g → Below w.heap.size w w1 → wpList Try.prog ops Q rest (a.put o.dst (.pointer (some ⟨g, 0, none⟩))) w1) : wpList Try.prog ops Q (o :: rest) a w := by
  refine wpList_plain hgd fun K hK => ?_
  have hz := (zero_of_info Try.infoPlace).1 w
  unfold Oper.wp
  simp [execOp, ho, Instr.alloc, Sem.run_bind, hz, newVar, Value.cells, pv, Result.andThen]
  exact hK _ _ (h _ _ (heap_alloc_new w _) (Nat.le_refl _) ((Below.refl _ _).alloc (Nat.le_refl _) _))

theorem open_nil (n f : Int) (w : World) : Calls Try.prog 8 #[.pointer none, .int .i64 n, .int .i64 f] w fun e w' => e = .returned (.tuple #[.int .i64 0, .int .i64 1]) ∧ w = w' := by
  go_enter Try.func8, Try.ntmps8
  go_wp2_with fail
  go_ret2
  exact ⟨rfl, rfl⟩

def OpRel (L : List Plc) (w : World) (i : Value) (wr : World) : Prop := ∃ k : Nat, k ≤ 16 ∧ i = .int .i64 k ∧ (∀ j, j < k → (pl L j).on = true) ∧ Below w.heap.size w wr
/-- what Open makes of them -/
def openL (L : List Plc) (k : Nat) (n f : Int) : List Plc := L.set k ⟨true, n, 0, f⟩

attribute [local go_sem ↓] ldT_of ixT_of stP_of bdP_of bdG_of
set_option maxHeartbeats 1000000 in
theorem open_some (a q : Nat) (n f : Int) (L : List Plc) (w : World) (h : TabAt w a L) (hq : LeastP L q) (hq16 : q < 16) :
    Calls Try.prog 8 #[.pointer (some ⟨a, 0, none⟩), .int .i64 n, .int .i64 f] w (GivesT (.tuple #[.int .i64 (q : Int), .int .i64 0]) a (openL L q n f) w) := by
  have hld := run_ldT h.row.whole h.len
  have h' := Lib.hid h
  have hq' := Lib.hid hq
  unfold tv at hld
  clear h hq
  go_enter Try.func8, Try.ntmps8
  go_wp2_with fail
  clear hld
  go_loopw [16] (fun i wr => OpRel L w i wr) (fun i _ => 16 - (intOf i).toNat)
  case atStart => exact ⟨0, by omega, rfl, fun k hk => by omega, Below.refl _ _⟩
  case round =>
    obtain ⟨k, hk, rfl, hon0, hbel⟩ := hrel
    have hon := Lib.hid hon0
    have hB := Lib.hid hbel
    clear hon0 hbel
    have hkq : k ≤ q := by
      refine Nat.le_of_not_lt fun e => ?_
      have h1 := hon.out q e
      rw [hq'.out.free hq16] at h1
      cases h1
    have hlt : k < 16 := by omega
    have k0 : (0 : Int) ≤ (k : Int) := by omega
    have k1 : (k : Int) < 16 := by omega
    have hix := fun w => run_ixT w L k hlt h'.out.len
    obtain ⟨s, hs⟩ : ∃ s, pl L k = s := ⟨_, rfl⟩
    rw [hs] at hix
    have hs' := Lib.hid hs
    clear hs
    unfold tv pv at hix
    by_cases e0 : k = q
    · subst e0
      have ho := hq'.out.free hq16
      rw [hs'.out] at ho
      have hbg := fun w => run_bdG w n f
      have hbp := fun w => run_bdP w n f
      unfold gv at hbg hbp
      unfold pv at hbp
      go_wp2_with (refine wpList_alloc_place rfl rfl ?_; intro g2 w2 hv2 hg2 hb2; have hst := run_stP (s := s) (hv2.out.there (o := 0) (n := 4) (by simp [pc])); have V2 := Lib.hid (hv2.out.over (m := pc s) rfl); have c0 := V2.out.cell (k := 0) rfl; rw [ho] at c0; have B2 := Lib.hid (below_setCells (below_two hB.out hb2) (Nat.le_trans hB.out.size hg2) 0 (pc s)); have T2 := Lib.hid (h'.out.on' B2.out); have hst2 := run_stP (s := ⟨true, n, 0, f⟩) (T2.out.row.there (o := k * 4) (n := 4) (by rw [tc_length, h'.out.len]; omega)); unfold pv at hst hst2; clear hb2)
      go_ret2
      exact ⟨rfl, T2.out.put hlt _, (Turn.of_below a B2.out).trans (turn_cells _ _ _ _)⟩
    · have ho := Lib.hid (hq'.out.on k (by omega))
      rw [hs'.out] at ho
      go_wp2_with (refine wpList_alloc_place rfl rfl ?_; intro g2 w2 hv2 hg2 hb2; have hst := run_stP (s := s) (hv2.out.there (o := 0) (n := 4) (by simp [pc])); have V2 := Lib.hid (hv2.out.over (m := pc s) rfl); have c0 := V2.out.cell (k := 0) rfl; rw [ho.out] at c0; have B2 := Lib.hid (below_setCells (below_two hB.out hb2) (Nat.le_trans hB.out.size hg2) 0 (pc s)); unfold pv at hst; clear hb2)
      exact ⟨⟨k + 1, by omega, by go_num, fun j hj => by
        by_cases e : j = k
        · subst e; rw [hs'.out]; exact ho.out
        · exact hon.out j (by omega), B2.out⟩, by simp [intOf]; omega⟩
set_option maxHeartbeats 1000000 in
theorem open_full (a : Nat) (n f : Int) (L : List Plc) (w : World) (h : TabAt w a L) (hq : LeastP L 16) :
    Calls Try.prog 8 #[.pointer (some ⟨a, 0, none⟩), .int .i64 n, .int .i64 f] w (GivesT (.tuple #[.int .i64 0, .int .i64 14]) a L w) := by
  have hld := run_ldT h.row.whole h.len
  have h' := Lib.hid h
  have hq' := Lib.hid hq
  unfold tv at hld
  clear h hq
  go_enter Try.func8, Try.ntmps8
  go_wp2_with fail
  clear hld
  go_loopw [16] (fun i wr => OpRel L w i wr) (fun i _ => 16 - (intOf i).toNat)
  case atStart => exact ⟨0, by omega, rfl, fun k hk => by omega, Below.refl _ _⟩
  case round =>
    obtain ⟨k, hk, rfl, hon0, hbel⟩ := hrel
    have hon := Lib.hid hon0
    have hB := Lib.hid hbel
    clear hon0 hbel
    by_cases hlt : k < 16
    · have k0 : (0 : Int) ≤ (k : Int) := by omega
      have k1 : (k : Int) < 16 := by omega
      have hix := fun w => run_ixT w L k hlt h'.out.len
      obtain ⟨s, hs⟩ : ∃ s, pl L k = s := ⟨_, rfl⟩
      rw [hs] at hix
      have hs' := Lib.hid hs
      clear hs
      unfold tv pv at hix
      have ho := Lib.hid (hq'.out.on k (by omega))
      rw [hs'.out] at ho
      go_wp2_with (refine wpList_alloc_place rfl rfl ?_; intro g2 w2 hv2 hg2 hb2; have hst := run_stP (s := s) (hv2.out.there (o := 0) (n := 4) (by simp [pc])); have V2 := Lib.hid (hv2.out.over (m := pc s) rfl); have c0 := V2.out.cell (k := 0) rfl; rw [ho.out] at c0; have B2 := Lib.hid (below_setCells (below_two hB.out hb2) (Nat.le_trans hB.out.size hg2) 0 (pc s)); unfold pv at hst; clear hb2)
      exact ⟨⟨k + 1, by omega, by go_num, fun j hj => by
        by_cases e : j = k
        · subst e; rw [hs'.out]; exact ho.out
        · exact hon.out j (by omega), B2.out⟩, by simp [intOf]; omega⟩
    · obtain rfl : k = 16 := by omega
      go_wp2_with fail
      go_ret2
      exact ⟨rfl, h'.out.on' hB.out, Turn.of_below a hB.out⟩
end Go.Proofs.Ytgflccdplffjmaa
