/-
  A node that nothing leads to any more goes.
  A new node.
  make.
-/
import Derived.Test.YtgcodlicbdaddaaGreatDoorB19
import Derived.Test.YtgcodlicbdaddaaGreatDoorB17
import Derived.Test.YtgcodlicbdaddaaGreatDoorB5

section
set_option linter.unusedVariables false
set_option linter.unusedSimpArgs false
namespace Go.Proofs.YtgcodlicbdaddaaGreatDoor
open Go.RowKit BigFrame
set_option maxRecDepth 100000

theorem Tr.opt_del (s : Tr) (i j : Nat) : (s.del i).opt j = if j = i then none else s.opt j := by
  unfold Tr.opt Tr.del
  simp only [List.getD, List.getElem?_set]
  by_cases e : i = j
  · subst e
    rw [if_pos rfl, if_pos rfl]
    split <;> rfl
  · rw [if_neg e, if_neg (Ne.symm e)]
theorem nodesL_del (A : Ad) (o : Nat → Option Nd) (i : Nat) : ∀ n, strL (nodesL A o n) (keyN i) = nodesL A (fun j => if j = i then none else o j) n
  | 0 => rfl
  | n + 1 => by
    have ih := nodesL_del A o i n
    unfold nodesL strL at ih ⊢
    rw [List.range_succ, List.filterMap_append, List.filterMap_append, List.filter_append, ih]
    congr 1
    cases ho : o n with
    | none =>
      by_cases e : n = i
      · subst e; simp [List.filterMap, ho]
      · simp [List.filterMap, ho, e]
    | some x =>
      have e1 : List.filterMap (fun j => (o j).map fun _ => (keyN j, ptrN A j)) [n] = [(keyN n, ptrN A n)] := by simp [List.filterMap, ho]
      rw [e1]
      have e2 : (keyN n).sameKey (keyN i) = decide (n = i) := same_keyN n i
      by_cases e : n = i
      · subst e
        rw [decide_eq_true rfl] at e2
        simp [List.filter, e2, List.filterMap]
      · simp [List.filter, e2, e, List.filterMap, ho]
section
variable {w w' : World} {B b : Nat} {A : Ad} {s : Tr}
theorem TreeAt.drop (h : TreeAt w B A s) {i : Nat} (ht : w.mapTurned w' A.m) (hm : MapAt 3 w' A.m (strL (nodesL A s.opt s.nd.length) (keyN i))) : TreeAt w' B A (s.del i) := by
  have hne : ∀ k r, A.own k = some r → r ≠ 1 → w'.heap[k]? = w.heap[k]? := fun k r hk hr => mturn_blk ht (fun e => by
    rw [e, h.rm] at hk
    exact hr (Option.some.inj hk).symm)
  have hlen : (s.del i).nd.length = s.nd.length := by simp [Tr.del]
  have hop : ∀ j y, (s.del i).opt j = some y → s.opt j = some y := fun j y hy => by
    rw [Tr.opt_del] at hy
    by_cases e : j = i
    · rw [if_pos e] at hy; cases hy
    · rwa [if_neg e] at hy
  refine ⟨?_, ⟨?_, h.tab.len⟩, ?_, fun j y hy => ?_, h.rt, h.rm, h.rf, fun j y hy => h.rn j y (hop j y hy), fun j y hy => h.rd j y (hop j y hy), fun j y hy => h.re j y (hop j y hy), fun k r hk => ⟨(h.hi k r hk).1, by rw [mturn_size ht]; exact (h.hi k r hk).2⟩⟩
  · have h1 := h.tb
    unfold Vw treeC at h1 ⊢
    rw [hne _ _ h.rt (by omega), hlen]
    exact h1
  · have h1 := h.tab.row
    unfold Vw at h1 ⊢
    rw [hne _ _ h.rf (by omega)]
    exact h1
  · rw [hlen, show (s.del i).opt = fun j => if j = i then none else s.opt j from funext fun j => Tr.opt_del s i j, ← nodesL_del]
    exact hm
  · have hy' := hop j y hy
    exact (h.node j y hy').blk (hne _ _ (h.rn j y hy') (by omega)) (fun g eg => hne _ _ (h.rd j y hy' g eg) (by omega)) (fun b eb => hne _ _ (h.re j y hy' b eb) (by omega))
set_option maxHeartbeats 2000000 in
theorem leave_any (h : TreeAt w B A s) (hs : s.nd.length ≤ 1000000) {i : Nat} {x : Nd} (hi : s.opt i = some x) :
    Calls Tryz.prog 134 #[.pointer (some ⟨A.t, 0, none⟩), .pointer (some ⟨A.nd i, 0, none⟩)] w (TurnPost B A (s.leave i) w) := by
  have hN := h.node i x hi
  have cl := hN.links
  have cn := hN.num
  have cf := h.files
  have h' := Lib.hid h
  have hat := Tr.at_of hi
  have hlt : i < 1000000000 := by have := Tr.opt_lt hi; omega
  clear h hN
  by_cases hl : x.links = 0
  · rw [hl] at cl
    obtain ⟨r, hr⟩ : ∃ r, heldB s.tb ((i : Nat) : Int) 16 = r := ⟨_, rfl⟩
    have hho : ∀ w', TreeAt w' B A s → Calls Tryz.prog 173 #[.pointer (some ⟨A.f, 0, none⟩), .int .i64 ((i : Nat) : Int)] w' (Tells (.bool r) w') := fun w' hw' => by
      have := holds_any A.f ((i : Nat) : Int) s.tb w' hw'.tab
      rwa [hr] at this
    go_enter Tryz.func134, Tryz.ntmps134
    go_wp2_with fail
    refine wp_region_at (C := KB w) (by kernel_rfl) (by kernel_rfl) (KB.start w) ?_
    go_big_quiet_want; go_big_quiet_op; go_big_quiet_on
    go_big_quiet_want; refine quiet_val (.pointer (some ⟨A.nd i, 0, none⟩)) (fun _ _ => by unfold Oper.quietAt Oper.quietUpon; go_simp) ?_; go_simp; try go_big_quiet_on
    go_big_quiet_want; refine quiet_val (.pointer (some ⟨A.nd i, 2, none⟩)) (fun _ _ => by unfold Oper.quietAt Oper.quietUpon; go_simp) ?_; go_simp; try go_big_quiet_on
    go_big_quiet_want; refine quiet_val (.int .i64 0) (fun _ hC => by have q0 := KB.cell hC cl; unfold Oper.quietAt Oper.quietUpon; go_simp) ?_; go_simp; try go_big_quiet_on
    go_big_quiet_want; refine quiet_val (.bool true) (fun _ _ => by unfold Oper.quietAt Oper.quietUpon; go_simp) ?_; go_simp; try go_big_quiet_on
    go_big_quiet_want; go_big_quiet_op; go_big_quiet_on
    go_big_quiet_want; go_big_quiet_op; go_big_quiet_on
    go_big_quiet_want; refine quiet_val (.pointer (some ⟨A.t, 0, none⟩)) (fun _ _ => by unfold Oper.quietAt Oper.quietUpon; go_simp) ?_; go_simp; try go_big_quiet_on
    go_big_quiet_want; refine quiet_val (.pointer (some ⟨A.t, 2, none⟩)) (fun _ _ => by unfold Oper.quietAt Oper.quietUpon; go_simp) ?_; go_simp; try go_big_quiet_on
    go_big_quiet_want; refine quiet_val (.pointer (some ⟨A.f, 0, none⟩)) (fun _ hC => by have q0 := KB.cell hC cf; unfold Oper.quietAt Oper.quietUpon; go_simp) ?_; go_simp; try go_big_quiet_on
    go_big_quiet_want; go_big_quiet_op; go_big_quiet_on
    go_big_quiet_want; refine quiet_val (.pointer (some ⟨A.nd i, 0, none⟩)) (fun _ _ => by unfold Oper.quietAt Oper.quietUpon; go_simp) ?_; go_simp; try go_big_quiet_on
    go_big_quiet_want; refine quiet_val (.pointer (some ⟨A.nd i, 0, none⟩)) (fun _ _ => by unfold Oper.quietAt Oper.quietUpon; go_simp) ?_; go_simp; try go_big_quiet_on
    go_big_quiet_want; refine quiet_val (.int .i64 ((i : Nat) : Int)) (fun _ hC => by have q0 := KB.cell hC cn; unfold Oper.quietAt Oper.quietUpon; go_simp) ?_; go_simp; try go_big_quiet_on
    go_big_quiet_want; refine quiet_val (.bool r) (fun _ hC => by unfold Oper.quietAt Oper.quietUpon; go_simp; exact KB.told (hho _ (h'.out.below hC)) hC) ?_; go_simp; try go_big_quiet_on
    go_big_quiet_want; refine quiet_val (.bool (!r)) (fun _ _ => by unfold Oper.quietAt Oper.quietUpon; go_simp) ?_; go_simp; try go_big_quiet_on
    go_big_quiet_want; refine quiet_val (.bool (!r)) (fun _ _ => by unfold Oper.quietAt Oper.quietUpon; go_simp) ?_; go_simp; try go_big_quiet_on
    refine wpQuiet_nil ?_
    intro w1 hC
    have hC' := Lib.hid hC
    have T1 := Lib.hid (h'.out.below hC)
    cases r
    · have hfin := Lib.hid (show s.leave i = s.del i by unfold Tr.leave; rw [hat, if_pos ⟨hl, hr⟩])
      have cm := T1.out.maps
      have cn1 := (T1.out.node i x hi).num
      have tk : True := trivial
      clear cl cn cf hC
      go_wp2_with fail
      go_still_tail 8, (by kernel_rfl)
      change wpList _ _ _ _ _ w1.drew
      go_wp2_with (have _t := tk; refine wpList_map_drop rfl _ _ rfl law_int Tryz.underlying68 A.m (nodesL A s.opt s.nd.length) rfl T1.out.drew.map (.int .i64 ((i : Nat) : Int)) (keyN i) rfl (keyN_of i hlt) ?_; intro w2 hm2 ht2; clear tk)
      go_end0
      rw [hfin.out]
      exact ⟨rfl, T1.out.drew.drop ht2.out hm2.out, ((TStep.of_below A hC'.out).trans (TStep.drew w1 A)).trans (TStep.turned (by exact h'.out.rm) ht2.out)⟩
    · have hfin := Lib.hid (show s.leave i = s by unfold Tr.leave; rw [hat, if_neg (fun h => by rw [hr] at h; cases h.2)])
      clear cl cn cf hC
      go_wp2_with fail
      go_end0
      rw [hfin.out]
      exact ⟨rfl, T1.out, TStep.of_below A hC'.out⟩
  · have t0 : (((x.links : Nat) : Int) == 0) = false := nat_beq_ne (b := 0) hl
    have hfin := Lib.hid (show s.leave i = s by unfold Tr.leave; rw [hat, if_neg (fun h => hl h.1)])
    go_enter Tryz.func134, Tryz.ntmps134
    go_wp2_with fail
    refine wp_region_at (C := KB w) (by kernel_rfl) (by kernel_rfl) (KB.start w) ?_
    go_big_quiet_want; go_big_quiet_op; go_big_quiet_on
    go_big_quiet_want; refine quiet_val (.pointer (some ⟨A.nd i, 0, none⟩)) (fun _ _ => by unfold Oper.quietAt Oper.quietUpon; go_simp) ?_; go_simp; try go_big_quiet_on
    go_big_quiet_want; refine quiet_val (.pointer (some ⟨A.nd i, 2, none⟩)) (fun _ _ => by unfold Oper.quietAt Oper.quietUpon; go_simp) ?_; go_simp; try go_big_quiet_on
    go_big_quiet_want; refine quiet_val (.int .i64 ((x.links : Nat) : Int)) (fun _ hC => by have q0 := KB.cell hC cl; unfold Oper.quietAt Oper.quietUpon; go_simp) ?_; go_simp; try go_big_quiet_on
    go_big_quiet_want; refine quiet_val (.bool false) (fun _ _ => by unfold Oper.quietAt Oper.quietUpon; go_simp) ?_; go_simp; try go_big_quiet_on
    go_big_quiet_want; go_big_quiet_op; go_big_quiet_on
    go_big_quiet_skip
    go_big_quiet_skip
    go_big_quiet_skip
    go_big_quiet_skip
    go_big_quiet_skip
    go_big_quiet_skip
    go_big_quiet_skip
    go_big_quiet_skip
    go_big_quiet_skip
    go_big_quiet_skip
    go_big_quiet_want; refine quiet_val (.bool false) (fun _ _ => by unfold Oper.quietAt Oper.quietUpon; go_simp) ?_; go_simp; try go_big_quiet_on
    refine wpQuiet_nil ?_
    intro w1 hC
    have hC' := Lib.hid hC
    have T1 := Lib.hid (h'.out.below hC)
    clear cl cn cf hC
    go_wp2_with fail
    go_end0
    rw [hfin.out]
    exact ⟨rfl, T1.out, TStep.of_below A hC'.out⟩
end
end Go.Proofs.YtgcodlicbdaddaaGreatDoor
end

section
set_option linter.unusedVariables false
set_option linter.unusedSimpArgs false
namespace Go.Proofs.YtgcodlicbdaddaaGreatDoor
open Go.RowKit BigFrame
set_option maxRecDepth 100000

theorem bdN_of (ps : Array (Nat × Value)) : Instr.build 76 ps = bdA 76 ps := rfl
/-- a new node's cells -/
def newC (a k : Int) : List Value := .int .i64 a :: .int .i64 k :: .int .i64 0 :: .slice none 0 0 :: (List.replicate 162 (.bool false) ++ [.map none, .int .i64 0, .int .i64 0, .string ⟨#[]⟩])
theorem run_bdN (w : World) (a k : Int) : (bdA 76 #[(0, .int .i64 a), (1, .int .i64 k)]).run Tryz.prog w = .ok (.agg (newC a k).toArray) w := by
  unfold bdA
  exact run_build w 76 _ _ (by kernel_rfl)
theorem newC_eq (n k : Nat) : newC ((n : Nat) : Int) ((k : Nat) : Int) = ndc n (ndNew k) (.slice none 0 0) (.map none) := by
  unfold newC ndc ndh ndt ndNew wr0
  simp only [List.map_replicate]
  rfl
/-- where a tree with one node more lies -/
def Ad.add (A : Ad) (n g : Nat) (e : Option Nat) : Ad :=
  { A with nd := fun j => if j = n then g else A.nd j, da := fun j => if j = n then .slice none 0 0 else A.da j, en := fun j => if j = n then .map e else A.en j,
           own := fun b => if b = g then some (3 * n + 3) else if e = some b then some (3 * n + 5) else A.own b }
theorem insL_last : ∀ (l : List (Lit × Value)) (x : Lit × Value), (∀ p ∈ l, x.1.before p.1 = false) → insL x l = l ++ [x]
  | [], _, _ => rfl
  | y :: r, x, h => by
    unfold insL
    rw [if_neg (by rw [h y List.mem_cons_self]; decide), insL_last r x fun p hp => h p (List.mem_cons_of_mem _ hp)]
    rfl
theorem nodesL_mem {A : Ad} {o : Nat → Option Nd} {n : Nat} {p : Lit × Value} (h : p ∈ nodesL A o n) : ∃ j, j < n ∧ p.1 = keyN j := by
  unfold nodesL at h
  obtain ⟨j, hj, he⟩ := List.mem_filterMap.1 h
  obtain ⟨_, _, rfl⟩ := Option.map_eq_some_iff.1 he
  exact ⟨j, List.mem_range.1 hj, rfl⟩
theorem nodesL_add (A : Ad) (s : Tr) (g : Nat) (e : Option Nat) (x : Nd) :
    insL (keyN s.nd.length, .pointer (some ⟨g, 0, none⟩)) (strL (nodesL A s.opt s.nd.length) (keyN s.nd.length)) = nodesL (A.add s.nd.length g e) (s.make x).opt (s.make x).nd.length := by
  have h1 : strL (nodesL A s.opt s.nd.length) (keyN s.nd.length) = nodesL A s.opt s.nd.length := List.filter_eq_self.2 fun p hp => by
    obtain ⟨j, hj, ej⟩ := nodesL_mem hp
    rw [ej, same_keyN, decide_eq_false (by omega)]; rfl
  have h2 : (s.make x).nd.length = s.nd.length + 1 := by simp [Tr.make]
  rw [h1, insL_last _ _ fun p hp => by
    obtain ⟨j, hj, ej⟩ := nodesL_mem hp
    rw [ej]
    exact decide_eq_false (by show ¬ ((s.nd.length : Nat) : Int) < ((j : Nat) : Int); omega), h2]
  unfold nodesL
  rw [List.range_succ, List.filterMap_append]
  have h3 : (s.make x).opt s.nd.length = some x := by unfold Tr.opt Tr.make; simp [List.getD]
  congr 1
  · have hall : ∀ l : List Nat, (∀ j ∈ l, j < s.nd.length) → l.filterMap (fun i => (s.opt i).map fun _ => (keyN i, ptrN A i)) = l.filterMap (fun i => ((s.make x).opt i).map fun _ => (keyN i, ptrN (A.add s.nd.length g e) i)) := fun l => by
      induction l with
      | nil => intro _; rfl
      | cons j r ih =>
        intro hl
        have hj := hl j List.mem_cons_self
        have h4 : (s.make x).opt j = s.opt j := by unfold Tr.opt Tr.make; simp [List.getD, List.getElem?_append_left hj]
        have h5 : ptrN (A.add s.nd.length g e) j = ptrN A j := by unfold ptrN Ad.add; simp only [if_neg (Nat.ne_of_lt hj)]
        rw [List.filterMap_cons, List.filterMap_cons, h4, h5, ih fun k hk => hl k (List.mem_cons_of_mem _ hk)]
    exact hall _ fun j hj => List.mem_range.1 hj
  · simp only [List.filterMap_cons, h3, List.filterMap_nil, Option.map_some]
    unfold ptrN Ad.add
    simp
theorem Tr.opt_make (s : Tr) (x : Nd) (j : Nat) : (s.make x).opt j = if j = s.nd.length then some x else s.opt j := by
  unfold Tr.opt Tr.make
  by_cases h : j = s.nd.length
  · subst h; simp [List.getD]
  · rw [if_neg h]
    by_cases h2 : j < s.nd.length
    · simp [List.getD, List.getElem?_append_left h2]
    · simp only [List.getD]
      rw [List.getElem?_eq_none (by simp; omega), List.getElem?_eq_none (by omega)]
section
variable {w w' : World} {B b : Nat} {A : Ad} {s : Tr}
/-- a node more lies there -/
theorem TreeAt.more {x : Nd} {g : Nat} {e : Option Nat} (h : TreeAt w B A s) (hg : w.heap.size ≤ g) (hgl : g < w'.heap.size) (he : ∀ c, e = some c → w.heap.size ≤ c ∧ c ≠ g ∧ c < w'.heap.size) (hB : B ≤ w.heap.size) (hs : w.heap.size ≤ w'.heap.size)
    (hN : NodeAt w' B g s.nd.length x (.slice none 0 0) (.map e)) (hm : MapAt 3 w' A.m (nodesL (A.add s.nd.length g e) (s.make x).opt (s.make x).nd.length)) (htb : Vw w' 72 A.t [.map (some A.m), .int .i64 (((s.make x).nd.length : Nat) - 1 : Int), .pointer (some ⟨A.f, 0, none⟩)])
    (hoth : ∀ k r, A.own k = some r → r ≠ 0 → r ≠ 1 → w'.heap[k]? = w.heap[k]?) : TreeAt w' B (A.add s.nd.length g e) (s.make x) := by
  have hown : ∀ k r, A.own k = some r → (A.add s.nd.length g e).own k = some r := fun k r hk => by
    have h1 := (h.hi k r hk).2
    unfold Ad.add
    simp only
    rw [if_neg (by omega), if_neg (fun e2 => by have := (he k e2).1; omega)]
    exact hk
  have hlt : ∀ j y, s.opt j = some y → j ≠ s.nd.length := fun j y hy e2 => by have := Tr.opt_lt hy; omega
  refine ⟨htb, ⟨?_, h.tab.len⟩, hm, fun j y hy => ?_, hown _ _ h.rt, hown _ _ h.rm, hown _ _ h.rf, fun j y hy => ?_, fun j y hy c hc => ?_, fun j y hy c hc => ?_, fun k r hk => ?_⟩
  · have h1 := h.tab.row
    unfold Vw at h1 ⊢
    show w'.heap[A.f]? = _
    rw [hoth _ _ h.rf (by omega) (by omega)]
    exact h1
  · rw [Tr.opt_make] at hy
    by_cases e2 : j = s.nd.length
    · rw [if_pos e2] at hy
      obtain rfl := Option.some.inj hy
      subst e2
      unfold Ad.add
      simp only [if_pos]
      exact hN
    · rw [if_neg e2] at hy
      unfold Ad.add
      simp only [if_neg e2]
      exact (h.node j y hy).blk (hoth _ _ (h.rn j y hy) (by omega) (by omega)) (fun c ec => hoth _ _ (h.rd j y hy c ec) (by omega) (by omega)) (fun c ec => hoth _ _ (h.re j y hy c ec) (by omega) (by omega))
  · rw [Tr.opt_make] at hy
    by_cases e2 : j = s.nd.length
    · subst e2; unfold Ad.add; simp
    · rw [if_neg e2] at hy
      have h1 := hown _ _ (h.rn j y hy)
      unfold Ad.add at h1 ⊢
      simp only [if_neg e2] at h1 ⊢
      exact h1
  · rw [Tr.opt_make] at hy
    by_cases e2 : j = s.nd.length
    · subst e2
      unfold Ad.add at hc
      simp only [if_pos] at hc
      cases hc
    · rw [if_neg e2] at hy
      unfold Ad.add at hc
      simp only [if_neg e2] at hc
      exact hown _ _ (h.rd j y hy c hc)
  · rw [Tr.opt_make] at hy
    by_cases e2 : j = s.nd.length
    · subst e2
      unfold Ad.add at hc ⊢
      simp only [if_pos] at hc ⊢
      have hc : e = some c := by simpa using hc
      rw [if_neg (he c hc).2.1, if_pos hc]
    · rw [if_neg e2] at hy
      unfold Ad.add at hc
      simp only [if_neg e2] at hc
      exact hown _ _ (h.re j y hy c hc)
  · unfold Ad.add at hk
    simp only at hk
    by_cases e2 : k = g
    · subst e2; exact ⟨by omega, hgl⟩
    · rw [if_neg e2] at hk
      by_cases e3 : e = some k
      · have := he k e3; exact ⟨by omega, this.2.2⟩
      · rw [if_neg e3] at hk
        exact ⟨(h.hi k r hk).1, Nat.lt_of_lt_of_le (h.hi k r hk).2 hs⟩
end
end Go.Proofs.YtgcodlicbdaddaaGreatDoor
end

section
set_option linter.unusedVariables false
set_option linter.unusedSimpArgs false
namespace Go.Proofs.YtgcodlicbdaddaaGreatDoor
open Go.RowKit BigFrame
set_option maxRecDepth 100000

/-- a new node's block -/
theorem new_node {w0 : World} {B g n k : Nat} {o : Option Nat} (hV : Vw w0 76 g (ndc n (ndNew k) (.slice none 0 0) (.map o))) (h2 : k = 2 → ∃ c, o = some c ∧ B ≤ c ∧ MapAt 9 w0 c []) (h3 : k ≠ 2 → o = none) : NodeAt w0 B g n (ndNew k) (.slice none 0 0) (.map o) :=
  ⟨hV, (OwnB.nil _ _).rd, by simp [ndNew, wr0], fun j hj => absurd hj (Nat.not_lt_zero _), Nat.zero_le _, ⟨fun e => by
    obtain ⟨c, rfl, hc, hm⟩ := h2 e
    exact ⟨c, rfl, hc, hm⟩, fun e => ⟨by rw [h3 e], rfl⟩⟩, fun _ => OwnB.nil _ _⟩
section
variable {w : World} {B b : Nat} {A : Ad} {s : Tr}
def MakePost (B : Nat) (A : Ad) (s : Tr) (k : Nat) (w : World) (e : Ending) (w' : World) : Prop :=
  ∃ g o, e = .returned (.pointer (some ⟨g, 0, none⟩)) ∧ TreeAt w' B (A.add s.nd.length g o) (s.make (ndNew k)) ∧ TStep w A w' (A.add s.nd.length g o)
attribute [local go_sem ↓] bdN_of
set_option maxHeartbeats 2000000 in
theorem make_any (h : TreeAt w B A s) (hB : B ≤ w.heap.size) (hs : s.nd.length ≤ 1000000) (hs1 : 1 ≤ s.nd.length) (k : Nat) :
    Calls Tryz.prog 43 #[.pointer (some ⟨A.t, 0, none⟩), .int .i64 ((k : Nat) : Int)] w (MakePost B A s k w) := by
  have c1 := h.made
  have f1 := h.tb.frozen 1
  have h' := Lib.hid h
  have hbd := run_bdN
  obtain ⟨n, hn⟩ : ∃ n, s.nd.length = n := ⟨_, rfl⟩
  rw [hn] at c1
  have hn1 : ((n : Nat) : Int) - 1 ≤ 1000000 ∧ 0 ≤ ((n : Nat) : Int) - 1 := by omega
  have e0 : 1 + (((n : Nat) : Int) - 1) = ((n : Nat) : Int) := by omega
  clear h
  go_enter Tryz.func43, Tryz.ntmps43
  by_cases hk : k = 2
  · subst hk
    have hmm := @run_makeMap Tryz.prog
    have h166 : (newC ((n : Nat) : Int) 2)[166]? = some (.map none) := rfl
    go_upto_region 4 with fail
    obtain ⟨c, hc⟩ : ∃ c, w.heap.size + 1 = c := ⟨_, rfl⟩
    rw [hc]
    obtain ⟨w0, hw0⟩ : ∃ w0, (w.alloc (.cells ((newC ((n : Nat) : Int) 2).set 166 (.map (some c))).toArray 76)).alloc (.map #[] 0) = w0 := ⟨_, rfl⟩
    rw [hw0]
    have hw162 : (ndNew 2).wr.length = 162 := by simp [ndNew, wr0]
    have hz1' : (w.alloc (.cells ((newC ((n : Nat) : Int) 2).set 166 (.map (some c))).toArray 76)).heap.size = c := by rw [← hc]; simp
    have V0 := Lib.hid (show Vw w0 76 w.heap.size (ndc n (ndNew 2) (.slice none 0 0) (.map (some c))) by
      have h1 : (newC ((n : Nat) : Int) 2).set 166 (.map (some c)) = ndc n (ndNew 2) (.slice none 0 0) (.map (some c)) := by
        rw [show newC ((n : Nat) : Int) 2 = ndc n (ndNew 2) (.slice none 0 0) (.map none) from newC_eq n 2, show (166 : Nat) = 166 + 0 from rfl, ndc_tail_set hw162]
        rfl
      rw [← hw0, ← h1]
      exact (Vw.alloc w _ _).on' ((Below.refl _ _).alloc (Nat.le_refl _) _))
    have hb0 := Lib.hid (show Below w.heap.size w w0 by rw [← hw0]; exact ((Below.refl _ _).alloc (Nat.le_refl _) _).alloc (by simp) _)
    have hz0 := Lib.hid (show w0.heap.size = w.heap.size + 2 by rw [← hw0]; simp)
    have M0 := Lib.hid (show MapAt 9 w0 c [] by
      rw [← hw0]
      have h1 := MapAt.made 9 (w.alloc (.cells ((newC ((n : Nat) : Int) 2).set 166 (.map (some c))).toArray 76))
      rwa [hz1'] at h1)
    have hcz := Lib.hid hc
    have N0 := Lib.hid (new_node (B := B) V0.out (fun _ => ⟨_, rfl, by omega, M0.out⟩) (fun e => absurd rfl e))
    have cn := V0.out.cell (k := 0) rfl
    clear hw0 hz1' hc
    have T0 := Lib.hid (h'.out.below hb0.out)
    have cm := T0.out.maps
    go_still_tail 9, (by kernel_rfl)
    change wpList _ _ _ _ _ w0.drew
    have hmp := Lib.hid (T0.out.drew.map)
    have hnl := Lib.hid (show (nodesL A s.opt s.nd.length).length < maxLen by
      have h1 : (nodesL A s.opt s.nd.length).length ≤ s.nd.length := by unfold nodesL; exact Nat.le_trans (List.length_filterMap_le _ _) (by rw [List.length_range]; exact Nat.le_refl _)
      unfold maxLen
      omega)
    have hkn := Lib.hid (keyN_of n (by omega))
    have tk : True := trivial
    clear c1 f1 cm cn
    go_upto_region 5 with (have _t := tk; refine wpList_map_store rfl _ _ _ rfl law_int Tryz.underlying68 A.m (nodesL A s.opt s.nd.length) rfl hmp.out hnl.out (.int .i64 ((n : Nat) : Int)) (.pointer (some ⟨w.heap.size, 0, none⟩)) (keyN n) rfl rfl hkn.out ?_; intro w1 hm1 ht1; clear tk)
    have hml := h'.out.hi _ _ h'.out.rm
    have hm2 := Lib.hid (show MapAt 3 w1 A.m (nodesL (A.add s.nd.length w.heap.size (some c)) (s.make (ndNew 2)).opt (s.make (ndNew 2)).nd.length) by
      have h1 := hm1.out
      rw [← hn, nodesL_add A s w.heap.size (some c) (ndNew 2)] at h1
      exact h1)
    have hz1 := Lib.hid (show w1.heap.size = w0.heap.size from mturn_size (w := w0.drew) ht1.out)
    have hb1 := Lib.hid (show ∀ j, j ≠ A.m → w1.heap[j]? = w0.heap[j]? from fun j hj => mturn_blk (w := w0.drew) ht1.out hj)
    have hTV := Lib.hid (show Vw w1 72 A.t [.map (some A.m), .int .i64 (((n : Nat) : Int) - 1), .pointer (some ⟨A.f, 0, none⟩)] by
      have h1 := T0.out.tb
      unfold Vw treeC at h1
      unfold Vw
      rw [hn] at h1
      rw [hb1.out _ (fun e => by have h2 := h'.out.rt; rw [e, h'.out.rm] at h2; cases h2)]
      exact h1)
    have c1 := hTV.out.cell (k := 1) rfl
    have f1 := hTV.out.frozen 1
    have S1 := Lib.hid (((TStep.of_below A hb0.out).trans (TStep.drew w0 A)).trans (TStep.turned h'.out.rm ht1.out))
    clear hm1 ht1 hmp
    go_wp2_with fail
    go_ret
    obtain ⟨w2, hw2⟩ : ∃ w2, w1.setCell ⟨A.t, 1, none⟩ (.int .i64 ((n : Nat) : Int)) = w2 := ⟨_, rfl⟩
    rw [hw2]
    have hb2 : ∀ j, j ≠ A.t → w2.heap[j]? = w1.heap[j]? := fun j hj => by rw [← hw2]; exact heap_set_other w1 ⟨A.t, 1, none⟩ _ hj
    have hz2 : w2.heap.size = w1.heap.size := by rw [← hw2]; exact size_set _ _ _
    have hro : ∀ j r, A.own j = some r → j < w.heap.size := fun j r hj => (h'.out.hi j r hj).2
    have hnt : ∀ j, w.heap.size ≤ j → j ≠ A.t := fun j hj e => by have := hro _ _ h'.out.rt; omega
    have hnm : ∀ j, w.heap.size ≤ j → j ≠ A.m := fun j hj e => by have := hro _ _ h'.out.rm; omega
    have hVt : Vw w2 72 A.t [.map (some A.m), .int .i64 (((s.make (ndNew 2)).nd.length : Nat) - 1 : Int), .pointer (some ⟨A.f, 0, none⟩)] := by
      have h1 := hTV.out.set 1 (.int .i64 ((n : Nat) : Int))
      rw [hw2] at h1
      have e1 : (((s.make (ndNew 2)).nd.length : Nat) - 1 : Int) = ((n : Nat) : Int) := by
        have : (s.make (ndNew 2)).nd.length = n + 1 := by rw [← hn]; simp [Tr.make]
        rw [this]; omega
      rw [e1]
      exact h1
    have hother : ∀ j, w.heap.size ≤ j → w2.heap[j]? = w0.heap[j]? := fun j hj => (hb2 j (hnt j hj)).trans (hb1.out j (hnm j hj))
    have T2 : TreeAt w2 B (A.add s.nd.length w.heap.size (some c)) (s.make (ndNew 2)) := by
      refine h'.out.more (Nat.le_refl _) (by rw [hz2, hz1.out, hz0.out]; omega) (fun c e => by obtain rfl := Option.some.inj e; rw [hz2, hz1.out, hz0.out]; have := hcz.out; omega) hB (by rw [hz2, hz1.out, hz0.out]; omega) ?_ (hm2.out.blk (hb2 _ (fun e => by have h2 := h'.out.rt; rw [← e, h'.out.rm] at h2; cases h2))) hVt (fun j r hj h0 h1 => ?_)
      · rw [hn]
        refine N0.out.blk (hother _ (Nat.le_refl _)) (fun g e => by cases e) ?_
        intro c' e
        have e2 : c = c' := by simpa using e
        rw [← e2]
        exact hother _ (by have := hcz.out; omega)
      · have h2 := hro j r hj
        rw [hb2 j (fun e => by rw [e, h'.out.rt] at hj; exact h0 (Option.some.inj hj).symm), hb1.out j (fun e => by rw [e, h'.out.rm] at hj; exact h1 (Option.some.inj hj).symm)]
        exact hb0.out.block j h2
    have S2 : TStep w A w2 (A.add s.nd.length w.heap.size (some c)) := by
      refine ⟨?_, ?_, ?_, ?_, fun j hj h0 => ?_, fun j hj => ?_, rfl⟩
      · rw [← hw2]; exact S1.out.os
      · rw [← hw2]; exact S1.out.tape
      · rw [← hw2]; exact S1.out.output
      · rw [hz2]; exact S1.out.size
      · rw [hb2 j (fun e => by rw [e, h'.out.rt] at h0; cases h0)]
        exact S1.out.block j hj h0
      · unfold Ad.add
        simp only
        rw [if_neg (by omega), if_neg (fun e => by have e2 := Option.some.inj e; have := hcz.out; omega)]
    exact ⟨w.heap.size, some c, rfl, T2, S2⟩
  · have t0 : (((k : Nat) : Int) == 2) = false := nat_beq_ne (b := 2) hk
    go_upto_region 4 with fail
    obtain ⟨w0, hw0⟩ : ∃ w0, w.alloc (.cells (newC ((n : Nat) : Int) ((k : Nat) : Int)).toArray 76) = w0 := ⟨_, rfl⟩
    rw [hw0]
    have hb0 := Lib.hid (show Below w.heap.size w w0 by rw [← hw0]; exact (Below.refl _ _).alloc (Nat.le_refl _) _)
    have hz0 := Lib.hid (show w0.heap.size = w.heap.size + 1 by rw [← hw0]; simp)
    have V0 := Lib.hid (show Vw w0 76 w.heap.size (ndc n (ndNew k) (.slice none 0 0) (.map none)) by rw [← hw0, ← newC_eq]; exact Vw.alloc _ _ _)
    have N0 := Lib.hid (new_node (B := B) V0.out (fun e => absurd e hk) (fun _ => rfl))
    have T0 := Lib.hid (h'.out.below hb0.out)
    have cm := T0.out.maps
    have cn := V0.out.cell (k := 0) rfl
    clear hw0 t0
    go_still_tail 9, (by kernel_rfl)
    change wpList _ _ _ _ _ w0.drew
    have hmp := Lib.hid (T0.out.drew.map)
    have hnl := Lib.hid (show (nodesL A s.opt s.nd.length).length < maxLen by
      have h1 : (nodesL A s.opt s.nd.length).length ≤ s.nd.length := by unfold nodesL; exact Nat.le_trans (List.length_filterMap_le _ _) (by rw [List.length_range]; exact Nat.le_refl _)
      unfold maxLen
      omega)
    have hkn := Lib.hid (keyN_of n (by omega))
    have tk : True := trivial
    clear c1 f1 cm cn
    go_upto_region 5 with (have _t := tk; refine wpList_map_store rfl _ _ _ rfl law_int Tryz.underlying68 A.m (nodesL A s.opt s.nd.length) rfl hmp.out hnl.out (.int .i64 ((n : Nat) : Int)) (.pointer (some ⟨w.heap.size, 0, none⟩)) (keyN n) rfl rfl hkn.out ?_; intro w1 hm1 ht1; clear tk)
    have hml := h'.out.hi _ _ h'.out.rm
    have hm2 := Lib.hid (show MapAt 3 w1 A.m (nodesL (A.add s.nd.length w.heap.size none) (s.make (ndNew k)).opt (s.make (ndNew k)).nd.length) by
      have h1 := hm1.out
      rw [← hn, nodesL_add A s w.heap.size none (ndNew k)] at h1
      exact h1)
    have hz1 := Lib.hid (show w1.heap.size = w0.heap.size from mturn_size (w := w0.drew) ht1.out)
    have hb1 := Lib.hid (show ∀ j, j ≠ A.m → w1.heap[j]? = w0.heap[j]? from fun j hj => mturn_blk (w := w0.drew) ht1.out hj)
    have hTV := Lib.hid (show Vw w1 72 A.t [.map (some A.m), .int .i64 (((n : Nat) : Int) - 1), .pointer (some ⟨A.f, 0, none⟩)] by
      have h1 := T0.out.tb
      unfold Vw treeC at h1
      unfold Vw
      rw [hn] at h1
      rw [hb1.out _ (fun e => by have h2 := h'.out.rt; rw [e, h'.out.rm] at h2; cases h2)]
      exact h1)
    have c1 := hTV.out.cell (k := 1) rfl
    have f1 := hTV.out.frozen 1
    have S1 := Lib.hid (((TStep.of_below A hb0.out).trans (TStep.drew w0 A)).trans (TStep.turned h'.out.rm ht1.out))
    clear hm1 ht1 hmp
    go_wp2_with fail
    go_ret
    obtain ⟨w2, hw2⟩ : ∃ w2, w1.setCell ⟨A.t, 1, none⟩ (.int .i64 ((n : Nat) : Int)) = w2 := ⟨_, rfl⟩
    rw [hw2]
    have hb2 : ∀ j, j ≠ A.t → w2.heap[j]? = w1.heap[j]? := fun j hj => by rw [← hw2]; exact heap_set_other w1 ⟨A.t, 1, none⟩ _ hj
    have hz2 : w2.heap.size = w1.heap.size := by rw [← hw2]; exact size_set _ _ _
    have hro : ∀ j r, A.own j = some r → j < w.heap.size := fun j r hj => (h'.out.hi j r hj).2
    have hnt : ∀ j, w.heap.size ≤ j → j ≠ A.t := fun j hj e => by have := hro _ _ h'.out.rt; omega
    have hnm : ∀ j, w.heap.size ≤ j → j ≠ A.m := fun j hj e => by have := hro _ _ h'.out.rm; omega
    have hVt : Vw w2 72 A.t [.map (some A.m), .int .i64 (((s.make (ndNew k)).nd.length : Nat) - 1 : Int), .pointer (some ⟨A.f, 0, none⟩)] := by
      have h1 := hTV.out.set 1 (.int .i64 ((n : Nat) : Int))
      rw [hw2] at h1
      have e1 : (((s.make (ndNew k)).nd.length : Nat) - 1 : Int) = ((n : Nat) : Int) := by
        have : (s.make (ndNew k)).nd.length = n + 1 := by rw [← hn]; simp [Tr.make]
        rw [this]; omega
      rw [e1]
      exact h1
    have hother : ∀ j, w.heap.size ≤ j → w2.heap[j]? = w0.heap[j]? := fun j hj => (hb2 j (hnt j hj)).trans (hb1.out j (hnm j hj))
    have T2 : TreeAt w2 B (A.add s.nd.length w.heap.size none) (s.make (ndNew k)) := by
      refine h'.out.more (Nat.le_refl _) (by rw [hz2, hz1.out, hz0.out]; omega) (fun c e => by cases e) hB (by rw [hz2, hz1.out, hz0.out]; omega) ?_ (hm2.out.blk (hb2 _ (fun e => by have h2 := h'.out.rt; rw [← e, h'.out.rm] at h2; cases h2))) hVt (fun j r hj h0 h1 => ?_)
      · rw [hn]
        exact N0.out.blk (hother _ (Nat.le_refl _)) (fun g e => by cases e) (fun c e => by cases e)
      · have h2 := hro j r hj
        rw [hb2 j (fun e => by rw [e, h'.out.rt] at hj; exact h0 (Option.some.inj hj).symm), hb1.out j (fun e => by rw [e, h'.out.rm] at hj; exact h1 (Option.some.inj hj).symm)]
        exact hb0.out.block j h2
    have S2 : TStep w A w2 (A.add s.nd.length w.heap.size none) := by
      refine ⟨?_, ?_, ?_, ?_, fun j hj h0 => ?_, fun j hj => ?_, rfl⟩
      · rw [← hw2]; exact S1.out.os
      · rw [← hw2]; exact S1.out.tape
      · rw [← hw2]; exact S1.out.output
      · rw [hz2]; exact S1.out.size
      · rw [hb2 j (fun e => by rw [e, h'.out.rt] at h0; cases h0)]
        exact S1.out.block j hj h0
      · unfold Ad.add
        simp only
        rw [if_neg (by omega), if_neg (fun e => by cases e)]
    exact ⟨w.heap.size, none, rfl, T2, S2⟩
end
end Go.Proofs.YtgcodlicbdaddaaGreatDoor
end
