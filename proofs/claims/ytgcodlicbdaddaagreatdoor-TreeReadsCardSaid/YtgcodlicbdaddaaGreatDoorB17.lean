/-
  A nil map gone through.
  A region that draws its order, whose callees make memory of their own: walked once, in the order of the text, over a class of worlds.
  The class of worlds in which nothing has turned that was there: for regions that draw their order.
  Would something within a node be too far?
-/
import Derived.Test.YtgcodlicbdaddaaGreatDoorB7
import Derived.Test.YtgcodlicbdaddaaGreatDoorB4
import Derived.WalkSpells
import Derived.Test.YtgcodlicbdaddaaGreatDoorB16

section
set_option linter.unusedVariables false
set_option linter.unusedSimpArgs false
namespace Go.Proofs.YtgcodlicbdaddaaGreatDoor
open Go.RowKit BigFrame

/-- a nil map gone through -/
theorem wpList_nil_range {w : World} {ops : Array Oper} {rest : List Oper} {o : Oper} {a : Act} {Q : Exit → Act → World → Prop} {k t e : TypeId} (hg : o.guard = none) (m : Operand) (hop : o.op = Op.range t m) (ht : Tryz.prog.underlying t = some (.map k e))
    (hm : a.eval m = .map none) (hK : ∀ w', Hid (w'.heap[w.heap.size]? = some (.mapIter none 0 #[] 0)) → Hid (Below w.heap.size w w') → wpList Tryz.prog ops Q rest (a.put o.dst (.pointer (some ⟨w.heap.size, 0, none⟩))) w') : wpList Tryz.prog ops Q (o :: rest) a w := by
  refine wpList_plain hg fun K' hK' => ?_
  have hrun : (Instr.range t (.map none)).run Tryz.prog w = .ok (.pointer (some ⟨w.heap.size, 0, none⟩)) (w.alloc (.mapIter none 0 #[] 0)) := by
    simp [Instr.range, run_underlying ht, Sem.run_bind, newObj, Result.andThen]
    rfl
  unfold Oper.wp
  simp [execOp, hop, hm, hrun, Result.andThen]
  exact hK' _ _ (hK _ (heap_alloc_new w _) ((Below.refl _ _).alloc (Nat.le_refl _) _))
theorem run_next_nil {w : World} {r : Nat} {ty : TypeId} (h : w.heap[r]? = some (.mapIter none 0 #[] 0)) : (Instr.next (.pointer (some ⟨r, 0, none⟩)) false ty).run Tryz.prog w = .ok (.tuple #[.bool false]) w := by
  simp [Instr.next, getObj, Sem.run_bind, Sem.run, h, Result.andThen]
theorem wpList_nil_next {w : World} {ops : Array Oper} {rest : List Oper} {o : Oper} {a : Act} {Q : Exit → Act → World → Prop} (hg : o.guard = none) (it : Operand) (hop : o.op = Op.next it false) (r : Nat)
    (hit : a.eval it = .pointer (some ⟨r, 0, none⟩)) (h : w.heap[r]? = some (.mapIter none 0 #[] 0)) (hK : wpList Tryz.prog ops Q rest (a.put o.dst (.tuple #[.bool false])) w) : wpList Tryz.prog ops Q (o :: rest) a w := by
  refine wpList_plain hg fun K' hK' => ?_
  unfold Oper.wp
  simp [execOp, hop, hit, run_next_nil h, Result.andThen]
  exact hK' _ _ hK
end Go.Proofs.YtgcodlicbdaddaaGreatDoor
end

section
set_option linter.unusedVariables false
set_option linter.unusedSimpArgs false
namespace Go.Proofs.YtgcodlicbdaddaaGreatDoor
open Go.RowKit BigFrame

/-- a region that draws its order, whose callees keep to a class of worlds -/
theorem wp_region_at {C : World → Prop} {id : Nat} {Q : Exit → Act → World → Prop} {a : Act} {w : World} {l : List Oper} (hm : Tryz.prog.follows .mixedOrders = true) (hB : Region.lexB .any l.toArray = true) (hC : C w.drew)
    (h : wpQuiet Tryz.prog l.toArray C (fun a' => ∀ w', C w' → Q .normal a' w') l a) : (Code.region id l.toArray true).wp Tryz.prog Q a w :=
  wp_region_quiet hm hB hC (by simpa using h)
theorem quiet_val {C : World → Prop} {o : Oper} {a : Act} {K : Act → Prop} (v : Value) (h : ∀ w, C w → o.quietAt Tryz.prog a C w v) (hk : K (a.put o.dst v)) : o.quiet Tryz.prog a C K := ⟨v, h, hk⟩
end Go.Proofs.YtgcodlicbdaddaaGreatDoor
end

section
set_option linter.unusedVariables false
set_option linter.unusedSimpArgs false
namespace Go.Proofs.YtgcodlicbdaddaaGreatDoor
open Go.RowKit BigFrame

/-- nothing has turned that was there in w0 -/
def KB (w0 w : World) : Prop := Below w0.heap.size w0 w
theorem KB.start (w : World) : KB w w.drew := (Below.refl _ _).drew
theorem KB.below {w0 w : World} (h : KB w0 w) : Below w0.heap.size w0 w := h
theorem KB.told {w0 w : World} {v : Value} {f : FuncId} {args : Array Value} (hc : Calls Tryz.prog f args w (Tells v w)) (h : KB w0 w) : Calls Tryz.prog f args w fun e w' => e = .returned v ∧ KB w0 w' :=
  hc.mono fun _ _ ⟨he, hd⟩ => ⟨he, Below.trans h (hd.mono (Below.size h))⟩
theorem KB.still {w0 w : World} {v : Value} {f : FuncId} {args : Array Value} (hc : Calls Tryz.prog f args w (fun e w' => e = .returned v ∧ w = w')) (h : KB w0 w) : Calls Tryz.prog f args w fun e w' => e = .returned v ∧ KB w0 w' :=
  hc.mono fun _ _ ⟨he, hd⟩ => ⟨he, hd ▸ h⟩
theorem KB.cell {w0 w : World} {a : Addr} {v : Value} (h : KB w0 w) (hc : w0.cell? a = some v) : w.cell? a = some v := cell_later h hc
end Go.Proofs.YtgcodlicbdaddaaGreatDoor
end

section
set_option linter.unusedVariables false
set_option linter.unusedSimpArgs false
namespace Go.Proofs.YtgcodlicbdaddaaGreatDoor
open Go.RowKit BigFrame
set_option maxRecDepth 100000

section
variable {w : World} {B b : Nat} {A : Ad} {s : Tr}
/-- of an entry -/
def overE (s : Tr) (k bb n : Nat) (e : List Nat × Nat) : Bool := far (bb + 1 + e.1.length) (n + 1) || s.overF k e.2 (bb + 1 + e.1.length) (n + 1)
theorem overF_eq (s : Tr) (k i bb n : Nat) : s.overF (k + 1) i bb n = (s.at i).ents.any (overE s k bb n) := rfl
/-- an entry, as a map's -/
def entL (e : List Nat × Nat) : Lit × Value := (Lit.string (u8s e.1), Value.int .i64 ((e.2 : Nat) : Int))
theorem entsL_eq (l : List (List Nat × Nat)) : entsL l = l.map entL := rfl
theorem strL_ents {l : List (List Nat × Nat)} {p : List Nat} (h : ∀ e ∈ l, Octs e.1) (hp : Octs p) : strL (entsL l) (.string (u8s p)) = entsL (delE p l) := by
  unfold strL delE
  rw [entsL_eq, List.filter_map, entsL_eq]
  congr 1
  refine List.filter_congr fun e he => ?_
  show (!(Lit.string (u8s e.1)).sameKey (.string (u8s p))) = _
  rw [same_str]
  by_cases h1 : e.1 = p
  · rw [h1]; simp
  · rw [decide_eq_false (fun h2 => h1 (u8s_inj (h e he) hp h2)), decide_eq_true h1]; rfl
theorem any_del {l : List (List Nat × Nat)} (hl : l.Pairwise fun p q => p.1 ≠ q.1) {e : List Nat × Nat} (he : e ∈ l) (F : List Nat × Nat → Bool) : l.any F = (F e || (delE e.1 l).any F) := by
  induction l with
  | nil => simp at he
  | cons x r ih =>
    obtain ⟨h1, h2⟩ := List.pairwise_cons.1 hl
    unfold delE
    by_cases e1 : x.1 = e.1
    · have ex : e = x := by
        rcases List.mem_cons.1 he with h | h
        · exact h
        · exact absurd e1 (h1 e h)
      subst ex
      rw [List.filter_cons, if_neg (by simp), List.any_cons, List.filter_eq_self.2]
      intro q hq
      exact decide_eq_true (h1 q hq).symm
    · have hm : e ∈ r := by
        rcases List.mem_cons.1 he with h | h
        · exact absurd (by rw [h]) e1
        · exact h
      rw [List.filter_cons, if_pos (by simpa using e1), List.any_cons, List.any_cons, ih h2 hm]
      unfold delE
      cases F x <;> cases F e <;> simp
theorem wpList_ents_next {w : World} {ops : Array Oper} {rest : List Oper} {o : Oper} {a : Act} {Q : Exit → Act → World → Prop} (hg : o.guard = none) (it : Operand) (hop : o.op = Op.next it false) (eb r : Nat) (l rem : List (List Nat × Nat))
    (hoc : ∀ e ∈ rem, Octs e.1 ∧ e.1.length ≤ 1000000) (hit : a.eval it = .pointer (some ⟨r, 0, none⟩)) (h : MapOn 9 w eb r (entsL l) (entsL rem))
    (hDone : rem = [] → wpList Tryz.prog ops Q rest (a.put o.dst (.tuple #[.bool false])) w)
    (hMore : ∀ (e : List Nat × Nat) w', e ∈ rem → Hid (MapOn 9 w' eb r (entsL l) (entsL (delE e.1 rem))) → Hid ((delE e.1 rem).length + 1 = rem.length) → Hid (w.grownBy w' (some r)) → Hid (w'.heap.size = w.heap.size) →
      (Instr.entry (.pointer (some ⟨r, 0, none⟩))).run Tryz.prog w' = .ok (.tuple #[.string (strOf e.1), .int .i64 ((e.2 : Nat) : Int)]) w' → wpList Tryz.prog ops Q rest (a.put o.dst (.tuple #[.bool true, .string (strOf e.1), .int .i64 ((e.2 : Nat) : Int)])) w') : wpList Tryz.prog ops Q (o :: rest) a w := by
  refine wpList_map_next hg it hop law_str eb r (entsL l) (entsL rem) hit h (fun h0 => hDone (by cases rem with | nil => rfl | cons e r => cases h0)) fun key p w' hp hkey h1 h2 h3 h4 h5 => ?_
  rw [entsL_eq] at hp
  obtain ⟨e, he, rfl⟩ := List.mem_map.1 hp
  obtain ⟨o1, o2⟩ := hoc e he
  have hk2 := keyS_of e.1 o2
  obtain rfl := law_str.inj hkey hk2
  have hs : strL (entsL rem) (entL e).1 = entsL (delE e.1 rem) := strL_ents (fun e he => (hoc e he).1) o1
  rw [hs] at h1 h2
  refine hMore e w' he h1 ?_ h3 h4 h5
  have h6 := h2.out.length_eq
  have h7 : (delE e.1 rem).length + 1 = rem.length := by simpa [entsL] using h6
  exact h7
/-- those that are left are some of them -/
def OvRel (s : Tr) (x : Nd) (eb : Nat) (k bb n : Nat) (w : World) (g : Nat) (wr : World) : Prop :=
  ∃ rem : List (List Nat × Nat), g = rem.length + 1 ∧ rem.Sublist x.ents ∧ MapOn 9 wr eb (w.heap.size + 1) (entsL x.ents) (entsL rem) ∧ x.ents.any (overE s k bb n) = rem.any (overE s k bb n) ∧
    Vw wr 212 w.heap.size [.int .i64 ((bb : Nat) : Int), .int .i64 ((n : Nat) : Int)] ∧ Below w.heap.size w wr
def OvAll (B : Nat) (A : Ad) (s : Tr) (k : Nat) : Prop := ∀ (w : World) (i : Nat) (x : Nd) (bb n : Nat), TreeAt w B A s → s.opt i = some x → 21 ≤ n + k → n ≤ 21 → bb ≤ 1000000 →
  Calls Tryz.prog 180 #[.pointer (some ⟨A.t, 0, none⟩), .pointer (some ⟨A.nd i, 0, none⟩), .agg #[.int .i64 ((bb : Nat) : Int), .int .i64 ((n : Nat) : Int)]] w (Tells (.bool (s.overF k i bb n)) w)
theorem overlong_no (h : TreeAt w B A s) (ho : Ok b s) (i : Nat) (x : Nd) (hi : s.opt i = some x) (hk : x.kind ≠ 2) (bb n : Nat) :
    Calls Tryz.prog 180 #[.pointer (some ⟨A.t, 0, none⟩), .pointer (some ⟨A.nd i, 0, none⟩), .agg #[.int .i64 ((bb : Nat) : Int), .int .i64 ((n : Nat) : Int)]] w (Tells (.bool false) w) := by
  have hN := h.node i x hi
  obtain ⟨een, _⟩ := hN.ents.other hk
  have ce := hN.ent
  rw [een] at ce
  have hb0 := Lib.hid ((Below.refl w.heap.size w).alloc (Nat.le_refl _) (.cells #[.int .i64 ((bb : Nat) : Int), .int .i64 ((n : Nat) : Int)] 212))
  have ce1 := cell_later hb0.out ce
  clear h hN
  go_enter Tryz.func180, Tryz.ntmps180
  go_wp2_with (at_range; refine wpList_nil_range rfl _ rfl Tryz.underlying74 rfl ?_; intro w1 hr hb1; have hb2 := Lib.hid (hb0.out.trans (hb1.out.mono hb0.out.size)); clear hb1)
  go_frame
  go_loopw [] (fun wr => w1 = wr) (fun _ => 0)
  case atStart => exact rfl
  case round =>
    obtain rfl := hrel
    go_wp2_with (at_next; refine wpList_nil_next rfl _ rfl _ rfl hr.out ?_)
    go_ret
    exact ⟨rfl, hb2.out⟩
set_option maxHeartbeats 1000000 in
theorem overlong_dir (ho : Ok b s) (hb : b ≤ 1000000) (k : Nat) (ih : 1 ≤ k → OvAll B A s k) : OvAll B A s (k + 1) := by
  intro w i x bb n h hi hnk hn hbb
  by_cases hk : x.kind = 2
  · have hN := h.node i x hi
    obtain ⟨eb, een, heb, hm⟩ := hN.ents.dir hk
    have ce := hN.ent
    rw [een] at ce
    have hh := Lib.hid h
    have hm' := Lib.hid hm
    have hebl := hm.lt
    have hall := Lib.hid (show s.overF (k + 1) i bb n = x.ents.any (overE s k bb n) by rw [overF_eq, Tr.at_of hi])
    have hb0 := Lib.hid ((Below.refl w.heap.size w).alloc (Nat.le_refl _) (.cells #[.int .i64 ((bb : Nat) : Int), .int .i64 ((n : Nat) : Int)] 212))
    have hm1 := Lib.hid (hm.blk (w' := w.alloc (.cells #[.int .i64 ((bb : Nat) : Int), .int .i64 ((n : Nat) : Int)] 212)) (hb0.out.block eb hebl))
    have ce1 := cell_later hb0.out ce
    have hV := Lib.hid (Vw.alloc w [.int .i64 ((bb : Nat) : Int), .int .i64 ((n : Nat) : Int)] 212)
    clear h hN hm
    go_enter Tryz.func180, Tryz.ntmps180
    go_wp2_with (at_range; refine wpList_map_range rfl _ rfl law_str Tryz.underlying74 eb (entsL x.ents) rfl hm1.out ?_; intro w1 hmo hb1 hs1)
    go_frame
    rw [show (w.alloc (.cells #[.int .i64 ((bb : Nat) : Int), .int .i64 ((n : Nat) : Int)] 212)).heap.size = w.heap.size + 1 by simp]
    go_loopg [] ((x.ents).length + 1) (fun g wr => OvRel s x eb k bb n w g wr)
    case atStart => exact ⟨x.ents, rfl, List.Sublist.refl _, by have := hmo.out; rwa [show (w.alloc (.cells #[.int .i64 ((bb : Nat) : Int), .int .i64 ((n : Nat) : Int)] 212)).heap.size = w.heap.size + 1 by simp] at this, rfl, hV.out.on' hb1.out, hb0.out.trans (hb1.out.mono hb0.out.size)⟩
    case round =>
      obtain ⟨rem, rfl, hsub, hmr, hany, hV1, hB⟩ := hrel
      have hV1' := Lib.hid hV1
      have hB' := Lib.hid hB
      have hany' := Lib.hid hany
      have hsub' := Lib.hid hsub
      have hNx := Lib.hid (ho.each i x hi)
      have hoc := Lib.hid (show ∀ e ∈ rem, Octs e.1 ∧ e.1.length ≤ 1000000 from fun e he => ⟨(hNx.out.names e (hsub.subset he)).octs, by have := (hNx.out.names e (hsub.subset he)).long; omega⟩)
      have hmr' := Lib.hid hmr
      clear hV1 hB hany hsub hmr
      go_wp2_with (first
        | (at_next; refine wpList_ents_next rfl _ rfl eb (w.heap.size + 1) x.ents rem hoc.out (by simp [Act.eval]) hmr'.out (fun h0 => ?_) (fun e w2 he hm2 hl2 hg2 hs2 hen => ?_); all_goals (try (have V2 := Lib.hid (hV1'.out.grown hg2.out (by simp)); have c20 := V2.out.cell (k := 0) rfl; have c21 := V2.out.cell (k := 1) rfl; have hB2 := Lib.hid (hB'.out.grown hg2.out hB'.out.size (fun j hj => by have := Option.some.inj hj; omega)); have hel := Lib.hid ((hNx.out.names e (hsub'.out.subset he)).long))))
        | (go_at_call 177; refine (with_any bb n e.1 _ hbb (by omega) (by have := hel.out; omega)).mono ?_; rintro e3 w3 ⟨rfl, hb3⟩; have hB3 := Lib.hid (hB2.out.trans (hb3.mono hB2.out.size)); have hm3 := Lib.hid (hm2.out.blk (hb3.block eb (by have := hm2.out.at.lt; exact this)) (hb3.block _ hm2.out.lt)); have V3 := Lib.hid (V2.out.on' hb3); clear hb3 c20 c21 hen))
      · subst h0
        go_ret
        rw [hall.out, hany'.out]
        exact ⟨rfl, hB'.out⟩
      · have e1 : (((bb : Nat) : Int) + 1 + ((e.1.length : Nat) : Int)) = ((bb + 1 + e.1.length : Nat) : Int) := by omega
        have e2 : (((n : Nat) : Int) + 1) = ((n + 1 : Nat) : Int) := by omega
        rw [e1, e2]
        have hany2 := Lib.hid (show x.ents.any (overE s k bb n) = (overE s k bb n e || (delE e.1 rem).any (overE s k bb n)) by rw [hany'.out, any_del ((hNx.out.sorted.imp (fun {a b} (h : a.1 < b.1) => fun h2 => absurd (h2 ▸ h) (List.lt_irrefl _))).sublist hsub'.out) he])
        have hove : overE s k bb n e = (far (bb + 1 + e.1.length) (n + 1) || s.overF k e.2 (bb + 1 + e.1.length) (n + 1)) := rfl
        obtain ⟨z, hz, _⟩ := ho.ent i x hi e (hsub'.out.subset he)
        obtain ⟨bb2, hbb2⟩ : ∃ q, bb + 1 + e.1.length = q := ⟨_, rfl⟩
        obtain ⟨n2, hn2⟩ : ∃ q, n + 1 = q := ⟨_, rfl⟩
        rw [hbb2, hn2] at hove ⊢
        obtain ⟨w4, hw4⟩ : ∃ w4, w3.alloc (.cells #[.int .i64 ((bb2 : Nat) : Int), .int .i64 ((n2 : Nat) : Int)] 212) = w4 := ⟨_, rfl⟩
        rw [hw4]
        have hb4 := Lib.hid (show Below w3.heap.size w3 w4 by rw [← hw4]; exact (Below.refl _ _).alloc (Nat.le_refl _) _)
        have V4 := Lib.hid (show Vw w4 212 w3.heap.size [.int .i64 ((bb2 : Nat) : Int), .int .i64 ((n2 : Nat) : Int)] by rw [← hw4]; exact Vw.alloc _ _ _)
        have V40 := Lib.hid (V4.out.cell (k := 0) rfl)
        have V41 := Lib.hid (V4.out.cell (k := 1) rfl)
        have hB4 := Lib.hid (hB3.out.trans (hb4.out.mono hB3.out.size))
        have hT4 := Lib.hid (hh.out.below hB4.out)
        have hm4 := Lib.hid (hm3.out.blk (hb4.out.block eb hm3.out.at.lt) (hb4.out.block _ hm3.out.lt))
        have V24 := Lib.hid (V3.out.on' hb4.out)
        have hove' := Lib.hid hove
        have hz' := Lib.hid hz
        have cm := Lib.hid hT4.out.maps
        have hzl := Lib.hid (show e.2 < 1000000000 by have := Tr.opt_lt hz; have := ho.len.2; omega)
        have hpo := Lib.hid (show ptrO A s e.2 = .pointer (some ⟨A.nd e.2, 0, none⟩) by unfold ptrO; rw [hz]; rfl)
        clear hw4 hove hz
        have hbn : bb2 ≤ 1000000 ∨ far bb2 n2 = true := by
          by_cases h2 : bb2 ≤ 1000000
          · exact .inl h2
          · exact .inr (by unfold far; rw [decide_eq_true (by omega)]; rfl)
        refine wp_region_at (C := KB w4) (by kernel_rfl) (by kernel_rfl) (KB.start w4) ?_
        cases hf : far bb2 n2
        rotate_left
        · skip
          go_big_quiet_want; refine quiet_val (.agg #[.int .i64 ((bb2 : Nat) : Int), .int .i64 ((n2 : Nat) : Int)]) (fun _ hC => by have q0 := KB.cell hC V40.out; have q1 := KB.cell hC V41.out; unfold Oper.quietAt Oper.quietUpon; go_simp) ?_; go_simp; try go_big_quiet_on
          go_big_quiet_want; refine quiet_val (.bool true) (fun _ hC => by unfold Oper.quietAt Oper.quietUpon; go_simp; exact KB.told (hf ▸ far_any bb2 n2 _) hC) ?_; go_simp; try go_big_quiet_on
          go_big_quiet_want; go_big_quiet_op; go_big_quiet_on
          go_big_quiet_skip
          go_big_quiet_skip
          go_big_quiet_skip
          go_big_quiet_skip
          go_big_quiet_skip
          go_big_quiet_skip
          go_big_quiet_skip
          go_big_quiet_skip
          go_big_quiet_skip
          go_big_quiet_want; refine quiet_val (.bool true) (fun _ _ => by unfold Oper.quietAt Oper.quietUpon; go_simp) ?_; go_simp; try go_big_quiet_on
          refine wpQuiet_nil ?_
          intro w5 hC
          have hB5 := Lib.hid (hB4.out.trans (hC.below.mono hB4.out.size))
          go_wp2_with fail
          go_ret
          rw [hall.out, hany2.out, hove'.out, hf]
          exact ⟨rfl, hB5.out⟩
        · skip
          obtain ⟨r, hr⟩ : ∃ r, s.overF k e.2 bb2 n2 = r := ⟨_, rfl⟩
          have hr' := hr
          have hn3 : n2 ≤ 20 := by
            unfold far at hf
            simp only [Bool.or_eq_false_iff, decide_eq_false_iff_not] at hf
            omega
          have hbb3 : bb2 ≤ 1000000 := by rcases hbn with h | h; exact h; rw [hf] at h; cases h
          have hk1 : 1 ≤ k := by omega
          go_big_quiet_want; refine quiet_val (.agg #[.int .i64 ((bb2 : Nat) : Int), .int .i64 ((n2 : Nat) : Int)]) (fun _ hC => by have q0 := KB.cell hC V40.out; have q1 := KB.cell hC V41.out; unfold Oper.quietAt Oper.quietUpon; go_simp) ?_; go_simp; try go_big_quiet_on
          go_big_quiet_want; refine quiet_val (.bool false) (fun _ hC => by unfold Oper.quietAt Oper.quietUpon; go_simp; exact KB.told (hf ▸ far_any bb2 n2 _) hC) ?_; go_simp; try go_big_quiet_on
          go_big_quiet_want; go_big_quiet_op; go_big_quiet_on
          go_big_quiet_want; go_big_quiet_op; go_big_quiet_on
          go_big_quiet_want; go_big_quiet_op; go_big_quiet_on
          go_big_quiet_want; refine quiet_val (.pointer (some ⟨A.t, 0, none⟩)) (fun _ _ => by unfold Oper.quietAt Oper.quietUpon; go_simp) ?_; go_simp; try go_big_quiet_on
          go_big_quiet_want; refine quiet_val (.pointer (some ⟨A.t, 0, none⟩)) (fun _ _ => by unfold Oper.quietAt Oper.quietUpon; go_simp) ?_; go_simp; try go_big_quiet_on
          go_big_quiet_want; refine quiet_val (.map (some A.m)) (fun _ hC => by have q0 := KB.cell hC cm.out; unfold Oper.quietAt Oper.quietUpon; go_simp) ?_; go_simp; try go_big_quiet_on
          go_big_quiet_want; go_big_quiet_op; go_big_quiet_on
          go_big_quiet_want; refine quiet_val (.pointer (some ⟨A.nd e.2, 0, none⟩)) (fun _ hC => by have q0 := (hT4.out.below hC).get e.2 hzl.out; rw [hpo.out] at q0; unfold Oper.quietAt Oper.quietUpon; go_simp) ?_; go_simp; try go_big_quiet_on
          go_big_quiet_want; refine quiet_val (.agg #[.int .i64 ((bb2 : Nat) : Int), .int .i64 ((n2 : Nat) : Int)]) (fun _ hC => by have q0 := KB.cell hC V40.out; have q1 := KB.cell hC V41.out; unfold Oper.quietAt Oper.quietUpon; go_simp) ?_; go_simp; try go_big_quiet_on
          go_big_quiet_want; refine quiet_val (.bool r) (fun _ hC => by unfold Oper.quietAt Oper.quietUpon; go_simp; exact KB.told (hr' ▸ ih hk1 _ e.2 z bb2 n2 (hT4.out.below hC) hz'.out (by omega) (by omega) hbb3) hC) ?_; go_simp; try go_big_quiet_on
          go_big_quiet_want; refine quiet_val (.bool r) (fun _ _ => by unfold Oper.quietAt Oper.quietUpon; go_simp) ?_; go_simp; try go_big_quiet_on
          refine wpQuiet_nil ?_
          intro w5 hC
          have hB5 := Lib.hid (hB4.out.trans (hC.below.mono hB4.out.size))
          have hm5 := Lib.hid (hm4.out.blk (hC.below.block eb hm4.out.at.lt) (hC.below.block _ hm4.out.lt))
          have V25 := Lib.hid (V24.out.on' hC.below)
          have hov2 := Lib.hid (show overE s k bb n e = r by rw [hove'.out, hf, Bool.false_or, hr])
          cases r
          · go_wp2_with fail
            go_roundg ((delE e.1 rem).length + 1)
            case measure => have := hl2.out; omega
            case rel => exact ⟨delE e.1 rem, rfl, (List.filter_sublist).trans hsub'.out, hm5.out, by rw [hany2.out, hov2.out, Bool.false_or], V25.out, hB5.out⟩
          · go_wp2_with fail
            go_ret
            rw [hall.out, hany2.out, hov2.out, Bool.true_or]
            exact ⟨rfl, hB5.out⟩
  · have hall := Lib.hid (show s.overF (k + 1) i bb n = false by rw [overF_eq, Tr.at_of hi, ((ho.each i x hi).noent hk).1]; rfl)
    rw [hall.out]
    exact overlong_no h ho i x hi hk bb n
theorem overlong_all (ho : Ok b s) (hb : b ≤ 1000000) : ∀ k, OvAll B A s (k + 1)
  | 0 => overlong_dir ho hb 0 (fun h => absurd h (by omega))
  | k + 1 => overlong_dir ho hb (k + 1) (fun _ => overlong_all ho hb k)
theorem overlong_any (w : World) (h : TreeAt w B A s) (ho : Ok b s) (hb : b ≤ 1000000) (i : Nat) (x : Nd) (hi : s.opt i = some x) (bb n : Nat) (hn : n ≤ 21) (hbb : bb ≤ 1000000) :
    Calls Tryz.prog 180 #[.pointer (some ⟨A.t, 0, none⟩), .pointer (some ⟨A.nd i, 0, none⟩), .agg #[.int .i64 ((bb : Nat) : Int), .int .i64 ((n : Nat) : Int)]] w (Tells (.bool (s.overF 21 i bb n)) w) :=
  overlong_all ho hb 20 w i x bb n h hi (by omega) hn hbb
end
end Go.Proofs.YtgcodlicbdaddaaGreatDoor
end
