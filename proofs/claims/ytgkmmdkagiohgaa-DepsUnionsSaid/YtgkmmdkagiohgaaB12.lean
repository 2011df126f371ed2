/-
  Those that need nothing, rising.
  Are two lists of integers the same (where they are)?
  A graph from call to call; lists of lists held against each other; what sorted sets are.
  What every program answers that is one.
  A call that tells something, and turns nothing that was there.
-/
import Derived.Test.YtgkmmdkagiohgaaB9
import Derived.Deep.LoopGhost
import Derived.Test.YtgkmmdkagiohgaaB8
import Derived.Test.YtgkmmdkagiohgaaB11
import Derived.Test.YtgkmmdkagiohgaaB3

section
set_option linter.unusedVariables false
set_option linter.unusedSimpArgs false
namespace Go.Proofs.Ytgkmmdkagiohgaa
open Go.RowKit BigFrame
set_option maxRecDepth 100000
variable {w w' wr : World} {W B a M : Nat} {G : Gr} {ρ : Nat → Nat}

theorem fndL_mem {l : List (Lit × Value)} {p : Lit × Value} (hk : WideAt.IsKeyLit p.1) (ha : l.Pairwise fun p q => p.1 ≠ q.1) (hp : p ∈ l) : fndL l p.1 = some p.2 := by
  unfold fndL
  cases hf : l.find? fun q => q.1.sameKey p.1 with
  | none =>
    have := List.find?_eq_none.1 hf p hp
    exact absurd (WideAt.sameKey_self hk) this
  | some q =>
    have hq := WideAt.sameKey_eq (List.find?_some (p := fun q : Lit × Value => q.1.sameKey p.1) hf)
    have hqm := List.mem_of_find?_eq_some hf
    by_cases e : q = p
    · rw [e]; rfl
    · exact absurd hq (apart_ne ha hqm hp e)
theorem key_inv {key : Value} {l : Lit} (h : keyOf Try.prog 3 key = some l) : ∃ k, key = .int .i64 k ∧ l = .int .i64 k := by
  rw [keyOf_int Try.underlying3] at h
  cases key <;> simp [mapKey, Try.underlying3] at h
  obtain ⟨⟨rfl, _⟩, rfl⟩ := h
  exact ⟨_, rfl, rfl⟩
structure RyPost (G : Gr) (w : World) (e : Ending) (w' : World) : Prop where
  ex : ∃ v T, e = .returned v ∧ OwnZ w' w.heap.size v (srt T) ∧ T.Nodup ∧ ∀ x, x ∈ T ↔ x ∈ G.ids ∧ G.lk 0 x = []
  bel : Below w.heap.size w w'
/-- the loop: these are still to come; these were found -/
structure RyRel (w : World) (M : Nat) (G : Gr) (l left : List (Lit × Value)) (v : Value) (T : List Nat) (wr : World) : Prop where
  on : MapOn 3 wr M w.heap.size l left
  own : OwnZ wr w.heap.size v T
  nd : T.Nodup
  mem : ∀ x, x ∈ T ↔ x ∈ G.ids ∧ G.lk 0 x = [] ∧ fndL left (.int .i64 (x : Int)) = none
  few : T.length + left.length ≤ G.ids.length
  bel : Below w.heap.size w wr
theorem map_row {b : Nat} {l : List (Lit × Value)} (hm : MapAt 3 wr b l) {t : TypeId} {s n : Nat} {u : Value} {X : List Value} (h : wr.ownsRow W t s u n X) : u.ownBlock ≠ some b := fun hk => by
  rcases h.2 with ⟨rfl, _⟩ | ⟨g, cap, cur, rfl, hb, hg, r⟩
  · cases hk
  · cases hk
    obtain ⟨es, c', e', _⟩ := hm
    rw [hg] at e'
    cases e'
theorem iter_row {b r : Nat} {l left : List (Lit × Value)} (hm : MapOn 3 wr b r l left) {t : TypeId} {s n : Nat} {u : Value} {X : List Value} (h : wr.ownsRow W t s u n X) : u.ownBlock ≠ some r := fun hk => by
  obtain ⟨c, hr, _⟩ := hm
  exact row_ne_iter h hr hk.symm
/-- the step of a loop over a graph's table: a number, and its node -/
theorem wpList_graph_next {w : World} {G : Gr} {ops : Array Oper} {rest : List Oper} {o : Oper} {a : Act} {Q : Exit → Act → World → Prop} (hg : o.guard = none) (it : Operand) (hop : o.op = Op.next it false) (b r : Nat) (l left : List (Lit × Value))
    (hl : ∀ p ∈ left, ∀ k, p.1 = .int .i64 k → ∃ x ∈ G.ids, p = (.int .i64 (x : Int), pv (G.nb x)))
    (hit : a.eval it = .pointer (some ⟨r, 0, none⟩)) (h : MapOn 3 w b r l left)
    (hDone : left = [] → wpList Try.prog ops Q rest (a.put o.dst (.tuple #[.bool false])) w)
    (hMore : ∀ (x : Nat) w', x ∈ G.ids → Hid ((.int .i64 (x : Int), pv (G.nb x)) ∈ left) → Hid (MapOn 3 w' b r l (strL left (.int .i64 (x : Int)))) → Hid (left.length = (strL left (.int .i64 (x : Int))).length + 1) → Hid (w.grownBy w' (some r)) → Hid (w'.heap.size = w.heap.size) →
      (Instr.entry (.pointer (some ⟨r, 0, none⟩))).run Try.prog w' = .ok (.tuple #[.int .i64 (x : Int), .pointer (some ⟨G.nb x, 0, none⟩)]) w' → wpList Try.prog ops Q rest (a.put o.dst (.tuple #[.bool true, .int .i64 (x : Int), .pointer (some ⟨G.nb x, 0, none⟩)])) w') : wpList Try.prog ops Q (o :: rest) a w := by
  refine wpList_map_next hg it hop law_int b r l left hit h hDone fun key p w' hp hkey hm hpm hg2 hs2 hen => ?_
  obtain ⟨k, rfl, hk⟩ := key_inv hkey
  obtain ⟨x, hx, rfl⟩ := hl p hp k hk
  have hkx : (x : Int) = k := by
    have := (Lit.int.inj hk).2
    exact this
  subst hkx
  exact hMore x w' hx hp hm (Lib.hid (by have := hpm.out.length_eq; simpa using this.symm)) hg2 hs2 hen
set_option maxHeartbeats 4000000 in
theorem ready_c (h : GrMem w B a M G) :
    Calls Try.prog 16 #[.pointer (some ⟨a, 0, none⟩)] w (RyPost G w) := by
  have c0 := h.box.cell (k := 0) rfl
  obtain ⟨l, hl0, hl1, hl2, hl3⟩ := h.tab
  have h' := Lib.hid h
  have hl0' := Lib.hid hl0
  have hl2' := Lib.hid hl2
  have hl3' := Lib.hid hl3
  have hap := Lib.hid (hl0.apart law_int)
  have hkl := Lib.hid (hl0.keys law_int)
  have hl1' := Lib.hid hl1
  clear h hl0 hl2 hl3 hl1
  go_enter Try.func16, Try.ntmps16
  go_wp2_with (at_range; refine wpList_map_range rfl _ rfl law_int Try.underlying44 M l rfl hl0'.out ?_; intro w1 hmo hb1 hs1)
  go_frame
  go_loopg [3, 4, 5] (l.length + 1) (fun g v v4 v5 wr => ∃ left T, g = left.length + 1 ∧ RyRel w M G l left v T wr)
  case atStart => exact ⟨l, [], rfl, hmo.out, OwnZ.nil _ _, List.nodup_nil, fun x => ⟨(fun h => by cases h), (fun ⟨h1, _, h3⟩ => by rw [hl2'.out x h1] at h3; cases h3)⟩, by rw [hl1'.out]; simp, hb1.out⟩
  case round =>
    obtain ⟨left, T, rfl, hR⟩ := hrel
    have hR' := Lib.hid hR
    have hmo2 := Lib.hid hR.on
    have hTl := hR.few
    have hgf := h'.out.few
    clear hR
    have hlx := Lib.hid (show ∀ p ∈ left, ∀ k, p.1 = .int .i64 k → ∃ x ∈ G.ids, p = (.int .i64 (x : Int), pv (G.nb x)) from fun p hp k hk => by
      obtain ⟨c, hr, hsub, _⟩ := hmo2.out
      have hpl := hsub.subset hp
      have hf := fndL_mem (hkl.out p hpl) hap.out hpl
      rw [hk] at hf
      by_cases e : ∃ x ∈ G.ids, k = (x : Int)
      · obtain ⟨x, hx, rfl⟩ := e
        rw [hl2'.out x hx] at hf
        exact ⟨x, hx, Prod.ext hk (Option.some.inj hf).symm⟩
      · rw [hl3'.out k fun x hx e2 => e ⟨x, hx, e2⟩] at hf
        cases hf)
    go_wp2_with (first
      | (at_next; refine wpList_graph_next rfl _ rfl M w.heap.size l left hlx.out (by simp [Act.eval]) hmo2.out (fun h0 => ?_) (fun x w2 hxi hp hm2 hln hg2 hs2 hen => ?_)))
    · subst h0
      have hso := Lib.hid (sort_c hR'.out.own (by omega))
      have hT := Lib.hid (fun x => show x ∈ T ↔ x ∈ G.ids ∧ G.lk 0 x = [] from ⟨fun h => ⟨((hR'.out.mem x).1 h).1, ((hR'.out.mem x).1 h).2.1⟩, fun h => (hR'.out.mem x).2 ⟨h.1, h.2, rfl⟩⟩)
      refine hso.out.mono ?_
      rintro e w5 ⟨rfl, ho5, hg5⟩
      have hfin := Lib.hid (show RyPost G w (.returned u3) w5 from ⟨⟨u3, T, rfl, ho5, hR'.out.nd, hT.out⟩, hR'.out.bel.grown hg5 hR'.out.bel.size fun k hk => (hR'.out.own.block k hk).1⟩)
      clear ho5 hg5
      go_wp2_with fail
      go_ret
      exact hfin.out
    · have hB2 := Lib.hid (hR'.out.bel.grown hg2.out hR'.out.bel.size (fun k hk => by cases hk; exact Nat.le_refl _))
      have hG2 := Lib.hid (h'.out.on hB2.out)
      have hO2 := Lib.hid (show OwnZ w2 w.heap.size u3 T from hR'.out.own.blk fun k hk => hg2.out.block k (hR'.out.own.block k hk).2 (fun e => iter_row hmo2.out hR'.out.own (hk.trans e)))
      have hem := Lib.hid (empty_c (b := G.nb x) (o := 1) ((hG2.out.row x hxi).cell (k := 1) rfl) (hG2.out.set x hxi 0 (by omega)).sl)
      have hxT : x ∉ T := fun h => by
        have h1 := ((hR'.out.mem x).1 h).2.2
        have hpl : (Lit.int .i64 (x : Int), pv (G.nb x)) ∈ l := by
          obtain ⟨c, hr, hsub, _⟩ := hmo2.out
          exact hsub.subset hp.out
        have h2 := fndL_mem (p := (.int .i64 (x : Int), pv (G.nb x))) (hkl.out _ hpl) (by
          obtain ⟨c, hr, hsub, _⟩ := hmo2.out
          exact hap.out.sublist hsub) hp.out
        rw [h1] at h2; cases h2
      have hfs := Lib.hid (fun y : Nat => fndL_str left (x : Int) (y : Int))
      have hpx := h'.out.pos x hxi
      refine hem.out.mono ?_
      by_cases he : G.lk 0 x = []
      · rw [decide_eq_true he]
        rintro e w3 ⟨rfl, rfl⟩
        have hz2 := hB2.out.size
        clear hs2
        go_wp2_with (at_builtin; refine wpList_append_nat rfl _ _ rfl w.heap.size _ T rfl (hO2.out.alloc _) _ _ x rfl (nat_new _ _) (by omega) (by rw [size_alloc]; omega) ?_; intro v' w4 ho4 hg4 hat4)
        go_roundg ((strL left (.int .i64 (x : Int))).length + 1)
        case measure => have := hln.out; omega
        case rel =>
          have hTn : TurnS (fun k => u3.ownBlock = some k) w2 w4 := (TurnS.alloc _ w2 _).trans (TurnS.grown hg4.out fun k hk => hk)
          refine ⟨_, T ++ [x], rfl, ⟨hm2.out.blk (hTn.block M hm2.out.at.lt fun e => map_row hm2.out.at hO2.out e) (hTn.block _ hm2.out.lt fun e => iter_row hm2.out hO2.out e), ho4.out, ?_, fun y => ?_, by have := hln.out; rw [List.length_append]; simp; omega, hB2.out.trans (hTn.below hz2 fun k hk => (hO2.out.block k hk).1)⟩⟩
          · rw [List.nodup_append]
            exact ⟨hR'.out.nd, by simp, by intro a ha b hb; simp at hb; subst hb; exact fun e => hxT (e ▸ ha)⟩
          · rw [List.mem_append, hR'.out.mem, hfs.out]
            by_cases e : y = x
            · subst e; simp [hxi, he]
            · rw [if_neg (by omega)]; simp [e]
      · rw [decide_eq_false he]
        rintro e w3 ⟨rfl, rfl⟩
        go_wp2_with fail
        go_roundg ((strL left (.int .i64 (x : Int))).length + 1)
        case measure => have := hln.out; omega
        case rel =>
          refine ⟨_, T, rfl, ⟨hm2.out, hO2.out, hR'.out.nd, fun y => ?_, by have := hln.out; omega, hB2.out⟩⟩
          rw [hR'.out.mem, hfs.out]
          by_cases e : y = x
          · subst e; simp [he]
          · rw [if_neg (by omega)]
end Go.Proofs.Ytgkmmdkagiohgaa
end

section
set_option linter.unusedVariables false
set_option linter.unusedSimpArgs false
namespace Go.Proofs.Ytgkmmdkagiohgaa
open Go.RowKit BigFrame

theorem blI_drew {B m : Nat} {a w : World} (h : Below B a w) : Below B a (w.drewN m) := ⟨h.os, h.tape, h.output, h.size, h.block⟩
def SameIRel (a b : Option Addr) (n : Nat) (R C : Nat → Int) (w : World) (i : Value) (wr : World) : Prop :=
  ∃ k : Nat, k ≤ n ∧ i = .int .i64 k ∧ IntsAt wr a n R ∧ IntsAt wr b n C ∧ Below w.heap.size w wr
theorem sameI_any (a b : Option Addr) (c1 c2 n : Nat) (R C : Nat → Int) (w : World) (hn : n ≤ 1000) (ha : IntsAt w a n R) (hb : IntsAt w b n C) (he : ∀ k, k < n → R k = C k) :
    Calls Try.prog 15 #[.slice a n c1, .slice b n c2] w fun e w' => e = .returned (.bool true) ∧ Below w.heap.size w w' := by
  have ha' := Lib.hid ha
  have hb' := Lib.hid hb
  have he' := Lib.hid he
  clear ha hb he
  go_enter Try.func15, Try.ntmps15
  go_wp2_with fail
  go_loopw [5] (fun i wr => SameIRel a b n R C w i wr) (fun i _ => n - (intOf i).toNat)
  case atStart => exact ⟨0, by omega, rfl, ha'.out, hb'.out, Below.refl _ _⟩
  case round =>
    obtain ⟨k, hk, rfl, hA, hB, hbel⟩ := hrel
    by_cases hlt : k < n
    · have hA' := hA
      have hB' := hB
      rcases hA' with h | ⟨b1, o1, rfl, h1⟩
      · omega
      · rcases hB' with h | ⟨b2, o2, rfl, h2⟩
        · omega
        · have q1 := h1 k hlt
          have q2 := h2 k hlt
          rw [he'.out k hlt] at q1
          have hend := Lib.hid (fun m => show SameIRel (some ⟨b1, o1, none⟩) (some ⟨b2, o2, none⟩) n R C w (.int .i64 ((k : Int) + 1)) (World.drewN _ m) from ⟨k + 1, by omega, by go_num, hA.drew, hB.drew, blI_drew hbel⟩)
          clear h1 h2 hA hB hbel
          go_wp2_with fail
          go_big_quiet (fail)
          go_wp2_with fail
          exact ⟨hend.out _, by simp [intOf]; omega⟩
    · have hbel' := Lib.hid hbel
      clear hA hB hbel
      go_wp2_with fail
      go_ret
      exact ⟨rfl, hbel'.out⟩

end Go.Proofs.Ytgkmmdkagiohgaa
end

section
set_option linter.unusedVariables false
set_option linter.unusedSimpArgs false
namespace Go.Proofs.Ytgkmmdkagiohgaa
open Go.RowKit BigFrame
set_option maxRecDepth 100000
variable {w w' wr w0 : World} {W B a M : Nat} {G : Gr} {ρ : Nat → Nat} {ids : List Nat} {dn : Nat → List Nat}

theorem srt_rise (l : List Nat) : (srt l).Pairwise fun x y => x ≤ y := by
  have h := List.pairwise_mergeSort (le := fun x y : Nat => decide (x ≤ y)) (fun a b c h1 h2 => by simp only [decide_eq_true_eq] at *; omega) (fun a b => by simp only [Bool.or_eq_true, decide_eq_true_eq]; omega) l
  exact h.imp fun h => of_decide_eq_true h
theorem srt_is {O L : List Nat} (hO : O.Nodup) (hL : L.Pairwise fun x y => x < y) (h : ∀ z, z ∈ O ↔ z ∈ L) : srt O = L := by
  have hn : L.Nodup := hL.imp fun h => Nat.ne_of_lt h
  have hp : (srt O).Perm L := (srt_perm O).trans ((List.perm_ext_iff_of_nodup hO hn).2 h)
  exact List.Perm.eq_of_pairwise (le := fun x y => x ≤ y) (fun a b _ _ h1 h2 => Nat.le_antisymm h1 h2) (srt_rise O) (hL.imp fun h => Nat.le_of_lt h) hp

/-- a graph lives behind w0: these are there, this each one needs -/
structure Lv (w0 : World) (a M : Nat) (ρ : Nat → Nat) (G : Gr) (ids : List Nat) (dn : Nat → List Nat) (w : World) : Prop where
  gr : GrMem w w0.heap.size a M G
  ok : GOk G ρ
  who : G.ids = ids
  dn : ∀ j, j ∈ ids → G.lk 0 j = dn j
  bel : Below w0.heap.size w0 w
theorem Lv.on (h : Lv w0 a M ρ G ids dn w) (hb : Below w.heap.size w w') : Lv w0 a M ρ G ids dn w' := ⟨h.gr.on hb, h.ok, h.who, h.dn, h.bel.trans (hb.mono h.bel.size)⟩
theorem Lv.cong {dn' : Nat → List Nat} (h : Lv w0 a M ρ G ids dn w) (e : ∀ j, j ∈ ids → dn' j = dn j) : Lv w0 a M ρ G ids dn' w := ⟨h.gr, h.ok, h.who, fun j hj => (h.dn j hj).trans (e j hj).symm, h.bel⟩
theorem live_new (ρ : Nat → Nat) (w : World) : Calls Try.prog 8 #[] w fun e w' => ∃ a M G, e = .returned (.pointer (some ⟨a, 0, none⟩)) ∧ Lv w a M ρ G [] (fun _ => []) w' ∧ (∀ k r, G.own k = some r → w.heap.size ≤ k) :=
  (new_c w).mono fun e w' ⟨he, hg, hb⟩ => ⟨_, _, _, he, ⟨hg, ⟨(fun q hq i hi => by cases hi), (fun i hi => by cases hi), (fun i hi => by cases hi)⟩, rfl, (fun j hj => by cases hj), hb⟩, fun k r hk => by rcases Gr.new_own hk with rfl | rfl <;> omega⟩
theorem live_add (h : Lv w0 a M ρ G ids dn w) {i : Nat} (hi : i ∉ ids) (h1 : 1 ≤ i) (h2 : i ≤ 1000) (hf : ids.length < 500) :
    Calls Try.prog 9 #[.pointer (some ⟨a, 0, none⟩), .int .i64 (i : Int)] w fun e w' => e = .returned (.int .i64 0) ∧ ∃ G', Lv w0 a M ρ G' (ids ++ [i]) (fun j => if j = i then [] else dn j) w' ∧ GStep w G w' G' := by
  obtain ⟨gr, ok, rfl, hdn, bel⟩ := h
  refine (gadd_c gr ok hi h1 h2 hf).mono fun e w' ⟨he, G', g1, g2, g3, g4, g5⟩ => ⟨he, G', ⟨g1, ok.add hi g3 g5, g3, fun j hj => ?_, bel.trans (g2.below gr)⟩, g2⟩
  rw [g5 0 j (by omega)]
  show (if j = i then [] else G.lk 0 j) = (if j = i then [] else dn j)
  by_cases e : j = i
  · rw [if_pos e, if_pos e]
  · rw [if_neg e, if_neg e]
    rcases List.mem_append.1 hj with h | h
    · exact hdn j h
    · simp at h; exact absurd h e
theorem live_need (h : Lv w0 a M ρ G ids dn w) {i k : Nat} (hi : i ∈ ids) (hk : k ∈ ids) (hm : k ∉ dn i) (hr : ρ k < ρ i) :
    Calls Try.prog 11 #[.pointer (some ⟨a, 0, none⟩), .int .i64 (i : Int), .int .i64 (k : Int)] w fun e w' => e = .returned (.int .i64 0) ∧ ∃ G', Lv w0 a M ρ G' ids (fun j => if j = i then dn i ++ [k] else dn j) w' ∧ GStep w G w' G' := by
  obtain ⟨gr, ok, rfl, hdn, bel⟩ := h
  have hnr : ¬ Reach (G.lk 0) k i := fun hh => by
    rcases reach_low ok hk hh with e | e
    · subst e; omega
    · omega
  refine (needs_ok gr ok hi hk (by rw [hdn i hi]; exact hm) hnr).mono fun e w' ⟨he, G', g1, g2, g3, g4, g5⟩ => ⟨he, G', ⟨g1, ok.bind hi hk hr g3 g5, g3, fun j hj => ?_, bel.trans (g2.below gr)⟩, g2⟩
  rw [g5 0 j (by omega)]
  unfold bindL
  by_cases e : j = i
  · rw [if_pos ⟨rfl, e⟩, if_pos e, hdn i hi]
  · rw [if_neg (fun h => e h.2), if_neg (fun h => by omega), if_neg e]; exact hdn j hj
theorem live_loop (h : Lv w0 a M ρ G ids dn w) {i k : Nat} (hi : i ∈ ids) (hk : k ∈ ids) (hm : k ∈ dn i) :
    Calls Try.prog 11 #[.pointer (some ⟨a, 0, none⟩), .int .i64 (k : Int), .int .i64 (i : Int)] w fun e w' => e = .returned (.int .i64 12) ∧ Below w.heap.size w w' := by
  obtain ⟨gr, ok, rfl, hdn, bel⟩ := h
  have hl := hdn i hi
  have hlow := ok.low i hi k (by rw [hl]; exact hm)
  refine needs_loop gr ok hk hi (fun hh => ?_) (.step .refl (by rw [hl]; exact hm))
  have := ok.low k hk i hh
  omega

/-! ### Lists of lists -/
/-- these lists lie there -/
def L2At (w : World) (g : Nat) (LL : List (List Nat)) : Prop := ∀ (p : Nat) (l : List Nat), LL[p]? = some l → ∃ ad cap, w.cell? ⟨g, p, none⟩ = some (.slice ad l.length cap) ∧ IntsAt w ad l.length (fun k => ((l.getD k 0 : Nat) : Int))
theorem LsAt.l2 {v : Value} {S : List Value} {LL : List (List Nat)} (h : LsAt w W v S LL) (h0 : 0 < LL.length) : ∃ g cap, v = .slice (some ⟨g, 0, none⟩) LL.length cap ∧ L2At w g LL := by
  obtain ⟨ad, cap, hv, hf⟩ := len_sl h.row
  rw [h.len] at hv hf
  obtain ⟨g, rfl, hc⟩ := hf h0
  refine ⟨g, cap, hv, fun p l hl => ?_⟩
  have hp := (List.getElem?_eq_some_iff.1 hl).1
  have hs : S[p]? = some (S[p]'(by rw [h.len]; exact hp)) := List.getElem?_eq_getElem _
  obtain ⟨a, c, hsv, _, hi⟩ := (h.each p _ l hs hl).ints
  refine ⟨a, c, ?_, hi⟩
  rw [← hsv]
  exact (hc p _ hs).1
theorem L2At.on {g : Nat} {LL : List (List Nat)} (h : L2At w g LL) (hb : Below w.heap.size w w') : L2At w' g LL := fun p l hl => by
  obtain ⟨ad, cap, h1, h2⟩ := h p l hl
  have hg : g < w.heap.size := World.block_lt_of_cell? w _ h1
  exact ⟨ad, cap, by rw [hb.cell (p := ⟨g, p, none⟩) hg]; exact h1, h2.on hb rfl⟩
set_option maxHeartbeats 1000000 in
theorem sameL_any {g1 g2 c1 c2 n : Nat} {LL : List (List Nat)} (h1 : L2At w g1 LL) (h2 : L2At w g2 LL) (hn : LL.length = n) (hb : n ≤ 1000) (hl : ∀ l ∈ LL, l.length ≤ 1000) :
    Calls Try.prog 18 #[.slice (some ⟨g1, 0, none⟩) n c1, .slice (some ⟨g2, 0, none⟩) n c2] w fun e w' => e = .returned (.bool true) ∧ Below w.heap.size w w' := by
  have h1' := Lib.hid h1
  have h2' := Lib.hid h2
  have hl' := Lib.hid hl
  have hn' := Lib.hid hn
  clear h1 h2 hl hn
  go_enter Try.func18, Try.ntmps18
  go_wp2_with fail
  go_loopg [5] n (fun g i wr => ∃ k : Nat, k + g = n ∧ i = .int .i64 (k : Int) ∧ Below w.heap.size w wr)
  case atStart => exact ⟨0, by omega, rfl, Below.refl _ _⟩
  case round =>
    obtain ⟨k, hkg, rfl, hbel⟩ := hrel
    by_cases hlt : k < n
    · obtain ⟨g, rfl⟩ : ∃ g, gk = g + 1 := ⟨gk - 1, by omega⟩
      obtain ⟨l, hl⟩ : ∃ l, LL[k]? = some l := ⟨LL[k]'(by rw [hn'.out]; exact hlt), List.getElem?_eq_getElem _⟩
      obtain ⟨a1, d1, e1, i1⟩ := h1'.out.on hbel k l hl
      obtain ⟨a2, d2, e2, i2⟩ := h2'.out.on hbel k l hl
      have hll := hl'.out l (List.mem_of_getElem? hl)
      have hsi := Lib.hid (fun m => sameI_any a1 a2 d1 d2 l.length _ _ (wr.drewN m) hll i1.drew i2.drew (fun _ _ => rfl))
      obtain ⟨ll, hll'⟩ : ∃ ll, l.length = ll := ⟨_, rfl⟩
      rw [hll'] at e1 e2 hsi
      have hbel' := Lib.hid hbel
      clear hbel i1 i2 hl hll hll'
      go_wp2_with fail
      go_region_with (go_at_call 15; refine (hsi.out 1).mono ?_; rintro e w3 ⟨rfl, hb3⟩; have B3 := Lib.hid (hbel'.out.trans (((below_drewN wr 1).trans hb3).mono hbel'.out.size)); clear hb3)
      all_goals (
        go_wp2_with fail
        go_roundg g
        case measure => omega
        case rel => exact ⟨k + 1, by omega, by go_num, B3.out⟩)
    · have hbel' := Lib.hid hbel
      clear hbel
      go_wp2_with fail
      go_ret
      exact ⟨rfl, hbel'.out⟩
end Go.Proofs.Ytgkmmdkagiohgaa
end

section
set_option linter.unusedVariables false
set_option linter.unusedSimpArgs false
namespace Go.Proofs.Ytgkmmdkagiohgaa
open Go.RowKit BigFrame
set_option maxRecDepth 100000
variable {w w' wr w0 : World} {W B a M : Nat} {G : Gr} {ρ : Nat → Nat} {ids : List Nat} {dn : Nat → List Nat}

/-- two that are there, of which the first one needs the second -/
def rkA (x : Nat) : Nat := if x = 1 then 1 else 0
def dnA (j : Nat) : List Nat := if j = 1 then [2] else []
theorem deepA (h : Lv w0 a M rkA G [1, 2] dnA w) : Deep G rkA := fun x hx => by
  rw [h.who] at hx
  rw [h.dn x hx]
  simp at hx
  rcases hx with rfl | rfl <;> rfl
theorem cloA (h : Lv w0 a M rkA G [1, 2] dnA w) (z : Nat) : Clo G (fun _ => (1 : Int)) 1 z ↔ z = 1 ∨ z = 2 := by
  have h1 : 1 ∈ G.ids := by rw [h.who]; simp
  have d1 : G.lk 0 1 = [2] := h.dn 1 (by simp)
  have d2 : G.lk 0 2 = [] := h.dn 2 (by simp)
  constructor
  · rintro ⟨j, i, _, hi, he, hr⟩
    have hi1 : i = 1 := by have he' : (1 : Int) = (i : Int) := he; omega
    subst hi1
    have : ∀ y, Reach (G.lk 0) 1 y → y = 1 ∨ y = 2 := fun y hy => by
      induction hy with
      | refl => exact .inl rfl
      | step _ hm ih =>
        rcases ih with rfl | rfl
        · rw [d1] at hm; simp at hm; exact .inr hm
        · rw [d2] at hm; cases hm
    exact this z hr
  · rintro (rfl | rfl)
    · exact ⟨0, 1, by omega, h1, rfl, .refl⟩
    · exact ⟨0, 1, by omega, h1, rfl, .step .refl (by rw [d1]; simp)⟩
theorem one_of {O : List Nat} (hn : O.Nodup) {c : Nat} (h : ∀ z, z ∈ O ↔ z = c) : O = [c] := by
  have := (List.perm_ext_iff_of_nodup hn (show [c].Nodup by simp)).2 (fun z => by rw [h z]; simp)
  exact List.perm_singleton.1 this
theorem levA {O : List Nat} {LL : List (List Nat)} (hn : O.Nodup) (hO : ∀ z, z ∈ O ↔ z = 1 ∨ z = 2) (hL : LvOk rkA O LL) : LL.map srt = [[2], [1]] := by
  have h1 := hL.lt 1 ((hO 1).2 (.inl rfl))
  have hl : LL.length = 2 := by
    by_cases e : LL.length ≤ 2
    · have : rkA 1 = 1 := rfl
      omega
    · obtain ⟨x, hx, he⟩ := hL.full 2 (by omega)
      rcases (hO x).1 hx with rfl | rfl <;> cases he
  have e0 := hL.at' 0 (by omega)
  have e1 := hL.at' 1 (by omega)
  have f0 : (O.filter fun x => decide (rkA x = 0)) = [2] := one_of (hn.filter _) fun z => by
    rw [List.mem_filter, hO]
    constructor
    · rintro ⟨rfl | rfl, h⟩
      · cases h
      · rfl
    · rintro rfl; exact ⟨.inr rfl, rfl⟩
  have f1 : (O.filter fun x => decide (rkA x = 1)) = [1] := one_of (hn.filter _) fun z => by
    rw [List.mem_filter, hO]
    constructor
    · rintro ⟨rfl | rfl, h⟩
      · rfl
      · cases h
    · rintro rfl; exact ⟨.inl rfl, rfl⟩
  rw [f0] at e0
  rw [f1] at e1
  have : LL = [[2], [1]] := by
    apply List.ext_getElem?
    intro i
    rcases (show i = 0 ∨ i = 1 ∨ 2 ≤ i by omega) with rfl | rfl | h
    · rw [e0]; rfl
    · rw [e1]; rfl
    · rw [List.getElem?_eq_none (by omega), List.getElem?_eq_none (by simpa using h)]
  rw [this]
  show [srt [2], srt [1]] = _
  rw [show srt [2] = [2] by simp [srt], show srt [1] = [1] by simp [srt]]
def Woke (w : World) (e : Ending) (w' : World) : Prop := e = .returned (.bool true) ∧ Below w.heap.size w w'
theorem ints1 (w : World) (x : Nat) : IntsAt (w.alloc (.cells #[.int .i64 (x : Int)] 3)) (some ⟨w.heap.size, 0, none⟩) 1 (fun _ => (x : Int)) := int_new w x _
theorem IntsAt.cong {w : World} {a : Option Addr} {n : Nat} {R R' : Nat → Int} (h : IntsAt w a n R) (he : ∀ k, k < n → R' k = R k) : IntsAt w a n R' := by
  rcases h with h | ⟨b, off, e, hx⟩
  · exact .inl h
  · exact .inr ⟨b, off, e, fun k hk => by rw [he k hk]; exact hx k hk⟩
theorem ints2 (w : World) (x y : Nat) : IntsAt (w.alloc (.cells #[.int .i64 (x : Int), .int .i64 (y : Int)] 3)) (some ⟨w.heap.size, 0, none⟩) 2 (fun k => (([x, y].getD k 0 : Nat) : Int)) :=
  .inr ⟨w.heap.size, 0, rfl, fun k hk => by
    rw [cell_of_row _ w.heap.size _ _ _ _ (heap_alloc_new w _)]
    rcases (show k = 0 ∨ k = 1 by omega) with rfl | rfl <;> rfl⟩
theorem lists2 (w : World) (x y : Nat) : L2At (((w.alloc (.cells #[.int .i64 (x : Int)] 3)).alloc (.cells #[.int .i64 (y : Int)] 3)).alloc (.cells #[.slice (some ⟨w.heap.size, 0, none⟩) 1 1, .slice (some ⟨w.heap.size + 1, 0, none⟩) 1 1] 22)) (w.heap.size + 2) [[x], [y]] := by
  have e1 : (w.alloc (.cells #[.int .i64 (x : Int)] 3)).heap.size = w.heap.size + 1 := size_alloc _ _
  have e2 : ((w.alloc (.cells #[.int .i64 (x : Int)] 3)).alloc (.cells #[.int .i64 (y : Int)] 3)).heap.size = w.heap.size + 2 := by rw [size_alloc, e1]
  have i1 := ((ints1 w x).alloc (.cells #[.int .i64 (y : Int)] 3)).alloc (.cells #[.slice (some ⟨w.heap.size, 0, none⟩) 1 1, .slice (some ⟨w.heap.size + 1, 0, none⟩) 1 1] 22)
  have i2 := (ints1 (w.alloc (.cells #[.int .i64 (x : Int)] 3)) y).alloc (.cells #[.slice (some ⟨w.heap.size, 0, none⟩) 1 1, .slice (some ⟨w.heap.size + 1, 0, none⟩) 1 1] 22)
  rw [e1] at i2
  have hn := heap_alloc_new ((w.alloc (.cells #[.int .i64 (x : Int)] 3)).alloc (.cells #[.int .i64 (y : Int)] 3)) (.cells #[.slice (some ⟨w.heap.size, 0, none⟩) 1 1, .slice (some ⟨w.heap.size + 1, 0, none⟩) 1 1] 22)
  rw [e2] at hn
  intro p l hl
  rcases (show p = 0 ∨ p = 1 ∨ 2 ≤ p by omega) with rfl | rfl | h
  · obtain rfl : [x] = l := Option.some.inj hl
    refine ⟨_, 1, by rw [cell_of_row _ _ _ _ _ _ hn]; rfl, ?_⟩
    exact i1.cong fun k hk => by obtain rfl : k = 0 := Nat.lt_one_iff.1 hk
                                 rfl
  · obtain rfl : [y] = l := Option.some.inj hl
    refine ⟨_, 1, by rw [cell_of_row _ _ _ _ _ _ hn]; rfl, ?_⟩
    exact i2.cong fun k hk => by obtain rfl : k = 0 := Nat.lt_one_iff.1 hk
                                 rfl
  · rw [List.getElem?_eq_none (by simpa using h)] at hl; cases hl
set_option maxHeartbeats 4000000 in
theorem awake_any (w : World) : Calls Try.prog 7 #[] w (Woke w) := by
  go_enter Try.func7, Try.ntmps7
  go_wp2_with fail
  refine (live_new rkA w).mono ?_
  rintro e w1 ⟨a, M, G1, rfl, hL1, _⟩
  have L1 := Lib.hid hL1
  clear hL1
  go_wp2_with fail
  refine (live_add L1.out (i := 1) (by simp) (by omega) (by omega) (by simp)).mono ?_
  rintro e w2 ⟨rfl, G2, hL2, _⟩
  have L2 := Lib.hid hL2
  clear hL2
  go_wp2_with fail
  refine (live_add L2.out (i := 2) (by simp) (by omega) (by omega) (by simp)).mono ?_
  rintro e w3 ⟨rfl, G3, hL3, _⟩
  have L3 := Lib.hid hL3
  clear hL3
  go_wp2_with fail
  refine (live_need L3.out (i := 1) (k := 2) (by simp) (by simp) (by simp) (by decide)).mono ?_
  rintro e w4 ⟨rfl, G4, hL4, _⟩
  have L4 := Lib.hid (show Lv w a M rkA G4 [1, 2] dnA w4 from hL4.cong fun j hj => by simp at hj; rcases hj with rfl | rfl <;> rfl)
  clear hL4
  go_wp2_with fail
  refine (live_loop L4.out (i := 1) (k := 2) (by simp) (by simp) (by simp [dnA])).mono ?_
  rintro e w5 ⟨rfl, hb5⟩
  have L5 := Lib.hid (L4.out.on hb5)
  clear hb5
  go_wp2_with fail
  have L6 := Lib.hid (L5.out.on ((Below.refl _ _).alloc (Nat.le_refl _) (.cells #[.int .i64 1] 3)))
  refine (closure_c (R := fun _ => (1 : Int)) (cap := 1) L6.out.gr L6.out.ok (by omega) (ints1 w5 1) (fun k _ => by omega)).mono ?_
  rintro e w6 ⟨⟨v, O, rfl, ho, hn, hsub, hcl⟩, hb⟩
  have hs : srt O = [1, 2] := srt_is hn (by decide) fun z => by rw [hcl, cloA L6.out]; simp
  rw [hs] at ho
  obtain ⟨a6, c6, hv6, _, hi6⟩ := ho.ints
  have hv6' : v = .slice a6 2 c6 := hv6
  subst hv6'
  have L7 := Lib.hid (L6.out.on hb)
  have hi6' := Lib.hid (hi6.alloc (.cells #[.int .i64 1, .int .i64 2] 3))
  clear hn hsub hcl hs ho hi6 hb hv6
  go_wp2_with fail
  refine (sameI_any a6 _ c6 2 2 _ _ _ (by omega) hi6'.out (ints2 w6 1 2) (fun _ _ => rfl)).mono ?_
  rintro e w7 ⟨rfl, hb7⟩
  have L8 := Lib.hid ((L7.out.on ((Below.refl _ _).alloc (Nat.le_refl _) (.cells #[.int .i64 1, .int .i64 2] 3))).on hb7)
  clear hb7
  go_wp2_with fail
  have L9 := Lib.hid (L8.out.on ((Below.refl _ _).alloc (Nat.le_refl _) (.cells #[.int .i64 1] 3)))
  refine (levels_c (R := fun _ => (1 : Int)) (cap := 1) L9.out.gr L9.out.ok (deepA L9.out) (by omega) (ints1 w7 1) (fun k _ => by omega)).mono ?_
  rintro e w8 ⟨⟨v, S, LL, O, rfl, hls, hlv, hn, hsub, hcl⟩, hb⟩
  have hs : LL.map srt = [[2], [1]] := levA hn (fun z => by rw [hcl, cloA L9.out]) hlv
  rw [hs] at hls
  obtain ⟨g8, c8, hv8, h2⟩ := hls.l2 (by decide)
  have hv8' : v = .slice (some ⟨g8, 0, none⟩) 2 c8 := hv8
  subst hv8'
  have L10 := Lib.hid (L9.out.on hb)
  have h2' := Lib.hid h2
  clear hn hsub hcl hs hls hlv hb hv8 h2
  go_wp2_with fail
  have hq := ((Below.refl w8.heap.size w8).alloc (Nat.le_refl _) (.cells #[.int .i64 2] 3)).alloc (by rw [size_alloc]; omega) (.cells #[.int .i64 1] 3) |>.alloc (by rw [size_alloc, size_alloc]; omega) (.cells #[.slice (some ⟨w8.heap.size, 0, none⟩) 1 1, .slice (some ⟨w8.heap.size + 1, 0, none⟩) 1 1] 22)
  refine (sameL_any (h2'.out.on hq) (lists2 w8 2 1) rfl (by decide) (fun l hl => by simp at hl; rcases hl with rfl | rfl <;> simp)).mono ?_
  rintro e w9 ⟨rfl, hb9⟩
  have L11 := Lib.hid ((L10.out.on hq).on hb9)
  clear hb9 hq
  go_wp2_with fail
  refine (ready_c L11.out.gr).mono ?_
  rintro e w10 ⟨⟨v, T, rfl, ho, hn, hT⟩, hb⟩
  have hs : srt T = [2] := srt_is hn (by decide) fun z => by
    rw [hT, L11.out.who]
    constructor
    · rintro ⟨h1, h2⟩
      rw [L11.out.dn z h1] at h2
      simp at h1
      rcases h1 with rfl | rfl
      · cases h2
      · simp
    · intro h1
      simp at h1
      subst h1
      exact ⟨by simp, by rw [L11.out.dn 2 (by simp)]; rfl⟩
  rw [hs] at ho
  obtain ⟨a7, c7, hv7, _, hi7⟩ := ho.ints
  have hv7' : v = .slice a7 1 c7 := hv7
  subst hv7'
  have L12 := Lib.hid (L11.out.on hb)
  have hi7' := Lib.hid (hi7.alloc (.cells #[.int .i64 2] 3))
  clear hn hT hs ho hi7 hb hv7
  go_wp2_with fail
  refine (sameI_any a7 _ c7 1 1 _ _ _ (by omega) hi7'.out (ints1 w10 2) (fun k hk => by obtain rfl : k = 0 := Nat.lt_one_iff.1 hk
                                                                                        rfl)).mono ?_
  rintro e w11 ⟨rfl, hb11⟩
  have L13 := Lib.hid ((L12.out.on ((Below.refl _ _).alloc (Nat.le_refl _) (.cells #[.int .i64 2] 3))).on hb11)
  clear hb11
  go_wp2_with fail
  go_ret
  exact ⟨rfl, L13.out.bel⟩
end Go.Proofs.Ytgkmmdkagiohgaa
end

section
set_option linter.unusedVariables false
set_option linter.unusedSimpArgs false
namespace Go.Proofs.Ytgkmmdkagiohgaa
open Go.RowKit BigFrame

/-- a call that tells v, and turns nothing that was there -/
def Tells (v : Value) (w : World) (e : Ending) (w' : World) : Prop := e = .returned v ∧ Below w.heap.size w w'
theorem below_box {w w' : World} {o : Obj} (hb : Below (w.alloc o).heap.size (w.alloc o) w') : Below w.heap.size w w' :=
  ((Below.refl w.heap.size w).alloc (Nat.le_refl _) o).trans (hb.mono (((Below.refl w.heap.size w).alloc (Nat.le_refl _) o).size))
theorem below_two {w w1 w2 : World} (h : Below w.heap.size w w1) (h2 : Below w1.heap.size w1 w2) : Below w.heap.size w w2 := h.trans (h2.mono h.size)
theorem wrap_in {n : Int} (h : -9223372036854775808 ≤ n ∧ n ≤ 9223372036854775807) : IntKind.i64.wrap n = n := by rw [IntKind.wrap_i64]; omega
theorem ret_bl {a b : Bool} (h : a = b) : Ending.returned (.bool a) = .returned (.bool b) := by rw [h]
end Go.Proofs.Ytgkmmdkagiohgaa
end
