/-
  Does one node need another, over however many?
  Needs: two that are there are bound, or that is refused.
  Nodes in an order, each behind all that it needs: what a visit under way has done; its path in memory.
-/
import Derived.Test.YtgkmmdkagiohgaaB5

section
set_option linter.unusedVariables false
set_option linter.unusedSimpArgs false
namespace Go.Proofs.Ytgkmmdkagiohgaa
open Go.RowKit BigFrame
set_option maxRecDepth 100000
variable {w w' : World} {W B a M b way p n : Nat} {G : Gr} {ρ : Nat → Nat} {sl mp : Value} {F : List Nat}

theorem reach_in {q x y : Nat} (ho : GOk G ρ) (hq : q < 2) (hx : x ∈ G.ids) (h : Reach (G.lk q) x y) : y ∈ G.ids := by
  induction h with
  | refl => exact hx
  | step _ hm ih => exact ho.inn q hq _ ih _ hm
theorem reach_up {x y : Nat} (ho : GOk G ρ) (hx : x ∈ G.ids) (h : Reach (G.lk 0) x y) : Reach (G.lk 1) y x := by
  induction h with
  | refl => exact .refl
  | step h1 hm ih =>
    have hy := reach_in ho (by omega) hx h1
    have hz := ho.inn 0 (by omega) _ hy _ hm
    exact Reach.head ((ho.dual _ hy _ hz).1 hm) ih
theorem reach_down {x y : Nat} (ho : GOk G ρ) (hx : x ∈ G.ids) (h : Reach (G.lk 1) x y) : Reach (G.lk 0) y x := by
  induction h with
  | refl => exact .refl
  | step h1 hm ih =>
    have hy := reach_in ho (by omega) hx h1
    have hz := ho.inn 1 (by omega) _ hy _ hm
    exact Reach.head ((ho.dual _ hz _ hy).2 hm) ih
theorem reach_low {x y : Nat} (ho : GOk G ρ) (hx : x ∈ G.ids) (h : Reach (G.lk 0) x y) : y = x ∨ ρ y < ρ x := by
  induction h with
  | refl => exact .inl rfl
  | step h1 hm ih =>
    have hy := reach_in ho (by omega) hx h1
    have := ho.low _ hy _ hm
    rcases ih with rfl | h2
    · exact .inr this
    · exact .inr (by omega)

/-- both walks, and what both have found: nothing but the last of one -/
structure LeadRel (w : World) (W B a M : Nat) (G : Gr) (X Y b1 b2 : Nat) (g : Nat) (wr : World) : Prop where
  ex : ∃ s1 m1 F p1 n1 s2 m2 H p2 n2, WkAt wr W G.nb b1 0 s1 m1 F p1 n1 ∧ WkAt wr W G.nb b2 1 s2 m2 H p2 n2 ∧ (∀ k, Own b1 s1 m1 k → ¬ Own b2 s2 m2 k) ∧
    WOk (G.lk 0) G.ids X F p1 n1 ∧ WOk (G.lk 1) G.ids Y H p2 n2 ∧ 600000 < p1 * 1000 + n1 + g ∧ ∃ F' x H' y, F = F' ++ [x] ∧ H = H' ++ [y] ∧ ∀ z, z ∈ F → z ∈ H → z = x ∨ z = y
  gr : GrMem wr B a M G
  bel : Below w.heap.size w wr
def LeadPost (G : Gr) (X Y : Nat) (w : World) (e : Ending) (w' : World) : Prop := ∃ r, e = .returned (.bool r) ∧ (r = true ↔ Reach (G.lk 0) X Y) ∧ Below w.heap.size w w'
theorem lead_yes (ho : GOk G ρ) {X Y p1 n1 p2 n2 z : Nat} {F H : List Nat} (hX : X ∈ G.ids) (hY : Y ∈ G.ids) (o1 : WOk (G.lk 0) G.ids X F p1 n1) (o2 : WOk (G.lk 1) G.ids Y H p2 n2) (h1 : z ∈ F) (h2 : z ∈ H) : Reach (G.lk 0) X Y :=
  (o1.reach z h1).trans (reach_down ho hY (o2.reach z h2))
/-- a step more: the last one, and what is common -/
theorem last_new {F F1 F' : List Nat} {x : Nat} (hF : F = F' ++ [x]) (h : F1 = F ∨ ∃ y, y ∉ F ∧ F1 = F ++ [y]) : ∃ F'' x', F1 = F'' ++ [x'] ∧ ∀ z ∈ F1, z ∈ F ∨ z = x' := by
  rcases h with rfl | ⟨y, _, rfl⟩
  · exact ⟨F', x, hF, fun z hz => .inl hz⟩
  · refine ⟨F, y, rfl, fun z hz => ?_⟩
    rcases List.mem_append.1 hz with h | h
    · exact .inl h
    · simp at h; exact .inr h
theorem WkAt.on (h : WkAt w W G.nb b way sl mp F p n) (hb : Below w.heap.size w w') : WkAt w' W G.nb b way sl mp F p n := h.turn (TurnS.of_below (fun _ => False) hb) fun _ _ h => h
theorem LeadRel.on {X Y b1 b2 g : Nat} {w0 : World} (h : LeadRel w0 W B a M G X Y b1 b2 g w) (hb : Below w.heap.size w w') : LeadRel w0 W B a M G X Y b1 b2 g w' := by
  obtain ⟨⟨s1, m1, F, p1, n1, s2, m2, H, p2, n2, k1, k2, r⟩, g1, g2⟩ := h
  exact ⟨⟨s1, m1, F, p1, n1, s2, m2, H, p2, n2, k1.on hb, k2.on hb, r⟩, g1.on hb, g2.trans (hb.mono g2.size)⟩
/-- between the two steps: what the first one left -/
structure LeadMid (w0 : World) (W B a M : Nat) (G : Gr) (X Y b1 b2 : Nat) (g : Nat) (wr : World) (s2 m2 : Value) (H : List Nat) (p2 n2 : Nat) : Prop where
  ex : ∃ s1 m1 F p1 n1, WkAt wr W G.nb b1 0 s1 m1 F p1 n1 ∧ (∀ k, Own b1 s1 m1 k → ¬ Own b2 s2 m2 k) ∧ WOk (G.lk 0) G.ids X F p1 n1 ∧ 600000 < p1 * 1000 + n1 + g ∧
    ∃ F' x H' y, F = F' ++ [x] ∧ H = H' ++ [y] ∧ ∀ z, z ∈ F → z ∈ H → z = x
  k2 : WkAt wr W G.nb b2 1 s2 m2 H p2 n2
  o2 : WOk (G.lk 1) G.ids Y H p2 n2
  gr : GrMem wr B a M G
  bel : Below w0.heap.size w0 wr
theorem lead_mid {X Y b1 b2 g p1 n1 p2 n2 x y : Nat} {w0 : World} {s1 m1 s2 m2 : Value} {F H F' H' : List Nat} {e : Ending} {r : Bool} {s1' m1' : Value} {F1 : List Nat} {p1' n1' : Nat}
    (hG : ∀ k r, G.own k = some r → k < W) (hW : w0.heap.size ≤ W) (k1 : WkAt w W G.nb b1 0 s1 m1 F p1 n1) (k2 : WkAt w W G.nb b2 1 s2 m2 H p2 n2) (hap : ∀ k, Own b1 s1 m1 k → ¬ Own b2 s2 m2 k) (o2 : WOk (G.lk 1) G.ids Y H p2 n2) (hg : 600000 < p1 * 1000 + n1 + (g + 1))
    (hF : F = F' ++ [x]) (hH : H = H' ++ [y]) (hd : ∀ z, z ∈ F → z ∉ H) (gr : GrMem w B a M G) (bel : Below w0.heap.size w0 w)
    (hp : StepPost w W G.nb (G.lk 0) G.ids X b1 0 s1 m1 F p1 n1 e w' r s1' m1' F1 p1' n1') (hr : r = true) : LeadMid w0 W B a M G X Y b1 b2 g w' s2 m2 H p2 n2 := by
  have hy := hp.yes hr
  obtain ⟨F'', x', hF1, hor⟩ := last_new hF hy.2
  have hs : w.heap.size ≤ w'.heap.size := hp.turn.size
  refine ⟨⟨s1', m1', F1, p1', n1', hp.wk, fun k hk h2 => ?_, hp.ok, by omega, F'', x', H', y, hF1, hH, fun z h1 h2 => ?_⟩, k2.turn hp.turn fun k h2 h1 => hap k h1 h2, o2, gr.turn hp.turn fun k ⟨r, hr⟩ h1 => ?_, ?_⟩
  · rcases hp.own k hk with h1 | h1
    · exact hap k h1 h2
    · have := (k2.own k h2).2; omega
  · rcases hor z h1 with h3 | h3
    · exact absurd h2 (hd z h3)
    · exact h3
  · have := hG k r hr
    have := (k1.own k h1).1
    omega
  · exact bel.trans (hp.turn.below bel.size fun k hk => Nat.le_trans hW (k1.own k hk).1)
theorem lead_rel {X Y b1 b2 g p2 n2 : Nat} {w0 : World} {s2 m2 : Value} {H : List Nat} {e : Ending} {r : Bool} {s2' m2' : Value} {H1 : List Nat} {p2' n2' : Nat}
    (hG : ∀ k r, G.own k = some r → k < W) (hW : w0.heap.size ≤ W) (hm : LeadMid w0 W B a M G X Y b1 b2 g w s2 m2 H p2 n2)
    (hp : StepPost w W G.nb (G.lk 1) G.ids Y b2 1 s2 m2 H p2 n2 e w' r s2' m2' H1 p2' n2') (hr : r = true) : LeadRel w0 W B a M G X Y b1 b2 g w' := by
  obtain ⟨⟨s1, m1, F, p1, n1, k1, hap, o1, hg, F', x, H', y, hF, hH, hd⟩, k2, o2, gr, bel⟩ := hm
  have hy := hp.yes hr
  obtain ⟨H'', y', hH1, hor⟩ := last_new hH hy.2
  have hs : w.heap.size ≤ w'.heap.size := hp.turn.size
  refine ⟨⟨s1, m1, F, p1, n1, s2', m2', H1, p2', n2', k1.turn hp.turn fun k h1 h2 => hap k h1 h2, hp.wk, fun k h1 hk => ?_, o1, hp.ok, hg, F', x, H'', y', hF, hH1, fun z h1 h2 => ?_⟩, gr.turn hp.turn fun k ⟨r, hr⟩ h1 => ?_, ?_⟩
  · rcases hp.own k hk with h2 | h2
    · exact hap k h1 h2
    · have := (k1.own k h1).2; omega
  · rcases hor z h2 with h3 | h3
    · exact .inl (hd z h1 h3)
    · exact .inr h3
  · have := hG k r hr
    have := (k2.own k h1).1
    omega
  · exact bel.trans (hp.turn.below bel.size fun k hk => Nat.le_trans hW (k2.own k hk).1)
set_option maxHeartbeats 4000000 in
theorem leads_c {X Y : Nat} (h : GrMem w B a M G) (ho : GOk G ρ) (hX : X ∈ G.ids) (hY : Y ∈ G.ids) :
    Calls Try.prog 20 #[.pointer (some ⟨G.nb X, 0, none⟩), .pointer (some ⟨G.nb Y, 0, none⟩)] w (LeadPost G X Y w) := by
  have hGW := Lib.hid (fun k r (hk : G.own k = some r) => (h.hi k r hk).2)
  have ho' := Lib.hid ho
  have hf1 := Lib.hid (from_c 0 X w.heap.size (Nat.le_refl _) h hX)
  have h' := Lib.hid h
  clear h ho
  go_enter Try.func20, Try.ntmps20
  go_wp2_with (first
    | (go_at_call_of 28 (Value.int IntKind.i64 0); refine hf1.out.mono ?_; rintro e w1 ⟨s1, m1, rfl, hk1, hb1, hn1⟩; have K1 := Lib.hid hk1; have B1 := Lib.hid hb1; have hf2 := Lib.hid (from_c 1 Y w.heap.size hb1.size (h'.out.on hb1) hY); clear hk1 hb1)
    | (go_at_call_of 28 (Value.int IntKind.i64 1); refine hf2.out.mono ?_; rintro e w2 ⟨s2, m2, rfl, hk2, hb2, hn2⟩; have K2 := Lib.hid hk2; have B2 := Lib.hid hb2; clear hk2 hb2))
  have hap0 : ∀ k, Own w.heap.size s1 m1 k → ¬ Own w1.heap.size s2 m2 k := fun k h1 h2 => by
    have e1 := (K1.out.own k h1).2
    rcases h2 with rfl | h2
    · omega
    · have := hn2 k h2; omega
  have hrel0 := Lib.hid (show LeadRel w w.heap.size B a M G X Y w.heap.size w1.heap.size 600001 w2 from
    ⟨⟨s1, m1, [X], 0, 0, s2, m2, [Y], 0, 0, K1.out.on B2.out, K2.out, hap0, WOk.begin hX, WOk.begin hY, by omega, [], X, [], Y, rfl, rfl, fun z h1 h2 => by simp at h1; exact .inl h1⟩, (h'.out.on B1.out).on B2.out, B1.out.trans (B2.out.mono B1.out.size)⟩)
  have hin0 := Lib.hid (fun i hi k hk => ho'.out.inn 0 (by omega) i hi k hk)
  have hin1 := Lib.hid (fun i hi k hk => ho'.out.inn 1 (by omega) i hi k hk)
  have hgW := Lib.hid (fun k r (hk : G.own k = some r) => (h'.out.hi k r hk).2)
  obtain ⟨b2, hb2⟩ : ∃ b2, w1.heap.size = b2 := ⟨_, rfl⟩
  rw [hb2] at hrel0
  rw [hb2]
  clear hf1 hf2 K1 K2 B1 B2 hn1 hn2 hap0 hb2 hGW
  go_loopg [] 600001 (fun g wr => LeadRel w w.heap.size B a M G X Y w.heap.size b2 g wr)
  case atStart => exact hrel0.out
  case round =>
    obtain ⟨⟨s1, m1, F, p1, n1, s2, m2, H, p2, n2, k1, k2, hap, o1, o2, hg, F', x, H', y, hF, hH, hd⟩, gr, bel⟩ := hrel
    have hxF : x ∈ F := by rw [hF]; simp
    have hyH : y ∈ H := by rw [hH]; simp
    have hxi := o1.sub x hxF
    have hyi := o2.sub y hyH
    have hFl : F.length ≤ 500 := Nat.le_trans (nodup_sub k1.set.one o1.sub) gr.few
    have hHl : H.length ≤ 500 := Nat.le_trans (nodup_sub k2.set.one o2.sub) gr.few
    have hp1 := o1.le
    have hn1 : n1 ≤ 500 := by
      by_cases e : p1 < F.length
      · have hx1 := List.getElem?_eq_getElem e
        have hi1 := o1.sub _ (List.getElem_mem e)
        exact Nat.le_trans (o1.part _ hx1).1 (gr.len (by omega) hi1 (hin0.out _ hi1))
      · rw [o1.zero (by omega)]; omega
    obtain ⟨g, rfl⟩ : ∃ g, gk = g + 1 := ⟨gk - 1, by omega⟩
    have hme := Lib.hid (meets_c gr k1 k2 hF hH hxi hyi (by omega) (by omega))
    have hel := Lib.hid bel
    by_cases ht : meetB F H x y = true
    · rw [ht] at hme
      have hR := Lib.hid (show Reach (G.lk 0) X Y by
        unfold meetB at ht
        rw [Bool.or_eq_true, decide_eq_true_eq, decide_eq_true_eq] at ht
        rcases ht with h1 | h1
        · exact lead_yes ho'.out hX hY o1 o2 h1 hyH
        · exact lead_yes ho'.out hX hY o1 o2 hxF h1)
      clear k1 k2 hap o1 o2 hF hH hd gr bel hxF hyH ht hin0 hin1
      go_wp2_with (go_at_call 29; refine hme.out.mono ?_; rintro e w3 ⟨rfl, mm, rfl⟩)
      go_ret
      exact ⟨true, rfl, iff_of_true rfl hR.out, hel.out.trans (below_drewN _ _ |>.mono hel.out.size)⟩
    · rw [Bool.not_eq_true] at ht
      rw [ht] at hme
      have hdis : ∀ z, z ∈ F → z ∉ H := fun z h1 h2 => by
        unfold meetB at ht
        rw [Bool.or_eq_false_iff, decide_eq_false_iff_not, decide_eq_false_iff_not] at ht
        rcases hd z h1 h2 with rfl | rfl
        · exact ht.2 h2
        · exact ht.1 h1
      have no1 := Lib.hid (fun p n (o : WOk (G.lk 0) G.ids X F p n) (hp : p = F.length) (hr : Reach (G.lk 0) X Y) => hdis Y (o.all hp hr) o2.start)
      have no2 := Lib.hid (fun p n (o : WOk (G.lk 1) G.ids Y H p n) (hp : p = H.length) (hr : Reach (G.lk 0) X Y) => hdis X o1.start (o.all hp (reach_up ho'.out hX hr)))
      have hs1 := Lib.hid (fun m => step_c (x0 := X) (w := wr.drewN m) (W := w.heap.size) (gr.drew m) hin0.out (by omega) hgW.out bel.size (k1.drew m) o1)
      have hmid := Lib.hid (fun m w' e r s1' m1' F1 p1' n1' hp hr => lead_mid (X := X) (w := wr.drewN m) (w' := w') (w0 := w) (e := e) (r := r) (s1' := s1') (m1' := m1') (F1 := F1) (p1' := p1') (n1' := n1') hgW.out (Nat.le_refl _) (k1.drew m) (k2.drew m) hap o2 hg hF hH hdis (gr.drew m) (bel.trans ((below_drewN _ _).mono bel.size)) hp hr)
      have hk1l := Lib.hid (fun k hk => (k1.own k hk).1)
      clear k1 k2 hap o1 o2 hF hH hd gr bel hxF hyH ht
      go_wp2_with (go_at_call 29; refine hme.out.mono ?_; rintro e w3 ⟨rfl, mm, rfl⟩)
      go_at_call 30
      refine (hs1.out mm).mono ?_
      rintro e w4 ⟨r, s1', m1', F1, p1', n1', hp⟩
      have he := hp.ret
      have hw4 := Lib.hid (show Below w.heap.size w w4 from (hel.out.trans ((below_drewN _ _).mono hel.out.size)).trans (hp.turn.below hel.out.size fun k hk => hk1l.out k hk))
      subst he
      cases r
      · have hN := Lib.hid (show ¬ Reach (G.lk 0) X Y from by
          obtain ⟨h1, h2⟩ := hp.no rfl
          have o := hp.ok
          rw [h2] at o h1
          exact no1.out _ _ o h1)
        clear hp
        go_wp2_with fail
        go_ret
        exact ⟨false, rfl, iff_of_false (by decide) hN.out, hw4.out⟩
      · have hM := Lib.hid (hmid.out mm _ _ _ _ _ _ _ _ hp rfl)
        clear hp
        have hs2 := Lib.hid (step_c (x0 := Y) (w := w4) (W := w.heap.size) hM.out.gr hin1.out (by omega) hgW.out hM.out.bel.size hM.out.k2 hM.out.o2)
        have hk2l := Lib.hid (fun k hk => (hM.out.k2.own k hk).1)
        go_wp2_with fail
        go_at_call 30
        refine hs2.out.mono ?_
        rintro e w5 ⟨r2, s2', m2', H1, p2', n2', hp2⟩
        have he2 := hp2.ret
        have hw5 := Lib.hid (show Below w.heap.size w w5 from hw4.out.trans (hp2.turn.below hw4.out.size fun k hk => hk2l.out k hk))
        subst he2
        cases r2
        · have hN := Lib.hid (show ¬ Reach (G.lk 0) X Y from by
            obtain ⟨h1, h2⟩ := hp2.no rfl
            have o := hp2.ok
            rw [h2] at o h1
            exact no2.out _ _ o h1)
          clear hp2
          go_wp2_with fail
          go_ret
          exact ⟨false, rfl, iff_of_false (by decide) hN.out, hw5.out⟩
        · have hR := Lib.hid (lead_rel hgW.out (Nat.le_refl _) hM.out hp2 rfl)
          clear hp2
          go_wp2_with fail
          go_roundg g
          case measure => omega
          case rel => exact hR.out
end Go.Proofs.Ytgkmmdkagiohgaa
end

section
set_option linter.unusedVariables false
set_option linter.unusedSimpArgs false
namespace Go.Proofs.Ytgkmmdkagiohgaa
open Go.RowKit BigFrame
set_option maxRecDepth 100000
variable {w w' : World} {W B a M : Nat} {G : Gr} {ρ : Nat → Nat}

theorem GrMem.look (h : GrMem w B a M G) {i : Nat} (hi : i ∈ G.ids) (m : Nat) : (Instr.lookup 44 (.map (some M)) (.int .i64 (i : Int)) false).run Try.prog (w.drewN m) = .ok (.pointer (some ⟨G.nb i, 0, none⟩)) (w.drewN m) := by
  obtain ⟨l, hl0, _, hl2, _⟩ := (h.drew m).tab
  have hp := h.pos i hi
  have := hl0.look law_int Try.underlying44 (z := .pointer none) rfl (key_nat (k := i) (by omega))
  rw [hl2 i hi] at this
  exact this
theorem GrMem.lookNo (h : GrMem w B a M G) {k : Int} (h1 : -9223372036854775808 ≤ k) (h2 : k ≤ 9223372036854775807) (hi : ∀ x ∈ G.ids, k ≠ (x : Int)) (m : Nat) : (Instr.lookup 44 (.map (some M)) (.int .i64 k) false).run Try.prog (w.drewN m) = .ok (.pointer none) (w.drewN m) := by
  obtain ⟨l, hl0, _, _, hl3⟩ := (h.drew m).tab
  have := hl0.look law_int Try.underlying44 (z := .pointer none) rfl (key_int h1 h2)
  rw [hl3 k hi] at this
  exact this
theorem ptr_some (b : Nat) (w : World) : Sem.run Try.prog (binOp BinOp.eql 47 (.pointer (some ⟨b, 0, none⟩)) (.pointer none)) w = .ok (.bool false) w := by kernel_rfl
theorem ptr_some' (b : Nat) (w : World) : Sem.run Try.prog (binOp BinOp.neq 47 (.pointer (some ⟨b, 0, none⟩)) (.pointer none)) w = .ok (.bool true) w := by kernel_rfl
set_option maxHeartbeats 2000000 in
theorem needs_ok {i k : Nat} (h : GrMem w B a M G) (ho : GOk G ρ) (hi : i ∈ G.ids) (hk : k ∈ G.ids) (hm : k ∉ G.lk 0 i) (hr : ¬ Reach (G.lk 0) k i) :
    Calls Try.prog 11 #[.pointer (some ⟨a, 0, none⟩), .int .i64 (i : Int), .int .i64 (k : Int)] w (GPost B a M G G.ids G.nb (bindL G.lk i k) (.int .i64 0) w) := by
  have hik : i ≠ k := fun e => hr (e ▸ .refl)
  have pi := h.pos i hi
  have pk := h.pos k hk
  have c0 := h.box.cell (k := 0) rfl
  have l1 := fun m => h.look hi m
  have l2 := fun m => h.look hk m
  have hm2 : i ∉ G.lk 1 k := fun e => hm ((ho.dual i hi k hk).2 e)
  have hh := Lib.hid (fun m => has_c (w := w.drewN m) (b := G.nb i) (o := 1) ((h.row i hi).cell (k := 2) rfl) ((h.drew m).set i hi 0 (by omega)).mp k (by omega))
  rw [decide_eq_false hm] at hh
  have hle := Lib.hid (fun m => leads_c (h.drew m) ho hk hi)
  have hbi := Lib.hid (fun w' (hb : Below w.heap.size w w') => bind_c (h.on hb) hi hk hik hm hm2 (Nat.le_trans (h.len (by omega) hi (fun x hx => ho.inn 0 (by omega) i hi x hx)) (by omega)) (Nat.le_trans (h.len (by omega) hk (fun x hx => ho.inn 1 (by omega) k hk x hx)) (by omega)))
  have hr' := Lib.hid hr
  have hG := Lib.hid (fun w' (hb : Below w.heap.size w w') => GStep.of_below G hb)
  clear h ho hm hr hm2
  go_enter Try.func11, Try.ntmps11
  go_wp2_with fail
  go_quiet (fail)
  have e1 := ptr_some (G.nb i) (w.drewN nq)
  have e2 := ptr_some (G.nb k) (w.drewN nq)
  go_wp2_with (first
    | (go_at_call 19; refine (hh.out _).mono ?_; rintro e w1 ⟨rfl, rfl⟩)
    | (go_at_call 20; refine (hle.out _).mono ?_; rintro e w1 ⟨r, rfl, hrr, hb⟩; have hb1 := Lib.hid ((below_drewN w nq).trans hb); have hrf : r = false := by (cases r; rfl; exact absurd (hrr.1 rfl) hr'.out)))
  go_at_call 21
  refine (hbi.out w1 hb1.out).mono ?_
  rintro e w2 ⟨rfl, G', g1, g2, g3, g4, g5⟩
  have hfin := Lib.hid (show GPost B a M G G.ids G.nb (bindL G.lk i k) (.int .i64 0) w (.returned (.int .i64 0)) w2 from ⟨rfl, G', g1, (hG.out w1 hb1.out).trans g2, g3, g4, g5⟩)
  clear g1 g2 g3 g4 g5
  go_wp2_with fail
  go_ret
  exact hfin.out
set_option maxHeartbeats 2000000 in
theorem needs_loop {i k : Nat} (h : GrMem w B a M G) (ho : GOk G ρ) (hi : i ∈ G.ids) (hk : k ∈ G.ids) (hm : k ∉ G.lk 0 i) (hr : Reach (G.lk 0) k i) :
    Calls Try.prog 11 #[.pointer (some ⟨a, 0, none⟩), .int .i64 (i : Int), .int .i64 (k : Int)] w fun e w' => e = .returned (.int .i64 12) ∧ Below w.heap.size w w' := by
  have pi := h.pos i hi
  have pk := h.pos k hk
  have c0 := h.box.cell (k := 0) rfl
  have l1 := fun m => h.look hi m
  have l2 := fun m => h.look hk m
  have hh := Lib.hid (fun m => has_c (w := w.drewN m) (b := G.nb i) (o := 1) ((h.row i hi).cell (k := 2) rfl) ((h.drew m).set i hi 0 (by omega)).mp k (by omega))
  rw [decide_eq_false hm] at hh
  have hle := Lib.hid (fun m => leads_c (h.drew m) ho hk hi)
  have hr' := Lib.hid hr
  clear h ho hm hr
  go_enter Try.func11, Try.ntmps11
  go_wp2_with fail
  go_quiet (fail)
  have e1 := ptr_some (G.nb i) (w.drewN nq)
  have e2 := ptr_some (G.nb k) (w.drewN nq)
  go_wp2_with (first
    | (go_at_call 19; refine (hh.out _).mono ?_; rintro e w1 ⟨rfl, rfl⟩)
    | (go_at_call 20; refine (hle.out _).mono ?_; rintro e w1 ⟨r, rfl, hrr, hb⟩; have hb1 := Lib.hid ((below_drewN w nq).trans hb); have hrf : r = true := hrr.2 hr'.out))
  go_ret
  exact ⟨rfl, hb1.out⟩
/-- nothing can be asked of none -/
theorem add_nil (i : Int) (w : World) : Calls Try.prog 9 #[.pointer none, .int .i64 i] w fun e w' => e = .returned (.int .i64 1) ∧ w = w' := by
  go_enter Try.func9, Try.ntmps9
  go_wp2_with fail
  go_ret
  exact ⟨rfl, rfl⟩
theorem needs_nil (i k : Int) (w : World) : Calls Try.prog 11 #[.pointer none, .int .i64 i, .int .i64 k] w fun e w' => e = .returned (.int .i64 1) ∧ w = w' := by
  go_enter Try.func11, Try.ntmps11
  go_wp2_with fail
  go_ret
  exact ⟨rfl, rfl⟩
theorem ordered_nil (v : Value) (w : World) : Calls Try.prog 22 #[.pointer none, v] w fun e w' => e = .returned (.slice none 0 0) ∧ w = w' := by
  go_enter Try.func22, Try.ntmps22
  go_wp2_with fail
  go_ret
  exact ⟨rfl, rfl⟩
theorem all_nil (w : World) : Calls Try.prog 17 #[.pointer none] w fun e w' => e = .returned (.slice none 0 0) ∧ w = w' := by
  go_enter Try.func17, Try.ntmps17
  go_wp2_with fail
  go_ret
  exact ⟨rfl, rfl⟩
theorem drop_nil (v : Value) (w : World) : Calls Try.prog 14 #[.pointer none, v] w fun e w' => e = .returned (.int .i64 0) ∧ w = w' := by
  go_enter Try.func14, Try.ntmps14
  go_wp2_with fail
  go_ret
  exact ⟨rfl, rfl⟩
end Go.Proofs.Ytgkmmdkagiohgaa
end

section
set_option linter.unusedVariables false
set_option linter.unusedSimpArgs false
namespace Go.Proofs.Ytgkmmdkagiohgaa
open Go.RowKit BigFrame
set_option maxRecDepth 100000

theorem fstE {a b c d : Nat} (h : (a, b) = (c, d)) : a = c := congrArg Prod.fst h
theorem sndE {a b c d : Nat} (h : (a, b) = (c, d)) : b = d := congrArg Prod.snd h
/-- an order: each once, each behind its needs -/
structure OOk (lk : Nat → List Nat) (ids O : List Nat) : Prop where
  nd : O.Nodup
  sub : ∀ x ∈ O, x ∈ ids
  top : ∀ (j x : Nat), O[j]? = some x → ∀ y ∈ lk x, ∃ i, i < j ∧ O[i]? = some y
theorem OOk.need {lk : Nat → List Nat} {ids O : List Nat} (h : OOk lk ids O) {x y : Nat} (hx : x ∈ O) (hy : y ∈ lk x) : y ∈ O := by
  obtain ⟨j, hj⟩ := List.getElem?_of_mem hx
  obtain ⟨i, _, hi⟩ := h.top j x hj y hy
  exact List.mem_of_getElem? hi
theorem OOk.reach {lk : Nat → List Nat} {ids O : List Nat} (h : OOk lk ids O) {x y : Nat} (hx : x ∈ O) (hr : Reach lk x y) : y ∈ O := by
  induction hr with
  | refl => exact hx
  | step _ hm ih => exact h.need ih hm
theorem OOk.snoc {lk : Nat → List Nat} {ids O : List Nat} (h : OOk lk ids O) {x : Nat} (hx : x ∉ O) (hi : x ∈ ids) (hn : ∀ y ∈ lk x, y ∈ O) : OOk lk ids (O ++ [x]) := by
  refine ⟨?_, fun z hz => ?_, fun j z hj y hy => ?_⟩
  · rw [List.nodup_append]
    exact ⟨h.nd, by simp, by intro a ha b hb; simp at hb; subst hb; exact fun e => hx (e ▸ ha)⟩
  · rcases List.mem_append.1 hz with h1 | h1
    · exact h.sub z h1
    · simp at h1; exact h1 ▸ hi
  · by_cases hlt : j < O.length
    · rw [List.getElem?_append_left hlt] at hj
      obtain ⟨i, h1, h2⟩ := h.top j z hj y hy
      exact ⟨i, h1, by rw [List.getElem?_append_left (by omega)]; exact h2⟩
    · rw [List.getElem?_append_right (by omega)] at hj
      have hz : z = x := by
        have := List.mem_of_getElem? hj
        simpa using this
      subst hz
      obtain ⟨i, h1⟩ := List.getElem?_of_mem (hn y hy)
      have := (List.getElem?_eq_some_iff.1 h1).1
      exact ⟨i, by omega, by rw [List.getElem?_append_left this]; exact h1⟩

/-- those that wait for p: the last link that each looked at leads to the one that it waits for -/
def Wait (lk : Nat → List Nat) (O : List Nat) : Nat → List (Nat × Nat) → Prop
  | _, [] => True
  | p, (q, m) :: r => (∃ m', m = m' + 1 ∧ (lk q)[m']? = some p ∧ ∀ i y, i < m' → (lk q)[i]? = some y → y ∈ O) ∧ Wait lk O q r
theorem Wait.more {lk : Nat → List Nat} {O O' : List Nat} (hs : ∀ z ∈ O, z ∈ O') : ∀ {r : List (Nat × Nat)} {p : Nat}, Wait lk O p r → Wait lk O' p r
  | [], _, _ => trivial
  | (q, m) :: r, p, ⟨⟨m', h1, h2, h3⟩, h4⟩ => ⟨⟨m', h1, h2, fun i y hi hy => hs y (h3 i y hi hy)⟩, Wait.more hs h4⟩
/-- a visit under way: x is visited; O is in order, E has been met; the path, the deepest one first -/
structure VOk (lk : Nat → List Nat) (ids : List Nat) (ρ : Nat → Nat) (x : Nat) (O0 O E : List Nat) (P : List (Nat × Nat)) : Prop where
  ord : OOk lk ids O
  been : ∀ z, z ∈ E ↔ z ∈ O ∨ ∃ n, (z, n) ∈ P
  out : ∀ z n, (z, n) ∈ P → z ∉ O
  inn : ∀ z n, (z, n) ∈ P → z ∈ ids ∧ Reach lk x z
  pre : ∃ N, O = O0 ++ N ∧ ∀ z ∈ N, Reach lk x z
  chain : ∀ p n r, P = (p, n) :: r → n ≤ (lk p).length ∧ (∀ i y, i < n → (lk p)[i]? = some y → y ∈ O) ∧ Wait lk O p r
  dec : P.Pairwise fun a b => ρ a.1 < ρ b.1
  fst : x ∈ O ∨ ∃ n, (x, n) ∈ P
  nP : ∀ z n m, (z, n) ∈ P → (z, m) ∈ P → n = m
variable {lk : Nat → List Nat} {ids : List Nat} {ρ : Nat → Nat} {x : Nat} {O0 O E : List Nat} {P : List (Nat × Nat)}
theorem VOk.begin (h : OOk lk ids O) (hE : ∀ z, z ∈ E ↔ z ∈ O) (hx : x ∉ O) (hi : x ∈ ids) : VOk lk ids ρ x O O (E ++ [x]) [(x, 0)] := by
  refine ⟨h, fun z => ?_, fun z n hz => ?_, fun z n hz => ?_, ⟨[], by simp, by simp⟩, fun p n r e => ?_, by simp, .inr ⟨0, by simp⟩, fun z n m h1 h2 => ?_⟩
  · rw [List.mem_append, hE]
    constructor
    · rintro (h | h)
      · exact .inl h
      · simp at h; exact .inr ⟨0, by simp [h]⟩
    · rintro (h | ⟨n, h⟩)
      · exact .inl h
      · simp at h; exact .inr (by simp [h.1])
  · simp at hz; rw [hz.1]; exact hx
  · simp at hz; rw [hz.1]; exact ⟨hi, .refl⟩
  · simp at e
    obtain ⟨⟨rfl, rfl⟩, rfl⟩ := e
    exact ⟨Nat.zero_le _, fun i y hi => by omega, trivial⟩
  · simp at h1 h2; omega
/-- the link that is looked at leads to one that is in the order, if it has been met -/
theorem VOk.met {p n y : Nat} {r : List (Nat × Nat)} (hlow : ∀ i ∈ ids, ∀ k ∈ lk i, ρ k < ρ i) (h : VOk lk ids ρ x O0 O E ((p, n) :: r)) (hy : (lk p)[n]? = some y) (hE : y ∈ E) : y ∈ O := by
  rcases (h.been y).1 hE with h1 | ⟨m, h1⟩
  · exact h1
  · have hp := (h.inn p n (by simp)).1
    have hl := hlow p hp y (List.mem_of_getElem? hy)
    rcases List.mem_cons.1 h1 with h2 | h2
    · have : y = p := fstE h2
      subst this; omega
    · have := (List.pairwise_cons.1 h.dec).1 _ h2
      have : ρ p < ρ y := this
      omega
theorem VOk.over {p n y : Nat} {r : List (Nat × Nat)} (h : VOk lk ids ρ x O0 O E ((p, n) :: r)) (hy : (lk p)[n]? = some y) (hO : y ∈ O) : VOk lk ids ρ x O0 O E ((p, n + 1) :: r) := by
  have hc := h.chain p n r rfl
  have hn : n < (lk p).length := (List.getElem?_eq_some_iff.1 hy).1
  have hex : ∀ z, (∃ m, (z, m) ∈ (p, n) :: r) ↔ ∃ m, (z, m) ∈ (p, n + 1) :: r := fun z => by
    constructor
    · rintro ⟨m, hm⟩
      rcases List.mem_cons.1 hm with h1 | h1
      · exact ⟨n + 1, by rw [fstE h1]; simp⟩
      · exact ⟨m, List.mem_cons_of_mem _ h1⟩
    · rintro ⟨m, hm⟩
      rcases List.mem_cons.1 hm with h1 | h1
      · exact ⟨n, by rw [fstE h1]; simp⟩
      · exact ⟨m, List.mem_cons_of_mem _ h1⟩
  have hnr : ∀ m, (p, m) ∉ r := fun m hm => by
    have := (List.pairwise_cons.1 h.dec).1 _ hm
    exact absurd this (Nat.lt_irrefl _)
  refine ⟨h.ord, fun z => by rw [h.been z, hex z], fun z m hm => ?_, fun z m hm => ?_, h.pre, fun q m r' e => ?_, ?_, ?_, fun z m m' h1 h2 => ?_⟩
  · obtain ⟨m', hm'⟩ := (hex z).2 ⟨m, hm⟩
    exact h.out z m' hm'
  · obtain ⟨m', hm'⟩ := (hex z).2 ⟨m, hm⟩
    exact h.inn z m' hm'
  · simp at e
    obtain ⟨⟨rfl, rfl⟩, rfl⟩ := e
    refine ⟨by omega, fun i y' hi hy' => ?_, hc.2.2⟩
    by_cases e : i = n
    · subst e
      rw [hy] at hy'
      exact Option.some.inj hy' ▸ hO
    · exact hc.2.1 i y' (by omega) hy'
  · exact List.pairwise_cons.2 (List.pairwise_cons.1 h.dec)
  · rcases h.fst with h1 | h1
    · exact .inl h1
    · exact .inr ((hex x).1 h1)
  · rcases List.mem_cons.1 h1 with a1 | a1
    · rcases List.mem_cons.1 h2 with a2 | a2
      · exact (sndE a1).trans (sndE a2).symm
      · rw [fstE a1] at a2; exact absurd a2 (hnr _)
    · rcases List.mem_cons.1 h2 with a2 | a2
      · rw [fstE a2] at a1; exact absurd a1 (hnr _)
      · exact h.nP z m m' (List.mem_cons_of_mem _ a1) (List.mem_cons_of_mem _ a2)
/-- one that has not been met: deeper -/
theorem VOk.push {p n y : Nat} {r : List (Nat × Nat)} (hin : ∀ i ∈ ids, ∀ k ∈ lk i, k ∈ ids) (hlow : ∀ i ∈ ids, ∀ k ∈ lk i, ρ k < ρ i) (h : VOk lk ids ρ x O0 O E ((p, n) :: r)) (hy : (lk p)[n]? = some y) (hE : y ∉ E) : VOk lk ids ρ x O0 O (E ++ [y]) ((y, 0) :: (p, n + 1) :: r) := by
  have hc := h.chain p n r rfl
  have hyl := List.mem_of_getElem? hy
  have hp := h.inn p n (by simp)
  have hyO : y ∉ O := fun e => hE ((h.been y).2 (.inl e))
  have hyP : ∀ m, (y, m) ∉ (p, n) :: r := fun m e => hE ((h.been y).2 (.inr ⟨m, e⟩))
  have hor : ∀ z m, (z, m) ∈ (y, 0) :: (p, n + 1) :: r → (z = y ∧ m = 0) ∨ (z = p ∧ m = n + 1) ∨ (z, m) ∈ r := fun z m hm => by
    rcases List.mem_cons.1 hm with h1 | h1
    · exact .inl ⟨fstE h1, sndE h1⟩
    · rcases List.mem_cons.1 h1 with h1 | h1
      · exact .inr (.inl ⟨fstE h1, sndE h1⟩)
      · exact .inr (.inr h1)
  have hnr : ∀ m, (p, m) ∉ r := fun m hm => by
    have := (List.pairwise_cons.1 h.dec).1 _ hm
    exact absurd this (Nat.lt_irrefl _)
  have hnp : y ≠ p := fun e => hyP n (e ▸ by simp)
  refine ⟨h.ord, fun z => ?_, fun z m hm => ?_, fun z m hm => ?_, h.pre, fun q m r' e => ?_, ?_, ?_, fun z m m' h1 h2 => ?_⟩
  · rw [List.mem_append, h.been z]
    constructor
    · rintro ((h1 | ⟨m, h1⟩) | h1)
      · exact .inl h1
      · rcases List.mem_cons.1 h1 with h2 | h2
        · exact .inr ⟨n + 1, by rw [fstE h2]; simp⟩
        · exact .inr ⟨m, by simp [h2]⟩
      · simp at h1; exact .inr ⟨0, by simp [h1]⟩
    · rintro (h1 | ⟨m, h1⟩)
      · exact .inl (.inl h1)
      · rcases hor z m h1 with h2 | h2 | h2
        · exact .inr (by simp [h2.1])
        · exact .inl (.inr ⟨n, by simp [h2.1]⟩)
        · exact .inl (.inr ⟨m, by simp [h2]⟩)
  · rcases hor z m hm with h2 | h2 | h2
    · rw [h2.1]; exact hyO
    · rw [h2.1]; exact h.out p n (by simp)
    · exact h.out z m (by simp [h2])
  · rcases hor z m hm with h2 | h2 | h2
    · rw [h2.1]; exact ⟨hin p hp.1 y hyl, hp.2.step hyl⟩
    · rw [h2.1]; exact hp
    · exact h.inn z m (by simp [h2])
  · simp at e
    obtain ⟨⟨rfl, rfl⟩, rfl⟩ := e
    exact ⟨Nat.zero_le _, fun i y' hi => by omega, ⟨n, rfl, hy, hc.2.1⟩, hc.2.2⟩
  · have hd := List.pairwise_cons.1 h.dec
    have hl := hlow p hp.1 y hyl
    refine List.pairwise_cons.2 ⟨fun b hb => ?_, List.pairwise_cons.2 hd⟩
    rcases List.mem_cons.1 hb with h1 | h1
    · rw [h1]; exact hl
    · have := hd.1 b h1
      have : ρ p < ρ b.1 := this
      show ρ y < ρ b.1
      omega
  · rcases h.fst with h1 | ⟨m, h1⟩
    · exact .inl h1
    · rcases List.mem_cons.1 h1 with h2 | h2
      · exact .inr ⟨n + 1, by rw [fstE h2]; simp⟩
      · exact .inr ⟨m, by simp [h2]⟩
  · rcases hor z m h1 with a1 | a1 | a1
    · rcases hor z m' h2 with a2 | a2 | a2
      · omega
      · exact absurd (a1.1.symm.trans a2.1) hnp
      · rw [a1.1] at a2; exact absurd (List.mem_cons_of_mem _ a2) (hyP _)
    · rcases hor z m' h2 with a2 | a2 | a2
      · exact absurd (a2.1.symm.trans a1.1) hnp
      · omega
      · rw [a1.1] at a2; exact absurd a2 (hnr _)
    · rcases hor z m' h2 with a2 | a2 | a2
      · rw [a2.1] at a1; exact absurd (List.mem_cons_of_mem _ a1) (hyP _)
      · rw [a2.1] at a1; exact absurd a1 (hnr _)
      · exact h.nP z m m' (List.mem_cons_of_mem _ a1) (List.mem_cons_of_mem _ a2)
/-- all of its needs are in the order: it comes behind them -/
theorem VOk.pop {p n : Nat} {r : List (Nat × Nat)} (h : VOk lk ids ρ x O0 O E ((p, n) :: r)) (hn : n = (lk p).length) : VOk lk ids ρ x O0 (O ++ [p]) E r := by
  have hc := h.chain p n r rfl
  have hp := h.inn p n (by simp)
  have hpO := h.out p n (by simp)
  have hnr : ∀ m, (p, m) ∉ r := fun m hm => by
    have := (List.pairwise_cons.1 h.dec).1 _ hm
    exact absurd this (Nat.lt_irrefl _)
  refine ⟨h.ord.snoc hpO hp.1 fun y hy => ?_, fun z => ?_, fun z m hm => ?_, fun z m hm => h.inn z m (by simp [hm]), ?_, fun q m r' e => ?_, (List.pairwise_cons.1 h.dec).2, ?_, fun z m m' h1 h2 => h.nP z m m' (by simp [h1]) (by simp [h2])⟩
  · obtain ⟨i, hi⟩ := List.getElem?_of_mem hy
    exact hc.2.1 i y (by rw [hn]; exact (List.getElem?_eq_some_iff.1 hi).1) hi
  · rw [h.been z, List.mem_append]
    constructor
    · rintro (h1 | ⟨m, h1⟩)
      · exact .inl (.inl h1)
      · rcases List.mem_cons.1 h1 with h2 | h2
        · exact .inl (.inr (by rw [fstE h2]; simp))
        · exact .inr ⟨m, h2⟩
    · rintro ((h1 | h1) | ⟨m, h1⟩)
      · exact .inl h1
      · simp at h1; exact .inr ⟨n, by simp [h1]⟩
      · exact .inr ⟨m, by simp [h1]⟩
  · intro e
    rcases List.mem_append.1 e with h1 | h1
    · exact h.out z m (by simp [hm]) h1
    · simp at h1; rw [h1] at hm; exact hnr m hm
  · obtain ⟨N, hN, hr⟩ := h.pre
    refine ⟨N ++ [p], by rw [hN, List.append_assoc], fun z hz => ?_⟩
    rcases List.mem_append.1 hz with h1 | h1
    · exact hr z h1
    · simp at h1; rw [h1]; exact hp.2
  · subst e
    obtain ⟨⟨m', h1, h2, h3⟩, h4⟩ := hc.2.2
    have hm' : m' < (lk q).length := (List.getElem?_eq_some_iff.1 h2).1
    refine ⟨by omega, fun i y hi hy => ?_, h4.more fun z hz => List.mem_append.2 (.inl hz)⟩
    by_cases e : i = m'
    · subst e
      rw [h2] at hy
      rw [← Option.some.inj hy]; simp
    · exact List.mem_append.2 (.inl (h3 i y (by omega) hy))
  · rcases h.fst with h1 | ⟨m, h1⟩
    · exact .inl (List.mem_append.2 (.inl h1))
    · rcases List.mem_cons.1 h1 with h2 | h2
      · exact .inl (by rw [fstE h2]; simp)
      · exact .inr ⟨m, h2⟩
end Go.Proofs.Ytgkmmdkagiohgaa
end
