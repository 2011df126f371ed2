/-
  A node moves to another place.
  rename.
-/
import Derived.Test.YtgcodlicbdaddaaGreatDoorB32
import Derived.Test.YtgcodlicbdaddaaGreatDoorB30

section
set_option linter.unusedVariables false
set_option linter.unusedSimpArgs false
namespace Go.Proofs.YtgcodlicbdaddaaGreatDoor
open Go.RowKit BigFrame
set_option maxRecDepth 100000

section
variable {w : World} {B b : Nat} {A : Ad} {s : Tr}
/-- two places, boxed, as the tree turns -/
structure Box2 (w0 w : World) (B : Nat) (A : Ad) (s : Tr) (g1 g2 : Nat) (l1 l2 : List Value) : Prop where
  one : Vw w 171 g1 l1
  two : Vw w 171 g2 l2
  tree : TreeAt w B A s
  step : TStep w0 A w A
  own1 : A.own g1 = none
  own2 : A.own g2 = none
theorem Box2.turn {w0 w w' : World} {s' : Tr} {g1 g2 : Nat} {l1 l2 : List Value} (h : Box2 w0 w B A s g1 g2 l1 l2) (hT : TreeAt w' B A s') (hS : TStep w A w' A) : Box2 w0 w' B A s' g1 g2 l1 l2 where
  one := by have h1 := h.one; have h2 := h1.lt; unfold Vw at h1 ⊢; rw [hS.block _ h2 h.own1]; exact h1
  two := by have h1 := h.two; have h2 := h1.lt; unfold Vw at h1 ⊢; rw [hS.block _ h2 h.own2]; exact h1
  tree := hT
  step := h.step.trans hS
  own1 := h.own1
  own2 := h.own2
theorem TreeAt.none_past (h : TreeAt w B A s) {g : Nat} (hg : w.heap.size ≤ g) : A.own g = none := by
  cases e : A.own g with
  | none => rfl
  | some r => exact absurd (h.hi _ _ e).2 (by omega)
theorem box2_new (h : TreeAt w B A s) (a1 a2 a3 b1 b2 b3 : Value) :
    Box2 w ((w.alloc (.cells #[a1, a2, a3] 171)).alloc (.cells #[b1, b2, b3] 171)) B A s w.heap.size (w.heap.size + 1) [a1, a2, a3] [b1, b2, b3] := by
  have hb : Below w.heap.size w ((w.alloc (.cells #[a1, a2, a3] 171)).alloc (.cells #[b1, b2, b3] 171)) := ((Below.refl w.heap.size w).alloc (Nat.le_refl _) _).alloc (by simp) _
  refine ⟨?_, ?_, h.below hb, TStep.of_below A hb, h.none_past (Nat.le_refl _), h.none_past (Nat.le_succ _)⟩
  · exact (Vw.alloc w [a1, a2, a3] 171).on' ((Below.refl _ _).alloc (Nat.le_refl _) _)
  · exact Vw.alloc2 w _ [b1, b2, b3] 171
set_option maxHeartbeats 2000000 in
theorem move_any (h : TreeAt w B A s) (hs : s.nd.length ≤ 1000000) (hb : b ≤ 900000) {q r : Spot} {y x : Nd} (hq : LoseAt b s q.dir q.there y x) (hqn : NameP q.nm) (hrn : NameP r.nm) (h1 : r.there ≠ 0 → ∃ z1 v1, LoseAt b (s.take q) r.dir r.there z1 v1)
    (h2 : ∃ z2 x2, GiveAt b (if r.there ≠ 0 then (s.take q).lose r else s.take q) r.dir q.there r.nm z2 x2) (o : Option Addr) (ho : o = if r.there ≠ 0 then some ⟨A.nd r.there, 0, none⟩ else none) :
    Calls Tryz.prog 147 #[.pointer (some ⟨A.t, 0, none⟩), .agg #[.pointer (some ⟨A.nd q.dir, 0, none⟩), .string (strOf q.nm), .pointer (some ⟨A.nd q.there, 0, none⟩)], .agg #[.pointer (some ⟨A.nd r.dir, 0, none⟩), .string (strOf r.nm), .pointer o]] w (TurnPost B A (s.shift q r) w) := by
  obtain ⟨d, nm, i⟩ := q
  obtain ⟨e, mm, t⟩ := r
  simp only at hq hqn hrn h1 h2 ho ⊢
  obtain ⟨z2, x2, hg⟩ := h2
  have hul : s.shift ⟨d, nm, i⟩ ⟨e, mm, t⟩ = (if t ≠ 0 then (s.take ⟨d, nm, i⟩).lose ⟨e, mm, t⟩ else s.take ⟨d, nm, i⟩).hang ⟨e, mm, t⟩ i := rfl
  have hl1 := Lib.hid (show (s.take ⟨d, nm, i⟩).nd.length ≤ 1000000 by rw [Tr.take_len hq.dir hq.node hq.apart]; exact hs)
  have htk := Lib.hid (fun w' (hw' : TreeAt w' B A s) => take_any hw' (b := b) (by omega) hq.dir hq.kind hq.node hq.ok hq.pos hq.few hq.apart hqn.octs hqn.long hq.links)
  obtain ⟨s1, hs1⟩ : ∃ s1, s.take ⟨d, nm, i⟩ = s1 := ⟨_, rfl⟩
  rw [hs1] at htk hl1 hg h1 hul
  by_cases ht : t = 0
  · rw [if_neg (fun c => c ht)] at hg hul ho
    have hpt := Lib.hid (fun w' (hw' : TreeAt w' B A s1) => put_any hw' (b := b) (by omega) hg.dir hg.kind hg.node hg.ok hg.pos hg.few hg.apart hrn.octs hrn.long hg.free none t)
    subst ho
    obtain ⟨w0, hw0⟩ : ∃ w0, ((w.alloc (.cells #[.pointer (some ⟨A.nd d, 0, none⟩), .string (strOf nm), .pointer (some ⟨A.nd i, 0, none⟩)] 171)).alloc (.cells #[.pointer (some ⟨A.nd e, 0, none⟩), .string (strOf mm), .pointer none] 171)) = w0 := ⟨_, rfl⟩
    have Q0 := Lib.hid (box2_new h (.pointer (some ⟨A.nd d, 0, none⟩)) (.string (strOf nm)) (.pointer (some ⟨A.nd i, 0, none⟩)) (.pointer (some ⟨A.nd e, 0, none⟩)) (.string (strOf mm)) (.pointer none))
    rw [hw0] at Q0
    have k0 := Q0.out.one.cell (k := 0) rfl
    have k1 := Q0.out.one.cell (k := 1) rfl
    have k2 := Q0.out.one.cell (k := 2) rfl
    have hul' := Lib.hid hul
    clear hul hs1 hg h1 h hq
    go_enter Tryz.func147, Tryz.ntmps147
    go_wp2_with (first
      | (go_at_call 174; refine (htk.out _ Q0.out.tree).mono ?_; rintro e w1 ⟨rfl, ht1, hs1⟩; have Q1 := Lib.hid (Q0.out.turn ht1 hs1); have k2 := Q1.out.one.cell (k := 2) rfl; have j0 := Q1.out.two.cell (k := 0) rfl; have j1 := Q1.out.two.cell (k := 1) rfl; have j2 := Q1.out.two.cell (k := 2) rfl; clear ht1 hs1)
      | (go_at_call 130; refine (hpt.out _ Q1.out.tree).mono ?_; rintro e w2 ⟨rfl, ht2, hs2⟩; have T2 := Lib.hid ht2; have S2 := Lib.hid (Q1.out.step.trans hs2); clear ht2 hs2))
    go_end0
    rw [hul'.out]
    exact ⟨rfl, T2.out, S2.out⟩
  · rw [if_pos ht] at hg hul ho
    obtain ⟨z1, v1, hl⟩ := h1 ht
    have hls := Lib.hid (fun w' (hw' : TreeAt w' B A s1) => lose_any hw' hl1.out (b := b) (by omega) hl.dir hl.kind hl.node hl.ok hl.pos hl.few hl.apart hrn.octs hrn.long hl.links)
    have hpt := Lib.hid (fun w' (hw' : TreeAt w' B A (s1.lose ⟨e, mm, t⟩)) => put_any hw' (b := b) (by omega) hg.dir hg.kind hg.node hg.ok hg.pos hg.few hg.apart hrn.octs hrn.long hg.free (some ⟨A.nd t, 0, none⟩) t)
    subst ho
    obtain ⟨w0, hw0⟩ : ∃ w0, ((w.alloc (.cells #[.pointer (some ⟨A.nd d, 0, none⟩), .string (strOf nm), .pointer (some ⟨A.nd i, 0, none⟩)] 171)).alloc (.cells #[.pointer (some ⟨A.nd e, 0, none⟩), .string (strOf mm), .pointer (some ⟨A.nd t, 0, none⟩)] 171)) = w0 := ⟨_, rfl⟩
    have Q0 := Lib.hid (box2_new h (.pointer (some ⟨A.nd d, 0, none⟩)) (.string (strOf nm)) (.pointer (some ⟨A.nd i, 0, none⟩)) (.pointer (some ⟨A.nd e, 0, none⟩)) (.string (strOf mm)) (.pointer (some ⟨A.nd t, 0, none⟩)))
    rw [hw0] at Q0
    have k0 := Q0.out.one.cell (k := 0) rfl
    have k1 := Q0.out.one.cell (k := 1) rfl
    have k2 := Q0.out.one.cell (k := 2) rfl
    have hul' := Lib.hid hul
    clear hul hs1 hg h1 h hq hl
    go_enter Tryz.func147, Tryz.ntmps147
    go_wp2_with (first
      | (go_at_call 174; refine (htk.out _ Q0.out.tree).mono ?_; rintro e w1 ⟨rfl, ht1, hs1⟩; have Q1 := Lib.hid (Q0.out.turn ht1 hs1); have k2 := Q1.out.one.cell (k := 2) rfl; have j0 := Q1.out.two.cell (k := 0) rfl; have j1 := Q1.out.two.cell (k := 1) rfl; have j2 := Q1.out.two.cell (k := 2) rfl; clear ht1 hs1)
      | (go_at_call 143; refine (hls.out _ Q1.out.tree).mono ?_; rintro e w3 ⟨rfl, ht1, hs1⟩; have Q3 := Lib.hid (Q1.out.turn ht1 hs1); have k2 := Q3.out.one.cell (k := 2) rfl; have j0 := Q3.out.two.cell (k := 0) rfl; have j1 := Q3.out.two.cell (k := 1) rfl; have j2 := Q3.out.two.cell (k := 2) rfl; clear ht1 hs1)
      | (go_at_call 130; refine (hpt.out _ Q3.out.tree).mono ?_; rintro e w2 ⟨rfl, ht2, hs2⟩; have T2 := Lib.hid ht2; have S2 := Lib.hid (Q3.out.step.trans hs2); clear ht2 hs2))
    go_end0
    rw [hul'.out]
    exact ⟨rfl, T2.out, S2.out⟩
end
end Go.Proofs.YtgcodlicbdaddaaGreatDoor
end

section
set_option linter.unusedVariables false
set_option linter.unusedSimpArgs false
namespace Go.Proofs.YtgcodlicbdaddaaGreatDoor
open Go.RowKit BigFrame
set_option maxRecDepth 100000

section
variable {w : World} {B b : Nat} {A : Ad} {s : Tr}
/-- the two texts that are asked first -/
theorem texts2 (w : World) (p q : ByteArray) : Vw (w.alloc (.cells #[.string p, .string q] 9)) 9 w.heap.size [.string p, .string q] := Vw.alloc w [.string p, .string q] 9
/-- a place, in a block of its own -/
theorem place_new {w0 w : World} (hb : Below w0.heap.size w0 w) (l : List Value) : Below w0.heap.size w0 (w.alloc (.cells l.toArray 171)) := hb.alloc hb.size _
set_option maxHeartbeats 2000000 in
theorem rename_any (h : TreeAt w B A s) (ho : Ok b s) (hb : b ≤ 900000) (p q : ByteArray) :
    Calls Tryz.prog 93 #[.pointer (some ⟨A.t, 0, none⟩), .string p, .string q] w (CodePost B A (s.rename (nb p) (nb q)).2 (s.rename (nb p) (nb q)).1.code w) := by
  have h' := Lib.hid h
  have hul : s.rename (nb p) (nb q) = if codeL (nb p) ≠ 0 then (ansC (codeL (nb p)), s) else if codeL (nb q) ≠ 0 then (ansC (codeL (nb q)), s) else
    if s.taken (nb p) ≠ 0 then (ansC (s.taken (nb p)), s) else if (s.place (nb q)).1 ≠ 0 then (ansC (s.place (nb q)).1, s) else
    if s.mayMove (s.place (nb p)).2.there (s.place (nb q)).2 ≠ 0 then (ansC (s.mayMove (s.place (nb p)).2.there (s.place (nb q)).2), s) else
    if (s.place (nb p)).2.there = (s.place (nb q)).2.there then (ans0, s) else (ans0, s.shift (s.place (nb p)).2 (s.place (nb q)).2) := rfl
  obtain ⟨c1, hc1⟩ : ∃ c, codeL (nb p) = c := ⟨_, rfl⟩
  obtain ⟨c2, hc2⟩ : ∃ c, codeL (nb q) = c := ⟨_, rfl⟩
  have hc1' := Lib.hid hc1
  have hc2' := Lib.hid hc2
  rw [hc1, hc2] at hul
  obtain ⟨w0, hw0⟩ : ∃ w0, w.alloc (.cells #[.string p, .string q] 9) = w0 := ⟨_, rfl⟩
  have V0 := Lib.hid (show Vw w0 9 w.heap.size [.string p, .string q] by rw [← hw0]; exact texts2 w p q)
  have B0 := Lib.hid (show Below w.heap.size w w0 by rw [← hw0]; exact (Below.refl w.heap.size w).alloc (Nat.le_refl _) _)
  have k0 := V0.out.cell (k := 0) rfl
  have k1 := V0.out.cell (k := 1) rfl
  clear hc1 hc2
  by_cases h1 : c1 = 0
  · subst h1
    rw [if_neg (fun c => c rfl)] at hul
    by_cases h2 : c2 = 0
    · subst h2
      rw [if_neg (fun c => c rfl)] at hul
      have hsp0 := Lib.hid (fun w' (hw' : TreeAt w' B A s) => taken_any hw' ho (by omega) p)
      unfold SpotPost at hsp0
      have htp0 := Lib.hid (fun w' (hw' : TreeAt w' B A s) => spot_any hw' ho (by omega) q)
      unfold PlacePost at htp0
      by_cases h3 : s.taken (nb p) = 0
      · obtain ⟨g1, g2⟩ := taken_bad h3
        obtain ⟨y, hq⟩ := ho.spot_at (nb_octs p) g1
        obtain ⟨x, hx⟩ := ho.spot_there (nb_octs p) g1 g2
        rw [h3, if_neg (fun c => c rfl)] at hul
        have hsp1 : ∀ w', TreeAt w' B A s → Calls Tryz.prog 142 #[.pointer (some ⟨A.t, 0, none⟩), .string p] w' fun e w2 => e = .returned (.tuple #[.agg #[.pointer (some ⟨A.nd (s.place (nb p)).2.dir, 0, none⟩), .string (strOf (s.place (nb p)).2.nm), .pointer (some ⟨A.nd (s.place (nb p)).2.there, 0, none⟩)], .int .i64 0]) ∧ Below w'.heap.size w' w2 := fun w' hw' => by
          have h4 := hsp0.out w' hw'
          rw [h3, g1, spV_some A hx] at h4
          exact h4
        obtain ⟨⟨d, nm, i⟩, hqq⟩ : ∃ z, (s.place (nb p)).2 = z := ⟨_, rfl⟩
        rw [hqq] at hsp1 hul hq hx g2
        have hsp := Lib.hid hsp1
        have hx' := Lib.hid (show s.opt i = some x from hx)
        by_cases h5 : (s.place (nb q)).1 = 0
        · obtain ⟨z, hr⟩ := ho.spot_at (nb_octs q) h5
          rw [h5, if_neg (fun c => c rfl)] at hul
          have hrt : (s.place (nb q)).2.there = 0 ∨ ∃ v, s.opt (s.place (nb q)).2.there = some v := by
            by_cases c : (s.place (nb q)).2.there = 0
            · exact .inl c
            · exact .inr (ho.spot_there (nb_octs q) h5 c)
          have htp1 : ∀ w', TreeAt w' B A s → Calls Tryz.prog 145 #[.pointer (some ⟨A.t, 0, none⟩), .string q] w' fun e w2 => e = .returned (.tuple #[.agg #[.pointer (some ⟨A.nd (s.place (nb q)).2.dir, 0, none⟩), .string (strOf (s.place (nb q)).2.nm), ptrO A s (s.place (nb q)).2.there], .int .i64 0]) ∧ Below w'.heap.size w' w2 := fun w' hw' => by
            have h4 := htp0.out w' hw'
            rw [h5] at h4
            unfold spV spC at h4
            rw [if_pos rfl] at h4
            exact h4
          obtain ⟨⟨e, mm, t⟩, hrr⟩ : ∃ z, (s.place (nb q)).2 = z := ⟨_, rfl⟩
          rw [hrr] at htp1 hul hr hrt
          obtain ⟨pt, hpt⟩ : ∃ v, ptrO A s t = v := ⟨_, rfl⟩
          obtain ⟨o, ho2, hot⟩ : ∃ o, pt = .pointer o ∧ o = if t ≠ 0 then some ⟨A.nd t, 0, none⟩ else none := by
            rw [← hpt]
            unfold ptrO
            by_cases c : t = 0
            · exact ⟨none, by rw [c, ho.zero]; rfl, by rw [if_neg (fun c2 => c2 c)]⟩
            · obtain ⟨v, hv⟩ := hrt.resolve_left c
              have hv : s.opt t = some v := hv
              exact ⟨_, by rw [hv]; rfl, by rw [if_pos c]⟩
          subst ho2
          have htp := Lib.hid (show ∀ w', TreeAt w' B A s → Calls Tryz.prog 145 #[.pointer (some ⟨A.t, 0, none⟩), .string q] w' fun e' w2 => e' = .returned (.tuple #[.agg #[.pointer (some ⟨A.nd e, 0, none⟩), .string (strOf mm), .pointer o], .int .i64 0]) ∧ Below w'.heap.size w' w2 from by
            have h6 := htp1
            simp only [hpt] at h6
            exact h6)
          obtain ⟨mc, hmc⟩ : ∃ c, s.mayMove i ⟨e, mm, t⟩ = c := ⟨_, rfl⟩
          have hmm := Lib.hid (show ∀ w', TreeAt w' B A s → Calls Tryz.prog 146 #[.pointer (some ⟨A.t, 0, none⟩), .pointer (some ⟨A.nd i, 0, none⟩), .agg #[.pointer (some ⟨A.nd e, 0, none⟩), .string (strOf mm), .pointer o]] w' (Tells (.int .i64 mc) w') from fun w' hw' => by
            have h6 := mayMove_any hw' ho hb hx'.out (q := ⟨e, mm, t⟩) hr.dir hr.name hrt
            rw [hmc] at h6
            simp only [hpt] at h6
            exact h6)
          simp only [hmc] at hul
          by_cases h7 : mc = 0
          · subst h7
            rw [if_neg (fun c => c rfl)] at hul
            by_cases h8 : i = t
            · rw [if_pos h8] at hul
              have hul' := Lib.hid hul
              have ht0 : t ≠ 0 := fun c => g2 (h8.trans c)
              rw [if_pos ht0] at hot
              have q1 := Lib.hid (show ∀ w', TreeAt w' B A s → (binOp .neq 77 (.pointer (some ⟨A.nd i, 0, none⟩)) (.pointer o)).run Tryz.prog w' = .ok (.bool false) w' from fun w' hw' => by
                rw [hot, neq_ptr hw' hx'.out (show s.opt t = some x by rw [← h8]; exact hx'.out), decide_eq_true h8]
                rfl)
              clear hul h hot hpt hqq hrr hsp1 htp1 hmc h3 h5 h8 ht0 g1 hr hrt hq hx
              go_enter Tryz.func93, Tryz.ntmps93
              go_wp2_with fail
              refine wp_loop_rounds 3 ?_
              rw [rounds_succ]
              go_wp2_with (go_at_call 144; refine (pLast_is p _ _ _ 0 hc1'.out rfl rfl).mono ?_; rintro e w1 ⟨rfl, hb1⟩; have B1 := Lib.hid (B0.out.trans (hb1.mono B0.out.size)); have V1 := Lib.hid (V0.out.on' hb1); have k0 := V1.out.cell (k := 0) rfl; have k1 := V1.out.cell (k := 1) rfl; clear hb1)
              rw [rounds_succ]
              go_wp2_with (go_at_call 144; refine (pLast_is q _ _ _ 0 hc2'.out rfl rfl).mono ?_; rintro e w2 ⟨rfl, hb2⟩; have B2 := Lib.hid (B1.out.trans (hb2.mono B1.out.size)); clear hb2)
              rw [rounds_succ]
              go_wp2_with (first
                | (go_at_call 142; refine (hsp.out _ (h'.out.below B2.out)).mono ?_; rintro e w3 ⟨rfl, hb3⟩; have B3 := Lib.hid (place_new (B2.out.trans (hb3.mono B2.out.size)) [.pointer (some ⟨A.nd d, 0, none⟩), .string (strOf nm), .pointer (some ⟨A.nd i, 0, none⟩)]); have Z3 := Lib.hid (Vw.alloc w3 [.pointer (some ⟨A.nd d, 0, none⟩), .string (strOf nm), .pointer (some ⟨A.nd i, 0, none⟩)] 171); have N3 := Lib.hid (B2.out.trans (hb3.mono B2.out.size)).size; clear hb3)
                | (go_at_call 145; refine (htp.out _ (h'.out.below B3.out)).mono ?_; rintro e' w4 ⟨rfl, hb4⟩; have B4 := Lib.hid (place_new (B3.out.trans (hb4.mono B3.out.size)) [.pointer (some ⟨A.nd e, 0, none⟩), .string (strOf mm), .pointer o]); have Z4 := Lib.hid (Vw.alloc w4 [.pointer (some ⟨A.nd e, 0, none⟩), .string (strOf mm), .pointer o] 171); have Y4 := Lib.hid ((Z3.out.on' hb4).on' ((Below.refl w4.heap.size w4).alloc (Nat.le_refl _) (.cells #[.pointer (some ⟨A.nd e, 0, none⟩), .string (strOf mm), .pointer o] 171))); have k0 := Y4.out.cell (k := 0) rfl; have k1 := Y4.out.cell (k := 1) rfl; have k2 := Y4.out.cell (k := 2) rfl; have j0 := Z4.out.cell (k := 0) rfl; have j1 := Z4.out.cell (k := 1) rfl; have j2 := Z4.out.cell (k := 2) rfl; clear hb4)
                | (go_at_call 146; refine (hmm.out _ (h'.out.below B4.out)).mono ?_; rintro e' w5 ⟨rfl, hb5⟩; have B5 := Lib.hid (B4.out.trans (hb5.mono B4.out.size)); have Y5 := Lib.hid (Y4.out.on' hb5); have Z5 := Lib.hid (Z4.out.on' hb5); have k0 := Y5.out.cell (k := 0) rfl; have k1 := Y5.out.cell (k := 1) rfl; have k2 := Y5.out.cell (k := 2) rfl; have j0 := Z5.out.cell (k := 0) rfl; have j1 := Z5.out.cell (k := 1) rfl; have j2 := Z5.out.cell (k := 2) rfl; have q2 := q1.out _ (h'.out.below B5.out); clear hb5))
              go_ret
              rw [hul'.out]
              exact ⟨rfl, A, h'.out.below B5.out, TStep.of_below A B5.out⟩
            · rw [if_neg h8] at hul
              have hul' := Lib.hid hul
              obtain ⟨_, m1, m2, m3⟩ := ho.shift_both hq hr g2 hx h8 hmc
              have hmv := Lib.hid (fun w' (hw' : TreeAt w' B A s) => move_any hw' (by have := ho.len.2; omega) hb m1 hq.name hr.name m2 m3 o hot)
              have q1 := Lib.hid (show ∀ w', TreeAt w' B A s → (binOp .neq 77 (.pointer (some ⟨A.nd i, 0, none⟩)) (.pointer o)).run Tryz.prog w' = .ok (.bool true) w' from fun w' hw' => by
                by_cases c : t = 0
                · rw [hot, if_neg (fun c2 => c2 c)]
                  rfl
                · obtain ⟨v, hv⟩ := hrt.resolve_left c
                  rw [hot, if_pos c, neq_ptr hw' hx'.out hv, decide_eq_false h8]
                  rfl)
              clear hul h hpt hqq hrr hsp1 htp1 hmc h3 h5 h8 g1 hr hrt hq hx m1 m2 m3 hot
              go_enter Tryz.func93, Tryz.ntmps93
              go_wp2_with fail
              refine wp_loop_rounds 3 ?_
              rw [rounds_succ]
              go_wp2_with (go_at_call 144; refine (pLast_is p _ _ _ 0 hc1'.out rfl rfl).mono ?_; rintro e w1 ⟨rfl, hb1⟩; have B1 := Lib.hid (B0.out.trans (hb1.mono B0.out.size)); have V1 := Lib.hid (V0.out.on' hb1); have k0 := V1.out.cell (k := 0) rfl; have k1 := V1.out.cell (k := 1) rfl; clear hb1)
              rw [rounds_succ]
              go_wp2_with (go_at_call 144; refine (pLast_is q _ _ _ 0 hc2'.out rfl rfl).mono ?_; rintro e w2 ⟨rfl, hb2⟩; have B2 := Lib.hid (B1.out.trans (hb2.mono B1.out.size)); clear hb2)
              rw [rounds_succ]
              go_wp2_with (first
                | (go_at_call 142; refine (hsp.out _ (h'.out.below B2.out)).mono ?_; rintro e w3 ⟨rfl, hb3⟩; have B3 := Lib.hid (place_new (B2.out.trans (hb3.mono B2.out.size)) [.pointer (some ⟨A.nd d, 0, none⟩), .string (strOf nm), .pointer (some ⟨A.nd i, 0, none⟩)]); have Z3 := Lib.hid (Vw.alloc w3 [.pointer (some ⟨A.nd d, 0, none⟩), .string (strOf nm), .pointer (some ⟨A.nd i, 0, none⟩)] 171); have N3 := Lib.hid (B2.out.trans (hb3.mono B2.out.size)).size; clear hb3)
                | (go_at_call 145; refine (htp.out _ (h'.out.below B3.out)).mono ?_; rintro e' w4 ⟨rfl, hb4⟩; have B4 := Lib.hid (place_new (B3.out.trans (hb4.mono B3.out.size)) [.pointer (some ⟨A.nd e, 0, none⟩), .string (strOf mm), .pointer o]); have Z4 := Lib.hid (Vw.alloc w4 [.pointer (some ⟨A.nd e, 0, none⟩), .string (strOf mm), .pointer o] 171); have Y4 := Lib.hid ((Z3.out.on' hb4).on' ((Below.refl w4.heap.size w4).alloc (Nat.le_refl _) (.cells #[.pointer (some ⟨A.nd e, 0, none⟩), .string (strOf mm), .pointer o] 171))); have k0 := Y4.out.cell (k := 0) rfl; have k1 := Y4.out.cell (k := 1) rfl; have k2 := Y4.out.cell (k := 2) rfl; have j0 := Z4.out.cell (k := 0) rfl; have j1 := Z4.out.cell (k := 1) rfl; have j2 := Z4.out.cell (k := 2) rfl; clear hb4)
                | (go_at_call 146; refine (hmm.out _ (h'.out.below B4.out)).mono ?_; rintro e' w5 ⟨rfl, hb5⟩; have B5 := Lib.hid (B4.out.trans (hb5.mono B4.out.size)); have Y5 := Lib.hid (Y4.out.on' hb5); have Z5 := Lib.hid (Z4.out.on' hb5); have k0 := Y5.out.cell (k := 0) rfl; have k1 := Y5.out.cell (k := 1) rfl; have k2 := Y5.out.cell (k := 2) rfl; have j0 := Z5.out.cell (k := 0) rfl; have j1 := Z5.out.cell (k := 1) rfl; have j2 := Z5.out.cell (k := 2) rfl; have q2 := q1.out _ (h'.out.below B5.out); clear hb5)
                | (go_at_call 147; refine (hmv.out _ (h'.out.below B5.out)).mono ?_; rintro e' w6 ⟨rfl, hT6, hS6⟩; have T6 := Lib.hid hT6; have S6 := Lib.hid ((TStep.of_below A B5.out).trans hS6); clear hT6 hS6))
              go_ret
              rw [hul'.out]
              exact ⟨rfl, A, T6.out, S6.out⟩
          · rw [if_pos h7] at hul
            have hul' := Lib.hid hul
            have t0 : (mc != 0) = true := by rw [bne_iff_ne]; exact h7
            clear hul h hpt hqq hrr hsp1 htp1 hmc h3 h5 h7 g1 hr hrt hq hx hot
            go_enter Tryz.func93, Tryz.ntmps93
            go_wp2_with fail
            refine wp_loop_rounds 3 ?_
            rw [rounds_succ]
            go_wp2_with (go_at_call 144; refine (pLast_is p _ _ _ 0 hc1'.out rfl rfl).mono ?_; rintro e w1 ⟨rfl, hb1⟩; have B1 := Lib.hid (B0.out.trans (hb1.mono B0.out.size)); have V1 := Lib.hid (V0.out.on' hb1); have k0 := V1.out.cell (k := 0) rfl; have k1 := V1.out.cell (k := 1) rfl; clear hb1)
            rw [rounds_succ]
            go_wp2_with (go_at_call 144; refine (pLast_is q _ _ _ 0 hc2'.out rfl rfl).mono ?_; rintro e w2 ⟨rfl, hb2⟩; have B2 := Lib.hid (B1.out.trans (hb2.mono B1.out.size)); clear hb2)
            rw [rounds_succ]
            go_wp2_with (first
              | (go_at_call 142; refine (hsp.out _ (h'.out.below B2.out)).mono ?_; rintro e w3 ⟨rfl, hb3⟩; have B3 := Lib.hid (place_new (B2.out.trans (hb3.mono B2.out.size)) [.pointer (some ⟨A.nd d, 0, none⟩), .string (strOf nm), .pointer (some ⟨A.nd i, 0, none⟩)]); have Z3 := Lib.hid (Vw.alloc w3 [.pointer (some ⟨A.nd d, 0, none⟩), .string (strOf nm), .pointer (some ⟨A.nd i, 0, none⟩)] 171); have N3 := Lib.hid (B2.out.trans (hb3.mono B2.out.size)).size; clear hb3)
              | (go_at_call 145; refine (htp.out _ (h'.out.below B3.out)).mono ?_; rintro e' w4 ⟨rfl, hb4⟩; have B4 := Lib.hid (place_new (B3.out.trans (hb4.mono B3.out.size)) [.pointer (some ⟨A.nd e, 0, none⟩), .string (strOf mm), .pointer o]); have Z4 := Lib.hid (Vw.alloc w4 [.pointer (some ⟨A.nd e, 0, none⟩), .string (strOf mm), .pointer o] 171); have Y4 := Lib.hid ((Z3.out.on' hb4).on' ((Below.refl w4.heap.size w4).alloc (Nat.le_refl _) (.cells #[.pointer (some ⟨A.nd e, 0, none⟩), .string (strOf mm), .pointer o] 171))); have k0 := Y4.out.cell (k := 0) rfl; have k1 := Y4.out.cell (k := 1) rfl; have k2 := Y4.out.cell (k := 2) rfl; have j0 := Z4.out.cell (k := 0) rfl; have j1 := Z4.out.cell (k := 1) rfl; have j2 := Z4.out.cell (k := 2) rfl; clear hb4)
              | (go_at_call 146; refine (hmm.out _ (h'.out.below B4.out)).mono ?_; rintro e' w5 ⟨rfl, hb5⟩; have B5 := Lib.hid (B4.out.trans (hb5.mono B4.out.size)); have Y5 := Lib.hid (Y4.out.on' hb5); have Z5 := Lib.hid (Z4.out.on' hb5); have k0 := Y5.out.cell (k := 0) rfl; have k1 := Y5.out.cell (k := 1) rfl; have k2 := Y5.out.cell (k := 2) rfl; have j0 := Z5.out.cell (k := 0) rfl; have j1 := Z5.out.cell (k := 1) rfl; have j2 := Z5.out.cell (k := 2) rfl; clear hb5))
            go_ret
            rw [hul'.out]
            exact ⟨rfl, A, h'.out.below B5.out, TStep.of_below A B5.out⟩
        · rw [if_pos h5] at hul
          have hul' := Lib.hid hul
          have htp := Lib.hid (show ∀ w', TreeAt w' B A s → Calls Tryz.prog 145 #[.pointer (some ⟨A.t, 0, none⟩), .string q] w' fun e w2 => e = .returned (.tuple #[.agg #[.pointer none, .string ⟨#[]⟩, .pointer none], .int .i64 (s.place (nb q)).1]) ∧ Below w'.heap.size w' w2 from fun w' hw' => by
            have h4 := htp0.out w' hw'
            rw [spV_bad A s _ h5] at h4
            exact h4)
          obtain ⟨c, hcc⟩ : ∃ c, (s.place (nb q)).1 = c := ⟨_, rfl⟩
          rw [hcc] at htp hul' h5
          have t0 : (c != 0) = true := by rw [bne_iff_ne]; exact h5
          clear hul h hqq hsp1 h3 h5 g1 hq hx hcc
          go_enter Tryz.func93, Tryz.ntmps93
          go_wp2_with fail
          refine wp_loop_rounds 3 ?_
          rw [rounds_succ]
          go_wp2_with (go_at_call 144; refine (pLast_is p _ _ _ 0 hc1'.out rfl rfl).mono ?_; rintro e w1 ⟨rfl, hb1⟩; have B1 := Lib.hid (B0.out.trans (hb1.mono B0.out.size)); have V1 := Lib.hid (V0.out.on' hb1); have k0 := V1.out.cell (k := 0) rfl; have k1 := V1.out.cell (k := 1) rfl; clear hb1)
          rw [rounds_succ]
          go_wp2_with (go_at_call 144; refine (pLast_is q _ _ _ 0 hc2'.out rfl rfl).mono ?_; rintro e w2 ⟨rfl, hb2⟩; have B2 := Lib.hid (B1.out.trans (hb2.mono B1.out.size)); clear hb2)
          rw [rounds_succ]
          go_wp2_with (first
            | (go_at_call 142; refine (hsp.out _ (h'.out.below B2.out)).mono ?_; rintro e w3 ⟨rfl, hb3⟩; have B3 := Lib.hid (place_new (B2.out.trans (hb3.mono B2.out.size)) [.pointer (some ⟨A.nd d, 0, none⟩), .string (strOf nm), .pointer (some ⟨A.nd i, 0, none⟩)]); have Z3 := Lib.hid (Vw.alloc w3 [.pointer (some ⟨A.nd d, 0, none⟩), .string (strOf nm), .pointer (some ⟨A.nd i, 0, none⟩)] 171); have N3 := Lib.hid (B2.out.trans (hb3.mono B2.out.size)).size; clear hb3)
            | (go_at_call 145; refine (htp.out _ (h'.out.below B3.out)).mono ?_; rintro e' w4 ⟨rfl, hb4⟩; have B4 := Lib.hid (place_new (B3.out.trans (hb4.mono B3.out.size)) [.pointer none, .string ⟨#[]⟩, .pointer none]); clear hb4))
          go_ret
          rw [hul'.out]
          exact ⟨rfl, A, h'.out.below B4.out, TStep.of_below A B4.out⟩
      · rw [if_pos h3] at hul
        have hul' := Lib.hid hul
        obtain ⟨o1, z, o2, hf⟩ := spV_form A s (s.place (nb p)).1 (s.place (nb p)).2
        have hsp := Lib.hid (show ∀ w', TreeAt w' B A s → Calls Tryz.prog 142 #[.pointer (some ⟨A.t, 0, none⟩), .string p] w' fun e w2 => e = .returned (.tuple #[.agg #[.pointer o1, .string z, .pointer o2], .int .i64 (s.taken (nb p))]) ∧ Below w'.heap.size w' w2 from fun w' hw' => by
          have h4 := hsp0.out w' hw'
          rw [hf] at h4
          exact h4)
        obtain ⟨c, hcc⟩ : ∃ c, s.taken (nb p) = c := ⟨_, rfl⟩
        rw [hcc] at hsp hul' h3
        have t0 : (c != 0) = true := by rw [bne_iff_ne]; exact h3
        clear hul h h3 hcc hf
        go_enter Tryz.func93, Tryz.ntmps93
        go_wp2_with fail
        refine wp_loop_rounds 3 ?_
        rw [rounds_succ]
        go_wp2_with (go_at_call 144; refine (pLast_is p _ _ _ 0 hc1'.out rfl rfl).mono ?_; rintro e w1 ⟨rfl, hb1⟩; have B1 := Lib.hid (B0.out.trans (hb1.mono B0.out.size)); have V1 := Lib.hid (V0.out.on' hb1); have k0 := V1.out.cell (k := 0) rfl; have k1 := V1.out.cell (k := 1) rfl; clear hb1)
        rw [rounds_succ]
        go_wp2_with (go_at_call 144; refine (pLast_is q _ _ _ 0 hc2'.out rfl rfl).mono ?_; rintro e w2 ⟨rfl, hb2⟩; have B2 := Lib.hid (B1.out.trans (hb2.mono B1.out.size)); clear hb2)
        rw [rounds_succ]
        go_wp2_with (go_at_call 142; refine (hsp.out _ (h'.out.below B2.out)).mono ?_; rintro e w3 ⟨rfl, hb3⟩; have B3 := Lib.hid (place_new (B2.out.trans (hb3.mono B2.out.size)) [.pointer o1, .string z, .pointer o2]); have Z3 := Lib.hid (Vw.alloc w3 [.pointer o1, .string z, .pointer o2] 171); have N3 := Lib.hid (B2.out.trans (hb3.mono B2.out.size)).size; clear hb3)
        go_ret
        rw [hul'.out]
        exact ⟨rfl, A, h'.out.below B3.out, TStep.of_below A B3.out⟩
    · rw [if_pos h2] at hul
      have hul' := Lib.hid hul
      have t0 : (c2 != 0) = true := by rw [bne_iff_ne]; exact h2
      clear hul h h2
      go_enter Tryz.func93, Tryz.ntmps93
      go_wp2_with fail
      refine wp_loop_rounds 3 ?_
      rw [rounds_succ]
      go_wp2_with (go_at_call 144; refine (pLast_is p _ _ _ 0 hc1'.out rfl rfl).mono ?_; rintro e w1 ⟨rfl, hb1⟩; have B1 := Lib.hid (B0.out.trans (hb1.mono B0.out.size)); have V1 := Lib.hid (V0.out.on' hb1); have k0 := V1.out.cell (k := 0) rfl; have k1 := V1.out.cell (k := 1) rfl; clear hb1)
      rw [rounds_succ]
      go_wp2_with (go_at_call 144; refine (pLast_is q _ _ _ c2 hc2'.out rfl rfl).mono ?_; rintro e w2 ⟨rfl, hb2⟩; have B2 := Lib.hid (B1.out.trans (hb2.mono B1.out.size)); clear hb2)
      go_ret
      rw [hul'.out]
      exact ⟨rfl, A, h'.out.below B2.out, TStep.of_below A B2.out⟩
  · rw [if_pos h1] at hul
    have hul' := Lib.hid hul
    have t0 : (c1 != 0) = true := by rw [bne_iff_ne]; exact h1
    clear hul h h1
    go_enter Tryz.func93, Tryz.ntmps93
    go_wp2_with fail
    refine wp_loop_rounds 3 ?_
    rw [rounds_succ]
    go_wp2_with (go_at_call 144; refine (pLast_is p _ _ _ c1 hc1'.out rfl rfl).mono ?_; rintro e w1 ⟨rfl, hb1⟩; have B1 := Lib.hid (B0.out.trans (hb1.mono B0.out.size)); have V1 := Lib.hid (V0.out.on' hb1); have k0 := V1.out.cell (k := 0) rfl; have k1 := V1.out.cell (k := 1) rfl; clear hb1)
    go_ret
    rw [hul'.out]
    exact ⟨rfl, A, h'.out.below B1.out, TStep.of_below A B1.out⟩
end
end Go.Proofs.YtgcodlicbdaddaaGreatDoor
end
