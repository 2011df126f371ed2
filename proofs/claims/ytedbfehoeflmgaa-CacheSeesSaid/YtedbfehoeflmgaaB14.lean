/-
  A cache: those held that are asked for.
  A cache: those that are dirty.
  A cache: New; what is held, what is dirty, as it is told.
-/
import Derived.Test.YtedbfehoeflmgaaB13
import Derived.Deep.LoopGhost

section
set_option linter.unusedVariables false
set_option linter.unusedSimpArgs false
namespace Go.Proofs.Ytedbfehoeflmgaa
open Go.RowKit BigFrame
set_option maxRecDepth 100000

section
variable {w w' wr : World} {B : Nat} {c : Ck} {L T : List Sx}
theorem all_c (b : Nat) (w : World) : Calls Try.prog 43 #[pv b] w fun e w' => e = .returned (.bool true) ∧ w = w' := by
  unfold pv
  go_enter Try.func43, Try.ntmps43
  go_wp2_with fail
  go_ret
  exact ⟨rfl, rfl⟩
theorem dirty_c {x : Sx} (h : Vw w 86 x.blk x.cells) (hl : x.b.length = 128) : Calls Try.prog 45 #[pv x.blk] w fun e w' => e = .returned (.bool x.dirty) ∧ w = w' := by
  have k := h.cell (Sx.c130 hl)
  unfold pv
  go_enter Try.func45, Try.ntmps45
  go_wp2_with fail
  go_ret
  exact ⟨rfl, rfl⟩
/-- the loop: these are still to come; these were found -/
structure AmRel (w : World) (c : Ck) (q : Sx → Bool) (l left : List (Lit × Value)) (v : Value) (T : List Sx) (wr : World) : Prop where
  on : MapOn 3 wr c.M w.heap.size l left
  own : wr.ownsRow w.heap.size 81 1 v T.length (pvs T)
  nd : T.Nodup
  mem : ∀ x, x ∈ T ↔ x ∈ c.H ∧ q x = true ∧ fndL left (.int .i64 (x.pos : Int)) = none
  few : T.length + left.length ≤ c.H.length
  bel : Below w.heap.size w wr
/-- those asked for, in order -/
def AmPost (q : Sx → Bool) (key : Sx → Nat) (H : List Sx) (w : World) (e : Ending) (w' : World) : Prop :=
  ∃ v S, e = .returned v ∧ w'.ownsRow w.heap.size 81 1 v S.length (pvs S) ∧ Below w.heap.size w w' ∧ S.Pairwise (fun x y => key x < key y) ∧ ∀ x, x ∈ S ↔ x ∈ H ∧ q x = true
theorem wpList_append_sx {w : World} {ops : Array Oper} {rest : List Oper} {o : Oper} {a : Act} {Q : Exit → Act → World → Prop} (hgd : o.guard = none) (s x : Operand)
    (ho : o.op = .call { callee := .builtin .append, args := #[s, x], argTypes := #[71, 71] })
    (B : Nat) (v : Value) (L : List Sx) (hs : a.eval s = v) (hown : w.ownsRow B 81 1 v L.length (pvs L)) (ad : Addr) (cap : Nat) (y : Sx) (hx : a.eval x = .slice (some ad) 1 cap) (hsrc : w.cell? ad = some (pv y.blk))
    (hlen : L.length + 1 ≤ 1000000) (hbase : B ≤ w.heap.size)
    (h : ∀ v' w', Hid (w'.ownsRow B 81 1 v' (L ++ [y]).length (pvs (L ++ [y]))) → Hid (w.grownBy w' v.ownBlock) → Hid (v'.ownBlock = v.ownBlock ∨ v'.ownBlock = some w.heap.size) → wpList Try.prog ops Q rest (a.put o.dst v') w') : wpList Try.prog ops Q (o :: rest) a w := by
  obtain ⟨i, hi, hz0, hz1, hz2⟩ := info_parts Try.infoPt
  refine wpList_append_own_at w hgd s x 71 ho B 81 i (.pointer none) 1 8 Try.underlying71 hi hz0 hz1 hz2 rfl (by decide) v L.length (pvs L) hs hown ad 1 cap (pvs [y]) hx rfl ?_ (pvs_one [y]) (by unfold maxLen; omega) (by omega) hbase ?_
  · intro j u hu
    have hj : j = 0 := by
      have := (List.getElem?_eq_some_iff.1 hu).1
      simp [pvs] at this
      exact this
    subst hj
    have hadd : ad.add 0 = ad := by unfold Addr.add; split <;> simp_all
    rw [hadd, hsrc]
    simpa [pvs] using hu
  · intro v' w' h1 h2 _ h4
    refine h v' w' ?_ h2 h4
    have e : pvs (L ++ [y]) = pvs L ++ pvs [y] := by simp [pvs]
    rw [e, List.length_append]; exact h1
theorem AmRel.start {l : List (Lit × Value)} {q : Sx → Bool} {w1 : World} (hm : MapOn 3 w1 c.M w.heap.size l l) (hb : Below w.heap.size w w1) (h2 : l.length = c.H.length) (h3 : ∀ a : Int, fndL l (.int .i64 a) = (get c.H a).map fun x => pv x.blk) (hA : Apart c.H) : AmRel w c q l l (.slice none 0 0) [] w1 :=
  ⟨hm, World.ownsRow_nil _ _ _ _, List.nodup_nil, fun x => ⟨(fun h => by cases h), (fun ⟨h1, _, h4⟩ => by rw [h3, get_at hA h1] at h4; cases h4)⟩, by rw [h2]; simp, hb⟩
/-- one more, asked for or not -/
theorem AmRel.turn {l left : List (Lit × Value)} {q : Sx → Bool} {v v' : Value} {T' : List Sx} {w4 : World} {x : Sx} (h : AmRel w c q l left v T wr) (hA : Apart c.H) (hx : x ∈ c.H) (hp : (Lit.int .i64 (x.pos : Int), pv x.blk) ∈ left) (hfl : fndL left (.int .i64 (x.pos : Int)) = some (pv x.blk))
    (hm : MapOn 3 w4 c.M w.heap.size l (strL left (.int .i64 (x.pos : Int)))) (hln : left.length = (strL left (.int .i64 (x.pos : Int))).length + 1)
    (ho : w4.ownsRow w.heap.size 81 1 v' T'.length (pvs T')) (hT : T' = if q x = true then T ++ [x] else T) (hb : Below w.heap.size w w4) : AmRel w c q l (strL left (.int .i64 (x.pos : Int))) v' T' w4 := by
  have hxT : x ∉ T := fun h2 => by
    have := ((h.mem x).1 h2).2.2
    rw [hfl] at this; cases this
  have hfew := h.few
  subst hT
  refine ⟨hm, ho, ?_, fun y => ?_, ?_, hb⟩
  · split
    · rw [List.nodup_append]
      exact ⟨h.nd, by simp, by intro a ha b hb2; simp at hb2; subst hb2; exact fun e => hxT (e ▸ ha)⟩
    · exact h.nd
  · rw [fndL_str]
    by_cases e : y = x
    · subst e
      rw [if_pos rfl]
      constructor
      · intro hy
        split at hy
        · rename_i hq; exact ⟨hx, hq, rfl⟩
        · exact absurd hy hxT
      · rintro ⟨_, hq, _⟩
        rw [if_pos hq]; exact List.mem_append_right _ List.mem_cons_self
    · have hm2 : y ∈ (if q x = true then T ++ [x] else T) ↔ y ∈ T := by
        split
        · rw [List.mem_append, List.mem_singleton]
          exact ⟨fun h => h.resolve_right e, .inl⟩
        · exact Iff.rfl
      rw [hm2, h.mem]
      constructor
      · rintro ⟨h1, h2, h3⟩
        refine ⟨h1, h2, ?_⟩
        split
        · rfl
        · exact h3
      · rintro ⟨h1, h2, h3⟩
        refine ⟨h1, h2, ?_⟩
        have hpe : ¬ (y.pos : Int) = (x.pos : Int) := fun e2 => e (hA.uniq h1 hx (by omega))
        rw [if_neg hpe] at h3; exact h3
  · split
    · rw [List.length_append]; simp; omega
    · omega
set_option maxHeartbeats 4000000 in
theorem among_held (h : CkN w B c) :
    Calls Try.prog 42 #[pv c.C, .func (.func 43) #[] #[], .func (.func 44) #[] #[]] w (AmPost (fun _ => true) Sx.used c.H w) := by
  have c3 := h.mem.hdr.cell (k := 3) rfl
  obtain ⟨l, hl0, hl2, hl3⟩ := h.mem.map
  have h' := Lib.hid h
  have hl0' := Lib.hid hl0
  have hl2' := Lib.hid hl2
  have hl3' := Lib.hid hl3
  have hap := Lib.hid (hl0.apart law_int)
  have hkl := Lib.hid (hl0.keys law_int)
  unfold pv
  clear h hl0 hl2 hl3
  go_enter Try.func42, Try.ntmps42
  go_wp2_with (at_range; refine wpList_map_range rfl _ rfl law_int Try.underlying70 c.M l rfl hl0'.out ?_; intro w1 hmo hb1 hs1)
  go_frame
  go_loopg [7, 9] (l.length + 1) (fun g v v9 wr => ∃ left T, g = left.length + 1 ∧ AmRel w c (fun _ => true) l left v T wr)
  case atStart => exact ⟨l, [], rfl, AmRel.start hmo.out hb1.out hl2'.out hl3'.out h'.out.ok.pos⟩
  case round =>
    obtain ⟨left, T, rfl, hR⟩ := hrel
    have hR' := Lib.hid hR
    have hmo2 := Lib.hid hR.on
    have hTl := hR.few
    have hgf := h'.out.ok.few
    clear hR
    have hlx := Lib.hid (show ∀ p ∈ left, ∀ k, p.1 = .int .i64 k → ∃ x ∈ c.H, p = (.int .i64 (x.pos : Int), pv x.blk) from fun p hp k hk => by
      obtain ⟨cc, hr, hsub, _⟩ := hmo2.out
      have hpl := hsub.subset hp
      have hf := fndL_mem (hkl.out p hpl) hap.out hpl
      rw [hk, hl3'.out] at hf
      cases hg : get c.H k with
      | none => rw [hg] at hf; cases hf
      | some x =>
        rw [hg] at hf
        obtain ⟨h1, h2⟩ := get_some hg
        exact ⟨x, h1, Prod.ext (by rw [hk, h2]) (Option.some.inj hf).symm⟩)
    go_wp2_with (first
      | (at_next; refine wpList_held_next rfl _ rfl c.M w.heap.size l left hlx.out (by simp [Act.eval]) hmo2.out (fun h0 => ?_) (fun x w2 hxi hp hm2 hln hg2 hs2 hen => ?_)))
    · subst h0
      have hsec : ∀ x ∈ c.H, Vw wr 86 x.blk x.cells ∧ x.b.length = 128 := fun x hx => ⟨(h'.out.mem.on hR'.out.bel (Nat.le_refl _)).sec x hx, h'.out.ok.len x hx⟩
      have hTH : ∀ x ∈ T, x ∈ c.H := fun x hx => ((hR'.out.mem x).1 hx).1
      have hso := Lib.hid (sort_row (w := wr) (B := w.heap.size) (H := c.H) (T := T) 44 Sx.used enters_age (fun W x y lx ly hx hy => byage_c (hx.cell (Sx.c129 lx)) (hy.cell (Sx.c129 ly))) (fun x hx y hy e => h'.out.ok.srt.uniq hx hy e) hsec hTH (by omega) hR'.out.own)
      have hfin := Lib.hid (fun (w5 : World) (ho : w5.ownsRow w.heap.size 81 1 u7 (sortS Sx.used T).length (pvs (sortS Sx.used T))) (hT5 : TurnS (fun k => u7.ownBlock = some k) wr w5) => show AmPost (fun _ => true) Sx.used c.H w (.returned u7) w5 from
        ⟨u7, sortS Sx.used T, rfl, ho, hR'.out.bel.trans (hT5.below hR'.out.bel.size fun k hk => (World.ownsRow.lt hR'.out.own k hk).1), sortS_lt hR'.out.nd (fun x hx y hy e => h'.out.ok.srt.uniq (hTH x hx) (hTH y hy) e), fun x => by
          rw [(sortS_perm Sx.used T).mem_iff, hR'.out.mem]
          exact ⟨fun ⟨h1, h2, _⟩ => ⟨h1, h2⟩, fun ⟨h1, h2⟩ => ⟨h1, h2, rfl⟩⟩⟩)
      refine hso.out.mono ?_
      rintro e w5 ⟨rfl, ho5, hT5⟩
      have F5 := Lib.hid (hfin.out w5 ho5 hT5)
      clear ho5 hT5
      go_wp2_with fail
      go_ret
      exact F5.out
    · have hB2 := Lib.hid (hR'.out.bel.grown hg2.out hR'.out.bel.size (fun k hk => by cases hk; exact Nat.le_refl _))
      have hO2 := Lib.hid (show w2.ownsRow w.heap.size 81 1 u7 T.length (pvs T) from own_blk hR'.out.own fun k hk => hg2.out.block k (World.ownsRow.lt hR'.out.own k hk).2 (fun e => iter_row hmo2.out hR'.out.own (hk.trans e)))
      have hfl := Lib.hid (show fndL left (.int .i64 (x.pos : Int)) = some (pv x.blk) from by
        have hpl : (Lit.int .i64 (x.pos : Int), pv x.blk) ∈ l := by
          obtain ⟨cc, hr, hsub, _⟩ := hmo2.out
          exact hsub.subset hp.out
        exact fndL_mem (p := (.int .i64 (x.pos : Int), pv x.blk)) (hkl.out _ hpl) (by
          obtain ⟨cc, hr, hsub, _⟩ := hmo2.out
          exact hap.out.sublist hsub) hp.out)
      refine (all_c _ _).mono ?_
      rintro e w3 ⟨rfl, rfl⟩
      have hz2 := hB2.out.size
      have hoa := Lib.hid (show (w2.alloc (.cells #[.pointer (some ⟨x.blk, 0, none⟩)] 81)).ownsRow w.heap.size 81 1 u7 T.length (pvs T) from own_blk hO2.out fun k hk => old_alloc w2 _ k (World.ownsRow.lt hO2.out k hk).2)
      have hna := Lib.hid (show (w2.alloc (.cells #[.pointer (some ⟨x.blk, 0, none⟩)] 81)).cell? ⟨w2.heap.size, 0, none⟩ = some (pv x.blk) from (Vw.alloc w2 [pv x.blk] 81).cell rfl)
      have hbz : w.heap.size ≤ (w2.alloc (.cells #[.pointer (some ⟨x.blk, 0, none⟩)] 81)).heap.size := by rw [size_alloc]; omega
      clear hs2
      go_wp2_with (at_builtin; refine wpList_append_sx rfl _ _ rfl w.heap.size _ T rfl hoa.out _ _ x rfl hna.out (by omega) hbz ?_; intro v' w4 ho4 hg4 hat4)
      go_roundg ((strL left (.int .i64 (x.pos : Int))).length + 1)
      case measure => have := hln.out; omega
      case rel =>
        have hTn : TurnS (fun k => u7.ownBlock = some k) w2 w4 := (TurnS.alloc _ w2 _).trans (TurnS.grown hg4.out fun k hk => hk)
        have hm4 := hm2.out.blk (hTn.block c.M hm2.out.at.lt fun e => map_row hm2.out.at hO2.out e) (hTn.block _ hm2.out.lt fun e => iter_row hm2.out hO2.out e)
        exact ⟨_, T ++ [x], rfl, hR'.out.turn h'.out.ok.pos hxi hp.out hfl.out hm4 hln.out ho4.out (by rw [if_pos rfl]) (hB2.out.trans (hTn.below hz2 fun k hk => (World.ownsRow.lt hO2.out k hk).1))⟩

end
end Go.Proofs.Ytedbfehoeflmgaa
end

section
set_option linter.unusedVariables false
set_option linter.unusedSimpArgs false
namespace Go.Proofs.Ytedbfehoeflmgaa
open Go.RowKit BigFrame
set_option maxRecDepth 100000

section
variable {w w' wr : World} {B : Nat} {c : Ck} {L T : List Sx}
set_option maxHeartbeats 4000000 in
theorem among_dirty (h : CkN w B c) :
    Calls Try.prog 42 #[pv c.C, .func (.func 45) #[] #[], .func (.func 46) #[] #[]] w (AmPost Sx.dirty Sx.pos c.H w) := by
  have c3 := h.mem.hdr.cell (k := 3) rfl
  obtain ⟨l, hl0, hl2, hl3⟩ := h.mem.map
  have h' := Lib.hid h
  have hl0' := Lib.hid hl0
  have hl2' := Lib.hid hl2
  have hl3' := Lib.hid hl3
  have hap := Lib.hid (hl0.apart law_int)
  have hkl := Lib.hid (hl0.keys law_int)
  unfold pv
  clear h hl0 hl2 hl3
  go_enter Try.func42, Try.ntmps42
  go_wp2_with (at_range; refine wpList_map_range rfl _ rfl law_int Try.underlying70 c.M l rfl hl0'.out ?_; intro w1 hmo hb1 hs1)
  go_frame
  go_loopg [7, 9] (l.length + 1) (fun g v v9 wr => ∃ left T, g = left.length + 1 ∧ AmRel w c Sx.dirty l left v T wr)
  case atStart => exact ⟨l, [], rfl, AmRel.start hmo.out hb1.out hl2'.out hl3'.out h'.out.ok.pos⟩
  case round =>
    obtain ⟨left, T, rfl, hR⟩ := hrel
    have hR' := Lib.hid hR
    have hmo2 := Lib.hid hR.on
    have hTl := hR.few
    have hgf := h'.out.ok.few
    clear hR
    have hlx := Lib.hid (show ∀ p ∈ left, ∀ k, p.1 = .int .i64 k → ∃ x ∈ c.H, p = (.int .i64 (x.pos : Int), pv x.blk) from fun p hp k hk => by
      obtain ⟨cc, hr, hsub, _⟩ := hmo2.out
      have hpl := hsub.subset hp
      have hf := fndL_mem (hkl.out p hpl) hap.out hpl
      rw [hk, hl3'.out] at hf
      cases hg : get c.H k with
      | none => rw [hg] at hf; cases hf
      | some x =>
        rw [hg] at hf
        obtain ⟨h1, h2⟩ := get_some hg
        exact ⟨x, h1, Prod.ext (by rw [hk, h2]) (Option.some.inj hf).symm⟩)
    go_wp2_with (first
      | (at_next; refine wpList_held_next rfl _ rfl c.M w.heap.size l left hlx.out (by simp [Act.eval]) hmo2.out (fun h0 => ?_) (fun x w2 hxi hp hm2 hln hg2 hs2 hen => ?_)))
    · subst h0
      have hsec : ∀ x ∈ c.H, Vw wr 86 x.blk x.cells ∧ x.b.length = 128 := fun x hx => ⟨(h'.out.mem.on hR'.out.bel (Nat.le_refl _)).sec x hx, h'.out.ok.len x hx⟩
      have hTH : ∀ x ∈ T, x ∈ c.H := fun x hx => ((hR'.out.mem x).1 hx).1
      have hso := Lib.hid (sort_row (w := wr) (B := w.heap.size) (H := c.H) (T := T) 46 Sx.pos enters_place (fun W x y lx ly hx hy => byplace_c (hx.cell x.c0) (hy.cell y.c0)) (fun x hx y hy e => h'.out.ok.pos.uniq hx hy e) hsec hTH (by omega) hR'.out.own)
      have hfin := Lib.hid (fun (w5 : World) (ho : w5.ownsRow w.heap.size 81 1 u7 (sortS Sx.pos T).length (pvs (sortS Sx.pos T))) (hT5 : TurnS (fun k => u7.ownBlock = some k) wr w5) => show AmPost Sx.dirty Sx.pos c.H w (.returned u7) w5 from
        ⟨u7, sortS Sx.pos T, rfl, ho, hR'.out.bel.trans (hT5.below hR'.out.bel.size fun k hk => (World.ownsRow.lt hR'.out.own k hk).1), sortS_lt hR'.out.nd (fun x hx y hy e => h'.out.ok.pos.uniq (hTH x hx) (hTH y hy) e), fun x => by
          rw [(sortS_perm Sx.pos T).mem_iff, hR'.out.mem]
          exact ⟨fun ⟨h1, h2, _⟩ => ⟨h1, h2⟩, fun ⟨h1, h2⟩ => ⟨h1, h2, rfl⟩⟩⟩)
      refine hso.out.mono ?_
      rintro e w5 ⟨rfl, ho5, hT5⟩
      have F5 := Lib.hid (hfin.out w5 ho5 hT5)
      clear ho5 hT5
      go_wp2_with fail
      go_ret
      exact F5.out
    · have hB2 := Lib.hid (hR'.out.bel.grown hg2.out hR'.out.bel.size (fun k hk => by cases hk; exact Nat.le_refl _))
      have hO2 := Lib.hid (show w2.ownsRow w.heap.size 81 1 u7 T.length (pvs T) from own_blk hR'.out.own fun k hk => hg2.out.block k (World.ownsRow.lt hR'.out.own k hk).2 (fun e => iter_row hmo2.out hR'.out.own (hk.trans e)))
      have hfl := Lib.hid (show fndL left (.int .i64 (x.pos : Int)) = some (pv x.blk) from by
        have hpl : (Lit.int .i64 (x.pos : Int), pv x.blk) ∈ l := by
          obtain ⟨cc, hr, hsub, _⟩ := hmo2.out
          exact hsub.subset hp.out
        exact fndL_mem (p := (.int .i64 (x.pos : Int), pv x.blk)) (hkl.out _ hpl) (by
          obtain ⟨cc, hr, hsub, _⟩ := hmo2.out
          exact hap.out.sublist hsub) hp.out)
      have hdc := Lib.hid (dirty_c (w := w2) ((h'.out.mem.on hB2.out (Nat.le_refl _)).sec x hxi) (h'.out.ok.len x hxi))
      obtain ⟨dd, hdd0⟩ : ∃ dd, x.dirty = dd := ⟨_, rfl⟩
      have hdd := Lib.hid hdd0
      rw [hdd0] at hdc
      refine hdc.out.mono ?_
      rintro e w3 ⟨rfl, rfl⟩
      clear hdd0
      cases dd with
      | false =>
        go_wp2_with fail
        go_roundg ((strL left (.int .i64 (x.pos : Int))).length + 1)
        case measure => have := hln.out; omega
        case rel => exact ⟨_, T, rfl, hR'.out.turn h'.out.ok.pos hxi hp.out hfl.out hm2.out hln.out hO2.out (by rw [if_neg (by rw [hdd.out]; decide)]) hB2.out⟩
      | true =>
        have hz2 := hB2.out.size
        have hoa := Lib.hid (show (w2.alloc (.cells #[.pointer (some ⟨x.blk, 0, none⟩)] 81)).ownsRow w.heap.size 81 1 u7 T.length (pvs T) from own_blk hO2.out fun k hk => old_alloc w2 _ k (World.ownsRow.lt hO2.out k hk).2)
        have hna := Lib.hid (show (w2.alloc (.cells #[.pointer (some ⟨x.blk, 0, none⟩)] 81)).cell? ⟨w2.heap.size, 0, none⟩ = some (pv x.blk) from (Vw.alloc w2 [pv x.blk] 81).cell rfl)
        have hbz : w.heap.size ≤ (w2.alloc (.cells #[.pointer (some ⟨x.blk, 0, none⟩)] 81)).heap.size := by rw [size_alloc]; omega
        clear hs2
        go_wp2_with (at_builtin; refine wpList_append_sx rfl _ _ rfl w.heap.size _ T rfl hoa.out _ _ x rfl hna.out (by omega) hbz ?_; intro v' w4 ho4 hg4 hat4)
        go_roundg ((strL left (.int .i64 (x.pos : Int))).length + 1)
        case measure => have := hln.out; omega
        case rel =>
          have hTn : TurnS (fun k => u7.ownBlock = some k) w2 w4 := (TurnS.alloc _ w2 _).trans (TurnS.grown hg4.out fun k hk => hk)
          have hm4 := hm2.out.blk (hTn.block c.M hm2.out.at.lt fun e => map_row hm2.out.at hO2.out e) (hTn.block _ hm2.out.lt fun e => iter_row hm2.out hO2.out e)
          exact ⟨_, T ++ [x], rfl, hR'.out.turn h'.out.ok.pos hxi hp.out hfl.out hm4 hln.out ho4.out (by rw [if_pos hdd.out]) (hB2.out.trans (hTn.below hz2 fun k hk => (World.ownsRow.lt hO2.out k hk).1))⟩
end
end Go.Proofs.Ytedbfehoeflmgaa
end

section
set_option linter.unusedVariables false
set_option linter.unusedSimpArgs false
namespace Go.Proofs.Ytedbfehoeflmgaa
open Go.RowKit BigFrame
set_option maxRecDepth 100000

section
variable {w w' wr : World} {B : Nat} {c : Ck} {L T S : List Sx}
theorem take_snoc {α : Type} {l : List α} {k : Nat} {x : α} (h : l[k]? = some x) : l.take (k + 1) = l.take k ++ [x] := by
  rw [List.take_add_one, h]; rfl
/-- what tells numbers -/
def TellZ (l : List Nat) (w : World) (e : Ending) (w' : World) : Prop := ∃ v, e = .returned v ∧ OwnZ w' w.heap.size v l ∧ Below w.heap.size w w'
set_option maxHeartbeats 2000000 in
theorem places_c {v : Value} (ho : w.ownsRow B 81 1 v S.length (pvs S)) (hS : ∀ x ∈ S, Vw w 86 x.blk x.cells) (hn : S.length ≤ 100000) :
    Calls Try.prog 41 #[v] w (TellZ (S.map Sx.pos) w) := by
  have hS' := Lib.hid hS
  obtain ⟨n, hn'⟩ : ∃ n, S.length = n := ⟨_, rfl⟩
  have hfm := own_form1 ho
  obtain ⟨a, cap, hva, hnc, han⟩ := own_form ho
  rw [hn'] at hn hva hnc
  have hrow := Lib.hid (fun (k : Nat) (hk : k < n) => show ∃ g x, a = some ⟨g, 0, none⟩ ∧ S[k]? = some x ∧ w.cell? ⟨g, k, none⟩ = some (pv x.blk) from by
    have hky : k < S.length := by omega
    rcases hfm with ⟨_, e0⟩ | ⟨g, cap', cur, e, hcu, _, _, _, _, hcx⟩
    · rw [e0] at hky; simp at hky
    · rw [hva] at e
      cases e
      exact ⟨g, _, rfl, List.getElem?_eq_getElem hky, hcu.cell (hcx k _ (List.getElem?_eq_getElem hky))⟩)
  have hnn := Lib.hid hn'
  rw [hva]
  clear ho hS hfm hva han hn'
  go_enter Try.func41, Try.ntmps41
  go_wp2_with fail
  go_loopg [3, 5, 8] n (fun gk v3 v5 v8 wr => ∃ k : Nat, k + gk = n ∧ v8 = .int .i64 (k : Int) ∧ OwnZ wr w.heap.size v3 ((S.map Sx.pos).take k) ∧ Below w.heap.size w wr)
  case atStart => exact ⟨0, by omega, rfl, OwnZ.nil _ _, Below.refl _ _⟩
  case round =>
    obtain ⟨k, hkg, rfl, hown, hbel⟩ := hrel
    by_cases hlt : k < n
    · obtain ⟨g, rfl⟩ : ∃ g, gk = g + 1 := ⟨gk - 1, by omega⟩
      obtain ⟨gb, x, rfl, hx, hc0⟩ := hrow.out k hlt
      have hcl := hbel.cell (World.block_lt_of_cell? w _ hc0)
      have hc : wr.cell? ⟨gb, k, none⟩ = some (pv x.blk) := by rw [hcl]; exact hc0
      have hxm := hS'.out x (List.mem_of_getElem? hx)
      have hp := (hxm.on hbel hxm.lt).cell x.c0
      have hpk : (S.map Sx.pos)[k]? = some x.pos := by rw [List.getElem?_map, hx]; rfl
      have hpk' := Lib.hid hpk
      have htl : ((S.map Sx.pos).take k).length ≤ 100000 := by rw [List.length_take]; omega
      have hown' := Lib.hid hown
      have hbel' := Lib.hid hbel
      have hsz := hbel.size
      have hk1 : (k : Int) < (n : Int) := by omega
      unfold pv at hc
      clear hown hbel hx hc0 hcl hxm hpk
      go_wp2_with (at_builtin; refine wpList_append_nat rfl _ _ rfl w.heap.size _ ((S.map Sx.pos).take k) rfl (hown'.out.alloc _) _ _ x.pos rfl (nat_new _ _) (by omega) (by rw [size_alloc]; omega) ?_; intro v' w4 ho4 hg4 hat4)
      go_roundg g
      case measure => omega
      case rel =>
        refine ⟨k + 1, by omega, by go_num, by rw [take_snoc hpk'.out]; exact ho4.out, ?_⟩
        exact (hbel'.out.alloc hsz _).grown hg4.out (by rw [size_alloc]; omega) (fun j hj => (hown'.out.block j hj).1)
    · have hkn : k = n := by omega
      subst hkn
      have hte : (S.map Sx.pos).take k = S.map Sx.pos := List.take_of_length_le (by rw [List.length_map, hnn.out]; exact Nat.le_refl _)
      rw [hte] at hown
      have F := Lib.hid (show TellZ (S.map Sx.pos) w (.returned u3) wr from ⟨u3, rfl, hown, hbel⟩)
      clear hown hbel
      go_wp2_with fail
      go_ret
      exact F.out
theorem TellZ.lift {l : List Nat} {w w1 : World} (hb : Below w.heap.size w w1) {e : Ending} {w' : World} (h : TellZ l w1 e w') : TellZ l w e w' := by
  obtain ⟨v, rfl, ho, hb2⟩ := h
  exact ⟨v, rfl, ho.lower hb.size, hb.trans (hb2.mono hb.size)⟩
theorem held_c (h : CkN w B c) : Calls Try.prog 12 #[pv c.C] w (TellZ (c.H.map Sx.pos) w) := by
  have ham := Lib.hid (among_held h)
  have h' := Lib.hid h
  have hpl := Lib.hid (fun (w1 : World) (v : Value) (S : List Sx) (ho : w1.ownsRow w.heap.size 81 1 v S.length (pvs S)) (hb : Below w.heap.size w w1) (hp : S.Pairwise fun x y => x.used < y.used) (hm : ∀ x, x ∈ S ↔ x ∈ c.H ∧ (fun _ : Sx => true) x = true) => show Calls Try.prog 41 #[v] w1 (TellZ (c.H.map Sx.pos) w) from by
    have e : S = c.H := sorted_same (key := Sx.used) hp h.ok.srt fun x => by rw [hm]; simp
    subst e
    exact (places_c ho (fun x hx => ((h.mem.on hb (Nat.le_refl _)).sec x hx)) (Nat.le_trans h.ok.few (by omega))).mono fun e w' h1 => h1.lift hb)
  unfold pv
  unfold pv at ham
  clear h
  go_enter Try.func12, Try.ntmps12
  go_wp2_with (first
    | (go_at_call 42; refine ham.out.mono ?_; rintro e w1 ⟨v1, S1, rfl, ho, hb, hp, hm⟩; have P1 := Lib.hid (hpl.out _ _ _ ho hb hp hm); clear ho hb hp hm)
    | (go_at_call 41; refine P1.out.mono ?_; rintro e w2 ⟨v2, rfl, ho, hb⟩; have F := Lib.hid (show TellZ (c.H.map Sx.pos) w (.returned v2) w2 from ⟨v2, rfl, ho, hb⟩); clear ho hb))
  go_ret
  exact F.out
/-- those that are dirty, rising -/
def DirtyS (H S : List Sx) : Prop := S.Pairwise (fun x y => x.pos < y.pos) ∧ ∀ x, x ∈ S ↔ x ∈ H ∧ x.dirty = true
theorem dirties_c (h : CkN w B c) : Calls Try.prog 13 #[pv c.C] w fun e w' => ∃ S, DirtyS c.H S ∧ TellZ (S.map Sx.pos) w e w' := by
  have ham := Lib.hid (among_dirty h)
  have h' := Lib.hid h
  have hpl := Lib.hid (fun (w1 : World) (v : Value) (S : List Sx) (ho : w1.ownsRow w.heap.size 81 1 v S.length (pvs S)) (hb : Below w.heap.size w w1) (hp : S.Pairwise fun x y => x.pos < y.pos) (hm : ∀ x, x ∈ S ↔ x ∈ c.H ∧ Sx.dirty x = true) => show Calls Try.prog 41 #[v] w1 (TellZ (S.map Sx.pos) w) from by
    have hl : S.length ≤ 2048 := by
      have h1 : (S.map Sx.pos).Nodup := by
        unfold List.Nodup
        rw [List.pairwise_map]
        exact hp.imp fun h => Nat.ne_of_lt h
      have := nodup_below 2048 h1 fun x hx => by
        obtain ⟨y, hy, rfl⟩ := List.mem_map.1 hx
        exact h.ok.low y ((hm y).1 hy).1
      simpa using this
    exact (places_c ho (fun x hx => ((h.mem.on hb (Nat.le_refl _)).sec x ((hm x).1 hx).1)) (by omega)).mono fun e w' h1 => h1.lift hb)
  unfold pv
  unfold pv at ham
  clear h
  go_enter Try.func13, Try.ntmps13
  go_wp2_with (first
    | (go_at_call 42; refine ham.out.mono ?_; rintro e w1 ⟨v1, S1, rfl, ho, hb, hp, hm⟩; have P1 := Lib.hid (hpl.out _ _ _ ho hb hp hm); have D1 := Lib.hid (show DirtyS c.H S1 from ⟨hp, hm⟩); clear ho hb hp hm)
    | (go_at_call 41; refine P1.out.mono ?_; rintro e w2 ⟨v2, rfl, ho, hb⟩; have F := Lib.hid (show TellZ (S1.map Sx.pos) w (.returned v2) w2 from ⟨v2, rfl, ho, hb⟩); clear ho hb))
  go_ret
  exact ⟨S1, D1.out, F.out⟩
theorem among_nil (f g : Value) (w : World) : Calls Try.prog 42 #[.pointer none, f, g] w fun e w' => e = .returned (.slice none 0 0) ∧ w = w' := by
  go_enter Try.func42, Try.ntmps42
  go_wp2_with fail
  go_ret
  exact ⟨rfl, rfl⟩
theorem held_nil (w : World) : Calls Try.prog 12 #[.pointer none] w (TellZ [] w) := by
  have hp := Lib.hid (places_c (w := w) (B := w.heap.size) (S := []) (v := .slice none 0 0) (World.ownsRow_nil _ _ _ _) (fun x hx => by cases hx) (by simp))
  go_enter Try.func12, Try.ntmps12
  go_wp2_with (first
    | (go_at_call 42; refine (among_nil _ _ _).mono ?_; rintro e w1 ⟨rfl, rfl⟩)
    | (go_at_call 41; refine hp.out.mono ?_; rintro e w2 ⟨v2, rfl, ho, hb⟩; have F := Lib.hid (show TellZ [] w (.returned v2) w2 from ⟨v2, rfl, ho, hb⟩); clear ho hb))
  go_ret
  exact F.out

/-! ### New -/
theorem new_nod (n : Int) (w : World) : Calls Try.prog 10 #[.pointer none, .int .i64 n] w fun e w' => e = .returned (.pointer none) ∧ w = w' := by
  go_enter Try.func10, Try.ntmps10
  go_wp2_with fail
  go_ret
  exact ⟨rfl, rfl⟩
theorem new_low (G : Nat) (n : Int) (hn : n < 1) (w : World) : Calls Try.prog 10 #[pv G, .int .i64 n] w fun e w' => e = .returned (.pointer none) ∧ w = w' := by
  unfold pv
  go_enter Try.func10, Try.ntmps10
  go_wp2_with fail
  go_ret
  exact ⟨rfl, rfl⟩
/-- a cache of which nothing is held -/
def ck0 (w : World) (G m : Nat) : Ck := ⟨w.heap.size + 1, w.heap.size, G, .slice none 0 0, m, 0, []⟩
theorem newc_c (G m : Nat) (hm : 1 ≤ m) (w : World) : Calls Try.prog 10 #[pv G, .int .i64 ((m : Nat) : Int)] w fun e w' => e = .returned (pv (w.heap.size + 1)) ∧ CkN w' w.heap.size (ck0 w G m) ∧ Below w.heap.size w w' := by
  have h1 : ¬ ((m : Int) < 1) := by omega
  have hfin := Lib.hid (show CkN ((w.alloc (.map #[] 0)).alloc (.cells (ck0 w G m).cells.toArray 73)) w.heap.size (ck0 w G m) from by
    refine ⟨⟨?_, ⟨[], ?_, rfl, fun a => rfl⟩, fun x hx => (by cases hx), World.ownsRow_nil _ _ _ _, List.nodup_nil, fun k hk => ?_⟩, ⟨List.Pairwise.nil, fun x hx => (by cases hx), List.nodup_nil, fun x hx => (by cases hx), fun x hx => (by cases hx), List.Sublist.refl _⟩, fun x hx => (by cases hx)⟩
    · have := Vw.alloc (w.alloc (.map #[] 0)) (ck0 w G m).cells 73
      rw [size_alloc] at this
      exact this
    · exact (MapAt.made 3 w).blk (old_alloc _ _ _ (by rw [size_alloc]; show w.heap.size < w.heap.size + 1; omega))
    · rcases foot_cases hk with e | e | e | ⟨x, hx, e⟩
      · rw [e]; show w.heap.size ≤ w.heap.size + 1; omega
      · rw [e]; exact Nat.le_refl _
      · cases e
      · cases hx)
  have hbel := Lib.hid (show Below w.heap.size w ((w.alloc (.map #[] 0)).alloc (.cells (ck0 w G m).cells.toArray 73)) from ((Below.refl _ _).alloc (Nat.le_refl _) _).alloc (by rw [size_alloc]; omega) _)
  have hmm := @run_makeMap Try.prog
  unfold Ck.cells ck0 pv at hfin hbel
  unfold pv
  go_enter Try.func10, Try.ntmps10
  go_wp2_with fail
  go_ret
  exact ⟨rfl, hfin.out, hbel.out⟩
end
end Go.Proofs.Ytedbfehoeflmgaa
end
