/-
  A cache: those that are dirty.
  A cache: New; what is held, what is dirty, as it is told.
  The document's own cache: what it holds, what is dirty.
  A cache: Get of a sector that is not held.
  A cache: a sector's bytes, its marks, turned where it lies.
-/
import Derived.Test.YtnfaeejeipbciaaB16
import Derived.Test.YtnfaeejeipbciaaB12

section
set_option linter.unusedVariables false
set_option linter.unusedSimpArgs false
namespace Go.Proofs.Ytnfaeejeipbciaa
open Go.RowKit BigFrame
set_option maxRecDepth 100000

section
variable {w w' wr : World} {B : Nat} {c : Ck} {L T : List Sx}
set_option maxHeartbeats 4000000 in
theorem among_dirty (h : CkN w B c) :
    Calls Try.prog 42 #[pv c.C, .func (.func 45) #[] #[], .func (.func 46) #[] #[]] w (AmPost Sx.dirty Sx.pos c.H w) := by
  have c3 := h.mem.hdr.cell (k := 3) rfl
  obtain ⟨l, hl0, hl2, hl3⟩ := h.mem.map
  have h' := Lib.hid h
  have hl0' := Lib.hid hl0
  have hl2' := Lib.hid hl2
  have hl3' := Lib.hid hl3
  have hap := Lib.hid (hl0.apart law_int)
  have hkl := Lib.hid (hl0.keys law_int)
  unfold pv
  clear h hl0 hl2 hl3
  go_enter Try.func42, Try.ntmps42
  go_wp2_with (at_range; refine wpList_map_range rfl _ rfl law_int Try.underlying70 c.M l rfl hl0'.out ?_; intro w1 hmo hb1 hs1)
  go_frame
  go_loopg [7, 9] (l.length + 1) (fun g v v9 wr => ∃ left T, g = left.length + 1 ∧ AmRel w c Sx.dirty l left v T wr)
  case atStart => exact ⟨l, [], rfl, AmRel.start hmo.out hb1.out hl2'.out hl3'.out h'.out.ok.pos⟩
  case round =>
    obtain ⟨left, T, rfl, hR⟩ := hrel
    have hR' := Lib.hid hR
    have hmo2 := Lib.hid hR.on
    have hTl := hR.few
    have hgf := h'.out.ok.few
    clear hR
    have hlx := Lib.hid (show ∀ p ∈ left, ∀ k, p.1 = .int .i64 k → ∃ x ∈ c.H, p = (.int .i64 (x.pos : Int), pv x.blk) from fun p hp k hk => by
      obtain ⟨cc, hr, hsub, _⟩ := hmo2.out
      have hpl := hsub.subset hp
      have hf := fndL_mem (hkl.out p hpl) hap.out hpl
      rw [hk, hl3'.out] at hf
      cases hg : get c.H k with
      | none => rw [hg] at hf; cases hf
      | some x =>
        rw [hg] at hf
        obtain ⟨h1, h2⟩ := get_some hg
        exact ⟨x, h1, Prod.ext (by rw [hk, h2]) (Option.some.inj hf).symm⟩)
    go_wp2_with (first
      | (at_next; refine wpList_held_next rfl _ rfl c.M w.heap.size l left hlx.out (by simp [Act.eval]) hmo2.out (fun h0 => ?_) (fun x w2 hxi hp hm2 hln hg2 hs2 hen => ?_)))
    · subst h0
      have hsec : ∀ x ∈ c.H, Vw wr 86 x.blk x.cells ∧ x.b.length = 128 := fun x hx => ⟨(h'.out.mem.on hR'.out.bel (Nat.le_refl _)).sec x hx, h'.out.ok.len x hx⟩
      have hTH : ∀ x ∈ T, x ∈ c.H := fun x hx => ((hR'.out.mem x).1 hx).1
      have hso := Lib.hid (sort_row (w := wr) (B := w.heap.size) (H := c.H) (T := T) 46 Sx.pos enters_place (fun W x y lx ly hx hy => byplace_c (hx.cell x.c0) (hy.cell y.c0)) (fun x hx y hy e => h'.out.ok.pos.uniq hx hy e) hsec hTH (by omega) hR'.out.own)
      have hfin := Lib.hid (fun (w5 : World) (ho : w5.ownsRow w.heap.size 81 1 u7 (sortS Sx.pos T).length (pvs (sortS Sx.pos T))) (hT5 : TurnS (fun k => u7.ownBlock = some k) wr w5) => show AmPost Sx.dirty Sx.pos c.H w (.returned u7) w5 from
        ⟨u7, sortS Sx.pos T, rfl, ho, hR'.out.bel.trans (hT5.below hR'.out.bel.size fun k hk => (World.ownsRow.lt hR'.out.own k hk).1), sortS_lt hR'.out.nd (fun x hx y hy e => h'.out.ok.pos.uniq (hTH x hx) (hTH y hy) e), fun x => by
          rw [(sortS_perm Sx.pos T).mem_iff, hR'.out.mem]
          exact ⟨fun ⟨h1, h2, _⟩ => ⟨h1, h2⟩, fun ⟨h1, h2⟩ => ⟨h1, h2, rfl⟩⟩⟩)
      refine hso.out.mono ?_
      rintro e w5 ⟨rfl, ho5, hT5⟩
      have F5 := Lib.hid (hfin.out w5 ho5 hT5)
      clear ho5 hT5
      go_wp2_with fail
      go_ret
      exact F5.out
    · have hB2 := Lib.hid (hR'.out.bel.grown hg2.out hR'.out.bel.size (fun k hk => by cases hk; exact Nat.le_refl _))
      have hO2 := Lib.hid (show w2.ownsRow w.heap.size 81 1 u7 T.length (pvs T) from own_blk hR'.out.own fun k hk => hg2.out.block k (World.ownsRow.lt hR'.out.own k hk).2 (fun e => iter_row hmo2.out hR'.out.own (hk.trans e)))
      have hfl := Lib.hid (show fndL left (.int .i64 (x.pos : Int)) = some (pv x.blk) from by
        have hpl : (Lit.int .i64 (x.pos : Int), pv x.blk) ∈ l := by
          obtain ⟨cc, hr, hsub, _⟩ := hmo2.out
          exact hsub.subset hp.out
        exact fndL_mem (p := (.int .i64 (x.pos : Int), pv x.blk)) (hkl.out _ hpl) (by
          obtain ⟨cc, hr, hsub, _⟩ := hmo2.out
          exact hap.out.sublist hsub) hp.out)
      have hdc := Lib.hid (dirty_c (w := w2) ((h'.out.mem.on hB2.out (Nat.le_refl _)).sec x hxi) (h'.out.ok.len x hxi))
      obtain ⟨dd, hdd0⟩ : ∃ dd, x.dirty = dd := ⟨_, rfl⟩
      have hdd := Lib.hid hdd0
      rw [hdd0] at hdc
      refine hdc.out.mono ?_
      rintro e w3 ⟨rfl, rfl⟩
      clear hdd0
      cases dd with
      | false =>
        go_wp2_with fail
        go_roundg ((strL left (.int .i64 (x.pos : Int))).length + 1)
        case measure => have := hln.out; omega
        case rel => exact ⟨_, T, rfl, hR'.out.turn h'.out.ok.pos hxi hp.out hfl.out hm2.out hln.out hO2.out (by rw [if_neg (by rw [hdd.out]; decide)]) hB2.out⟩
      | true =>
        have hz2 := hB2.out.size
        have hoa := Lib.hid (show (w2.alloc (.cells #[.pointer (some ⟨x.blk, 0, none⟩)] 81)).ownsRow w.heap.size 81 1 u7 T.length (pvs T) from own_blk hO2.out fun k hk => old_alloc w2 _ k (World.ownsRow.lt hO2.out k hk).2)
        have hna := Lib.hid (show (w2.alloc (.cells #[.pointer (some ⟨x.blk, 0, none⟩)] 81)).cell? ⟨w2.heap.size, 0, none⟩ = some (pv x.blk) from (Vw.alloc w2 [pv x.blk] 81).cell rfl)
        have hbz : w.heap.size ≤ (w2.alloc (.cells #[.pointer (some ⟨x.blk, 0, none⟩)] 81)).heap.size := by rw [size_alloc]; omega
        clear hs2
        go_wp2_with (at_builtin; refine wpList_append_sx rfl _ _ rfl w.heap.size _ T rfl hoa.out _ _ x rfl hna.out (by omega) hbz ?_; intro v' w4 ho4 hg4 hat4)
        go_roundg ((strL left (.int .i64 (x.pos : Int))).length + 1)
        case measure => have := hln.out; omega
        case rel =>
          have hTn : TurnS (fun k => u7.ownBlock = some k) w2 w4 := (TurnS.alloc _ w2 _).trans (TurnS.grown hg4.out fun k hk => hk)
          have hm4 := hm2.out.blk (hTn.block c.M hm2.out.at.lt fun e => map_row hm2.out.at hO2.out e) (hTn.block _ hm2.out.lt fun e => iter_row hm2.out hO2.out e)
          exact ⟨_, T ++ [x], rfl, hR'.out.turn h'.out.ok.pos hxi hp.out hfl.out hm4 hln.out ho4.out (by rw [if_pos hdd.out]) (hB2.out.trans (hTn.below hz2 fun k hk => (World.ownsRow.lt hO2.out k hk).1))⟩
end
end Go.Proofs.Ytnfaeejeipbciaa
end

section
set_option linter.unusedVariables false
set_option linter.unusedSimpArgs false
namespace Go.Proofs.Ytnfaeejeipbciaa
open Go.RowKit BigFrame
set_option maxRecDepth 100000

section
variable {w w' wr : World} {B : Nat} {c : Ck} {L T S : List Sx}
theorem take_snoc {α : Type} {l : List α} {k : Nat} {x : α} (h : l[k]? = some x) : l.take (k + 1) = l.take k ++ [x] := by
  rw [List.take_add_one, h]; rfl
/-- what tells numbers -/
def TellZ (l : List Nat) (w : World) (e : Ending) (w' : World) : Prop := ∃ v, e = .returned v ∧ OwnZ w' w.heap.size v l ∧ Below w.heap.size w w'
set_option maxHeartbeats 2000000 in
theorem places_c {v : Value} (ho : w.ownsRow B 81 1 v S.length (pvs S)) (hS : ∀ x ∈ S, Vw w 86 x.blk x.cells) (hn : S.length ≤ 100000) :
    Calls Try.prog 41 #[v] w (TellZ (S.map Sx.pos) w) := by
  have hS' := Lib.hid hS
  obtain ⟨n, hn'⟩ : ∃ n, S.length = n := ⟨_, rfl⟩
  have hfm := own_form1 ho
  obtain ⟨a, cap, hva, hnc, han⟩ := own_form ho
  rw [hn'] at hn hva hnc
  have hrow := Lib.hid (fun (k : Nat) (hk : k < n) => show ∃ g x, a = some ⟨g, 0, none⟩ ∧ S[k]? = some x ∧ w.cell? ⟨g, k, none⟩ = some (pv x.blk) from by
    have hky : k < S.length := by omega
    rcases hfm with ⟨_, e0⟩ | ⟨g, cap', cur, e, hcu, _, _, _, _, hcx⟩
    · rw [e0] at hky; simp at hky
    · rw [hva] at e
      cases e
      exact ⟨g, _, rfl, List.getElem?_eq_getElem hky, hcu.cell (hcx k _ (List.getElem?_eq_getElem hky))⟩)
  have hnn := Lib.hid hn'
  rw [hva]
  clear ho hS hfm hva han hn'
  go_enter Try.func41, Try.ntmps41
  go_wp2_with fail
  go_loopg [3, 5, 8] n (fun gk v3 v5 v8 wr => ∃ k : Nat, k + gk = n ∧ v8 = .int .i64 (k : Int) ∧ OwnZ wr w.heap.size v3 ((S.map Sx.pos).take k) ∧ Below w.heap.size w wr)
  case atStart => exact ⟨0, by omega, rfl, OwnZ.nil _ _, Below.refl _ _⟩
  case round =>
    obtain ⟨k, hkg, rfl, hown, hbel⟩ := hrel
    by_cases hlt : k < n
    · obtain ⟨g, rfl⟩ : ∃ g, gk = g + 1 := ⟨gk - 1, by omega⟩
      obtain ⟨gb, x, rfl, hx, hc0⟩ := hrow.out k hlt
      have hcl := hbel.cell (World.block_lt_of_cell? w _ hc0)
      have hc : wr.cell? ⟨gb, k, none⟩ = some (pv x.blk) := by rw [hcl]; exact hc0
      have hxm := hS'.out x (List.mem_of_getElem? hx)
      have hp := (hxm.on hbel hxm.lt).cell x.c0
      have hpk : (S.map Sx.pos)[k]? = some x.pos := by rw [List.getElem?_map, hx]; rfl
      have hpk' := Lib.hid hpk
      have htl : ((S.map Sx.pos).take k).length ≤ 100000 := by rw [List.length_take]; omega
      have hown' := Lib.hid hown
      have hbel' := Lib.hid hbel
      have hsz := hbel.size
      have hk1 : (k : Int) < (n : Int) := by omega
      unfold pv at hc
      clear hown hbel hx hc0 hcl hxm hpk
      go_wp2_with (at_builtin; refine wpList_append_nat rfl _ _ rfl w.heap.size _ ((S.map Sx.pos).take k) rfl (hown'.out.alloc _) _ _ x.pos rfl (nat_new _ _) (by omega) (by rw [size_alloc]; omega) ?_; intro v' w4 ho4 hg4 hat4)
      go_roundg g
      case measure => omega
      case rel =>
        refine ⟨k + 1, by omega, by go_num, by rw [take_snoc hpk'.out]; exact ho4.out, ?_⟩
        exact (hbel'.out.alloc hsz _).grown hg4.out (by rw [size_alloc]; omega) (fun j hj => (hown'.out.block j hj).1)
    · have hkn : k = n := by omega
      subst hkn
      have hte : (S.map Sx.pos).take k = S.map Sx.pos := List.take_of_length_le (by rw [List.length_map, hnn.out]; exact Nat.le_refl _)
      rw [hte] at hown
      have F := Lib.hid (show TellZ (S.map Sx.pos) w (.returned u3) wr from ⟨u3, rfl, hown, hbel⟩)
      clear hown hbel
      go_wp2_with fail
      go_ret
      exact F.out
theorem TellZ.lift {l : List Nat} {w w1 : World} (hb : Below w.heap.size w w1) {e : Ending} {w' : World} (h : TellZ l w1 e w') : TellZ l w e w' := by
  obtain ⟨v, rfl, ho, hb2⟩ := h
  exact ⟨v, rfl, ho.lower hb.size, hb.trans (hb2.mono hb.size)⟩
theorem held_c (h : CkN w B c) : Calls Try.prog 12 #[pv c.C] w (TellZ (c.H.map Sx.pos) w) := by
  have ham := Lib.hid (among_held h)
  have h' := Lib.hid h
  have hpl := Lib.hid (fun (w1 : World) (v : Value) (S : List Sx) (ho : w1.ownsRow w.heap.size 81 1 v S.length (pvs S)) (hb : Below w.heap.size w w1) (hp : S.Pairwise fun x y => x.used < y.used) (hm : ∀ x, x ∈ S ↔ x ∈ c.H ∧ (fun _ : Sx => true) x = true) => show Calls Try.prog 41 #[v] w1 (TellZ (c.H.map Sx.pos) w) from by
    have e : S = c.H := sorted_same (key := Sx.used) hp h.ok.srt fun x => by rw [hm]; simp
    subst e
    exact (places_c ho (fun x hx => ((h.mem.on hb (Nat.le_refl _)).sec x hx)) (Nat.le_trans h.ok.few (by omega))).mono fun e w' h1 => h1.lift hb)
  unfold pv
  unfold pv at ham
  clear h
  go_enter Try.func12, Try.ntmps12
  go_wp2_with (first
    | (go_at_call 42; refine ham.out.mono ?_; rintro e w1 ⟨v1, S1, rfl, ho, hb, hp, hm⟩; have P1 := Lib.hid (hpl.out _ _ _ ho hb hp hm); clear ho hb hp hm)
    | (go_at_call 41; refine P1.out.mono ?_; rintro e w2 ⟨v2, rfl, ho, hb⟩; have F := Lib.hid (show TellZ (c.H.map Sx.pos) w (.returned v2) w2 from ⟨v2, rfl, ho, hb⟩); clear ho hb))
  go_ret
  exact F.out
/-- those that are dirty, rising -/
def DirtyS (H S : List Sx) : Prop := S.Pairwise (fun x y => x.pos < y.pos) ∧ ∀ x, x ∈ S ↔ x ∈ H ∧ x.dirty = true
theorem dirties_c (h : CkN w B c) : Calls Try.prog 13 #[pv c.C] w fun e w' => ∃ S, DirtyS c.H S ∧ TellZ (S.map Sx.pos) w e w' := by
  have ham := Lib.hid (among_dirty h)
  have h' := Lib.hid h
  have hpl := Lib.hid (fun (w1 : World) (v : Value) (S : List Sx) (ho : w1.ownsRow w.heap.size 81 1 v S.length (pvs S)) (hb : Below w.heap.size w w1) (hp : S.Pairwise fun x y => x.pos < y.pos) (hm : ∀ x, x ∈ S ↔ x ∈ c.H ∧ Sx.dirty x = true) => show Calls Try.prog 41 #[v] w1 (TellZ (S.map Sx.pos) w) from by
    have hl : S.length ≤ 2048 := by
      have h1 : (S.map Sx.pos).Nodup := by
        unfold List.Nodup
        rw [List.pairwise_map]
        exact hp.imp fun h => Nat.ne_of_lt h
      have := nodup_below 2048 h1 fun x hx => by
        obtain ⟨y, hy, rfl⟩ := List.mem_map.1 hx
        exact h.ok.low y ((hm y).1 hy).1
      simpa using this
    exact (places_c ho (fun x hx => ((h.mem.on hb (Nat.le_refl _)).sec x ((hm x).1 hx).1)) (by omega)).mono fun e w' h1 => h1.lift hb)
  unfold pv
  unfold pv at ham
  clear h
  go_enter Try.func13, Try.ntmps13
  go_wp2_with (first
    | (go_at_call 42; refine ham.out.mono ?_; rintro e w1 ⟨v1, S1, rfl, ho, hb, hp, hm⟩; have P1 := Lib.hid (hpl.out _ _ _ ho hb hp hm); have D1 := Lib.hid (show DirtyS c.H S1 from ⟨hp, hm⟩); clear ho hb hp hm)
    | (go_at_call 41; refine P1.out.mono ?_; rintro e w2 ⟨v2, rfl, ho, hb⟩; have F := Lib.hid (show TellZ (S1.map Sx.pos) w (.returned v2) w2 from ⟨v2, rfl, ho, hb⟩); clear ho hb))
  go_ret
  exact ⟨S1, D1.out, F.out⟩
theorem among_nil (f g : Value) (w : World) : Calls Try.prog 42 #[.pointer none, f, g] w fun e w' => e = .returned (.slice none 0 0) ∧ w = w' := by
  go_enter Try.func42, Try.ntmps42
  go_wp2_with fail
  go_ret
  exact ⟨rfl, rfl⟩
theorem held_nil (w : World) : Calls Try.prog 12 #[.pointer none] w (TellZ [] w) := by
  have hp := Lib.hid (places_c (w := w) (B := w.heap.size) (S := []) (v := .slice none 0 0) (World.ownsRow_nil _ _ _ _) (fun x hx => by cases hx) (by simp))
  go_enter Try.func12, Try.ntmps12
  go_wp2_with (first
    | (go_at_call 42; refine (among_nil _ _ _).mono ?_; rintro e w1 ⟨rfl, rfl⟩)
    | (go_at_call 41; refine hp.out.mono ?_; rintro e w2 ⟨v2, rfl, ho, hb⟩; have F := Lib.hid (show TellZ [] w (.returned v2) w2 from ⟨v2, rfl, ho, hb⟩); clear ho hb))
  go_ret
  exact F.out

/-! ### New -/
theorem new_nod (n : Int) (w : World) : Calls Try.prog 10 #[.pointer none, .int .i64 n] w fun e w' => e = .returned (.pointer none) ∧ w = w' := by
  go_enter Try.func10, Try.ntmps10
  go_wp2_with fail
  go_ret
  exact ⟨rfl, rfl⟩
theorem new_low (G : Nat) (n : Int) (hn : n < 1) (w : World) : Calls Try.prog 10 #[pv G, .int .i64 n] w fun e w' => e = .returned (.pointer none) ∧ w = w' := by
  unfold pv
  go_enter Try.func10, Try.ntmps10
  go_wp2_with fail
  go_ret
  exact ⟨rfl, rfl⟩
/-- a cache of which nothing is held -/
def ck0 (w : World) (G m : Nat) : Ck := ⟨w.heap.size + 1, w.heap.size, G, .slice none 0 0, m, 0, []⟩
theorem newc_c (G m : Nat) (hm : 1 ≤ m) (w : World) : Calls Try.prog 10 #[pv G, .int .i64 ((m : Nat) : Int)] w fun e w' => e = .returned (pv (w.heap.size + 1)) ∧ CkN w' w.heap.size (ck0 w G m) ∧ Below w.heap.size w w' := by
  have h1 : ¬ ((m : Int) < 1) := by omega
  have hfin := Lib.hid (show CkN ((w.alloc (.map #[] 0)).alloc (.cells (ck0 w G m).cells.toArray 73)) w.heap.size (ck0 w G m) from by
    refine ⟨⟨?_, ⟨[], ?_, rfl, fun a => rfl⟩, fun x hx => (by cases hx), World.ownsRow_nil _ _ _ _, List.nodup_nil, fun k hk => ?_⟩, ⟨List.Pairwise.nil, fun x hx => (by cases hx), List.nodup_nil, fun x hx => (by cases hx), fun x hx => (by cases hx), List.Sublist.refl _⟩, fun x hx => (by cases hx)⟩
    · have := Vw.alloc (w.alloc (.map #[] 0)) (ck0 w G m).cells 73
      rw [size_alloc] at this
      exact this
    · exact (MapAt.made 3 w).blk (old_alloc _ _ _ (by rw [size_alloc]; show w.heap.size < w.heap.size + 1; omega))
    · rcases foot_cases hk with e | e | e | ⟨x, hx, e⟩
      · rw [e]; show w.heap.size ≤ w.heap.size + 1; omega
      · rw [e]; exact Nat.le_refl _
      · cases e
      · cases hx)
  have hbel := Lib.hid (show Below w.heap.size w ((w.alloc (.map #[] 0)).alloc (.cells (ck0 w G m).cells.toArray 73)) from ((Below.refl _ _).alloc (Nat.le_refl _) _).alloc (by rw [size_alloc]; omega) _)
  have hmm := @run_makeMap Try.prog
  unfold Ck.cells ck0 pv at hfin hbel
  unfold pv
  go_enter Try.func10, Try.ntmps10
  go_wp2_with fail
  go_ret
  exact ⟨rfl, hfin.out, hbel.out⟩
end
end Go.Proofs.Ytnfaeejeipbciaa
end

section
set_option linter.unusedVariables false
set_option linter.unusedSimpArgs false
namespace Go.Proofs.Ytnfaeejeipbciaa
open Go.RowKit BigFrame Go.Lib
set_option maxRecDepth 100000

section
variable {w w' wr : World} {B : Nat} {M M' : List Nat} {c : RC} {L : List Rr}
set_option maxHeartbeats 4000000 in
theorem rlist_c (h : RcAt w B M c) : Calls Try.prog 15 #[pv c.W] w (TellZ (c.L.map Rr.pos) w) := by
  have hlen := h.few
  obtain ⟨nL, hnL⟩ : ∃ nL, c.L.length = nL := ⟨_, rfl⟩
  obtain ⟨lp, lc, hlv⟩ : ∃ lp lc, c.lv = .slice lp nL lc := by
    rw [← hnL]
    rcases h.form with ⟨e, e0⟩ | ⟨g, cap, e, _⟩
    · exact ⟨none, 0, by rw [e, e0]; rfl⟩
    · exact ⟨_, _, e⟩
  rw [hnL] at hlen
  have hh := Lib.hid h
  have hnL' := Lib.hid hnL
  have hlv' := Lib.hid hlv
  clear h hnL hlv
  unfold pv
  go_enter Try.func15, Try.ntmps15
  go_wp2_with fail
  go_loopg [3, 4] nL (fun g v i wr => ∃ k : Nat, k + g = nL ∧ i = .int .i64 (k : Int) ∧ OwnZ wr w.heap.size v ((c.L.take k).map Rr.pos) ∧ Below w.heap.size w wr)
  case atStart => exact ⟨0, by omega, rfl, OwnZ.nil _ _, Below.refl _ _⟩
  case round =>
    obtain ⟨k, hkg, rfl, hown, hbel⟩ := hrel
    have hR2 := hh.out.read hbel
    have c2 : wr.cell? ⟨c.W, 2, none⟩ = some c.lv := hR2.hdr.cell rfl
    rw [hlv'.out] at c2
    have hsz := hbel.size
    have hown' := Lib.hid hown
    have hbel' := Lib.hid hbel
    by_cases hlt : k < nL
    · obtain ⟨g, rfl⟩ : ∃ g, gk = g + 1 := ⟨gk - 1, by omega⟩
      obtain ⟨r, hr⟩ : ∃ r, c.L[k]? = some r := ⟨_, List.getElem?_eq_getElem (by rw [hnL'.out]; exact hlt)⟩
      obtain ⟨b, cap, e1, hcap, _, r0, _⟩ := hR2.get hr
      rw [hlv'.out, hnL'.out] at e1
      cases e1
      rw [hnL'.out] at hcap
      obtain ⟨p, hp⟩ : ∃ p, r.pos = p := ⟨_, rfl⟩
      rw [hp] at r0
      have hr' := Lib.hid hr
      have hp' := Lib.hid hp
      have ht : ((c.L.take k).map Rr.pos).length ≤ 2048 := by rw [List.length_map, List.length_take]; omega
      clear hown hbel hr hp hR2
      go_wp2_with (at_builtin; refine wpList_append_nat rfl _ _ rfl w.heap.size _ ((c.L.take k).map Rr.pos) rfl (hown'.out.alloc _) _ _ p rfl (nat_new _ _) (by omega) (by rw [size_alloc]; omega) ?_; intro v' w4 ho4 hg4 hat4)
      go_roundg g
      case measure => omega
      case rel =>
        refine ⟨k + 1, by omega, by go_num, by rw [take_succ_r hr'.out, List.map_append, List.map_cons, hp'.out, List.map_nil]; exact ho4.out, ?_⟩
        exact (hbel'.out.alloc hsz _).grown hg4.out (by rw [size_alloc]; omega) (fun j hj => (hown'.out.block j hj).1)
    · obtain rfl : k = nL := by omega
      have ht : c.L.take k = c.L := List.take_of_length_le (by rw [hnL'.out]; exact Nat.le_refl _)
      rw [ht] at hown'
      clear hown hbel hR2
      go_wp2_with fail
      go_ret
      exact ⟨_, rfl, hown'.out, hbel'.out⟩
/-- those that are dirty, of the first n places -/
def dirtAt (L : List Rr) (s : Nat) : Bool := L.any fun r => decide (r.pos = s) && r.dirty
def dirtL (L : List Rr) (n : Nat) : List Nat := (List.range n).filter (dirtAt L)
theorem dirtL_succ (L : List Rr) (k : Nat) : dirtL L (k + 1) = dirtL L k ++ if dirtAt L k = true then [k] else [] := by
  unfold dirtL
  rw [List.range_succ, List.filter_append, List.filter_cons, List.filter_nil]
theorem dirtL_len (L : List Rr) (k : Nat) : (dirtL L k).length ≤ k := by
  unfold dirtL
  exact Nat.le_trans (List.length_filter_le _ _) (by rw [List.length_range]; exact Nat.le_refl _)
theorem dirt_none {s : Nat} (h : ∀ r ∈ L, (r.pos : Int) ≠ (s : Int)) : dirtAt L s = false := by
  unfold dirtAt
  rw [List.any_eq_false]
  intro r hr
  have := h r hr
  simp only [Bool.and_eq_true, decide_eq_true_eq, not_and]
  intro e
  exact absurd (by rw [e]) this
theorem dirt_hit {s k : Nat} {r : Rr} (hn : (L.map Rr.pos).Nodup) (hr : L[k]? = some r) (hp : r.pos = s) : dirtAt L s = r.dirty := by
  have hm := List.mem_of_getElem? hr
  cases hd : r.dirty with
  | true => exact List.any_eq_true.2 ⟨r, hm, by rw [decide_eq_true hp, hd]; rfl⟩
  | false =>
    unfold dirtAt
    rw [List.any_eq_false]
    intro y hy
    simp only [Bool.and_eq_true, decide_eq_true_eq, not_and]
    intro e hyd
    obtain ⟨j, hj⟩ := List.getElem?_of_mem hy
    have h1 : (L.map Rr.pos)[j]? = some y.pos := by simp [hj]
    have h2 : (L.map Rr.pos)[k]? = some r.pos := by simp [hr]
    obtain ⟨h3, h3e⟩ := List.getElem?_eq_some_iff.1 h1
    obtain ⟨h4, h4e⟩ := List.getElem?_eq_some_iff.1 h2
    have : j = k := by
      rcases Nat.lt_trichotomy j k with e' | e' | e'
      · exact absurd (by rw [h3e, h4e, e, hp]) (List.pairwise_iff_getElem.1 hn j k h3 h4 e')
      · exact e'
      · exact absurd (by rw [h3e, h4e, e, hp]) (List.pairwise_iff_getElem.1 hn k j h4 h3 e')
    subst this
    rw [hj] at hr
    cases hr
    rw [hd] at hyd
    cases hyd
set_option maxHeartbeats 4000000 in
theorem rdirties_c (h : RcAt w B M c) {n : Nat} {gF : Option Addr} {cF : Nat} (hF : w.cell? ⟨c.G, 0, none⟩ = some (.slice gF n cF)) (hGlt : c.G < w.heap.size) (hn : n ≤ 2048) : Calls Try.prog 16 #[pv c.W] w (TellZ (dirtL c.L n) w) := by
  have hlen := h.few
  have hh := Lib.hid h
  have hF' := Lib.hid hF
  clear h hF
  unfold pv
  go_enter Try.func16, Try.ntmps16
  go_wp2_with fail
  go_loopg [3, 4, 5] n (fun g v i v5 wr => ∃ k : Nat, k + g = n ∧ i = .int .i64 (k : Int) ∧ OwnZ wr w.heap.size v (dirtL c.L k) ∧ Below w.heap.size w wr)
  case atStart => exact ⟨0, by omega, rfl, OwnZ.nil _ _, Below.refl _ _⟩
  case round =>
    obtain ⟨k, hkg, rfl, hown, hbel⟩ := hrel
    have hR2 := hh.out.read hbel
    have c0 : wr.cell? ⟨c.W, 0, none⟩ = some (pv c.G) := hR2.hdr.cell rfl
    have hF2 : wr.cell? ⟨c.G, 0, none⟩ = some (.slice gF n cF) := by rw [World.cell?_of_block (w := w) (a := ⟨c.G, 0, none⟩) (hbel.block _ hGlt)]; exact hF'.out
    have hsz := hbel.size
    have hown' := Lib.hid hown
    have hbel' := Lib.hid hbel
    unfold pv at c0
    by_cases hlt : k < n
    · obtain ⟨g, rfl⟩ : ∃ g, gk = g + 1 := ⟨gk - 1, by omega⟩
      have hat := Lib.hid (rat_c hR2 ((k : Nat) : Int) (by unfold I64; omega))
      have hR2' := Lib.hid hR2
      have ht := Nat.le_trans (dirtL_len c.L k) (Nat.le_of_lt hlt)
      unfold pv at hat
      clear hown hbel hR2
      go_upto_region 6 with (go_at_call 47; refine hat.out.mono ?_; rintro e w1 ⟨rfl, hor⟩; rcases hor with ⟨j, r, hj, hjp, rfl⟩ | ⟨hno, rfl⟩)
      · obtain ⟨b, cap, e1, hcap, hjl, r0, r1, r2, r3⟩ := hR2'.out.get hj
        have c2 : wr.cell? ⟨c.W, 2, none⟩ = some c.lv := hR2'.out.hdr.cell rfl
        obtain ⟨nL, hnL⟩ : ∃ nL, c.L.length = nL := ⟨_, rfl⟩
        rw [e1, hnL] at c2
        rw [hnL] at hcap hjl hlen
        have hdh := dirt_hit (s := k) hh.out.pos hj (by omega)
        obtain ⟨dd, hdd⟩ : ∃ dd, r.dirty = dd := ⟨_, rfl⟩
        rw [hdd] at r2 hdh
        have hdh' := Lib.hid hdh
        clear hdh hdd e1 hnL hj hat
        cases dd with
        | true =>
          go_wp2_with (at_builtin; refine wpList_append_nat rfl _ _ rfl w.heap.size _ (dirtL c.L k) rfl (hown'.out.alloc _) _ _ k rfl (nat_new _ _) (by omega) (by rw [size_alloc]; omega) ?_; intro v' w4 ho4 hg4 hat4)
          go_roundg g
          case measure => omega
          case rel =>
            refine ⟨k + 1, by omega, by go_num, by rw [dirtL_succ, if_pos hdh'.out]; exact ho4.out, ?_⟩
            exact (hbel'.out.alloc hsz _).grown hg4.out (by rw [size_alloc]; omega) (fun j hj => (hown'.out.block j hj).1)
        | false =>
          go_wp2_with fail
          go_roundg g
          case measure => omega
          case rel => exact ⟨k + 1, by omega, by go_num, by rw [dirtL_succ, if_neg (by rw [hdh'.out]; decide), List.append_nil]; exact hown'.out, hbel'.out⟩
      · have hdh' := Lib.hid (dirt_none (L := c.L) (s := k) hno)
        clear hno hat
        go_wp2_with fail
        go_roundg g
        case measure => omega
        case rel => exact ⟨k + 1, by omega, by go_num, by rw [dirtL_succ, if_neg (by rw [hdh'.out]; decide), List.append_nil]; exact hown'.out, hbel'.out⟩
    · obtain rfl : k = n := by omega
      clear hown hbel hR2
      go_wp2_with fail
      go_ret
      exact ⟨_, rfl, hown'.out, hbel'.out⟩
end
end Go.Proofs.Ytnfaeejeipbciaa
end

section
set_option linter.unusedVariables false
set_option linter.unusedSimpArgs false
namespace Go.Proofs.Ytnfaeejeipbciaa
open Go.RowKit BigFrame
set_option maxRecDepth 100000

section
variable {w w1 w' : World} {B : Nat} {c c' : Ck} {L L' : List Sx} {A A' : Lies} {d d' : Dk}
def Sx.withB (x : Sx) (l : List Nat) : Sx := { x with b := l }
theorem put_new {H : List Sx} (h1 : ∀ y ∈ H, 1 ≤ y.used) (x z : Sx) (hx : x.used = 0) (hz : z.used = 0) : putS x (z :: H) = x :: H := by
  unfold putS
  rw [List.map_cons, if_pos (by omega)]
  congr 1
  refine (List.map_congr_left fun y hy => ?_).trans (List.map_id _)
  have := h1 y hy
  rw [if_neg (by omega)]; rfl
theorem hold_ok (hO : CkOk c L) (h1 : ∀ y ∈ c.H, 1 ≤ y.used) {x : Sx} (hx : x.used = 0) (hp : x.pos < 2048) (hl : x.b.length = 128) (hn : get c.H (x.pos : Int) = none) {L' : List Sx} (hL : L'.Sublist (x :: c.H)) : CkOk (c.hold x) L' where
  srt := List.pairwise_cons.2 ⟨fun y hy => by have := h1 y hy; omega, hO.srt⟩
  top := fun y hy => by
    rcases List.mem_cons.1 hy with e | hy
    · rw [e, hx]; exact Nat.zero_le _
    · exact hO.top y hy
  pos := by
    show (x.pos :: c.H.map Sx.pos).Nodup
    refine List.nodup_cons.2 ⟨fun hm => ?_, hO.pos⟩
    obtain ⟨y, hy, e⟩ := List.mem_map.1 hm
    exact get_none hn y hy (by rw [e])
  low := fun y hy => by
    rcases List.mem_cons.1 hy with e | hy
    · rw [e]; exact hp
    · exact hO.low y hy
  len := fun y hy => by
    rcases List.mem_cons.1 hy with e | hy
    · rw [e]; exact hl
    · exact hO.len y hy
  sub := hL
theorem frx_new {H : List Sx} (h1 : ∀ y ∈ H, 1 ≤ y.used) {x : Sx} (hx : x.used = 0) : frx x (x :: H) = fr H ∧ but x (fr H) = fr H ∧ but x (x :: H) = H := by
  have e : ∀ y ∈ H, y.used ≠ x.used := fun y hy => by have := h1 y hy; omega
  refine ⟨?_, but_none fun y hy => e y (List.mem_filter.1 hy).1, ?_⟩
  · unfold frx fr
    rw [List.filter_cons, if_neg (by simp)]
    refine List.filter_congr fun y hy => ?_
    rw [decide_eq_true (e y hy), Bool.and_true]
  · unfold but
    rw [List.filter_cons, if_neg (by simp), List.filter_eq_self.2]
    intro y hy
    simpa using e y hy
/-- other bytes in a sector -/
theorem CkM.setB (h : CkM w B c L) (hO : CkOk c L') {x : Sx} (hx : x ∈ c.H) {l : List Nat} (hl : l.length = 128) : CkM (w.setCells x.blk 1 (bv l)) B (c.put (x.withB l)) L ∧ Step w c.foot (w.setCells x.blk 1 (bv l)) (c.put (x.withB l)).foot := by
  have hV := Vw.put (bv l) 1 (h.sec x hx) (by rw [bv_length, hl, Sx.csize (hO.len x hx)]; omega)
  rw [Sx.setb (hO.len x hx) hl] at hV
  refine ⟨h.putX hO.srt (x := x.withB l) hx rfl rfl rfl (fun k hk => setCells_block _ _ _ _ _ hk) hV, ?_⟩
  rw [put_foot (x := x.withB l) hO.srt hx rfl rfl]
  exact (Step.refl w c.foot).setCells x.blk 1 (bv l) (foot_x hx)
theorem there_x {x : Sx} (h : Vw w 86 x.blk x.cells) (hl : x.b.length = 128) : w.there x.blk 1 128 := h.there (by rw [Sx.csize hl]; omega)
theorem Try.sizeA : (Try.prog.info? 84).map (·.size) = some 128 := by kernel_rfl
theorem bat_range {b o : Nat} {l : List Nat} (h : BAt w (some ⟨b, o, none⟩) l) : w.rangeAt b o (bv l) := fun j v hv => by
  obtain ⟨hj, rfl⟩ := bv_at hv
  exact h.cell hj
theorem OwnB.cut {base : Nat} {v : Value} {l : List Nat} (h : OwnB w base v l) (hs : ∀ k, v.ownBlock = some k → w'.heap[k]? = w.heap[k]?) : OwnB w' base v l := OwnB.block h hs
theorem hold_put (h1 : ∀ y ∈ c.H, 1 ≤ y.used) (k p : Nat) (l : List Nat) : (c.hold (sx0 k p)).put ((sx0 k p).withB l) = c.hold ((sx0 k p).withB l) := by
  unfold Ck.put Ck.hold
  rw [put_new h1 ((sx0 k p).withB l) (sx0 k p) rfl rfl]
theorem nw_none {H : List Sx} {p : Nat} (hn : get H (p : Int) = none) (x : Sx) (hx : x.pos = p) : nw H x = H ++ [x] := by
  unfold nw
  rw [List.filter_eq_self.2]
  intro y hy
  have := get_none hn y hy
  simp; omega
set_option maxHeartbeats 2000000 in
theorem get_miss (h : CkD w B A d c) (hmo : c.most ≤ 100000) (hu : c.uses < 100000) (hB : B ≤ w.heap.size) {p : Nat} (hp : p < 2048) (hn : get c.H (p : Int) = none) (hon : d.on = true) (hpd : p < d.n) :
    Calls Try.prog 26 #[pv c.C, .int .i64 ((p : Nat) : Int)] w (GetPost B A d c p (d.seen p) false false w) := by
  have hO := h.n.ok
  have hfi := Lib.hid (find_c h.n.mem ((p : Nat) : Int) ⟨by omega, by omega⟩)
  rw [hn] at hfi
  obtain ⟨l, hl0⟩ : ∃ l, d.seen p = l := ⟨_, rfl⟩
  have hl := Lib.hid (show l.length = 128 by rw [← hl0]; exact (IsDkS.fine h.dk).seen hpd)
  have hrd := Lib.hid (read_c w B c.G A d ((p : Nat) : Int) p l rfl h.dk hon hpd hl0)
  have hn' := Lib.hid hn
  have h' := Lib.hid h
  have c0 := h.n.mem.hdr.cell (k := 0) rfl
  have hho := Lib.hid (fun (w2 : World) (hM : CkM w2 B c (fr c.H)) => hold_c hM hO hM.there p hp hn)
  obtain ⟨cs, hcs⟩ : ∃ cs, bv l = cs := ⟨_, rfl⟩
  have hcs' := Lib.hid hcs
  have hsz := Try.sizeA
  have hus := Try.underlying84
  have hcl : cs.length = 128 := by rw [← hcs, bv_length, hl.out]
  have hc1 : ∀ v ∈ cs, v.oneCell' = true := by rw [← hcs]; exact bv_one l
  have hci : (Try.prog.info? 84).map (·.size) = some cs.length := by rw [hcl]; exact hsz
  rw [hl0]
  unfold pv
  unfold pv at hfi hho c0
  simp only [found] at hfi
  clear h hO hn hon hpd hl0 hcs
  go_enter Try.func26, Try.ntmps26
  go_upto_region 10 with (first
    | (go_at_call 50; refine hfi.out.mono ?_; rintro e w1 ⟨rfl, rfl⟩)
    | (go_at_call 28; refine hrd.out.mono ?_; rintro e w1 ⟨v1, rfl, ho1, hb1⟩; obtain ⟨g1, cap1, rfl, hc1', _, _⟩ := ho1.at hl.out (by omega); have O1 := Lib.hid ho1; have B1 := Lib.hid hb1; have M1 := Lib.hid (h'.out.n.mem.on hb1 (Nat.le_refl _)); clear ho1 hb1)
    | (go_at_call 52; refine (hho.out _ M1.out).mono ?_; rintro e w2 ⟨rfl, hM2, hS2⟩; have M2 := Lib.hid hM2; have S2 := Lib.hid hS2; clear hM2 hS2))
  obtain ⟨K, hK⟩ : ∃ K, w1.heap.size = K := ⟨_, rfl⟩
  have hK' := Lib.hid hK
  rw [hK] at M2 S2 ⊢
  have hOh := Lib.hid (hold_ok h'.out.n.ok h'.out.n.one (x := sx0 K p) rfl hp (zs_length 128) hn'.out (L' := fr c.H) ((fr_sub c.H).cons _))
  have hg1 : g1 ∉ c.foot := fun e => by have := (h'.out.clt g1 e).2; omega
  have hx0 : sx0 K p ∈ (c.hold (sx0 K p)).H := List.mem_cons_self
  have hbt : BAt w1 (some ⟨g1, 0, none⟩) l := by
    obtain ⟨g, cap, e, _, _, _, hb⟩ := O1.out.form (by rw [hl.out]; omega)
    rw [hl.out] at e
    cases e
    exact hb
  have k2 : w2.rangeAt g1 0 cs := by
    rw [← hcs'.out]
    exact rangeAt_block (bat_range hbt) (S2.out.block g1 (by omega) hg1)
  have hcs2 : cs.toArray.size = 128 := by simp [hcl]
  have k3 : w2.there K 1 cs.toArray.size := by rw [hcs2]; exact there_x (M2.out.sec _ hx0) (zs_length 128)
  have hci2 : (Try.prog.info? 84).map (·.size) = some cs.toArray.size := by rw [hcs2]; exact hsz
  have hall : cs.toArray.all (·.oneCell') = true := all_oneCell_toArray hc1
  have harr : ∀ w, (Instr.arrayAt 84 (.slice (some ⟨g1, 0, none⟩) 128 cap1)).run Try.prog w = .ok (.pointer (some ⟨g1, 0, none⟩)) w := fun w => by apply run_arrayAt; exact hus; omega
  obtain ⟨hM3, hS3⟩ := M2.out.setB hOh.out hx0 hl.out
  rw [hcs'.out, hold_put h'.out.n.one, show (sx0 K p).blk = K from rfl] at hM3 hS3
  have M3 := Lib.hid hM3
  have S3 := Lib.hid hS3
  have hOk := Lib.hid (hold_ok h'.out.n.ok h'.out.n.one (x := (sx0 K p).withB l) rfl hp hl.out hn'.out (L' := fr c.H) ((fr_sub c.H).cons _))
  have hOx := Lib.hid (hold_ok h'.out.n.ok h'.out.n.one (x := (sx0 K p).withB l) rfl hp hl.out hn'.out (L' := frx ((sx0 K p).withB l) ((sx0 K p).withB l :: c.H)) (frx_sub _ _))
  have hfx := Lib.hid (frx_new h'.out.n.one (x := (sx0 K p).withB l) rfl)
  have hx1 : (sx0 K p).withB l ∈ (c.hold ((sx0 K p).withB l)).H := List.mem_cons_self
  clear hK hM3 hS3 hbt hg1
  go_upto_region 11 with (first
    | (refine wpList_load_mid rfl 84 (.tmp 39) rfl g1 0 rfl cs _ k2 hus rfl hci ?_)
    | (refine wpList_store_mid rfl 84 (.tmp 42) (.tmp 40) rfl K 1 cs.toArray rfl rfl k3 hci2 hall ?_))
  obtain ⟨x1, hx1e⟩ : ∃ x1, (sx0 K p).withB l = x1 := ⟨_, rfl⟩
  have hx1' := Lib.hid hx1e
  have hxb : x1.blk = K := by rw [← hx1e]; rfl
  rw [hx1e] at M3 S3 hOk hOx hfx hx1
  obtain ⟨w3, hw3⟩ : ∃ w3, w2.setCells K 1 cs = w3 := ⟨_, rfl⟩
  rw [hw3] at M3 S3 ⊢
  have hli := Lib.hid (lift_c M3.out hOk.out hx1)
  have hre := Lib.hid (fun (w4 : World) (v : Value) (hM : CkM w4 B ((c.hold x1).list v) (but x1 (fr c.H))) => renew_l (c := c.hold x1) (x := x1) (by rw [hfx.out.2.1] at hM; rw [show frx x1 (c.hold x1).H = fr c.H from hfx.out.1]; exact hM) hOx.out hx1 hu)
  have hse := Lib.hid (fun (w4 : World) (v : Value) (hM : CkM w4 B (((c.hold x1).newest x1).list v) (frx x1 (c.hold x1).H)) => settle_l (c := c.hold x1) hM hOx.out hx1 hmo)
  have hbx := Lib.hid (fun (w6 : World) (hV : Vw w6 86 x1.blk (x1.at (c.uses + 1)).cells) => show BAt w6 (some ⟨K, 1, none⟩) l from by
    have := bat_x (x := x1.at (c.uses + 1)) hV
    have e1 : (x1.at (c.uses + 1)).b = l := by rw [← hx1e]; rfl
    rw [e1] at this
    rw [← hxb]; exact this)
  rw [hxb] at hli hre
  have hse := Lib.hid (fun w4 v hM => (hse.out w4 v hM))
  unfold pv at hse
  simp only [hxb] at hse
  unfold pv at hli hre
  clear k2 k3 harr hall hci2 hcs2 hci hc1 hcl hus hsz hw3 hx1e
  go_wp2_with (first
    | (go_at_call 53; refine hli.out.mono ?_; rintro e w4 ⟨rfl, v4, hM4, hS4⟩; have M4 := Lib.hid hM4; have S4 := Lib.hid hS4; clear hM4 hS4)
    | (go_at_call 54; refine (hre.out _ _ M4.out).mono ?_; rintro e w5 ⟨rfl, hM5, hS5⟩; have M5 := Lib.hid hM5; have S5 := Lib.hid hS5; clear hM5 hS5)
    | (go_at_call 55; refine (hse.out _ _ M5.out).mono ?_; rintro e w6 ⟨rfl, v6, hM6, hS6, hV6⟩; have M6 := Lib.hid hM6; have S6 := Lib.hid hS6; have V6 := Lib.hid hV6; clear hM6 hS6 hV6)
    | (go_at_call 49; refine (clone_b _ _ 128 l _ hl.out (by omega) (hbx.out _ (by rw [hxb]; exact V6.out)) (fun h => by cases h)).mono ?_; rintro e w7 ⟨v7, rfl, ho7, hb7⟩; obtain ⟨g7, cap7, rfl, _, _, _⟩ := ho7.at hl.out (by omega); have O7 := Lib.hid ho7; have B7 := Lib.hid hb7; clear ho7 hb7))
  go_ret2
  have hN6 : CkN w6 B (((c.hold x1).newest x1).trim.list v6) := trim_n (newest_ok hOx.out hx1) (newest_one (L := [x1]) (fun y hy => by
    rcases List.mem_cons.1 hy with e | hy
    · exact .inl (by rw [e]; exact List.mem_cons_self)
    · exact .inr (h'.out.n.one y hy)) x1 (fun y hy => by rw [List.mem_singleton] at hy; rw [hy])) M6.out
  have hS : Step w c.foot w6 (((c.hold x1).newest x1).trim.list v6).foot := (Step.of_below B1.out c.foot).trans (S2.out.trans (S3.out.trans (S4.out.trans (S5.out.trans S6.out))))
  obtain ⟨hD, hF⟩ := h'.out.turn hN6 rfl hS
  refine ⟨_, _, K, rfl, ⟨hD.on B7.out (Nat.le_refl _), hF.trans (Step.of_below B7.out _), ⟨rfl, rfl, rfl, rfl, ?_⟩⟩, O7.out.lower hS.size, fun k hk hk2 => ?_⟩
  · show trim c.most (but x1 (x1 :: c.H) ++ [x1.at (c.uses + 1)]) = _
    rw [hfx.out.2.2, nw_none hn'.out _ rfl, ← hx1'.out]; rfl
  · have h1 := (hD.lt k hk2).2
    have h2 := (OwnB.lt O7.out k hk).1
    omega
end
end Go.Proofs.Ytnfaeejeipbciaa
end

section
set_option linter.unusedVariables false
set_option linter.unusedSimpArgs false
namespace Go.Proofs.Ytnfaeejeipbciaa
open Go.RowKit BigFrame
set_option maxRecDepth 100000

section
variable {w w1 w' : World} {B : Nat} {c c' : Ck} {L L' : List Sx} {A A' : Lies} {d d' : Dk}
def Sx.withD (x : Sx) (b : Bool) : Sx := { x with dirty := b }
def Sx.withP (x : Sx) (b : Bool) : Sx := { x with pin := b }
theorem put_put {x y : Sx} (h : x.used = y.used) (H : List Sx) : putS y (putS x H) = putS y H := by
  unfold putS
  rw [List.map_map]
  refine List.map_congr_left fun z _ => ?_
  show (if (if z.used = x.used then x else z).used = y.used then y else (if z.used = x.used then x else z)) = _
  by_cases e : z.used = x.used
  · rw [if_pos e, if_pos h, if_pos (by omega)]
  · rw [if_neg e]
theorem but_put {x y : Sx} (h : x.used = y.used) (H : List Sx) : but y (putS y H) = but x H := by
  rw [but_used h.symm]
  unfold but putS
  induction H with
  | nil => rfl
  | cons a r ih =>
    rw [List.map_cons, List.filter_cons, List.filter_cons, ih]
    by_cases e : a.used = y.used
    · rw [if_pos e, if_neg (by simp [h]), if_neg (by simp [e, h])]
    · rw [if_neg e]
theorem CkM.setD (h : CkM w B c L) (hO : CkOk c L') {x : Sx} (hx : x ∈ c.H) (b : Bool) : CkM (w.setCell ⟨x.blk, 130, none⟩ (.bool b)) B (c.put (x.withD b)) L ∧ Step w c.foot (w.setCell ⟨x.blk, 130, none⟩ (.bool b)) (c.put (x.withD b)).foot := by
  have hV := (h.sec x hx).set 130 (.bool b)
  rw [Sx.set130 (hO.len x hx)] at hV
  refine ⟨h.putX hO.srt (x := x.withD b) hx rfl rfl rfl (fun k hk => heap_set_other _ ⟨x.blk, 130, none⟩ _ hk) hV, ?_⟩
  rw [put_foot (x := x.withD b) hO.srt hx rfl rfl]
  exact (Step.refl w c.foot).setCell x.blk 130 (.bool b) (foot_x hx)
theorem CkM.setP (h : CkM w B c L) (hO : CkOk c L') {x : Sx} (hx : x ∈ c.H) (b : Bool) : CkM (w.setCell ⟨x.blk, 131, none⟩ (.bool b)) B (c.put (x.withP b)) L ∧ Step w c.foot (w.setCell ⟨x.blk, 131, none⟩ (.bool b)) (c.put (x.withP b)).foot := by
  have hV := (h.sec x hx).set 131 (.bool b)
  rw [Sx.set131 (hO.len x hx)] at hV
  refine ⟨h.putX hO.srt (x := x.withP b) hx rfl rfl rfl (fun k hk => heap_set_other _ ⟨x.blk, 131, none⟩ _ hk) hV, ?_⟩
  rw [put_foot (x := x.withP b) hO.srt hx rfl rfl]
  exact (Step.refl w c.foot).setCell x.blk 131 (.bool b) (foot_x hx)
theorem put_okx (hO : CkOk c L) {x y : Sx} (hx : x ∈ c.H) (hu : x.used = y.used) (hp : y.pos = x.pos) (hl : y.b.length = 128) : CkOk (c.put y) (frx y (c.put y).H) := hO.put hx hu hp hl (frx_sub _ _)
theorem put_mem2 {x y : Sx} (hx : x ∈ c.H) (hu : x.used = y.used) : y ∈ (c.put y).H := put_self hx hu
theorem put_frx {x y : Sx} (hu : x.used = y.used) : frx y (c.put y).H = frx x c.H := (put_fr (x := y) c.H).trans (frx_used hu.symm c.H)
/-- what Put makes of a sector ahead of renew -/
def Sx.got (x : Sx) (l : List Nat) : Sx := (x.withB l).withD true
theorem put_mid {x : Sx} {v : Value} {l : List Nat} (hM : CkM w B (c.list v) (frx x c.H)) (hO : CkOk c (frx x c.H)) (hx : x ∈ c.H) (hl : l.length = 128) :
    CkM ((w.setCells x.blk 1 (bv l)).setCell ⟨x.blk, 130, none⟩ (.bool true)) B ((c.put (x.got l)).list v) (frx (x.got l) (c.put (x.got l)).H) ∧ Step w (c.list v).foot ((w.setCells x.blk 1 (bv l)).setCell ⟨x.blk, 130, none⟩ (.bool true)) ((c.put (x.got l)).list v).foot ∧
      Vw (w.setCells x.blk 1 (bv l)) 86 x.blk (x.withB l).cells := by
  have hO1 : CkOk (c.list v) (frx x c.H) := ⟨hO.srt, hO.top, hO.pos, hO.low, hO.len, hO.sub⟩
  obtain ⟨h1, h2⟩ := hM.setB hO1 hx hl
  have hx1 : x.withB l ∈ ((c.list v).put (x.withB l)).H := put_self hx rfl
  have hO2 : CkOk ((c.list v).put (x.withB l)) (frx (x.withB l) ((c.list v).put (x.withB l)).H) := put_okx hO1 hx rfl rfl hl
  obtain ⟨h3, h4⟩ := h1.setD hO2 hx1 true
  have e : ((c.list v).put (x.withB l)).put ((x.withB l).withD true) = (c.put (x.got l)).list v := by
    show ({ (c.list v) with H := putS ((x.withB l).withD true) (putS (x.withB l) c.H) } : Ck) = { (c.list v) with H := putS (x.got l) c.H }
    have e0 : putS ((x.withB l).withD true) (putS (x.withB l) c.H) = putS (x.got l) c.H := put_put (x := x.withB l) (y := (x.withB l).withD true) rfl c.H
    rw [e0]
  rw [e] at h3 h4
  rw [put_frx (x := x) (y := x.got l) rfl]
  exact ⟨h3, h2.trans h4, h1.sec _ hx1⟩
end
end Go.Proofs.Ytnfaeejeipbciaa
end
