/-
  Drop: those that are there go; what needs them needs them no more.
-/
import Derived.Test.YtgkmmdkagiohgaaDrd
set_option linter.unusedVariables false
set_option linter.unusedSimpArgs false
namespace Go.Proofs.Ytgkmmdkagiohgaa
open Go.RowKit BigFrame
set_option maxRecDepth 100000
variable {w w0 w' wr : World} {B a M : Nat} {G G0 G' : Gr} {ρ : Nat → Nat}

/-- without one -/
def Gr.cut (G : Gr) (i : Nat) : Gr := { G with ids := G.ids.filter fun y => decide (y ≠ i) }
theorem cut_mem {i y : Nat} : y ∈ (G.cut i).ids ↔ y ∈ G.ids ∧ y ≠ i := by
  show y ∈ G.ids.filter _ ↔ _
  rw [List.mem_filter, decide_eq_true_eq]
theorem filt_len {i : Nat} : ∀ {l : List Nat}, l.Nodup → i ∈ l → (l.filter fun y => decide (y ≠ i)).length + 1 = l.length
  | [], _, h => by cases h
  | x :: r, hn, h => by
    obtain ⟨h1, h2⟩ := List.nodup_cons.1 hn
    rw [List.filter_cons]
    by_cases e : x = i
    · subst e
      rw [if_neg (by simp)]
      rw [List.filter_eq_self.2 fun y hy => decide_eq_true (show y ≠ x from fun e => h1 (e ▸ hy))]
      rfl
    · rw [if_pos (by simpa using e)]
      have := filt_len (i := i) h2 (by rcases List.mem_cons.1 h with h | h; exact absurd h.symm e; exact h)
      simp only [List.length_cons]
      omega
theorem GrMem.cut {i : Nat} {l : List (Lit × Value)} (h : GrMem w B a M G) (hi : i ∈ G.ids) (hm : MapAt 3 w M l) (h2 : ∀ x ∈ G.ids, fndL l (.int .i64 (x : Int)) = some (pv (G.nb x))) (h3 : ∀ k : Int, (∀ x ∈ G.ids, k ≠ (x : Int)) → fndL l (.int .i64 k) = none) (hl : l.length = G.ids.length)
    (hm' : MapAt 3 w' M (strL l (.int .i64 (i : Int)))) (ht : w.mapTurned w' M) : GrMem w' B a M (G.cut i) ∧ GStep w G w' (G.cut i) := by
  have hT : TurnS (fun k => k = M) w w' := TurnS.turned ht rfl
  have hne : ∀ k r, G.own k = some r → r ≠ 1 → ¬ k = M := fun k r hk hr e => by
    rw [e, h.rM] at hk; exact hr (Option.some.inj hk).symm
  have hfl : (G.cut i).ids.length + 1 = G.ids.length := filt_len h.nd hi
  refine ⟨⟨h.box.turnS hT (hne _ _ h.rb (by omega)), ⟨_, hm', ?_, fun x hx => ?_, fun k hk => ?_⟩, fun j hj => ?_, fun j hj q hq => ?_, h.rb, h.rM, fun j hj => h.rn j (cut_mem.1 hj).1, fun j hj => h.rs j (cut_mem.1 hj).1, fun k r hk => ⟨(h.hi k r hk).1, Nat.lt_of_lt_of_le (h.hi k r hk).2 hT.size⟩, Nat.le_trans h.lo hT.size, fun j hj => h.pos j (cut_mem.1 hj).1, h.nd.filter _, Nat.le_trans (List.length_filter_le _ _) h.few⟩,
    hT.mono (by rintro k _ rfl; exact ⟨_, h.rM⟩), fun _ _ h => h, fun _ _ h => .inl h⟩
  · have := strL_len (hm.apart law_int) (h2 i hi)
    omega
  · obtain ⟨hx1, hx2⟩ := cut_mem.1 hx
    rw [fndL_str, if_neg (by omega)]
    exact h2 x hx1
  · rw [fndL_str]
    by_cases e : k = (i : Int)
    · rw [if_pos e]
    · rw [if_neg e]
      refine h3 k fun x hx => ?_
      by_cases e2 : x = i
      · rw [e2]; exact e
      · exact hk x (cut_mem.2 ⟨hx, e2⟩)
  · have hj1 := (cut_mem.1 hj).1
    have hp := h.pos j hj1
    exact (h.row j hj1).turnS hT (hne _ _ (h.rn j hj1) (by omega))
  · have hj1 := (cut_mem.1 hj).1
    have hp := h.pos j hj1
    exact (h.set j hj1 q hq).turn hT fun k hk => hne _ _ (h.rs j hj1 q hq k hk) (by omega)

/-- what is left of the numbers -/
def leftL (R : Nat → Int) : Nat → List Nat → List Nat
  | 0, l => l
  | k + 1, l => (leftL R k l).filter fun y => decide ((y : Int) ≠ R k)
theorem leftL_mem {R : Nat → Int} {l : List Nat} {y : Nat} : ∀ {k : Nat}, y ∈ leftL R k l ↔ y ∈ l ∧ ∀ j, j < k → (y : Int) ≠ R j
  | 0 => ⟨fun h => ⟨h, fun j hj => by omega⟩, fun h => h.1⟩
  | k + 1 => by
    show y ∈ (leftL R k l).filter _ ↔ _
    rw [List.mem_filter, leftL_mem (k := k), decide_eq_true_eq]
    constructor
    · rintro ⟨⟨h1, h2⟩, h3⟩
      exact ⟨h1, fun j hj => by
        by_cases e : j = k
        · rw [e]; exact h3
        · exact h2 j (by omega)⟩
    · rintro ⟨h1, h2⟩
      exact ⟨⟨h1, fun j hj => h2 j (by omega)⟩, h2 k (by omega)⟩
/-- so many of the numbers were looked at -/
structure DrAt (w0 : World) (B a M : Nat) (G0 : Gr) (ρ : Nat → Nat) (R : Nat → Int) (k c : Nat) (G : Gr) (w : World) : Prop where
  gr : GrMem w B a M G
  step : GStep w0 G0 w G
  ok : GOk G ρ
  ids : G.ids = leftL R k G0.ids
  cnt : c + G.ids.length = G0.ids.length
  nb : G.nb = G0.nb
  mem : ∀ q, q < 2 → ∀ j ∈ G.ids, ∀ y, y ∈ G.lk q j ↔ y ∈ G0.lk q j ∧ y ∈ G.ids
theorem DrAt.start {R : Nat → Int} (h : GrMem w B a M G) (ho : GOk G ρ) : DrAt w B a M G ρ R 0 0 G w :=
  ⟨h, GStep.refl _ _, ho, rfl, by omega, rfl, fun q hq j hj y => ⟨fun hy => ⟨hy, ho.inn q hq j hj y hy⟩, fun h => h.1⟩⟩
theorem DrAt.skip {R : Nat → Int} {k c : Nat} (h : DrAt w0 B a M G0 ρ R k c G w) (hk : ∀ x ∈ G.ids, R k ≠ (x : Int)) : DrAt w0 B a M G0 ρ R (k + 1) c G w :=
  ⟨h.gr, h.step, h.ok, by
    show _ = (leftL R k G0.ids).filter _
    rw [← h.ids, List.filter_eq_self.2 fun y hy => decide_eq_true (Ne.symm (hk y hy))], h.cnt, h.nb, h.mem⟩
/-- behind loose -/
structure LsdAt (w0 : World) (B a M : Nat) (G0 : Gr) (ρ : Nat → Nat) (R : Nat → Int) (k c i : Nat) (G1 : Gr) (w : World) : Prop where
  gr : GrMem w B a M G1
  fin : ∀ (l : List (Lit × Value)) w', MapAt 3 w M l → (∀ x ∈ G1.ids, fndL l (.int .i64 (x : Int)) = some (pv (G1.nb x))) → (∀ k : Int, (∀ x ∈ G1.ids, k ≠ (x : Int)) → fndL l (.int .i64 k) = none) → l.length = G1.ids.length → MapAt 3 w' M (strL l (.int .i64 (i : Int))) → w.mapTurned w' M → DrAt w0 B a M G0 ρ R (k + 1) (c + 1) (G1.cut i) w'
theorem DrAt.loosed {R : Nat → Int} {k c i : Nat} (h : DrAt w0 B a M G0 ρ R k c G w) (hi : i ∈ G.ids) (hk : R k = (i : Int)) {e : Ending} (hp : LoosePost w B a M G i e w') : ∃ G1, LsdAt w0 B a M G0 ρ R k c i G1 w' := by
  obtain ⟨_, G1, g1, g2, g3, g4, g5⟩ := hp
  refine ⟨G1, g1, fun l w2 q1 q2 q3 q4 q5 q6 => ?_⟩
  obtain ⟨r1, r2⟩ := g1.cut (by rw [g3]; exact hi) q1 q2 q3 q4 q5 q6
  have hmem : ∀ q, q < 2 → ∀ j ∈ (G1.cut i).ids, ∀ y, y ∈ (G1.cut i).lk q j ↔ y ∈ G.lk q j ∧ y ≠ i := fun q hq j hj y => by
    obtain ⟨h1, h2⟩ := cut_mem.1 hj
    rw [g3] at h1
    exact g5 q hq j h1 h2 y
  have hids : ∀ y, y ∈ (G1.cut i).ids ↔ y ∈ G.ids ∧ y ≠ i := fun y => by rw [cut_mem, g3]
  refine ⟨r1, (h.step.trans g2).trans r2, ⟨fun q hq j hj y hy => ?_, fun j hj y hy => ?_, fun j hj y hy => ?_⟩, ?_, ?_, g4.trans h.nb, fun q hq j hj y => ?_⟩
  · obtain ⟨h1, h2⟩ := (hmem q hq j hj y).1 hy
    exact (hids y).2 ⟨h.ok.inn q hq j ((hids j).1 hj).1 y h1, h2⟩
  · exact h.ok.low j ((hids j).1 hj).1 y ((hmem 0 (by omega) j hj y).1 hy).1
  · have hj' := (hids j).1 hj
    have hy' := (hids y).1 hy
    rw [hmem 0 (by omega) j hj, hmem 1 (by omega) y hy]
    have hd := h.ok.dual j hj'.1 y hy'.1
    constructor
    · rintro ⟨h1, _⟩; exact ⟨hd.1 h1, hj'.2⟩
    · rintro ⟨h1, _⟩; exact ⟨hd.2 h1, hy'.2⟩
  · show G1.ids.filter _ = (leftL R k G0.ids).filter _
    rw [g3, ← h.ids]
    congr 1
    funext y
    rw [hk]
    exact decide_eq_decide.2 ⟨fun h1 h2 => h1 (by omega), fun h1 h2 => h1 (by omega)⟩
  · have := filt_len h.gr.nd hi
    have h2 := h.cnt
    show c + 1 + (G1.ids.filter _).length = _
    rw [g3]
    omega
  · rw [hmem q hq j hj, hids, h.mem q hq j ((hids j).1 hj).1]
    constructor
    · rintro ⟨⟨h1, h2⟩, h3⟩; exact ⟨h1, h2, h3⟩
    · rintro ⟨h1, h2, h3⟩; exact ⟨⟨h1, h2⟩, h3⟩
theorem IntsAt.step {ad : Option Addr} {n : Nat} {R : Nat → Int} (h : IntsAt w ad n R) (hs : GStep w G w' G') (hR : ∀ x, ad = some x → G.own x.block = none) : IntsAt w' ad n R := by
  rcases h with h | ⟨b, off, e, hx⟩
  · exact .inl h
  · by_cases hn : n = 0
    · exact .inl hn
    · refine .inr ⟨b, off, e, fun k hk => ?_⟩
      have hc := hx k hk
      have hbl : b < w.heap.size := World.block_lt_of_cell? w _ hc
      rw [World.cell?_of_block (w := w) (w' := w') (a := ⟨b, off + k, none⟩) (hs.block hbl (hR ⟨b, off, none⟩ e))]
      exact hc
def DropPost (w : World) (B a M : Nat) (G : Gr) (ρ : Nat → Nat) (R : Nat → Int) (n : Nat) (e : Ending) (w' : World) : Prop := ∃ (c : Nat) (G' : Gr), e = .returned (.int .i64 (c : Int)) ∧ DrAt w B a M G ρ R n c G' w'
set_option maxHeartbeats 4000000 in
theorem drop_c {ad : Option Addr} {n cap : Nat} {R : Nat → Int} (h : GrMem w B a M G) (ho : GOk G ρ) (hn : n ≤ 1000) (hR : IntsAt w ad n R) (hRo : ∀ x, ad = some x → G.own x.block = none) (hb : ∀ k, k < n → -9223372036854775808 ≤ R k ∧ R k ≤ 9223372036854775807) :
    Calls Try.prog 14 #[.pointer (some ⟨a, 0, none⟩), .slice ad n cap] w (DropPost w B a M G ρ R n) := by
  have hb' := Lib.hid hb
  have hR' := Lib.hid hR
  have hRo' := Lib.hid hRo
  have hrel0 := Lib.hid (DrAt.start (R := R) h ho)
  have hfew := h.few
  clear h ho hb hR hRo
  go_enter Try.func14, Try.ntmps14
  go_wp2_with fail
  go_loopg [5, 7, 8, 13] n (fun g v5 v7 v8 v13 wr => ∃ k c : Nat, k + g = n ∧ v13 = .int .i64 (k : Int) ∧ v5 = .int .i64 (c : Int) ∧ ∃ G', DrAt w B a M G ρ R k c G' wr)
  case atStart => exact ⟨0, 0, by omega, rfl, rfl, G, hrel0.out⟩
  case round =>
    obtain ⟨k, c, hkg, rfl, rfl, G', hD⟩ := hrel
    have hcb : c ≤ 500 := by have := hD.cnt; omega
    by_cases hlt : k < n
    · obtain ⟨g, rfl⟩ : ∃ g, gk = g + 1 := ⟨gk - 1, by omega⟩
      obtain ⟨gb, off, rfl, hcell⟩ : ∃ gb off, ad = some ⟨gb, off, none⟩ ∧ wr.cell? ⟨gb, off + k, none⟩ = some (.int .i64 (R k)) := by
        rcases hR'.out.step hD.step hRo'.out with h0 | ⟨gb, off, e, hx⟩
        · omega
        · exact ⟨gb, off, e, hx k hlt⟩
      have c1 := hD.gr.box.cell (k := 0) rfl
      by_cases hp : ∃ x ∈ G'.ids, R k = (x : Int)
      · obtain ⟨x, hx, hxe⟩ := hp
        rw [hxe] at hcell
        have l1 : (Instr.lookup 44 (.map (some M)) (.int .i64 (x : Int)) false).run Try.prog wr = .ok (.pointer (some ⟨G'.nb x, 0, none⟩)) wr := hD.gr.look hx 0
        have e1 := ptr_some' (G'.nb x) wr
        have hpx := hD.gr.pos x hx
        have hlo := Lib.hid (loose_c hD.gr hD.ok hx)
        have hnx := Lib.hid (fun e w' hp => hD.loosed (e := e) (w' := w') hx hxe hp)
        clear hD hx
        have tk : True := trivial
        go_wp2_with (first
          | (go_at_call 24; refine hlo.out.mono ?_; intro e w2 hp; obtain ⟨G1, h1⟩ := hnx.out e w2 hp; obtain rfl := hp.1; have h1' := Lib.hid h1; have c2 := h1.gr.box.cell (k := 0) rfl; obtain ⟨l, t1, t2, t3, t4⟩ := h1.gr.tab; have t1' := Lib.hid t1; have t2' := Lib.hid t2; have t3' := Lib.hid t3; have t4' := Lib.hid t4; clear h1 hp t1 t2 t3 t4)
          | (have _t := tk; refine wpList_map_drop rfl _ _ rfl law_int Try.underlying44 M l rfl t1'.out (.int .i64 (x : Int)) (.int .i64 (x : Int)) rfl (key_nat (by omega)) ?_; intro w3 hm3 ht3; have hfin := Lib.hid (h1'.out.fin l w3 t1'.out t3'.out t4'.out t2'.out hm3.out ht3.out); clear tk))
        go_roundg g
        case measure => omega
        case rel => exact ⟨k + 1, c + 1, by omega, by go_num, by go_num, _, hfin.out⟩
      · have hno : ∀ x ∈ G'.ids, R k ≠ (x : Int) := fun x hx e => hp ⟨x, hx, e⟩
        have hbk := hb'.out k hlt
        have l1 : (Instr.lookup 44 (.map (some M)) (.int .i64 (R k)) false).run Try.prog wr = .ok (.pointer none) wr := hD.gr.lookNo hbk.1 hbk.2 hno 0
        have e1 := ptr_nil wr
        have hN := Lib.hid (hD.skip hno)
        clear hD hno hp hbk
        go_wp2_with fail
        go_roundg g
        case measure => omega
        case rel => exact ⟨k + 1, c, by omega, by go_num, rfl, G', hN.out⟩
    · have hkn : k = n := by omega
      subst hkn
      have hfin := Lib.hid (show DropPost w B a M G ρ R k (.returned (.int .i64 (c : Int))) wr from ⟨c, G', rfl, hD⟩)
      clear hD
      go_wp2_with fail
      go_ret
      exact hfin.out
end Go.Proofs.Ytgkmmdkagiohgaa
