/-
  An act of both caches: Get.
  An act of both caches: Put.
  An act of both caches: Clean, Pin, Drop, whatever the two tell alike.
  Acts of both caches: Pin, Drop, Clean.
  Acts of both caches: the power of both disks goes, or comes; and what is no act.
-/
import Derived.Test.YtnfaeejeipbciaaB21
import Derived.Deep.RegionHeld3

section
set_option linter.unusedVariables false
set_option linter.unusedSimpArgs false
namespace Go.Proofs.Ytnfaeejeipbciaa
open Go.RowKit BigFrame Go.Lib
set_option maxRecDepth 100000

section
variable {w0 w w' : World} {A A' : Lies} {d d' : Dk} {c c' : Ck} {C G m u u' t : Nat} {H H' : List Sx} {Gr W : Nat} {Ar Ar' : RLies} {rc rc' : RC} {X X' : List Nat}
theorem get_by (q : Duo w0 A d c C G m u H Gr W Ar rc [] w) (hu : u ≤ t) (hw : d.waits.length ≤ t) (hg : d.log.length ≤ t) (x y : Int) (on : Bool) {p : Nat} {l : List Nat} {dt pn : Bool} (hl : l.length ≤ 100000) (hp : p < 12)
    (h1 : ∀ wb, Below w.heap.size w wb → Calls Try.prog 26 #[.pointer (some ⟨C, 0, none⟩), .int .i64 x] wb (GotV w0 A d c C G m u H p l dt pn wb))
    (h2 : ∀ w1 c' H' X, Quo w0 w1 A d c' C G m (u + 1) H' Gr Ar d rc X → Calls Try.prog 30 #[.pointer (some ⟨W, 0, none⟩), .int .i64 x] w1 fun e w2 => ∃ v0, GotR rc w0.heap.size (X ++ (Ar.foot Gr ++ foots A c')) (trimR m (newR ⟨p, l, dt, pn, v0⟩ rc.L)) l w1 e w2) :
    Calls Try.prog 11 #[.pointer (some ⟨C, 0, none⟩), .pointer (some ⟨W, 0, none⟩), .pointer (some ⟨G, 0, none⟩), .agg #[.int .i64 0, .int .i64 x, .int .i64 y, .bool on]] w fun e w' => e = .returned (.bool true) ∧ Sd w0 C G m Gr W (t + 1) w' := by
  refine done_get x y 0 on l hl
    (P := fun wb w1 v => ∃ c' blk, Quo w0 w1 A d c' C G m (u + 1) (trim m (nw H ⟨blk, p, l, u + 1, dt, pn⟩)) Gr Ar d rc v.ownBlock.toList)
    (Q := fun wb w2 v => ∃ c' blk v0 lv, Quo w0 w2 A d c' C G m (u + 1) (trim m (nw H ⟨blk, p, l, u + 1, dt, pn⟩)) Gr Ar d (rc.lay lv (trimR m (newR ⟨p, l, dt, pn, v0⟩ rc.L))) v.ownBlock.toList) ?_ ?_ ?_
  · intro wb hb
    have qb := (q.made (X' := []) hb (fun _ h => by cases h)).q
    refine (h1 wb hb).mono ?_
    rintro e w1 ⟨v, c', blk, rfl, hcv, ho, hoff, hs⟩
    refine ⟨v, rfl, ho, fun hlt => hs.block _ hlt (q.q.cv.l.off (Nat.le_refl _)), c', blk, qb.turn hcv (step_w hs (fun k hk => hk) fun k hk => ?_) fun k hk => ?_⟩
    · rcases List.mem_append.1 hk with hk | hk
      · exact .inr (ho.lt k (Option.mem_toList.1 hk)).1
      · exact hs.foot k hk
    · have := ho.lt k (Option.mem_toList.1 hk)
      exact ⟨hoff k (Option.mem_toList.1 hk), Nat.le_trans qb.base this.1, this.2⟩
  · rintro wb w1 v ⟨c', blk, qo⟩ ho
    refine (h2 w1 c' _ _ qo).mono ?_
    rintro e w2 ⟨v0, v2, lv, rfl, ho2, hoff2, hca, hs⟩
    exact ⟨v2, rfl, ho2, OwnB.block ho fun k hk => hs.block k (ho.lt k hk).2 fun e => (qo.ca.over k e).2 (List.mem_append_left _ (Option.mem_toList.2 hk)), c', blk, v0, lv, qo.doc hca hs rfl⟩
  · rintro wb w2 w3 w4 v ⟨c', blk, v0, lv, qo⟩ ho3 hb hg4
    refine ⟨A, d, c', u + 1, _, Ar, _, ⟨((qo.made hb fun k h => .inl h).gone hg4 fun k hk => Option.mem_toList.2 hk).quo, q.at', q.most, (q.alk.nw (r := ⟨p, l, dt, pn, v0⟩) rfl).trim m, trimR_settled m _, trim_low (nw_low q.low hp), q.n, q.arm, q.few⟩, by omega, by omega, by omega⟩
theorem act_get (h : Sd w0 C G m Gr W t w) (ht : t < 60) {x y : Int} (hx : I64 x) (on : Bool) :
    Calls Try.prog 11 #[.pointer (some ⟨C, 0, none⟩), .pointer (some ⟨W, 0, none⟩), .pointer (some ⟨G, 0, none⟩), .agg #[.int .i64 0, .int .i64 x, .int .i64 y, .bool on]] w fun e w' => e = .returned (.bool true) ∧ Sd w0 C G m Gr W (t + 1) w' := by
  obtain ⟨A, d, c, u, H, Ar, rc, q, hu, hw, hlg⟩ := h
  have hm := q.few
  have hrm : rc.most ≤ 100000 := by rw [q.most]; omega
  have hpv : (.pointer (some ⟨W, 0, none⟩) : Value) = pv rc.W := by rw [q.at']; rfl
  cases hg : get H x with
  | some s =>
    obtain ⟨hs, hpos, k, r, hk, hr, hkey⟩ := q.alk.hit hg
    obtain ⟨_, e1, e2, e3, e4⟩ := key_free hkey
    refine get_by q hu hw hlg x y on (p := s.pos) (l := s.b) (dt := s.dirty) (pn := s.pin) (by rw [q.q.cv.len hs]; omega) (q.low s hs) (fun wb hb => ?_) fun w1 c' H' X qo => ?_
    · exact getv_hit (q.q.cv.read hb) (by omega) (by omega) hs hpos.symm
    · have := rget_hit qo.ca hr hrm qo.base qo.under
      rw [← e1, hpos, ← hpv, q.most] at this
      refine this.mono fun e w2 h2 => ⟨r.v, ?_⟩
      have hr' : (⟨s.pos, s.b, s.dirty, s.pin, r.v⟩ : Rr) = r := by rw [e1, e2, e3, e4]
      rw [hr', e2]
      exact h2
  | none =>
    have hno := q.alk.out hg
    have hpg : (.pointer (some ⟨Gr, 0, none⟩) : Value) = pv rc.G := by rw [q.q.g]; rfl
    have hfail : ∀ z : Int, z ≠ 0 → (∀ wb, IsDk wb w0.heap.size G A d → Calls Try.prog 28 #[.pointer (some ⟨G, 0, none⟩), .int .i64 x] wb (GivesR [] z wb)) → (∀ wb R, IsRf wb w0.heap.size Gr Ar R d → Calls Try.prog 59 #[.pointer (some ⟨Gr, 0, none⟩), .int .i64 x] wb (GivesR [] z wb)) →
        Calls Try.prog 11 #[.pointer (some ⟨C, 0, none⟩), .pointer (some ⟨W, 0, none⟩), .pointer (some ⟨G, 0, none⟩), .agg #[.int .i64 0, .int .i64 x, .int .i64 y, .bool on]] w fun e w' => e = .returned (.bool true) ∧ Sd w0 C G m Gr W (t + 1) w' := by
      intro z hz hp hr
      refine done_get x y z on [] (Nat.zero_le _) (P := fun wb w1 v => v = .slice none 0 0 ∧ Quo w0 w1 A d c C G m u H Gr Ar d rc []) (Q := fun wb w2 v => v = .slice none 0 0 ∧ Quo w0 w2 A d c C G m u H Gr Ar d rc []) ?_ ?_ ?_
      · intro wb hb
        have qb := (q.made (X' := []) hb (fun _ h => by cases h)).q
        refine (getv_no qb.cv hx hg hz (hp wb qb.cv.dk)).mono ?_
        rintro e w1 ⟨rfl, hb1⟩
        exact ⟨_, rfl, OwnB.nil _ _, fun hlt => hb1.block _ hlt, rfl, qb.made hb1 fun _ h => by cases h⟩
      · rintro wb w1 v ⟨rfl, qo⟩ ho
        have := rget_no qo.ca hx hno hz fun w' hb' => by rw [← hpg]; exact hr w' _ (qo.rf.read hb')
        rw [← hpv] at this
        refine this.mono ?_
        rintro e w2 ⟨rfl, hb2⟩
        exact ⟨_, rfl, OwnB.nil _ _, OwnB.nil _ _, rfl, qo.made hb2 fun _ h => by cases h⟩
      · rintro wb w2 w3 w4 v ⟨rfl, qo⟩ ho3 hb hg4
        exact ⟨A, d, c, u, H, Ar, rc, ⟨((qo.made (X' := []) hb fun k h => .inl h).gone hg4 fun k hk => by cases hk).quo, q.at', q.most, q.alk, q.set, q.low, q.n, q.arm, q.few⟩, by omega, by omega, by omega⟩
    cases hon : d.on with
    | false => exact hfail 4 (by decide) (fun wb h => read_off _ _ _ _ _ _ h hon) fun wb R h => rread_off _ _ _ _ _ _ _ h hon
    | true =>
      by_cases hr : 0 ≤ x ∧ x < 12
      · obtain ⟨p, rfl⟩ := Int.eq_ofNat_of_zero_le hr.1
        have hp : p < d.n := by rw [q.n]; omega
        have hl : (d.seen p).length = 128 := q.q.rf.fine.seen hp
        refine get_by q hu hw hlg _ y on (p := p) (l := d.seen p) (dt := false) (pn := false) (by omega) (by omega) (fun wb hb => ?_) fun w1 c' H' X qo => ?_
        · exact getv_miss (q.q.cv.read hb) (by omega) (by omega) hg hon hp rfl
        · have := rget_go qo.ca (p := p) (by omega) hl (fun r hr e => hno r hr (by rw [e])) hrm qo.base qo.under fun w' hb' => by rw [← hpg]; exact rread_go _ _ _ _ _ _ _ (qo.rf.read hb') hon hp
          rw [← hpv, q.most] at this
          exact this
      · refine hfail 2 (by decide) (fun wb h => read_far _ _ _ _ _ _ h hon (by rw [q.n]; omega)) fun wb R h => rread_far _ _ _ _ _ _ _ h hon (by rw [q.n]; omega)
end
end Go.Proofs.Ytnfaeejeipbciaa
end

section
set_option linter.unusedVariables false
set_option linter.unusedSimpArgs false
namespace Go.Proofs.Ytnfaeejeipbciaa
open Go.RowKit BigFrame Go.Lib
set_option maxRecDepth 100000

section
variable {w0 w w' : World} {A A' : Lies} {d d' : Dk} {c c' : Ck} {C G m u u' t : Nat} {H H' : List Sx} {Gr W : Nat} {Ar Ar' : RLies} {rc rc' : RC} {X X' : List Nat}
theorem put_by (q : Duo w0 A d c C G m u H Gr W Ar rc [] w) (hu : u ≤ t) (hw : d.waits.length ≤ t) (hg : d.log.length ≤ t) (x y : Int) (on : Bool) {p : Nat} {pn : Bool} (hp : p < 12)
    (h1 : ∀ w3 g, Below w.heap.size w w3 → w.heap.size < g → g < w3.heap.size → BAt w3 (some ⟨g, 0, none⟩) (fillN y 128) → Calls Try.prog 22 #[.pointer (some ⟨C, 0, none⟩), .int .i64 x, .slice (some ⟨g, 0, none⟩) 128 131] w3 (PutV w0 A d c C G m u H p (fillN y 128) pn w3))
    (h2 : ∀ w8 g cap c' H', Quo w0 w8 A d c' C G m (u + 1) H' Gr Ar d rc [] → BAt w8 (some ⟨g, 0, none⟩) (fillN y 128) → Calls Try.prog 33 #[.pointer (some ⟨W, 0, none⟩), .int .i64 x, .slice (some ⟨g, 0, none⟩) 128 cap] w8 fun e w9 => e = .returned (.int .i64 0) ∧ ∃ v, LaidR rc w0.heap.size ([] ++ (Ar.foot Gr ++ foots A c')) (trimR m (newR ⟨p, fillN y 128, true, pn, v⟩ rc.L)) w8 w9) :
    Calls Try.prog 11 #[.pointer (some ⟨C, 0, none⟩), .pointer (some ⟨W, 0, none⟩), .pointer (some ⟨G, 0, none⟩), .agg #[.int .i64 1, .int .i64 x, .int .i64 y, .bool on]] w fun e w' => e = .returned (.bool true) ∧ Sd w0 C G m Gr W (t + 1) w' := by
  refine done_put x y 0 on (fillN y 128) rfl
    (P := fun w4 g => w.heap.size < w4.heap.size ∧ ∃ c' blk, Quo w0 w4 A d c' C G m (u + 1) (trim m (nw H ⟨blk, p, fillN y 128, u + 1, true, pn⟩)) Gr Ar d rc [g])
    (P2 := fun w4 => w.heap.size < w4.heap.size ∧ ∃ c' blk, Quo w0 w4 A d c' C G m (u + 1) (trim m (nw H ⟨blk, p, fillN y 128, u + 1, true, pn⟩)) Gr Ar d rc []) ?_ ?_ ?_
  · intro w3 g hb hg1 hg2 hx
    have qb := (q.made (X' := [g]) hb (fun k hk => by rw [List.mem_singleton] at hk; subst hk; exact .inr ⟨by omega, hg2⟩)).q
    refine (h1 w3 g hb hg1 hg2 hx).mono ?_
    rintro e w4 ⟨c', blk, rfl, hcv, hs⟩
    have hgf : g ∉ foots A c := q.q.cv.l.off (by omega)
    refine ⟨rfl, hs.block _ (by omega) (q.q.cv.l.off (Nat.le_refl _)), hs.block g hg2 hgf, hs.size, Nat.lt_of_lt_of_le (by omega) hs.size, c', blk, qb.turn hcv (step_pre hs [g]) fun k hk => ?_⟩
    rw [List.mem_singleton] at hk
    subst hk
    exact ⟨fun e => (hs.foot k e).elim hgf (by omega), Nat.le_trans q.q.base (by omega), Nat.lt_of_lt_of_le hg2 hs.size⟩
  · rintro w4 w5 g ⟨hz, c', blk, qo⟩ hg5
    exact ⟨Nat.lt_of_lt_of_le hz hg5.size, c', blk, (qo.gone hg5 fun k hk => by rw [List.mem_singleton]; exact (Option.some.inj hk).symm).quo⟩
  · rintro w5 w8 g cap ⟨hz, c', blk, qo⟩ hb hg1 hg2 hx
    have qb := qo.made (X' := []) hb (fun _ h => by cases h)
    refine (h2 w8 g cap c' _ qb hx).mono ?_
    rintro e w9 ⟨rfl, v, lv, hca, hs⟩
    refine ⟨rfl, hs.block _ (Nat.lt_of_lt_of_le hz hb.size) fun e => ?_, A, d, c', u + 1, _, Ar, _, ⟨qb.doc hca hs rfl, q.at', q.most, (q.alk.nw (r := ⟨p, fillN y 128, true, pn, v⟩) rfl).trim m, trimR_settled m _, trim_low (nw_low q.low hp), q.n, q.arm, q.few⟩, by omega, by omega, by omega⟩
    have := q.q.ca.lt _ e
    omega
theorem act_put (h : Sd w0 C G m Gr W t w) (ht : t < 60) {x : Int} (y : Int) (hx : I64 x) (on : Bool) :
    Calls Try.prog 11 #[.pointer (some ⟨C, 0, none⟩), .pointer (some ⟨W, 0, none⟩), .pointer (some ⟨G, 0, none⟩), .agg #[.int .i64 1, .int .i64 x, .int .i64 y, .bool on]] w fun e w' => e = .returned (.bool true) ∧ Sd w0 C G m Gr W (t + 1) w' := by
  obtain ⟨A, d, c, u, H, Ar, rc, q, hu, hw, hlg⟩ := h
  have hm := q.few
  have hrm : rc.most ≤ 100000 := by rw [q.most]; omega
  have hpv : (.pointer (some ⟨W, 0, none⟩) : Value) = pv rc.W := by rw [q.at']; rfl
  have hL : (fillN y 128).length = 128 := fillN_length _ _
  cases hg : get H x with
  | some s =>
    obtain ⟨hs, hpos, k, r, hk, hr, hkey⟩ := q.alk.hit hg
    obtain ⟨_, e1, e2, e3, e4⟩ := key_free hkey
    have hp := q.low s hs
    refine put_by q hu hw hlg x y on (p := s.pos) (pn := s.pin) hp (fun w3 g hb hg1 hg2 hx3 => ?_) fun w8 g cap c' H' qo hx8 => ?_
    · exact putv_hit (q.q.cv.read hb) (by omega) (by omega) hs (by rw [q.n]; exact hp) hpos.symm hL (by omega) hx3 ⟨hg2, q.q.cv.l.off (by omega)⟩
    · have := rput_hit (bcap := cap) qo.ca hr hL hx8 qo.secs.1 qo.secs.2 (by rw [q.n, ← e1]; exact hp) hrm qo.base qo.under
      rw [← e1, ← e4, hpos, ← hpv, q.most] at this
      exact this
  | none =>
    have hno := q.alk.out hg
    by_cases hr : 0 ≤ x ∧ x < 12
    · obtain ⟨p, rfl⟩ := Int.eq_ofNat_of_zero_le hr.1
      have hp : p < d.n := by rw [q.n]; omega
      refine put_by q hu hw hlg _ y on (p := p) (pn := false) (by omega) (fun w3 g hb hg1 hg2 hx3 => ?_) fun w8 g cap c' H' qo hx8 => ?_
      · exact putv_miss (q.q.cv.read hb) (by omega) (by omega) hg hp rfl hL (by omega) hx3 ⟨hg2, q.q.cv.l.off (by omega)⟩
      · have := rput_miss (bcap := cap) qo.ca (p := p) (by omega) (fun r hr e => hno r hr (by rw [e])) hL hx8 qo.secs.1 qo.secs.2 hp hrm qo.base qo.under
        rw [← hpv, q.most] at this
        exact this
    · refine done_put x y 2 on (fillN y 128) rfl (P := fun w4 g => w.heap.size < w4.heap.size ∧ Quo w0 w4 A d c C G m u H Gr Ar d rc [g]) (P2 := fun w4 => w.heap.size < w4.heap.size ∧ Quo w0 w4 A d c C G m u H Gr Ar d rc []) ?_ ?_ ?_
      · intro w3 g hb hg1 hg2 hx3
        have qb := (q.made (X' := [g]) hb (fun k hk => by rw [List.mem_singleton] at hk; subst hk; exact .inr ⟨by omega, hg2⟩)).q
        refine (putv_bad qb.cv hx hg (by rw [q.n]; omega)).mono ?_
        rintro e w4 ⟨rfl, rfl⟩
        exact ⟨rfl, rfl, rfl, Nat.le_refl _, by omega, qb⟩
      · rintro w4 w5 g ⟨hz, qo⟩ hg5
        exact ⟨Nat.lt_of_lt_of_le hz hg5.size, (qo.gone hg5 fun k hk => by rw [List.mem_singleton]; exact (Option.some.inj hk).symm).quo⟩
      · rintro w5 w8 g cap ⟨hz, qo⟩ hb hg1 hg2 hx8
        have qb := qo.made (X' := []) hb (fun _ h => by cases h)
        have := rput_bad (a := x) (bp := some ⟨g, 0, none⟩) (bn := 128) (bcap := cap) qb.ca qb.secs.1 (by rw [q.n]; omega)
        rw [← hpv] at this
        refine this.mono ?_
        rintro e w9 ⟨rfl, rfl⟩
        exact ⟨rfl, rfl, A, d, c, u, H, Ar, rc, ⟨qb, q.at', q.most, q.alk, q.set, q.low, q.n, q.arm, q.few⟩, by omega, by omega, by omega⟩
end
end Go.Proofs.Ytnfaeejeipbciaa
end

section
set_option linter.unusedVariables false
set_option linter.unusedSimpArgs false
namespace Go.Proofs.Ytnfaeejeipbciaa
open Go.RowKit BigFrame Go.Lib
set_option maxRecDepth 100000

set_option maxHeartbeats 4000000 in
theorem done_clean {w : World} {C W G : Nat} {P : World → Prop} {R : World → Prop} (x y z : Int) (on : Bool)
    (h1 : ∀ wb, Below w.heap.size w wb → w.heap.size < wb.heap.size → Calls Try.prog 24 #[.pointer (some ⟨C, 0, none⟩), .int .i64 x] wb fun e w1 => e = .returned (.int .i64 z) ∧ w1.heap[w.heap.size]? = wb.heap[w.heap.size]? ∧ P w1)
    (h2 : ∀ w1, P w1 → Calls Try.prog 35 #[.pointer (some ⟨W, 0, none⟩), .int .i64 x] w1 fun e w2 => e = .returned (.int .i64 z) ∧ w2.heap[w.heap.size]? = w1.heap[w.heap.size]? ∧ R w2) :
    Calls Try.prog 11 #[.pointer (some ⟨C, 0, none⟩), .pointer (some ⟨W, 0, none⟩), .pointer (some ⟨G, 0, none⟩), .agg #[.int .i64 3, .int .i64 x, .int .i64 y, .bool on]] w fun e w' => e = .returned (.bool true) ∧ R w' := by
  obtain ⟨wb, hwb⟩ : ∃ wb, (w.alloc (.cells #[.int .i64 3, .int .i64 x, .int .i64 y, .bool on] 36)) = wb := ⟨_, rfl⟩
  have k0 : wb.cell? ⟨w.heap.size, 0, none⟩ = some (.int .i64 3) := by rw [← hwb]; exact cell_of_row _ _ 0 _ _ _ (heap_alloc_new _ _)
  have k1 : wb.cell? ⟨w.heap.size, 1, none⟩ = some (.int .i64 x) := by rw [← hwb]; exact cell_of_row _ _ 1 _ _ _ (heap_alloc_new _ _)
  have hs : w.heap.size < wb.heap.size := by rw [← hwb]; simp
  have h1' := Lib.hid (h1 wb.drew (by rw [← hwb]; exact ((Below.refl w.heap.size w).alloc (Nat.le_refl _) _).drew) hs)
  have h2' := Lib.hid h2
  clear h1 h2
  go_enter Try.func11, Try.ntmps11
  go_upto_region 1 with fail
  go_upto_region 16 with fail
  have d1 : wb.drew.cell? ⟨w.heap.size, 1, none⟩ = some (.int .i64 x) := k1
  clear hwb
  go_region_held3 (fun w' => w'.cell? ⟨w.heap.size, 1, none⟩ = some (.int .i64 x)) (first | exact d1 | exact a1 | exact b1) (first
    | (go_at_call 24; refine h1'.out.mono ?_; rintro e w1 ⟨rfl, hk, hP⟩; have P1 := Lib.hid hP; have a1 : w1.cell? ⟨w.heap.size, 1, none⟩ = some (.int .i64 x) := (by rw [World.cell?_of_block (a := ⟨w.heap.size, 1, none⟩) hk]; exact d1); clear hP hk)
    | (go_at_call 35; refine (h2'.out _ P1.out).mono ?_; rintro e w2 ⟨rfl, hk, hR⟩; have R2 := Lib.hid hR; have b1 : w2.cell? ⟨w.heap.size, 1, none⟩ = some (.int .i64 x) := (by rw [World.cell?_of_block (a := ⟨w.heap.size, 1, none⟩) hk]; exact a1); clear hR hk))
  go_wp2_with fail
  go_ret
  exact ⟨by simp, R2.out⟩
set_option maxHeartbeats 4000000 in
theorem done_pin {w : World} {C W G : Nat} {P : World → Prop} {R : World → Prop} (x y z : Int) (on : Bool)
    (h1 : ∀ wb, Below w.heap.size w wb → w.heap.size < wb.heap.size → Calls Try.prog 29 #[.pointer (some ⟨C, 0, none⟩), .int .i64 x, .bool on] wb fun e w1 => e = .returned (.int .i64 z) ∧ w1.heap[w.heap.size]? = wb.heap[w.heap.size]? ∧ P w1)
    (h2 : ∀ w1, P w1 → Calls Try.prog 34 #[.pointer (some ⟨W, 0, none⟩), .int .i64 x, .bool on] w1 fun e w2 => e = .returned (.int .i64 z) ∧ w2.heap[w.heap.size]? = w1.heap[w.heap.size]? ∧ R w2) :
    Calls Try.prog 11 #[.pointer (some ⟨C, 0, none⟩), .pointer (some ⟨W, 0, none⟩), .pointer (some ⟨G, 0, none⟩), .agg #[.int .i64 2, .int .i64 x, .int .i64 y, .bool on]] w fun e w' => e = .returned (.bool true) ∧ R w' := by
  obtain ⟨wb, hwb⟩ : ∃ wb, (w.alloc (.cells #[.int .i64 2, .int .i64 x, .int .i64 y, .bool on] 36)) = wb := ⟨_, rfl⟩
  have k0 : wb.cell? ⟨w.heap.size, 0, none⟩ = some (.int .i64 2) := by rw [← hwb]; exact cell_of_row _ _ 0 _ _ _ (heap_alloc_new _ _)
  have k1 : wb.cell? ⟨w.heap.size, 1, none⟩ = some (.int .i64 x) := by rw [← hwb]; exact cell_of_row _ _ 1 _ _ _ (heap_alloc_new _ _)
  have k3 : wb.cell? ⟨w.heap.size, 3, none⟩ = some (.bool on) := by rw [← hwb]; exact cell_of_row _ _ 3 _ _ _ (heap_alloc_new _ _)
  have hs : w.heap.size < wb.heap.size := by rw [← hwb]; simp
  have h1' := Lib.hid (h1 wb.drew (by rw [← hwb]; exact ((Below.refl w.heap.size w).alloc (Nat.le_refl _) _).drew) hs)
  have h2' := Lib.hid h2
  clear h1 h2
  go_enter Try.func11, Try.ntmps11
  go_upto_region 1 with fail
  go_upto_region 14 with fail
  have d1 : wb.drew.cell? ⟨w.heap.size, 1, none⟩ = some (.int .i64 x) := k1
  have d3 : wb.drew.cell? ⟨w.heap.size, 3, none⟩ = some (.bool on) := k3
  clear hwb
  go_region_held3 (fun w' => w'.cell? ⟨w.heap.size, 1, none⟩ = some (.int .i64 x) ∧ w'.cell? ⟨w.heap.size, 3, none⟩ = some (.bool on)) (first | exact ⟨d1, d3⟩ | exact ⟨a1, a3⟩ | exact ⟨b1, b3⟩) (first
    | (go_at_call 29; refine h1'.out.mono ?_; rintro e w1 ⟨rfl, hk, hP⟩; have P1 := Lib.hid hP; have a1 : w1.cell? ⟨w.heap.size, 1, none⟩ = some (.int .i64 x) := (by rw [World.cell?_of_block (a := ⟨w.heap.size, 1, none⟩) hk]; exact d1); have a3 : w1.cell? ⟨w.heap.size, 3, none⟩ = some (.bool on) := (by rw [World.cell?_of_block (a := ⟨w.heap.size, 3, none⟩) hk]; exact d3); clear hP hk)
    | (go_at_call 34; refine (h2'.out _ P1.out).mono ?_; rintro e w2 ⟨rfl, hk, hR⟩; have R2 := Lib.hid hR; have b1 : w2.cell? ⟨w.heap.size, 1, none⟩ = some (.int .i64 x) := (by rw [World.cell?_of_block (a := ⟨w.heap.size, 1, none⟩) hk]; exact a1); have b3 : w2.cell? ⟨w.heap.size, 3, none⟩ = some (.bool on) := (by rw [World.cell?_of_block (a := ⟨w.heap.size, 3, none⟩) hk]; exact a3); clear hR hk))
  go_wp2_with fail
  go_ret
  exact ⟨by simp, R2.out⟩
end Go.Proofs.Ytnfaeejeipbciaa
end

section
set_option linter.unusedVariables false
set_option linter.unusedSimpArgs false
namespace Go.Proofs.Ytnfaeejeipbciaa
open Go.RowKit BigFrame Go.Lib
set_option maxRecDepth 100000

section
variable {w0 w w' : World} {A A' : Lies} {d d' : Dk} {c c' : Ck} {C G m u u' t : Nat} {H H' : List Sx} {Gr W : Nat} {Ar Ar' : RLies} {rc rc' : RC} {X X' : List Nat}
theorem putS_low {n : Nat} {y : Sx} (h : ∀ x ∈ H, x.pos < n) (hy : y.pos < n) : ∀ x ∈ putS y H, x.pos < n := fun x hx => by
  unfold putS at hx
  obtain ⟨z, hz, rfl⟩ := List.mem_map.1 hx
  split
  · exact hy
  · exact h z hz
/-- the program's side: a call that answers a number -/
theorem act1 (q : Duo w0 A d c C G m u H Gr W Ar rc [] w) {f : FuncId} {args : Array Value} {z : Int} (hf : ∀ wb, Below w.heap.size w wb → Calls Try.prog f args wb (ActV w0 d' A c C G m u z H' wb)) :
    ∀ wb, Below w.heap.size w wb → w.heap.size < wb.heap.size → Calls Try.prog f args wb fun e w1 => e = .returned (.int .i64 z) ∧ w1.heap[w.heap.size]? = wb.heap[w.heap.size]? ∧ w.heap.size < w1.heap.size ∧ ∃ A' c', Quo w0 w1 A' d' c' C G m u H' Gr Ar d rc [] := fun wb hb hz => by
  have qb := (q.made (X' := []) hb (fun _ h => by cases h)).q
  refine (hf wb hb).mono ?_
  rintro e w1 ⟨A', c', rfl, hcv, hs⟩
  exact ⟨rfl, hs.block _ hz (q.q.cv.l.off (Nat.le_refl _)), Nat.lt_of_lt_of_le hz hs.size, A', c', qb.turn hcv hs fun k hk => by cases hk⟩
/-- it leaves all as it was -/
theorem act1_same (q : Duo w0 A d c C G m u H Gr W Ar rc [] w) {f : FuncId} {args : Array Value} {z : Int} (hf : ∀ wb, Below w.heap.size w wb → Calls Try.prog f args wb fun e w' => e = .returned (.int .i64 z) ∧ wb = w') :
    ∀ wb, Below w.heap.size w wb → w.heap.size < wb.heap.size → Calls Try.prog f args wb fun e w1 => e = .returned (.int .i64 z) ∧ w1.heap[w.heap.size]? = wb.heap[w.heap.size]? ∧ w.heap.size < w1.heap.size ∧ ∃ A' c', Quo w0 w1 A' d c' C G m u H Gr Ar d rc [] := fun wb hb hz => by
  have qb := (q.made (X' := []) hb (fun _ h => by cases h)).q
  refine (hf wb hb).mono ?_
  rintro e w1 ⟨rfl, rfl⟩
  exact ⟨rfl, rfl, hz, A, c, qb⟩
/-- the document's side -/
theorem act2 (q : Duo w0 A d c C G m u H Gr W Ar rc [] w) (hu : u ≤ t) (hw : d.waits.length ≤ t) (hg : d.log.length ≤ t) {f : FuncId} {args : Array Value} {z : Int} {L' : List Rr} (ha : Alk H' L') (hset : Settled m L') (hlow : ∀ x ∈ H', x.pos < 12)
    (hf : ∀ w1 A' c', Quo w0 w1 A' d c' C G m u H' Gr Ar d rc [] → Calls Try.prog f args w1 fun e w2 => e = .returned (.int .i64 z) ∧ LaidR rc w0.heap.size ([] ++ (Ar.foot Gr ++ foots A' c')) L' w1 w2) :
    ∀ w1, (w.heap.size < w1.heap.size ∧ ∃ A' c', Quo w0 w1 A' d c' C G m u H' Gr Ar d rc []) → Calls Try.prog f args w1 fun e w2 => e = .returned (.int .i64 z) ∧ w2.heap[w.heap.size]? = w1.heap[w.heap.size]? ∧ Sd w0 C G m Gr W (t + 1) w2 := by
  rintro w1 ⟨hz, A', c', qo⟩
  refine (hf w1 A' c' qo).mono ?_
  rintro e w2 ⟨rfl, lv, hca, hs⟩
  refine ⟨rfl, hs.block _ hz fun e => ?_, A', d, c', u, _, Ar, _, ⟨qo.doc hca hs rfl, q.at', q.most, ha, hset, hlow, q.n, q.arm, q.few⟩, by omega, by omega, by omega⟩
  have := q.q.ca.lt _ e
  omega
theorem act2_same (q : Duo w0 A d c C G m u H Gr W Ar rc [] w) (hu : u ≤ t) (hw : d.waits.length ≤ t) (hg : d.log.length ≤ t) {f : FuncId} {args : Array Value} {z : Int}
    (hf : ∀ w1 A' c', Quo w0 w1 A' d c' C G m u H Gr Ar d rc [] → Calls Try.prog f args w1 fun e w2 => e = .returned (.int .i64 z) ∧ w1 = w2) :
    ∀ w1, (w.heap.size < w1.heap.size ∧ ∃ A' c', Quo w0 w1 A' d c' C G m u H Gr Ar d rc []) → Calls Try.prog f args w1 fun e w2 => e = .returned (.int .i64 z) ∧ w2.heap[w.heap.size]? = w1.heap[w.heap.size]? ∧ Sd w0 C G m Gr W (t + 1) w2 := by
  rintro w1 ⟨hz, A', c', qo⟩
  refine (hf w1 A' c' qo).mono ?_
  rintro e w2 ⟨rfl, rfl⟩
  exact ⟨rfl, rfl, A', d, c', u, _, Ar, _, ⟨qo, q.at', q.most, q.alk, q.set, q.low, q.n, q.arm, q.few⟩, by omega, by omega, by omega⟩

theorem act_pin (h : Sd w0 C G m Gr W t w) (ht : t < 60) {x : Int} (y : Int) (hx : I64 x) (on : Bool) :
    Calls Try.prog 11 #[.pointer (some ⟨C, 0, none⟩), .pointer (some ⟨W, 0, none⟩), .pointer (some ⟨G, 0, none⟩), .agg #[.int .i64 2, .int .i64 x, .int .i64 y, .bool on]] w fun e w' => e = .returned (.bool true) ∧ Sd w0 C G m Gr W (t + 1) w' := by
  obtain ⟨A, d, c, u, H, Ar, rc, q, hu, hw, hlg⟩ := h
  have hm := q.few
  have hrm : rc.most ≤ 100000 := by rw [q.most]; omega
  have hpv : (.pointer (some ⟨W, 0, none⟩) : Value) = pv rc.W := by rw [q.at']; rfl
  cases hg : get H x with
  | some s =>
    obtain ⟨hs, hpos, k, r, hk, hr, hkey⟩ := q.alk.hit hg
    obtain ⟨_, e1, e2, e3, e4⟩ := key_free hkey
    refine done_pin x y 0 on (act1 q fun wb hb => pinv_hit (q.q.cv.read hb) (by omega) hs on hpos.symm)
      (act2 q hu hw hlg (L' := trimR m (rc.L.set k { r with pin := on })) ((q.alk.put (y := s.withP on) (r' := { r with pin := on }) q.q.cv.srt hk rfl (by simp [Sx.key, Rr.key, Sx.withP, e1, e2, e3])).trim m) (trimR_settled m _) (trim_low (putS_low q.low (q.low s hs))) fun w1 A' c' qo => ?_)
    have := rpin_hit qo.ca hr on hrm qo.base qo.under
    rw [← e1, hpos, ← hpv, q.most] at this
    rw [← e1]
    exact this
  | none =>
    refine done_pin x y 5 on (act1_same q fun wb hb => pinv_none (q.q.cv.read hb) hx on hg) (act2_same q hu hw hlg fun w1 A' c' qo => ?_)
    have := rpin_none qo.ca hx (q.alk.out hg) on
    rw [← hpv] at this
    exact this
theorem act_drop (h : Sd w0 C G m Gr W t w) (ht : t < 60) {y : Int} (x : Int) (on : Bool) :
    Calls Try.prog 11 #[.pointer (some ⟨C, 0, none⟩), .pointer (some ⟨W, 0, none⟩), .pointer (some ⟨G, 0, none⟩), .agg #[.int .i64 4, .int .i64 x, .int .i64 y, .bool on]] w fun e w' => e = .returned (.bool true) ∧ Sd w0 C G m Gr W (t + 1) w' := by
  obtain ⟨A, d, c, u, H, Ar, rc, q, hu, hw, hlg⟩ := h
  have hpv : (.pointer (some ⟨W, 0, none⟩) : Value) = pv rc.W := by rw [q.at']; rfl
  have ha : -1000000 ≤ y.tmod 9 ∧ y.tmod 9 ≤ 1000000 := by
    have h1 := Int.tmod_lt_of_pos y (b := 9) (by decide)
    have h2 := Int.lt_tmod_of_pos y (b := 9) (by decide)
    omega
  obtain ⟨a, hay⟩ : ∃ a, a = y.tmod 9 := ⟨_, rfl⟩
  rw [← hay] at ha
  have hd := q.alk.drop a.toNat
  refine done_drop x y ((min a.toNat (fr H).length : Nat) : Int) on (by rw [← hay]; exact act1 q fun wb hb => dropv (q.q.cv.read hb) ha rfl)
    (by
      rw [← hay]
      refine act2 q hu hw hlg (L' := dropR rc.L a.toNat) ?_ (q.set.drop _) (fun x hx => q.low x ((dropN_sub _ _).subset hx)) fun w1 A' c' qo => ?_
      · rw [dropN_min]; exact hd.1
      · have := drop_r qo.ca a ha qo.base qo.under
        rw [← hpv, hd.2] at this
        exact this)
theorem act_clean (h : Sd w0 C G m Gr W t w) (ht : t < 60) {x : Int} (y : Int) (hx : I64 x) (on : Bool) :
    Calls Try.prog 11 #[.pointer (some ⟨C, 0, none⟩), .pointer (some ⟨W, 0, none⟩), .pointer (some ⟨G, 0, none⟩), .agg #[.int .i64 3, .int .i64 x, .int .i64 y, .bool on]] w fun e w' => e = .returned (.bool true) ∧ Sd w0 C G m Gr W (t + 1) w' := by
  obtain ⟨A, d, c, u, H, Ar, rc, q, hu, hw, hlg⟩ := h
  have hm := q.few
  have hrm : rc.most ≤ 100000 := by rw [q.most]; omega
  have hpv : (.pointer (some ⟨W, 0, none⟩) : Value) = pv rc.W := by rw [q.at']; rfl
  have hpg : (.pointer (some ⟨Gr, 0, none⟩) : Value) = pv rc.G := by rw [q.q.g]; rfl
  cases hg : get H x with
  | none =>
    refine done_clean x y 5 on (act1_same q fun wb hb => cleanv_none (q.q.cv.read hb) hx hg) (act2_same q hu hw hlg fun w1 A' c' qo => ?_)
    have := rclean_none qo.ca hx (q.alk.out hg)
    rw [← hpv] at this
    exact this
  | some s =>
    obtain ⟨hs, hpos, k, r, hk, hr, hkey⟩ := q.alk.hit hg
    obtain ⟨_, e1, e2, e3, e4⟩ := key_free hkey
    cases hd : s.dirty with
    | false =>
      refine done_clean x y 0 on (act1_same q fun wb hb => cleanv_not (q.q.cv.read hb) hs hd hpos.symm) (act2 q hu hw hlg (L' := rc.L) q.alk q.set q.low fun w1 A' c' qo => ?_)
      have := rclean_not qo.ca hr (by rw [← e3]; exact hd) hrm qo.base qo.under
      rw [← e1, hpos, ← hpv, q.most, q.set.trim] at this
      exact this
    | true =>
      cases hon : d.on with
      | false =>
        refine done_clean x y 4 on (act1 q fun wb hb => cleanv_off (q.q.cv.read hb) hs hd hon hpos.symm) ?_
        rintro w1 ⟨hz, A', c', qo⟩
        have := rclean_bad qo.ca hr (by rw [← e3]; exact hd) (z := 4) (by decide) (Q := fun w' => ∃ Ar', IsRf w' w0.heap.size Gr Ar' (foots A' c' ++ rc.foot) d ∧ Step (w1.drewN 1) (Ar.foot Gr) w' (Ar'.foot Gr)) (by
          rw [← hpg]
          exact rwrite_off _ _ _ _ _ _ _ _ qo.rf.drewN hon)
        rw [← e1, hpos, ← hpv] at this
        refine this.mono ?_
        rintro e w2 ⟨rfl, Ar', hrf, hst⟩
        have hst' := (Step.of_below (below_drewN w1 1) (Ar.foot Gr)).trans hst
        refine ⟨rfl, hst'.block _ hz fun e => ?_, A', d, c', u, H, Ar', rc, ⟨(qo.quad.dsk hrf hst').quo, q.at', q.most, q.alk, q.set, q.low, q.n, q.arm, q.few⟩, by omega, by omega, by omega⟩
        have := (q.q.rf.over _ e).2.2
        have := q.q.under _ (List.mem_append_right _ (List.mem_append_left _ e))
        omega
      | true =>
        have hp := q.low s hs
        refine done_clean x y 0 on (act1 q fun wb hb => cleanv_go (q.q.cv.read hb) (by omega) hs hd hon q.arm (by rw [q.n]; exact hp) (by omega) (by omega) hpos.symm) ?_
        rintro w1 ⟨hz, A', c', qo⟩
        obtain ⟨gv, cv, hv, hcv, hlen, hb, hoff, hne⟩ := qo.ca.rows r (List.mem_of_getElem? hr)
        have hfe := fell_noset q.arm
        have := rclean_go qo.ca hr (by rw [← e3]; exact hd) hrm qo.base (Q := fun w' M' => ∃ Ar', M' = Ar'.foot Gr ++ foots A' c' ∧ IsRf w' w0.heap.size Gr Ar' (foots A' c' ++ rc.foot) (d.wrote s.pos s.b) ∧ Step (w1.drewN 1) (Ar.foot Gr) w' (Ar'.foot Gr)) (by
          rw [← hpg, hv, ← e1]
          refine (rwrite_go _ _ _ _ _ d s.pos gv 0 cv s.b qo.rf.drewN qo.base hon (by simp [Dk.fall, q.arm]) (by rw [q.n]; exact hp) (by rw [e2]; exact hlen) (by rw [e2]; exact hb) ⟨fun e => hoff.1 ?_, hoff.2⟩ (by rw [hfe]; omega) (by rw [hfe]; omega) (by rw [hfe, q.n]; exact hp)).mono ?_
          · exact List.mem_append_right _ (List.mem_append_right _ (List.mem_append_left _ e))
          · rintro e w' ⟨rfl, Ar', hrf, hst⟩
            rw [hfe] at hrf
            refine ⟨rfl, _, ⟨Ar', rfl, hrf, hst⟩, hst.beside _, fun k hk => ?_⟩
            rcases List.mem_append.1 hk with hk | hk
            · exact (hrf.over k hk).2.2
            · exact Nat.lt_of_lt_of_le (qo.cv.l.ck.lt k hk).2 hst.size)
        rw [← e1, hpos, ← hpv, q.most] at this
        refine this.mono ?_
        rintro e w2 ⟨rfl, w3, M', ⟨Ar', rfl, hrf, hst⟩, hst3, lv, hca, hs2⟩
        have hst' := (Step.of_below (below_drewN w1 1) (Ar.foot Gr)).trans hst
        have q3 := (qo.quad.dsk hrf hst').quo
        refine ⟨rfl, (hs2.block _ (Nat.lt_of_lt_of_le hz hst'.size) fun e => ?_).trans (hst'.block _ hz fun e => ?_), A', d.wrote s.pos s.b, c', u, _, Ar', _, ⟨q3.doc hca hs2 rfl, q.at', q.most, (q.alk.put (y := s.withD false) (r' := ⟨s.pos, r.b, false, r.pin, r.v⟩) q.q.cv.srt hk rfl (by simp [Sx.key, Rr.key, Sx.withD, e1, e2, e4])).trim m, trimR_settled m _, trim_low (putS_low q.low hp), q.n, q.arm, q.few⟩, by omega, ?_, ?_⟩
        · have := q.q.ca.lt _ e; omega
        · have := q.q.under _ (List.mem_append_right _ (List.mem_append_left _ e)); omega
        · show (d.waits ++ [_]).length ≤ t + 1
          rw [List.length_append]; simp only [List.length_cons, List.length_nil]; omega
        · show (d.log ++ [_]).length ≤ t + 1
          rw [List.length_append]; simp only [List.length_cons, List.length_nil]; omega
end
end Go.Proofs.Ytnfaeejeipbciaa
end

section
set_option linter.unusedVariables false
set_option linter.unusedSimpArgs false
namespace Go.Proofs.Ytnfaeejeipbciaa
open Go.RowKit BigFrame Go.Lib
set_option maxRecDepth 100000

section
variable {w0 w w' : World} {A A' : Lies} {d d' : Dk} {c c' : Ck} {C G m u u' t : Nat} {H H' : List Sx} {Gr W : Nat} {Ar Ar' : RLies} {rc rc' : RC} {X X' : List Nat}
theorem Quo.hdr (q : Quo w0 w A d c C G m u H Gr Ar d' rc X) : w.cell? ⟨rc.W, 0, none⟩ = some (.pointer (some ⟨Gr, 0, none⟩)) := by
  have := q.ca.hdr.cell (k := 0) rfl
  rw [← q.g]
  exact this
/-- the program's disk beside its cache -/
theorem Cv.disk (h : Cv w0 w A d c C G m u H) (hd : IsDk w' w0.heap.size G A' d') (hs : Step w (A.foot G) w' (A'.foot G)) : Cv w0 w' A' d' c C G m u H ∧ Step w (foots A c) w' (foots A' c) := by
  have hG := h.G
  subst hG
  obtain ⟨h1, h2⟩ := h.l.ck.turnD hd hs
  exact ⟨⟨h.l.call h1 h2, h.C, rfl, h.most, h.uses, h.H⟩, h2⟩
theorem act_on (h : Sd w0 C G m Gr W t w) (ht : t < 60) (x y : Int) :
    Calls Try.prog 11 #[.pointer (some ⟨C, 0, none⟩), .pointer (some ⟨W, 0, none⟩), .pointer (some ⟨G, 0, none⟩), .agg #[.int .i64 5, .int .i64 x, .int .i64 y, .bool true]] w fun e w' => e = .returned (.bool true) ∧ Sd w0 C G m Gr W (t + 1) w' := by
  obtain ⟨A, d, c, u, H, Ar, rc, q, hu, hw, hlg⟩ := h
  have hW : ∀ {w1 A' d' c'}, Quo w0 w1 A' d' c' C G m u H Gr Ar d rc [] → w1.cell? ⟨W, 0, none⟩ = some (.pointer (some ⟨Gr, 0, none⟩)) := fun q1 => by rw [← q.at']; exact q1.hdr
  refine done_on x y (if d.on then 19 else 0) (hW q.q) (P := fun w1 => ∃ A', Quo w0 w1 A' d.booted c C G m u H Gr Ar d rc []) (fun wb hb => ?_) ?_
  · have qb := (q.made (X' := []) hb (fun _ h => by cases h)).q
    refine (boot_any _ _ _ _ _ qb.cv.dk).mono ?_
    rintro e w1 ⟨rfl, A', hd, hs⟩
    obtain ⟨hcv, hst⟩ := qb.cv.disk hd hs
    have q1 := qb.turn (X' := []) hcv hst fun k hk => by cases hk
    exact ⟨rfl, hW q1, A', q1⟩
  · rintro w1 ⟨A', qo⟩
    refine (rboot_any _ _ _ _ _ _ qo.rf).mono ?_
    rintro e w2 ⟨rfl, Ar', hrf, hst⟩
    have q2 := (qo.quad.dsk hrf hst).quo
    exact ⟨rfl, by rw [← q.at']; exact q2.hdr, A', d.booted, c, u, H, Ar', rc, ⟨q2, q.at', q.most, q.alk, q.set, q.low, q.n, q.arm, q.few⟩, by omega, by show d.waits.length ≤ _; omega, by show d.log.length ≤ _; omega⟩
theorem act_off (h : Sd w0 C G m Gr W t w) (ht : t < 60) (x y : Int) :
    Calls Try.prog 11 #[.pointer (some ⟨C, 0, none⟩), .pointer (some ⟨W, 0, none⟩), .pointer (some ⟨G, 0, none⟩), .agg #[.int .i64 5, .int .i64 x, .int .i64 y, .bool false]] w fun e w' => e = .returned (.bool true) ∧ Sd w0 C G m Gr W (t + 1) w' := by
  obtain ⟨A, d, c, u, H, Ar, rc, q, hu, hw, hlg⟩ := h
  have hW : ∀ {w1 A' d' c'}, Quo w0 w1 A' d' c' C G m u H Gr Ar d rc [] → w1.cell? ⟨W, 0, none⟩ = some (.pointer (some ⟨Gr, 0, none⟩)) := fun q1 => by rw [← q.at']; exact q1.hdr
  refine done_off x y (hW q.q) (P := fun w1 => ∃ A', Quo w0 w1 A' (d.crashed []) c C G m u H Gr Ar d rc []) (fun wb hb => ?_) ?_
  · have qb := (q.made (X' := []) hb (fun _ h => by cases h)).q
    refine (crash_any _ _ _ _ _ qb.cv.dk none 0 0 [] rfl (Nat.le_refl _) (by omega) ?_ ?_).mono ?_
    · exact .inl rfl
    · intro b o h; omega
    rintro e w1 ⟨rfl, A', hd, hs⟩
    obtain ⟨hcv, hst⟩ := qb.cv.disk hd hs
    have q1 := qb.turn (X' := []) hcv hst fun k hk => by cases hk
    exact ⟨rfl, hW q1, A', q1⟩
  · rintro w1 ⟨A', qo⟩
    refine (rcrash_any _ _ _ _ _ _ qo.rf none 0 0 [] rfl (by omega) ?_).mono ?_
    · exact ⟨none, 0, rfl, Nat.le_refl _, .inl rfl, fun b o h => absurd h (by simp)⟩
    rintro e w2 ⟨rfl, Ar', hrf, hst⟩
    have q2 := (qo.quad.dsk hrf hst).quo
    exact ⟨rfl, A', d.crashed [], c, u, H, Ar', rc, ⟨q2, q.at', q.most, q.alk, q.set, q.low, q.n, rfl, q.few⟩, by omega, Nat.zero_le _, by show d.log.length ≤ _; omega⟩
set_option maxHeartbeats 4000000 in
theorem act_none (h : Sd w0 C G m Gr W t w) {z : Int} (x y : Int) (on : Bool) (hz : z < 0 ∨ 5 < z) :
    Calls Try.prog 11 #[.pointer (some ⟨C, 0, none⟩), .pointer (some ⟨W, 0, none⟩), .pointer (some ⟨G, 0, none⟩), .agg #[.int .i64 z, .int .i64 x, .int .i64 y, .bool on]] w fun e w' => e = .returned (.bool true) ∧ Sd w0 C G m Gr W (t + 1) w' := by
  obtain ⟨wb, hwb⟩ : ∃ wb, (w.alloc (.cells #[.int .i64 z, .int .i64 x, .int .i64 y, .bool on] 36)) = wb := ⟨_, rfl⟩
  have k0 : wb.cell? ⟨w.heap.size, 0, none⟩ = some (.int .i64 z) := by rw [← hwb]; exact cell_of_row _ _ 0 _ _ _ (heap_alloc_new _ _)
  have hS := Lib.hid (Sd.read (Sd.more h (Nat.le_succ t)) (show Below w.heap.size w wb by rw [← hwb]; exact (Below.refl w.heap.size w).alloc (Nat.le_refl _) _))
  have z0 : ¬ z = 0 := by omega
  have z1 : ¬ z = 1 := by omega
  have z2 : ¬ z = 2 := by omega
  have z3 : ¬ z = 3 := by omega
  have z4 : ¬ z = 4 := by omega
  have z5 : ¬ z = 5 := by omega
  clear hz h
  go_enter Try.func11, Try.ntmps11
  go_wp2_with fail
  go_ret
  exact ⟨by simp, hS.out⟩
end
end Go.Proofs.Ytnfaeejeipbciaa
end
