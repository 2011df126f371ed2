/-
  A cache: a sector that was lifted settles.
  The small calls of a disk: is it on, how many sectors, how many flushes, what is wrong with it; its power comes again.
  A write in a variable of its own: made, read out of what waits, laid into it.
-/
import Derived.Test.YtedbfehoeflmgaaB8
import Derived.Test.YtedbfehoeflmgaaB4
import Derived.Deep.WholeRow

section
set_option linter.unusedVariables false
set_option linter.unusedSimpArgs false
namespace Go.Proofs.Ytedbfehoeflmgaa
open Go.RowKit BigFrame
set_option maxRecDepth 100000

theorem dropN_min : ∀ (H : List Sx) (n : Nat), dropN H (min n (fr H).length) = dropN H n
  | [], _ => rfl
  | x :: r, n => by
    rw [fr_cons]
    by_cases hx : x.free = true
    · rw [if_pos hx, List.length_cons]
      cases n with
      | zero => simp
      | succ m =>
        have ih := dropN_min r m
        rw [dropN, if_pos ⟨hx, by omega⟩, dropN, if_pos ⟨hx, by omega⟩, show min (m + 1) ((fr r).length + 1) - 1 = min m (fr r).length by omega, ih]
        rfl
    · rw [if_neg hx, dropN, if_neg (fun e => hx e.1), dropN, if_neg (fun e => hx e.1), dropN_min r n]
theorem frx_not {x : Sx} (h : ¬ x.free = true) : ∀ {H : List Sx}, Srt H → x ∈ H → frx x H = fr H := fun {H} hs hx => by
  unfold frx fr
  refine List.filter_congr fun y hy => ?_
  by_cases e : y.used = x.used
  · have := hs.uniq hy hx e
    subst this
    have hf : y.free = false := by simpa using h
    rw [hf]; rfl
  · rw [decide_eq_true e, Bool.and_true]
section
variable {w w1 : World} {B : Nat} {c : Ck} {L L' : List Sx}
theorem MapIs.len {M : Nat} {H : List Sx} (h : MapIs w M H) (ty : TypeId) : (Builtin.len_ #[70] ty #[.map (some M)]).run Try.prog w = .ok (.int .i64 ((H.length : Nat) : Int)) w := by
  obtain ⟨l, h1, h2, _⟩ := h
  have := h1.len Try.underlying70 ty
  rwa [h2] at this
/-- as many as may be -/
def trim (most : Nat) (H : List Sx) : List Sx := dropN H (H.length - most)
def Ck.trim (c : Ck) : Ck := { c with H := Go.Proofs.Ytedbfehoeflmgaa.trim c.most c.H }
set_option maxHeartbeats 1000000 in
theorem settle_c {x : Sx} (h : CkM w B c (frx x c.H)) (hO : CkOk c (frx x c.H)) (hx : x ∈ c.H) (hmo : c.most ≤ 100000) :
    Calls Try.prog 55 #[pv c.C, pv x.blk] w fun e w' => e = .returned (.tuple #[]) ∧ ∃ v, CkM w' B (c.trim.list v) (fr c.trim.H) ∧ Step w c.foot w' (c.trim.list v).foot ∧ ∀ y ∈ c.H, w'.heap[y.blk]? = w.heap[y.blk]? := by
  have hl := hO.len x hx
  have hOf : CkOk c (fr c.H) := ⟨hO.srt, hO.top, hO.pos, hO.low, hO.len, fr_sub _⟩
  have hfew := hO.few
  have hfg := Lib.hid (fun (w5 : World) (v : Value) (hM : CkM w5 B (c.list v) (fr c.H)) => show Calls Try.prog 57 #[pv c.C, .int .i64 ((c.H.length : Int) - (c.most : Int))] w5 fun e w' => ∃ n : Int, e = .returned (.int .i64 n) ∧ ∃ v', CkM w' B (c.trim.list v') (fr c.trim.H) ∧ Step w5 (c.list v).foot w' (c.trim.list v').foot ∧ ∀ y ∈ c.H, w'.heap[y.blk]? = w5.heap[y.blk]? from by
    have h1 := forget_c (c := c.list v) hM ⟨hO.srt, hO.top, hO.pos, hO.low, hO.len, fr_sub _⟩ ((c.H.length : Int) - (c.most : Int)) (by omega) _ rfl
    have e1 : ((c.H.length : Int) - (c.most : Int)).toNat = c.H.length - c.most := by omega
    have e2 : dropN c.H (min (c.H.length - c.most) (fr c.H).length) = trim c.most c.H := dropN_min _ _
    rw [e1] at h1
    refine h1.mono ?_
    rintro e w' ⟨rfl, v', h2, h3, h4⟩
    refine ⟨_, rfl, v', ?_, ?_, h4⟩
    · have : CkM w' B (((c.list v).drop (min (c.H.length - c.most) (fr c.H).length)).list v') (fr (dropN c.H (min (c.H.length - c.most) (fr c.H).length))) := h2
      unfold Ck.drop Ck.list at this
      simp only at this
      rw [e2] at this
      exact this
    · have : Step w5 (c.list v).foot w' (((c.list v).drop (min (c.H.length - c.most) (fr c.H).length)).list v').foot := h3
      unfold Ck.drop Ck.list at this
      simp only at this
      rw [e2] at this
      exact this)
  have hws : IntKind.i64.wrap ((c.H.length : Int) - (c.most : Int)) = (c.H.length : Int) - (c.most : Int) := by rw [IntKind.wrap_i64]; omega
  have k3 := (h.sec x hx).cell (Sx.c130 hl)
  have k4 := (h.sec x hx).cell (Sx.c131 hl)
  have h' := Lib.hid h
  have hO' := Lib.hid hO
  have hx' := Lib.hid hx
  by_cases hf : x.free = true
  · have hdp : x.dirty = false ∧ x.pin = false := by
      unfold Sx.free at hf
      cases hd : x.dirty <;> cases hp : x.pin <;> simp_all
    rw [hdp.1] at k3
    rw [hdp.2] at k4
    have hq := Lib.hid (search_c h hO hx)
    have hins := Lib.hid (ins_fr hO.srt hx hf)
    have hol := older_le x (frx x c.H)
    have hfl := hO.fewL
    have c4 := h.hdr.cell (k := 4) rfl
    change w.cell? _ = some c.lv at c4
    change w.cell? ⟨c.C, 4, none⟩ = _ at c4
    obtain ⟨a, cap, hva, hnc, han⟩ := own_form h.own
    obtain ⟨q, hq2⟩ : ∃ q, (frx x c.H).length = q := ⟨_, rfl⟩
    have hq2' := Lib.hid hq2
    rw [hq2] at hva hnc hol hfl
    obtain ⟨n, hn⟩ : ∃ n, older x (frx x c.H) = n := ⟨_, rfl⟩
    rw [hn] at hq hins hol
    rw [hva] at c4 hq
    have hva' := Lib.hid hva
    generalize fnd x (frx x c.H) = fb at hq
    have hpl := Lib.hid (fun (w2 : World) (hM2 : CkM w2 B c (frx x c.H)) => show Calls Try.prog 66 #[.slice a q cap, .int .i64 (n : Int), .slice (some ⟨w2.heap.size, 0, none⟩) 1 1] (w2.alloc (.cells #[.pointer (some ⟨x.blk, 0, none⟩)] 81)) (OwnPost B (.slice a q cap) (fr c.H) (w2.alloc (.cells #[.pointer (some ⟨x.blk, 0, none⟩)] 81))) from by
      have hM3 : CkM (w2.alloc (.cells #[.pointer (some ⟨x.blk, 0, none⟩)] 81)) B c (frx x c.H) := hM2.carry fun k hk => old_alloc w2 _ k (hM2.lt k hk)
      have h1 := ins_c (B := B) (L := frx x c.H) hM3.own (by omega) (Nat.le_trans hM2.there (by rw [size_alloc]; omega)) (i := n) (by omega) (x := x) (vb := w2.heap.size) (Vw.alloc w2 [pv x.blk] _) (fun e => by have := hM2.lt _ (foot_l e); omega)
      have e1 : insL' (frx x c.H) n x = fr c.H := hins.out
      rw [e1, hva'.out] at h1
      exact h1)
    have hst := Lib.hid (fun (w2 w5 : World) (v : Value) (hM2 : CkM w2 B c (frx x c.H)) (hT : TurnS (fun k => (Value.slice a q cap).ownBlock = some k) (w2.alloc (.cells #[.pointer (some ⟨x.blk, 0, none⟩)] 81)) w5) (ho : w5.ownsRow B 81 1 v (fr c.H).length (pvs (fr c.H))) (hat : ∀ k, v.ownBlock = some k → (Value.slice a q cap).ownBlock = some k ∨ (w2.alloc (.cells #[.pointer (some ⟨x.blk, 0, none⟩)] 81)).heap.size ≤ k) =>
        show (CkM (w5.setCell ⟨c.C, 4, none⟩ v) B (c.list v) (fr c.H) ∧ Step w2 c.foot (w5.setCell ⟨c.C, 4, none⟩ v) (c.list v).foot ∧ ∀ y ∈ c.H, (w5.setCell ⟨c.C, 4, none⟩ v).heap[y.blk]? = w2.heap[y.blk]?) ∧ w5.frozen? ⟨c.C, 4, none⟩ = false ∧ w5.cell? ⟨c.C, 4, none⟩ = some (.slice a q cap) from by
      have hM3 : CkM (w2.alloc (.cells #[.pointer (some ⟨x.blk, 0, none⟩)] 81)) B c (frx x c.H) := hM2.carry fun k hk => old_alloc w2 _ k (hM2.lt k hk)
      rw [← hva'.out] at hT hat ⊢
      obtain ⟨h1, h2⟩ := hM3.relist (v := v) hT ho hat
      have hV2 := hM3.hdr.turnS hT (fun e => hM3.lc (k := c.C) e rfl)
      exact ⟨⟨h1, (Step.of_below ((Below.refl _ _).alloc (Nat.le_refl _) _) c.foot).trans h2, fun y hy => by
        rw [heap_set_other _ ⟨c.C, 4, none⟩ _ (hM2.cx hy), hT.block _ (hM3.lt _ (foot_x hy)) (fun e => hM2.lx e hy rfl)]
        exact old_alloc w2 _ _ (hM2.lt _ (foot_x hy))⟩, hV2.frozen 4, hV2.cell (k := 4) rfl⟩)
    unfold pv
    unfold pv at hq
    clear h hO hx hf hdp hn hva hq2 han
    go_enter Try.func55, Try.ntmps55
    go_upto_region 3 with (first
      | (go_at_call 64; refine hq.out.mono ?_; rintro e w2 ⟨rfl, hb2⟩; have M2 := Lib.hid (h'.out.on hb2 (Nat.le_refl _)); have B2 := Lib.hid hb2; have k5 := M2.out.hdr.cell (k := 4) rfl; change w2.cell? ⟨c.C, 4, none⟩ = some c.lv at k5; rw [hva'.out] at k5; clear hb2 c4 k3 k4)
      | (go_at_call 66; refine (hpl.out _ M2.out).mono ?_; rintro e w5 ⟨v5, rfl, ho, hT, hat⟩; obtain ⟨a5, cap5, rfl, _, _⟩ := own_form ho; obtain ⟨hF, f4, j4⟩ := hst.out _ _ _ M2.out hT ho hat; have hF' := Lib.hid hF; clear ho hT hat hF k5))
    obtain ⟨v6, hv6⟩ : ∃ v6, Value.slice a5 (fr c.H).length cap5 = v6 := ⟨_, rfl⟩
    rw [hv6] at hF' ⊢
    obtain ⟨w6, hw6⟩ : ∃ w6, w5.setCell ⟨c.C, 4, none⟩ v6 = w6 := ⟨_, rfl⟩
    rw [hw6] at hF' ⊢
    clear f4 j4 hw6 hv6
    have X6 := Lib.hid (fun (y : Sx) (hy : y ∈ c.H) => show w6.heap[y.blk]? = w.heap[y.blk]? from (hF'.out.2.2 y hy).trans (B2.out.block _ (h'.out.lt _ (foot_x hy))))
    have hM6 := hF'.out.1
    have hg' := Lib.hid (hfg.out w6.drew v6 hM6.drew1)
    have c3 := hM6.hdr.cell (k := 3) rfl
    change w6.cell? ⟨c.C, 3, none⟩ = some (.map (some c.M)) at c3
    have c1 := hM6.hdr.cell (k := 1) rfl
    change w6.cell? ⟨c.C, 1, none⟩ = some (.int .i64 ((c.most : Nat) : Int)) at c1
    have hln : ∀ (ty : TypeId), (Builtin.len_ #[70] ty #[.map (some c.M)]).run Try.prog w6.drew = .ok (.int .i64 ((c.H.length : Nat) : Int)) w6.drew := fun ty => hM6.drew1.map.len ty
    clear hM6
    go_still_tail 11, (by kernel_rfl)
    change wpList _ _ _ _ _ w6.drew
    go_wp2_with (go_at_call 57; refine hg'.out.mono ?_; rintro e w7 ⟨n, rfl, v7, hM7, hS7, hX7⟩; have M7 := Lib.hid hM7; have S7 := Lib.hid hS7; have X7 := Lib.hid hX7; clear hM7 hS7 hX7)
    go_end0
    exact ⟨rfl, v7, M7.out, ((Step.of_below B2.out c.foot).trans hF'.out.2.1).trans ((Step.of_below (below_drewN w6 1) _).trans S7.out), fun y hy => (X7.out y hy).trans (X6.out y hy)⟩
  · have e0 := frx_not hf hO.srt hx
    rw [e0] at h
    have hg := hfg.out w.drew c.lv h.drew1
    have hg' := Lib.hid hg
    have c3 := h.hdr.cell (k := 3) rfl
    have c1 := h.hdr.cell (k := 1) rfl
    have hln : ∀ (ty : TypeId), (Builtin.len_ #[70] ty #[.map (some c.M)]).run Try.prog w.drew = .ok (.int .i64 ((c.H.length : Nat) : Int)) w.drew := fun ty => h.drew1.map.len ty
    obtain ⟨dd, hdd⟩ : ∃ dd, x.dirty = dd := ⟨_, rfl⟩
    obtain ⟨pp, hpp⟩ : ∃ pp, x.pin = pp := ⟨_, rfl⟩
    unfold Sx.free at hf
    rw [hdd, hpp] at hf
    rw [hdd] at k3
    rw [hpp] at k4
    unfold pv
    clear h hO hx e0 hg hdd hpp
    go_enter Try.func55, Try.ntmps55
    cases dd with
    | true =>
      go_upto_region 3 with fail
      go_still_tail 11, (by kernel_rfl)
      change wpList _ _ _ _ _ w.drew
      go_wp2_with (go_at_call 57; refine hg'.out.mono ?_; rintro e w7 ⟨n, rfl, v7, hM7, hS7, hX7⟩; have M7 := Lib.hid hM7; have S7 := Lib.hid hS7; have X7 := Lib.hid hX7; clear hM7 hS7 hX7)
      go_end0
      exact ⟨rfl, v7, M7.out, (Step.of_below (below_drewN w 1) c.foot).trans S7.out, X7.out⟩
    | false =>
      have hp : pp = true := by cases pp <;> simp_all
      subst hp
      go_upto_region 3 with fail
      go_still_tail 11, (by kernel_rfl)
      change wpList _ _ _ _ _ w.drew
      go_wp2_with (go_at_call 57; refine hg'.out.mono ?_; rintro e w7 ⟨n, rfl, v7, hM7, hS7, hX7⟩; have M7 := Lib.hid hM7; have S7 := Lib.hid hS7; have X7 := Lib.hid hX7; clear hM7 hS7 hX7)
      go_end0
      exact ⟨rfl, v7, M7.out, (Step.of_below (below_drewN w 1) c.foot).trans S7.out, X7.out⟩
end
end Go.Proofs.Ytedbfehoeflmgaa
end

section
set_option linter.unusedVariables false
set_option linter.unusedSimpArgs false
namespace Go.Proofs.Ytedbfehoeflmgaa
open Go.RowKit BigFrame

def ptr (g : Nat) : Value := .pointer (some ⟨g, 0, none⟩)
theorem powered_any (w : World) (B : Nat) (G : Nat) (A : Lies) (d : Dk) (h : IsDk w B G A d) :
    Calls Try.prog 68 #[.pointer (some ⟨G, 0, none⟩)] w fun e w' => e = .returned (.int .i64 (if d.on then 0 else 4)) ∧ w = w' := by
  have c0 := h.cell 0
  obtain ⟨on, hon⟩ : ∃ on, d.on = on := ⟨_, rfl⟩
  simp only [hcells, hon, List.getElem?_toArray, List.getElem?_cons_zero] at c0
  rw [hon]
  clear h hon
  cases on
  · go_enter Try.func68, Try.ntmps68
    go_wp2_with fail
    go_ret
    exact ⟨rfl, rfl⟩
  · go_enter Try.func68, Try.ntmps68
    go_wp2_with fail
    go_ret
    exact ⟨rfl, rfl⟩
theorem sectors_any (w : World) (B : Nat) (G : Nat) (A : Lies) (d : Dk) (h : IsDk w B G A d) :
    Calls Try.prog 51 #[.pointer (some ⟨G, 0, none⟩)] w fun e w' => e = .returned (.int .i64 ((d.n : Nat) : Int)) ∧ w = w' := by
  have c0 := h.cell 1
  simp only [hcells, List.getElem?_toArray, List.getElem?_cons_zero, List.getElem?_cons_succ] at c0
  go_enter Try.func51, Try.ntmps51
  go_wp2_with fail
  go_ret
  exact ⟨rfl, rfl⟩
/-- what a call for a sector finds wrong -/
def reachN (d : Dk) (at' : Int) : Int := if d.on then (if 0 ≤ at' ∧ at' < (d.n : Int) then 0 else 2) else 4
theorem reach_any (at' : Int) (w : World) (B : Nat) (G : Nat) (A : Lies) (d : Dk) (h : IsDk w B G A d) :
    Calls Try.prog 58 #[.pointer (some ⟨G, 0, none⟩), .int .i64 at'] w fun e w' => e = .returned (.int .i64 (reachN d at')) ∧ w = w' := by
  have h' := Lib.hid h
  have c0 := h.cell 1
  have hn := h.fine.n
  obtain ⟨n, hn'⟩ : ∃ n, d.n = n := ⟨_, rfl⟩
  obtain ⟨on, hon⟩ : ∃ on, d.on = on := ⟨_, rfl⟩
  simp only [hcells, hn', List.getElem?_toArray, List.getElem?_cons_zero, List.getElem?_cons_succ] at c0
  unfold reachN
  rw [hn'] at hn
  rw [hn', hon]
  have hon' := Lib.hid hon
  clear h hon hn'
  cases on
  · go_enter Try.func58, Try.ntmps58
    go_wp2_with (go_at_call 68; refine (powered_any _ B G A d h'.out).mono ?_; rw [hon'.out]; rintro e w1 ⟨rfl, rfl⟩)
    go_ret
    exact ⟨rfl, rfl⟩
  · by_cases h1 : at' < 0
    · have hf := Lib.hid (show (if 0 ≤ at' ∧ at' < (n : Int) then (0 : Int) else 2) = 2 by rw [if_neg (by omega)])
      rw [hf.out]
      go_enter Try.func58, Try.ntmps58
      go_wp2_with (go_at_call 68; refine (powered_any _ B G A d h'.out).mono ?_; rw [hon'.out]; rintro e w1 ⟨rfl, rfl⟩)
      go_ret
      exact ⟨rfl, rfl⟩
    · by_cases h2 : at' < (n : Int)
      · have hf := Lib.hid (show (if 0 ≤ at' ∧ at' < (n : Int) then (0 : Int) else 2) = 0 by rw [if_pos (by omega)])
        rw [hf.out]
        go_enter Try.func58, Try.ntmps58
        go_wp2_with (go_at_call 68; refine (powered_any _ B G A d h'.out).mono ?_; rw [hon'.out]; rintro e w1 ⟨rfl, rfl⟩)
        go_ret
        exact ⟨rfl, rfl⟩
      · have hf := Lib.hid (show (if 0 ≤ at' ∧ at' < (n : Int) then (0 : Int) else 2) = 2 by rw [if_neg (by omega)])
        rw [hf.out]
        go_enter Try.func58, Try.ntmps58
        go_wp2_with (go_at_call 68; refine (powered_any _ B G A d h'.out).mono ?_; rw [hon'.out]; rintro e w1 ⟨rfl, rfl⟩)
        go_ret
        exact ⟨rfl, rfl⟩
end Go.Proofs.Ytedbfehoeflmgaa
end

section
set_option linter.unusedVariables false
set_option linter.unusedSimpArgs false
namespace Go.Proofs.Ytedbfehoeflmgaa
open Go.RowKit BigFrame

/-- block g is new, and holds these cells -/
def NewVar (w : World) (g : Nat) (w1 : World) (cs : Array Value) (t : TypeId) : Prop := g = w.heap.size ∧ w1.heap[g]? = some (.cells cs t (0, 0)) ∧ Below w.heap.size w w1
def wzero : Array Value := (wcell (0, zs 128)).toArray
theorem Try.infoW : (Try.prog.info? 99).map (fun i => (i.zero, i.size, i.bytes)) = some (some (.agg (wcell (0, zs 128)).toArray), 129, 136) := by kernel_rfl
theorem wpList_alloc_w {w : World} {ops : Array Oper} {rest : List Oper} {o : Oper} {a : Act} {Q : Exit → Act → World → Prop} (hgd : o.guard = none) (ho : o.op = .alloc 99)
    (h : ∀ g w1, Hid (NewVar w g w1 wzero 99) → wpList Try.prog ops Q rest (a.put o.dst (.pointer (some ⟨g, 0, none⟩))) w1) : wpList Try.prog ops Q (o :: rest) a w := by
  refine wpList_plain hgd fun K hK => ?_
  obtain ⟨i, hi, hz0, hz1, hz2⟩ := info_parts Try.infoW
  have hz : (zeroValue 99).run Try.prog w = .ok (.agg wzero) w := by simp [zeroValue, typeInfo, hi, hz0, wzero]
  unfold Oper.wp
  simp [execOp, ho, Instr.alloc, Sem.run_bind, hz, newVar, Value.cells, Result.andThen]
  exact hK _ _ (h _ _ ⟨rfl, heap_alloc_new w _, (Below.refl _ _).alloc (Nat.le_refl _) _⟩)
theorem wpList_store_w {w0 w : World} {ops : Array Oper} {rest : List Oper} {o : Oper} {a : Act} {Q : Exit → Act → World → Prop} (hgd : o.guard = none) (x y : Operand) (ho : o.op = .store 99 x y)
    (g : Nat) (cs : List Value) (old : Array Value) (hx : a.eval x = .pointer (some ⟨g, 0, none⟩)) (hy : a.eval y = .agg cs.toArray) (hv : NewVar w0 g w old 99) (hold : old.size = 129) (hcs : cs.length = 129) (h1 : ∀ v ∈ cs, v.oneCell' = true)
    (h : ∀ w2, Hid (NewVar w0 g w2 cs.toArray 99) → wpList Try.prog ops Q rest (a.put o.dst undef) w2) : wpList Try.prog ops Q (o :: rest) a w := by
  obtain ⟨i, hi, hz0, hz1, hz2⟩ := info_parts Try.infoW
  obtain ⟨hg, hh, hb⟩ := hv
  refine wpList_store_row hgd _ x y ho g cs.toArray hx hy _ old hh (by rw [hi]; simp [hz1, hcs]) (by simp [hold, hcs]) (all_oneCell_toArray h1) ?_
  exact h _ ⟨hg, setRow_heap w g _ _ _ _ hh, hb.trans ⟨rfl, rfl, rfl, by simp, fun k hk => setRow_other w g k _ (by omega)⟩⟩
theorem zero_w (w : World) : (zeroValue 99).run Try.prog w = .ok (.agg wzero) w := by
  obtain ⟨i, hi, hz0, hz1, hz2⟩ := info_parts Try.infoW
  simp [zeroValue, typeInfo, hi, hz0, wzero]
theorem wzero_size : wzero.size = 129 := by simp [wzero, wcell, bv_length, zs_length]
/-- a write is read out of what waits -/
theorem own_w_range {w : World} {B : Nat} {v : Value} {l : List (Nat × List Nat)} (h : w.ownsRow B 99 129 v l.length (wcells l)) (hl : ∀ p ∈ l, p.2.length = 128) {k : Nat} (hk : k < l.length) :
    ∃ g cap, v = .slice (some ⟨g, 0, none⟩) l.length cap ∧ l.length ≤ cap ∧ v.ownBlock = some g ∧ B ≤ g ∧ g < w.heap.size ∧ ∀ k, k < l.length → w.rangeAt g (k * 129) (wcell (wtAt l k)) := by
  have hc := fun g hg => World.ownsRow.cells h (g := g) hg
  have hlt := World.ownsRow.lt h
  rcases h.2 with ⟨_, e⟩ | ⟨g, cap, cur, rfl, hb, hh, hn, _, _, _⟩
  · omega
  · refine ⟨g, cap, rfl, hn, rfl, hb, (hlt g rfl).2, fun k hk j u hu => ?_⟩
    have hj : j < 129 := by
      have := (List.getElem?_eq_some_iff.1 hu).1
      rwa [wcell_length (hl _ (wtAt_mem hk))] at this
    have := hc g rfl (k * 129 + j) u (by
      unfold wcells
      rw [flat_get wcell 129 l (fun x hx => wcell_length (hl x hx)) k hk j hj, ← wtAt_get hk]
      exact hu)
    rwa [addr_add, Nat.zero_add] at this
theorem NewVar.cell0 {w w1 : World} {g : Nat} {p : Nat × List Nat} {t : TypeId} (h : NewVar w g w1 (wcell p).toArray t) : w1.cell? ⟨g, 0, none⟩ = some (.int .i64 ((p.1 : Nat) : Int)) := by
  rw [cell_of_row _ _ _ _ _ _ h.2.1]; simp [wcell]
theorem NewVar.range {w w1 : World} {g : Nat} {p : Nat × List Nat} {t : TypeId} (h : NewVar w g w1 (wcell p).toArray t) : w1.rangeAt g 1 (bv p.2) := fun j v hv => by
  rw [cell_of_row _ _ _ _ _ _ h.2.1]
  simp only [wcell, List.getElem?_toArray]
  rw [Nat.add_comm, List.getElem?_cons_succ]
  exact hv
/-- what a round over what waits finds -/
theorem IsDkS.round {w : World} {B : Nat} {G : Nat} {A : Lies} {d : Dk} {sn : Nat → List Nat} (h : IsDkS w B G A d sn) {a : Option Addr} {nw cap k : Nat} (hv : A.vw = .slice a nw cap) (hk : k < nw) :
    nw = d.waits.length ∧ nw ≤ cap ∧ ∃ gw, a = some ⟨gw, 0, none⟩ ∧ w.rangeAt gw (k * 129) (wcell (wtAt d.waits k)) ∧ (wtAt d.waits k).1 < d.n ∧ (wtAt d.waits k).2.length = 128 := by
  have hn : nw = d.waits.length := by
    have := h.waits
    rw [hv] at this
    rcases this.2 with ⟨e, e2⟩ | ⟨g, cap, cur, e, _⟩
    · simp only [Value.slice.injEq] at e; omega
    · simp only [Value.slice.injEq] at e; exact e.2.1
  subst hn
  obtain ⟨gw, cap', e, hc, _, _, _, hr⟩ := own_w_range h.waits (fun p hp => (h.fine.waits p hp).2) hk
  rw [hv] at e
  simp only [Value.slice.injEq, true_and] at e
  obtain ⟨rfl, rfl⟩ := e
  have := h.fine.waits _ (wtAt_mem hk)
  exact ⟨rfl, hc, gw, rfl, hr k hk, this.1, this.2⟩
/-- the slice of what waits, as it stands in the disk -/
theorem IsDkS.vw {w : World} {B : Nat} {G : Nat} {A : Lies} {d : Dk} {sn : Nat → List Nat} (h : IsDkS w B G A d sn) : ∃ a cap, A.vw = .slice a d.waits.length cap := by
  rcases h.waits.2 with ⟨e, e2⟩ | ⟨g, cap, cur, e, _⟩
  · exact ⟨none, 0, by rw [e, e2]⟩
  · exact ⟨_, cap, e⟩
/-- a write, put together -/
def wcs (a : Nat) (cs : List Value) : List Value := .int .i64 ((a : Nat) : Int) :: cs
theorem wcs_length {a : Nat} {cs : List Value} (h : cs.length = 128) : (wcs a cs).length = 129 := by simp [wcs, h]
theorem fold_set : ∀ (cs : List Value) (k o : Nat) (X : List Value), X.length = o + k + cs.length → (cs.zipIdx k).foldl (fun (c : Array Value) x => c.setIfInBounds (o + x.2) x.1) X.toArray = (X.take (o + k) ++ cs).toArray
  | [], k, o, X, h => by simp at h; simp [List.take_of_length_le, h]
  | v :: r, k, o, X, h => by
    rw [List.zipIdx_cons, List.foldl_cons]
    have e : X.toArray.setIfInBounds (o + k) v = (X.set (o + k) v).toArray := by simp
    show (r.zipIdx (k + 1)).foldl _ (X.toArray.setIfInBounds (o + k) v) = _
    rw [e, fold_set r (k + 1) o (X.set (o + k) v) (by rw [List.length_set]; simp at h; omega)]
    have hlt : o + k < X.length := by simp at h; omega
    congr 1
    rw [show o + (k + 1) = o + k + 1 by omega, List.take_succ_eq_append_getElem (by rw [List.length_set]; exact hlt), List.getElem_set_self, List.take_set, List.set_eq_of_length_le (by simp; omega), List.append_assoc]
    rfl
def bldW (ps : Array (Nat × Value)) : Sem Value := Instr.build 99 ps
theorem bldW_of (ps : Array (Nat × Value)) : Instr.build 99 ps = bldW ps := rfl
theorem run_bldW (a : Nat) (cs : List Value) (h : cs.length = 128) (w : World) : (bldW #[(0, .int .i64 ((a : Nat) : Int)), (1, .agg cs.toArray)]).run Try.prog w = .ok (.agg (wcs a cs).toArray) w := by
  unfold bldW
  refine run_build w _ _ _ ?_
  have hp : Try.prog.built 99 #[(0, Value.int .i64 ((a : Nat) : Int)), (1, .agg cs.toArray)].toList = Instr.fill (#[(0, 1), (1, 128)][·]?) (wcell (0, zs 128)).toArray [(0, .int .i64 ((a : Nat) : Int)), (1, .agg cs.toArray)] := by kernel_rfl
  rw [hp]
  have hw : (wcell (0, zs 128)).length = 129 := wcell_length (zs_length 128)
  obtain ⟨X, hX⟩ : ∃ X, wcell (0, zs 128) = X := ⟨_, rfl⟩
  rw [hX] at hw ⊢
  have := fold_set cs 0 1 (X.set 0 (.int .i64 ((a : Nat) : Int))) (by rw [List.length_set, hw, h])
  simp [Instr.fill, Value.cells, hw, h, wcs] at this ⊢
  rw [this]
  cases X with
  | nil => simp at hw
  | cons x X => simp
def bldS (n : Nat) (ps : Array (Nat × Value)) : Sem Value := Instr.buildSlice 65 n ps
theorem bldS_of (n : Nat) (ps : Array (Nat × Value)) : Instr.buildSlice 65 n ps = bldS n ps := rfl
theorem run_bldS (c : List Value) (h : c.length = 129) (w : World) : (bldS 1 #[(0, .agg c.toArray)]).run Try.prog w = .ok (.slice (some ⟨w.heap.size, 0, none⟩) 1 1) (w.alloc (.cells c.toArray 99)) := by
  obtain ⟨i, hi, hz0, hz1, hz2⟩ := info_parts Try.infoW
  have hz := zero_w w
  obtain ⟨Z, hZ⟩ : ∃ Z : List Value, ((Array.range (1 * 129)).map (wzero[· % wzero.size]!)) = Z.toArray := ⟨_, rfl⟩
  have hZl : Z.length = 129 := by rw [← List.size_toArray, ← hZ]; simp
  have := fold_set c 0 0 Z (by rw [hZl, h])
  simp only [Nat.zero_add, Nat.add_zero, List.take_zero, List.nil_append] at this
  rw [Nat.one_mul] at hZ
  unfold bldS Instr.buildSlice
  simp [Sem.run_bind, run_underlying Try.underlying65, sizeOf, typeInfo, hi, hz1, hz, Value.cells, newRow, hZ, Instr.fill, h, this] <;> (rw [show Array.map (fun x => Try.zeroCells99[x % 129]!) (Array.range 129) = Z.toArray from (by rw [← hZ]; kernel_rfl), this])
/-- a sector, loaded -/
def ldS (v : Value) : Sem Value := Instr.loadAt 90 v
theorem ldS_of (v : Value) : Instr.loadAt 90 v = ldS v := rfl
theorem Try.sizeW : (Try.prog.info? 99).map (·.size) = some 129 := by kernel_rfl
theorem Try.sizeS : (Try.prog.info? 90).map (·.size) = some 128 := by kernel_rfl
theorem cell_far {w : World} {a : Addr} {v : Value} (h : w.cell? a = some v) {b o : Nat} {cs : List Value} (hb : a.block ≠ b) : (w.setCells b o cs).cell? a = some v := by
  rw [World.cell?_setCells_out b cs o w a (fun e _ => absurd e hb)]; exact h
theorem run_ldS {w : World} {b o : Nat} {cs : List Value} (h : w.rangeAt b o cs) (hl : cs.length = 128) : (ldS (.pointer (some ⟨b, o, none⟩))).run Try.prog w = .ok (.agg cs.toArray) w :=
  run_loadAt_mid w b o _ cs _ h Try.underlying90 rfl (by rw [hl]; exact Try.sizeS)
theorem cell_set {w : World} {a p : Addr} {v u : Value} (h : w.cell? a = some v) (hp : p ≠ a) : (w.setCell p u).cell? a = some v := by rw [World.cell?_setCell_other _ _ _ _ hp]; exact h
theorem range_set {w : World} {b o : Nat} {cs : List Value} (h : w.rangeAt b o cs) {p : Addr} {u : Value} (hp : p.block ≠ b) : (w.setCell p u).rangeAt b o cs := fun j v hv => by
  rw [World.cell?_setCell_other _ _ _ _ (fun e => hp (by rw [e]))]; exact h j v hv
theorem cell_grown {w w' : World} {r : Option Nat} {a : Addr} {v : Value} (h : w.cell? a = some v) (hg : w.grownBy w' r) (hr : some a.block ≠ r) : w'.cell? a = some v := hg.cell h hr
theorem range_grown {w w' : World} {r : Option Nat} {b o : Nat} {cs : List Value} (h : w.rangeAt b o cs) (hg : w.grownBy w' r) (hr : some b ≠ r) : w'.rangeAt b o cs := fun j v hv => hg.cell (a := ⟨b, o + j, none⟩) (h j v hv) hr
theorem frozen_grown {w w' : World} {r : Option Nat} {a : Addr} (h : w.frozen? a = false) (hlt : a.block < w.heap.size) (hg : w.grownBy w' r) (hr : some a.block ≠ r) : w'.frozen? a = false := by rw [World.frozen?_of_block (hg.block _ hlt hr)]; exact h
theorem cell_alloc {w : World} {a : Addr} {v : Value} (h : w.cell? a = some v) (o : Obj) : (w.alloc o).cell? a = some v := by
  rw [World.cell?_alloc_lt _ _ _ (World.block_lt_of_cell? w _ h)]; exact h
theorem cell_drew1 {w : World} {a : Addr} {v : Value} (h : w.cell? a = some v) : w.drew.cell? a = some v := h
theorem range_drew1 {w : World} {b o : Nat} {cs : List Value} (h : w.rangeAt b o cs) : w.drew.rangeAt b o cs := h
theorem there_drew1 {w : World} {b o n : Nat} (h : w.there b o n) : w.drew.there b o n := h
end Go.Proofs.Ytedbfehoeflmgaa
end
