/-
  A cache: the oldest of those that may go, gone.
  A cache: a sector that was lifted settles.
  A cache with its disk: what each call makes of it, in lists.
  A cache: Get.
-/
import Derived.Test.YtnfaeejeipbciaaB11
import Derived.StillTailTactics
import Derived.Deep.LoopGhost
import Derived.Test.YtnfaeejeipbciaaB8

section
set_option linter.unusedVariables false
set_option linter.unusedSimpArgs false
namespace Go.Proofs.Ytnfaeejeipbciaa
open Go.RowKit BigFrame
set_option maxRecDepth 100000

theorem strL_len {k : Lit} : ∀ {l : List (Lit × Value)} {v : Value}, l.Pairwise (fun p q => p.1 ≠ q.1) → fndL l k = some v → (strL l k).length + 1 = l.length
  | [], _, _, h => by cases h
  | p :: r, v, hp, h => by
    obtain ⟨h1, h2⟩ := List.pairwise_cons.1 hp
    unfold fndL at h
    rw [List.find?_cons] at h
    unfold strL
    rw [List.filter_cons]
    cases hs : p.1.sameKey k with
    | true =>
      have hk := WideAt.sameKey_eq hs
      rw [if_neg (by simp)]
      rw [List.filter_eq_self.2 fun q hq => by
        cases hs2 : q.1.sameKey k with
        | false => rfl
        | true => exact absurd (hk.trans (WideAt.sameKey_eq hs2).symm) (h1 q hq)]
      rfl
    | false =>
      rw [hs] at h
      rw [if_pos (by simp)]
      have ih := strL_len (k := k) h2 (v := v) h
      unfold strL at ih
      simp only [List.length_cons]
      omega

section
variable {w w1 : World} {B : Nat} {c : Ck} {L L' : List Sx}
def Ck.drop (c : Ck) (n : Nat) : Ck := { c with H := dropN c.H n }
theorem drop_foot (c : Ck) (n : Nat) : ∀ k ∈ (c.drop n).foot, k ∈ c.foot := fun k hk => by
  rcases foot_cases hk with e | e | e | ⟨x, hx, e⟩
  · rw [e]; exact foot_c c
  · rw [e]; exact foot_m c
  · exact foot_l (c := c) e
  · rw [← e]; exact foot_x (c := c) ((dropN_sub _ _).subset hx)
/-- a round of it -/
structure FgRel (w : World) (B : Nat) (c : Ck) (k : Nat) (wr : World) : Prop where
  mem : CkM wr B (c.drop k) (fr c.H)
  step : Step w c.foot wr c.foot
  sec : ∀ y ∈ c.H, wr.heap[y.blk]? = w.heap[y.blk]?
theorem FgRel.zero (h : CkM w B c (fr c.H)) : FgRel w B c 0 w := by
  have e : c.drop 0 = c := by unfold Ck.drop; rw [dropN_zero]
  exact ⟨by rw [e]; exact h, Step.refl _ _, fun _ _ => rfl⟩
theorem drop_full (H : List Sx) (k : Nat) {y : Sx} (h : (fr H)[k]? = some y) : y ∈ dropN H k := by
  have h1 : y ∈ fr (dropN H k) := by
    rw [dropN_fr]
    have := (List.getElem?_eq_some_iff.1 h)
    rw [List.drop_eq_getElem_cons this.1, this.2]
    exact List.mem_cons_self
  exact (List.mem_filter.1 h1).1
/-- one more gone -/
theorem FgRel.next {k : Nat} {wr w3 : World} {y : Sx} {l : List (Lit × Value)} (h : FgRel w B c k wr) (hO : CkOk c (fr c.H)) (hy : (fr c.H)[k]? = some y) (hl : MapAt 3 wr c.M l) (hl2 : l.length = (dropN c.H k).length) (hl3 : ∀ a : Int, fndL l (.int .i64 a) = (get (dropN c.H k) a).map fun x => pv x.blk)
    (hm : MapAt 3 w3 c.M (strL l (.int .i64 ((y.pos : Nat) : Int)))) (ht : wr.drew.mapTurned w3 c.M) (hmx : ∀ y ∈ c.H, y.blk ≠ c.M) : FgRel w B c (k + 1) w3 := by
  have hyk := drop_full c.H k hy
  have hkl := (List.getElem?_eq_some_iff.1 hy).1
  have hd1 : wr.drew.heap = wr.heap := rfl
  have hb : ∀ j, j ≠ c.M → w3.heap[j]? = wr.heap[j]? := fun j hj => mturn_blk ht hj
  have hsub : (dropN c.H (k + 1)).Sublist (dropN c.H k) := by
    rw [← dropN_add c.H k 1]; exact dropN_sub _ _
  have hg : get (dropN c.H k) ((y.pos : Nat) : Int) = some y := get_at (hO.pos.sub (dropN_sub _ _)) hyk
  refine ⟨⟨?_, ⟨_, hm, ?_, fun a => ?_⟩, fun x hx => ?_, ?_, ?_, fun j hj => ?_⟩, h.step.trans (Step.turned (Step.of_below (below_drewN wr 1) c.foot) ht (foot_m c)), fun z hz => (hb _ (hmx z hz)).trans (h.sec z hz)⟩
  · unfold Vw
    show w3.heap[c.C]? = _
    rw [hb _ (show c.C ≠ c.M from h.mem.cm)]; exact h.mem.hdr
  · have h1 := strL_len (k := .int .i64 ((y.pos : Nat) : Int)) (hl.apart law_int) (v := pv y.blk) (by rw [hl3, hg]; rfl)
    have h2 := dropN_len c.H k
    have h3 := dropN_len c.H (k + 1)
    have h4 : (fr c.H).length ≤ c.H.length := (fr_sub c.H).length_le
    show _ = (dropN c.H (k + 1)).length
    omega
  · rw [fndL_str, hl3]
    show _ = (get (dropN c.H (k + 1)) a).map _
    rw [get_dropS hO.pos hy]
    by_cases e : a = ((y.pos : Nat) : Int)
    · rw [if_pos e, if_pos e]; rfl
    · rw [if_neg e, if_neg e]
  · have hx' : x ∈ dropN c.H k := hsub.subset hx
    unfold Vw
    rw [hb _ (h.mem.mx hx')]; exact h.mem.sec x hx'
  · exact own_blk h.mem.own fun j hj => hb j (h.mem.lm hj)
  · exact h.mem.blk.sublist (hsub.map _)
  · rcases foot_cases hj with e | e | e | ⟨x, hx, e⟩
    · rw [e]; exact h.mem.over _ (foot_c _)
    · rw [e]; exact h.mem.over _ (foot_m _)
    · exact h.mem.over _ (foot_l e)
    · rw [← e]; exact h.mem.over _ (foot_x (c := c.drop k) (hsub.subset hx))
set_option maxHeartbeats 2000000 in
theorem forget_c (h : CkM w B c (fr c.H)) (hO : CkOk c (fr c.H)) (many : Int) (hm : -1000000 ≤ many ∧ many ≤ 1000000) (n : Nat) (hn : n = min many.toNat (fr c.H).length) :
    Calls Try.prog 57 #[pv c.C, .int .i64 many] w fun e w' => e = .returned (.int .i64 (n : Int)) ∧ ∃ v, CkM w' B ((c.drop n).list v) (fr (dropN c.H n)) ∧ Step w c.foot w' ((c.drop n).list v).foot ∧ ∀ y ∈ c.H, w'.heap[y.blk]? = w.heap[y.blk]? := by
  have c4 := h.hdr.cell (k := 4) rfl
  have hfl := hO.fewL
  have hof := own_form1 h.own
  obtain ⟨a, cap, hva, hnc, han⟩ := own_form h.own
  obtain ⟨q, hq⟩ : ∃ q, (fr c.H).length = q := ⟨_, rfl⟩
  rw [hq] at hva hn hfl hnc
  have c4' : w.cell? ⟨c.C, 4, none⟩ = some (.slice a q cap) := by rw [← hva]; exact c4
  have hz := Lib.hid (FgRel.zero h)
  have hap := Lib.hid (fun (y : Sx) (hy : y ∈ c.H) => show y.blk ≠ c.M ∧ y.blk ≠ c.C ∧ c.lv.ownBlock ≠ some y.blk from ⟨h.mx hy, h.cx hy, fun e => h.lx e hy rfl⟩)
  have hlt0 := Lib.hid (fun (y : Sx) (hy : y ∈ c.H) => h.lt _ (foot_x hy))
  have hO' := Lib.hid hO
  have hq' := Lib.hid hq
  have hva' := Lib.hid hva
  have hnq : n ≤ q := by omega
  have hnq2 : (n : Int) ≤ (q : Int) := by omega
  have hnq3 : (n : Int) ≤ (cap : Int) := by omega
  have hrow := Lib.hid (fun (k : Nat) (wr : World) (hR : FgRel w B c k wr) (hk : k < q) => show ∃ g y, a = some ⟨g, 0, none⟩ ∧ (fr c.H)[k]? = some y ∧ wr.cell? ⟨g, k, none⟩ = some (pv y.blk) from by
    have ho : wr.ownsRow B 81 1 c.lv (fr c.H).length (pvs (fr c.H)) := hR.mem.own
    have hky : k < (fr c.H).length := by omega
    rcases own_form1 ho with ⟨_, e0⟩ | ⟨g, cap', cur, e, hcu, _, _, _, _, hcx⟩
    · rw [e0] at hky; simp at hky
    · rw [hva] at e
      cases e
      exact ⟨g, _, rfl, List.getElem?_eq_getElem hky, hcu.cell (hcx k _ (List.getElem?_eq_getElem hky))⟩)
  have hdel := Lib.hid (fun (wr : World) (hR : FgRel w B c n wr) => show Calls Try.prog 65 #[.slice a q cap, .int .i64 0, .int .i64 (n : Int)] wr (OwnPost B (.slice a q cap) (fr (dropN c.H n)) wr) from by
    have h1 := del_c (B := B) (L := fr c.H) hR.mem.own (by omega) 0 n (by omega) (by omega)
    rw [List.take_zero, List.nil_append, ← dropN_fr] at h1
    rw [← hva]
    exact h1)
  have hfin := Lib.hid (fun (wr w2 : World) (v : Value) (hR : FgRel w B c n wr) (hT : TurnS (fun k => (Value.slice a q cap).ownBlock = some k) wr w2) (ho : w2.ownsRow B 81 1 v (fr (dropN c.H n)).length (pvs (fr (dropN c.H n)))) (hat : ∀ k, v.ownBlock = some k → (Value.slice a q cap).ownBlock = some k ∨ wr.heap.size ≤ k) =>
      show (∃ v', CkM (w2.setCell ⟨c.C, 4, none⟩ v) B ((c.drop n).list v') (fr (dropN c.H n)) ∧ Step w c.foot (w2.setCell ⟨c.C, 4, none⟩ v) ((c.drop n).list v').foot ∧ ∀ y ∈ c.H, (w2.setCell ⟨c.C, 4, none⟩ v).heap[y.blk]? = w.heap[y.blk]?) ∧ w2.frozen? ⟨c.C, 4, none⟩ = false ∧ w2.cell? ⟨c.C, 4, none⟩ = some (.slice a q cap) from by
    rw [← hva] at hT hat ⊢
    obtain ⟨h1, h2⟩ := hR.mem.relist (v := v) hT ho hat
    have hV2 := hR.mem.hdr.turnS hT (fun e => hR.mem.lc (k := c.C) e rfl)
    have h3 : Step wr c.foot (w2.setCell ⟨c.C, 4, none⟩ v) ((c.drop n).list v).foot := by
      refine ⟨h2.os, h2.tape, h2.output, h2.size, fun k hk hf => h2.block k hk (fun e => hf (drop_foot c n k e)), fun k hk => ?_⟩
      rcases h2.foot k hk with e | e
      · exact .inl (drop_foot c n k e)
      · exact .inr e
    exact ⟨⟨v, h1, hR.step.trans h3, fun y hy => by
      obtain ⟨_, a2, a3⟩ := hap.out y hy
      have hlt : y.blk < w.heap.size := hlt0.out y hy
      rw [heap_set_other _ ⟨c.C, 4, none⟩ _ a2, hT.block _ (Nat.lt_of_lt_of_le hlt hR.step.size) a3]
      exact hR.sec y hy⟩, hV2.frozen 4, hV2.cell (k := 4) rfl⟩)
  have hmin : min (max many 0) (q : Int) = (n : Int) := by omega
  unfold pv
  have hof' := Lib.hid hof
  clear h hO c4 hva hq han hof hn
  go_enter Try.func57, Try.ntmps57
  go_upto_region 2 with fail
  clear hmin
  have ha : (a = none ∧ q = 0 ∧ n = 0) ∨ ∃ g, a = some ⟨g, 0, none⟩ := by
    rcases hof'.out with ⟨e, e0⟩ | ⟨g, _, _, e, _⟩
    · rw [hva'.out] at e
      cases e
      exact .inl ⟨rfl, rfl, by omega⟩
    · rw [hva'.out] at e
      cases e
      exact .inr ⟨g, rfl⟩
  rcases ha with ⟨rfl, rfl, rfl⟩ | ⟨g, rfl⟩
  · go_wp2_with fail
    refine wp_loop_rounds 1 ?_
    rw [rounds_succ]
    go_wp2_with (go_at_call 65; refine (hdel.out _ hz.out).mono ?_; rintro e w2 ⟨v, rfl, ho, hT, hn2⟩; obtain ⟨a2, cap2, rfl, _, _⟩ := own_form ho; obtain ⟨hF, f4, k4⟩ := hfin.out _ _ _ hz.out hT ho hn2; have hF' := Lib.hid hF; clear ho hT hn2 hF)
    go_ret
    exact ⟨rfl, hF'.out⟩
  · go_wp2_with fail
    clear c4'
    go_loopg [6, 22] n (fun gk v6 v22 wr => ∃ k : Nat, k + gk = n ∧ v22 = .int .i64 (k : Int) ∧ FgRel w B c k wr)
    case atStart => exact ⟨0, by omega, rfl, hz.out⟩
    case round =>
      obtain ⟨k, hkg, rfl, hR⟩ := hrel
      have hR' := Lib.hid hR
      have c3 := hR.mem.hdr.cell (k := 3) rfl
      have c4 := hR.mem.hdr.cell (k := 4) rfl
      change wr.cell? _ = some c.lv at c4
      change wr.cell? ⟨c.C, 3, none⟩ = _ at c3
      change wr.cell? ⟨c.C, 4, none⟩ = _ at c4
      rw [hva'.out] at c4
      by_cases hlt : k < n
      · obtain ⟨gg, rfl⟩ : ∃ gg, gk = gg + 1 := ⟨gk - 1, by omega⟩
        obtain ⟨g', y, e, hy, hcell⟩ := hrow.out k wr hR (by omega)
        cases e
        have hyk := drop_full c.H k hy
        have c0 := (hR.mem.sec y hyk).cell y.c0
        obtain ⟨l, m1, m2, m3⟩ := hR.mem.map
        have m1' := Lib.hid (show MapAt 3 wr.drew c.M l from m1)
        have hlow := hO'.out.low y ((dropN_sub _ _).subset hyk)
        have hnx := Lib.hid (fun w3 hm ht => hR.next hO'.out hy (w3 := w3) m1 m2 m3 hm ht (fun z hz => (hap.out z hz).1))
        unfold pv at hcell
        have tk : True := trivial
        have hk1 : (k : Int) < (n : Int) := by omega
        clear hR m1 m2 m3 hy hyk
        go_upto_region 5 with fail
        go_still_tail 8, (by kernel_rfl)
        change wpList _ _ _ _ _ wr.drew
        go_wp2_with (have _t := tk; refine wpList_map_drop rfl _ _ rfl law_int Try.underlying70 c.M l rfl m1'.out (.int .i64 ((y.pos : Nat) : Int)) (.int .i64 ((y.pos : Nat) : Int)) rfl (key_nat (by omega)) ?_; intro w3 hm3 ht3; have hN := Lib.hid (hnx.out w3 hm3.out ht3.out); clear tk)
        go_roundg gg
        case measure => omega
        case rel => exact ⟨k + 1, by omega, by go_num, hN.out⟩
      · have hkn : k = n := by omega
        subst hkn
        clear hR
        go_wp2_with (go_at_call 65; refine (hdel.out _ hR'.out).mono ?_; rintro e w2 ⟨v, rfl, ho, hT, hn2⟩; obtain ⟨a2, cap2, rfl, _, _⟩ := own_form ho; obtain ⟨hF, f4, k4⟩ := hfin.out _ _ _ hR'.out hT ho hn2; have hF' := Lib.hid hF; clear ho hT hn2 hF)
        go_ret
        exact ⟨rfl, hF'.out⟩
end
end Go.Proofs.Ytnfaeejeipbciaa
end

section
set_option linter.unusedVariables false
set_option linter.unusedSimpArgs false
namespace Go.Proofs.Ytnfaeejeipbciaa
open Go.RowKit BigFrame
set_option maxRecDepth 100000

theorem dropN_min : ∀ (H : List Sx) (n : Nat), dropN H (min n (fr H).length) = dropN H n
  | [], _ => rfl
  | x :: r, n => by
    rw [fr_cons]
    by_cases hx : x.free = true
    · rw [if_pos hx, List.length_cons]
      cases n with
      | zero => simp
      | succ m =>
        have ih := dropN_min r m
        rw [dropN, if_pos ⟨hx, by omega⟩, dropN, if_pos ⟨hx, by omega⟩, show min (m + 1) ((fr r).length + 1) - 1 = min m (fr r).length by omega, ih]
        rfl
    · rw [if_neg hx, dropN, if_neg (fun e => hx e.1), dropN, if_neg (fun e => hx e.1), dropN_min r n]
theorem frx_not {x : Sx} (h : ¬ x.free = true) : ∀ {H : List Sx}, Srt H → x ∈ H → frx x H = fr H := fun {H} hs hx => by
  unfold frx fr
  refine List.filter_congr fun y hy => ?_
  by_cases e : y.used = x.used
  · have := hs.uniq hy hx e
    subst this
    have hf : y.free = false := by simpa using h
    rw [hf]; rfl
  · rw [decide_eq_true e, Bool.and_true]
section
variable {w w1 : World} {B : Nat} {c : Ck} {L L' : List Sx}
theorem MapIs.len {M : Nat} {H : List Sx} (h : MapIs w M H) (ty : TypeId) : (Builtin.len_ #[70] ty #[.map (some M)]).run Try.prog w = .ok (.int .i64 ((H.length : Nat) : Int)) w := by
  obtain ⟨l, h1, h2, _⟩ := h
  have := h1.len Try.underlying70 ty
  rwa [h2] at this
/-- as many as may be -/
def trim (most : Nat) (H : List Sx) : List Sx := dropN H (H.length - most)
def Ck.trim (c : Ck) : Ck := { c with H := Go.Proofs.Ytnfaeejeipbciaa.trim c.most c.H }
set_option maxHeartbeats 1000000 in
theorem settle_c {x : Sx} (h : CkM w B c (frx x c.H)) (hO : CkOk c (frx x c.H)) (hx : x ∈ c.H) (hmo : c.most ≤ 100000) :
    Calls Try.prog 55 #[pv c.C, pv x.blk] w fun e w' => e = .returned (.tuple #[]) ∧ ∃ v, CkM w' B (c.trim.list v) (fr c.trim.H) ∧ Step w c.foot w' (c.trim.list v).foot ∧ ∀ y ∈ c.H, w'.heap[y.blk]? = w.heap[y.blk]? := by
  have hl := hO.len x hx
  have hOf : CkOk c (fr c.H) := ⟨hO.srt, hO.top, hO.pos, hO.low, hO.len, fr_sub _⟩
  have hfew := hO.few
  have hfg := Lib.hid (fun (w5 : World) (v : Value) (hM : CkM w5 B (c.list v) (fr c.H)) => show Calls Try.prog 57 #[pv c.C, .int .i64 ((c.H.length : Int) - (c.most : Int))] w5 fun e w' => ∃ n : Int, e = .returned (.int .i64 n) ∧ ∃ v', CkM w' B (c.trim.list v') (fr c.trim.H) ∧ Step w5 (c.list v).foot w' (c.trim.list v').foot ∧ ∀ y ∈ c.H, w'.heap[y.blk]? = w5.heap[y.blk]? from by
    have h1 := forget_c (c := c.list v) hM ⟨hO.srt, hO.top, hO.pos, hO.low, hO.len, fr_sub _⟩ ((c.H.length : Int) - (c.most : Int)) (by omega) _ rfl
    have e1 : ((c.H.length : Int) - (c.most : Int)).toNat = c.H.length - c.most := by omega
    have e2 : dropN c.H (min (c.H.length - c.most) (fr c.H).length) = trim c.most c.H := dropN_min _ _
    rw [e1] at h1
    refine h1.mono ?_
    rintro e w' ⟨rfl, v', h2, h3, h4⟩
    refine ⟨_, rfl, v', ?_, ?_, h4⟩
    · have : CkM w' B (((c.list v).drop (min (c.H.length - c.most) (fr c.H).length)).list v') (fr (dropN c.H (min (c.H.length - c.most) (fr c.H).length))) := h2
      unfold Ck.drop Ck.list at this
      simp only at this
      rw [e2] at this
      exact this
    · have : Step w5 (c.list v).foot w' (((c.list v).drop (min (c.H.length - c.most) (fr c.H).length)).list v').foot := h3
      unfold Ck.drop Ck.list at this
      simp only at this
      rw [e2] at this
      exact this)
  have hws : IntKind.i64.wrap ((c.H.length : Int) - (c.most : Int)) = (c.H.length : Int) - (c.most : Int) := by rw [IntKind.wrap_i64]; omega
  have k3 := (h.sec x hx).cell (Sx.c130 hl)
  have k4 := (h.sec x hx).cell (Sx.c131 hl)
  have h' := Lib.hid h
  have hO' := Lib.hid hO
  have hx' := Lib.hid hx
  by_cases hf : x.free = true
  · have hdp : x.dirty = false ∧ x.pin = false := by
      unfold Sx.free at hf
      cases hd : x.dirty <;> cases hp : x.pin <;> simp_all
    rw [hdp.1] at k3
    rw [hdp.2] at k4
    have hq := Lib.hid (search_c h hO hx)
    have hins := Lib.hid (ins_fr hO.srt hx hf)
    have hol := older_le x (frx x c.H)
    have hfl := hO.fewL
    have c4 := h.hdr.cell (k := 4) rfl
    change w.cell? _ = some c.lv at c4
    change w.cell? ⟨c.C, 4, none⟩ = _ at c4
    obtain ⟨a, cap, hva, hnc, han⟩ := own_form h.own
    obtain ⟨q, hq2⟩ : ∃ q, (frx x c.H).length = q := ⟨_, rfl⟩
    have hq2' := Lib.hid hq2
    rw [hq2] at hva hnc hol hfl
    obtain ⟨n, hn⟩ : ∃ n, older x (frx x c.H) = n := ⟨_, rfl⟩
    rw [hn] at hq hins hol
    rw [hva] at c4 hq
    have hva' := Lib.hid hva
    generalize fnd x (frx x c.H) = fb at hq
    have hpl := Lib.hid (fun (w2 : World) (hM2 : CkM w2 B c (frx x c.H)) => show Calls Try.prog 66 #[.slice a q cap, .int .i64 (n : Int), .slice (some ⟨w2.heap.size, 0, none⟩) 1 1] (w2.alloc (.cells #[.pointer (some ⟨x.blk, 0, none⟩)] 81)) (OwnPost B (.slice a q cap) (fr c.H) (w2.alloc (.cells #[.pointer (some ⟨x.blk, 0, none⟩)] 81))) from by
      have hM3 : CkM (w2.alloc (.cells #[.pointer (some ⟨x.blk, 0, none⟩)] 81)) B c (frx x c.H) := hM2.carry fun k hk => old_alloc w2 _ k (hM2.lt k hk)
      have h1 := ins_c (B := B) (L := frx x c.H) hM3.own (by omega) (Nat.le_trans hM2.there (by rw [size_alloc]; omega)) (i := n) (by omega) (x := x) (vb := w2.heap.size) (Vw.alloc w2 [pv x.blk] _) (fun e => by have := hM2.lt _ (foot_l e); omega)
      have e1 : insL' (frx x c.H) n x = fr c.H := hins.out
      rw [e1, hva'.out] at h1
      exact h1)
    have hst := Lib.hid (fun (w2 w5 : World) (v : Value) (hM2 : CkM w2 B c (frx x c.H)) (hT : TurnS (fun k => (Value.slice a q cap).ownBlock = some k) (w2.alloc (.cells #[.pointer (some ⟨x.blk, 0, none⟩)] 81)) w5) (ho : w5.ownsRow B 81 1 v (fr c.H).length (pvs (fr c.H))) (hat : ∀ k, v.ownBlock = some k → (Value.slice a q cap).ownBlock = some k ∨ (w2.alloc (.cells #[.pointer (some ⟨x.blk, 0, none⟩)] 81)).heap.size ≤ k) =>
        show (CkM (w5.setCell ⟨c.C, 4, none⟩ v) B (c.list v) (fr c.H) ∧ Step w2 c.foot (w5.setCell ⟨c.C, 4, none⟩ v) (c.list v).foot ∧ ∀ y ∈ c.H, (w5.setCell ⟨c.C, 4, none⟩ v).heap[y.blk]? = w2.heap[y.blk]?) ∧ w5.frozen? ⟨c.C, 4, none⟩ = false ∧ w5.cell? ⟨c.C, 4, none⟩ = some (.slice a q cap) from by
      have hM3 : CkM (w2.alloc (.cells #[.pointer (some ⟨x.blk, 0, none⟩)] 81)) B c (frx x c.H) := hM2.carry fun k hk => old_alloc w2 _ k (hM2.lt k hk)
      rw [← hva'.out] at hT hat ⊢
      obtain ⟨h1, h2⟩ := hM3.relist (v := v) hT ho hat
      have hV2 := hM3.hdr.turnS hT (fun e => hM3.lc (k := c.C) e rfl)
      exact ⟨⟨h1, (Step.of_below ((Below.refl _ _).alloc (Nat.le_refl _) _) c.foot).trans h2, fun y hy => by
        rw [heap_set_other _ ⟨c.C, 4, none⟩ _ (hM2.cx hy), hT.block _ (hM3.lt _ (foot_x hy)) (fun e => hM2.lx e hy rfl)]
        exact old_alloc w2 _ _ (hM2.lt _ (foot_x hy))⟩, hV2.frozen 4, hV2.cell (k := 4) rfl⟩)
    unfold pv
    unfold pv at hq
    clear h hO hx hf hdp hn hva hq2 han
    go_enter Try.func55, Try.ntmps55
    go_upto_region 3 with (first
      | (go_at_call 64; refine hq.out.mono ?_; rintro e w2 ⟨rfl, hb2⟩; have M2 := Lib.hid (h'.out.on hb2 (Nat.le_refl _)); have B2 := Lib.hid hb2; have k5 := M2.out.hdr.cell (k := 4) rfl; change w2.cell? ⟨c.C, 4, none⟩ = some c.lv at k5; rw [hva'.out] at k5; clear hb2 c4 k3 k4)
      | (go_at_call 66; refine (hpl.out _ M2.out).mono ?_; rintro e w5 ⟨v5, rfl, ho, hT, hat⟩; obtain ⟨a5, cap5, rfl, _, _⟩ := own_form ho; obtain ⟨hF, f4, j4⟩ := hst.out _ _ _ M2.out hT ho hat; have hF' := Lib.hid hF; clear ho hT hat hF k5))
    obtain ⟨v6, hv6⟩ : ∃ v6, Value.slice a5 (fr c.H).length cap5 = v6 := ⟨_, rfl⟩
    rw [hv6] at hF' ⊢
    obtain ⟨w6, hw6⟩ : ∃ w6, w5.setCell ⟨c.C, 4, none⟩ v6 = w6 := ⟨_, rfl⟩
    rw [hw6] at hF' ⊢
    clear f4 j4 hw6 hv6
    have X6 := Lib.hid (fun (y : Sx) (hy : y ∈ c.H) => show w6.heap[y.blk]? = w.heap[y.blk]? from (hF'.out.2.2 y hy).trans (B2.out.block _ (h'.out.lt _ (foot_x hy))))
    have hM6 := hF'.out.1
    have hg' := Lib.hid (hfg.out w6.drew v6 hM6.drew1)
    have c3 := hM6.hdr.cell (k := 3) rfl
    change w6.cell? ⟨c.C, 3, none⟩ = some (.map (some c.M)) at c3
    have c1 := hM6.hdr.cell (k := 1) rfl
    change w6.cell? ⟨c.C, 1, none⟩ = some (.int .i64 ((c.most : Nat) : Int)) at c1
    have hln : ∀ (ty : TypeId), (Builtin.len_ #[70] ty #[.map (some c.M)]).run Try.prog w6.drew = .ok (.int .i64 ((c.H.length : Nat) : Int)) w6.drew := fun ty => hM6.drew1.map.len ty
    clear hM6
    go_still_tail 11, (by kernel_rfl)
    change wpList _ _ _ _ _ w6.drew
    go_wp2_with (go_at_call 57; refine hg'.out.mono ?_; rintro e w7 ⟨n, rfl, v7, hM7, hS7, hX7⟩; have M7 := Lib.hid hM7; have S7 := Lib.hid hS7; have X7 := Lib.hid hX7; clear hM7 hS7 hX7)
    go_end0
    exact ⟨rfl, v7, M7.out, ((Step.of_below B2.out c.foot).trans hF'.out.2.1).trans ((Step.of_below (below_drewN w6 1) _).trans S7.out), fun y hy => (X7.out y hy).trans (X6.out y hy)⟩
  · have e0 := frx_not hf hO.srt hx
    rw [e0] at h
    have hg := hfg.out w.drew c.lv h.drew1
    have hg' := Lib.hid hg
    have c3 := h.hdr.cell (k := 3) rfl
    have c1 := h.hdr.cell (k := 1) rfl
    have hln : ∀ (ty : TypeId), (Builtin.len_ #[70] ty #[.map (some c.M)]).run Try.prog w.drew = .ok (.int .i64 ((c.H.length : Nat) : Int)) w.drew := fun ty => h.drew1.map.len ty
    obtain ⟨dd, hdd⟩ : ∃ dd, x.dirty = dd := ⟨_, rfl⟩
    obtain ⟨pp, hpp⟩ : ∃ pp, x.pin = pp := ⟨_, rfl⟩
    unfold Sx.free at hf
    rw [hdd, hpp] at hf
    rw [hdd] at k3
    rw [hpp] at k4
    unfold pv
    clear h hO hx e0 hg hdd hpp
    go_enter Try.func55, Try.ntmps55
    cases dd with
    | true =>
      go_upto_region 3 with fail
      go_still_tail 11, (by kernel_rfl)
      change wpList _ _ _ _ _ w.drew
      go_wp2_with (go_at_call 57; refine hg'.out.mono ?_; rintro e w7 ⟨n, rfl, v7, hM7, hS7, hX7⟩; have M7 := Lib.hid hM7; have S7 := Lib.hid hS7; have X7 := Lib.hid hX7; clear hM7 hS7 hX7)
      go_end0
      exact ⟨rfl, v7, M7.out, (Step.of_below (below_drewN w 1) c.foot).trans S7.out, X7.out⟩
    | false =>
      have hp : pp = true := by cases pp <;> simp_all
      subst hp
      go_upto_region 3 with fail
      go_still_tail 11, (by kernel_rfl)
      change wpList _ _ _ _ _ w.drew
      go_wp2_with (go_at_call 57; refine hg'.out.mono ?_; rintro e w7 ⟨n, rfl, v7, hM7, hS7, hX7⟩; have M7 := Lib.hid hM7; have S7 := Lib.hid hS7; have X7 := Lib.hid hX7; clear hM7 hS7 hX7)
      go_end0
      exact ⟨rfl, v7, M7.out, (Step.of_below (below_drewN w 1) c.foot).trans S7.out, X7.out⟩
end
end Go.Proofs.Ytnfaeejeipbciaa
end

section
set_option linter.unusedVariables false
set_option linter.unusedSimpArgs false
namespace Go.Proofs.Ytnfaeejeipbciaa
open Go.RowKit BigFrame
set_option maxRecDepth 100000

section
variable {w w1 w' : World} {B : Nat} {c : Ck} {L L' : List Sx}
/-- a cache between its calls -/
structure CkN (w : World) (B : Nat) (c : Ck) : Prop where
  mem : CkM w B c (fr c.H)
  ok : CkOk c (fr c.H)
  one : ∀ x ∈ c.H, 1 ≤ x.used
/-- a sector that is the newest now -/
def nw (H : List Sx) (x : Sx) : List Sx := H.filter (fun y => decide (y.pos ≠ x.pos)) ++ [x]
theorem but_pos {H : List Sx} (hs : Srt H) (hA : Apart H) {x : Sx} (hx : x ∈ H) : but x H = H.filter fun y => decide (y.pos ≠ x.pos) := by
  unfold but
  refine List.filter_congr fun y hy => ?_
  by_cases e : y.used = x.used
  · have := hs.uniq hy hx e
    subst this
    simp
  · have : y.pos ≠ x.pos := fun e2 => e (by rw [hA.uniq hy hx e2])
    rw [decide_eq_true e, decide_eq_true this]
theorem frx_newest (hO : CkOk c L) (x : Sx) : frx (x.at (c.uses + 1)) (c.newest x).H = frx x c.H := by
  show frx (x.at (c.uses + 1)) (but x c.H ++ [x.at (c.uses + 1)]) = _
  unfold frx but
  rw [List.filter_append, List.filter_filter]
  have e1 : ([x.at (c.uses + 1)] : List Sx).filter (fun y => y.free && decide (y.used ≠ (x.at (c.uses + 1)).used)) = [] := by
    rw [List.filter_cons, if_neg (by simp)]; rfl
  rw [e1, List.append_nil]
  refine List.filter_congr fun y hy => ?_
  have := hO.top y hy
  have h2 : decide (y.used ≠ (x.at (c.uses + 1)).used) = true := decide_eq_true (show y.used ≠ c.uses + 1 by omega)
  rw [h2, Bool.and_true]
theorem newest_ok (hO : CkOk c L) {x : Sx} (hx : x ∈ c.H) : CkOk (c.newest x) (frx x c.H) where
  srt := by
    show (but x c.H ++ [x.at (c.uses + 1)]).Pairwise _
    rw [List.pairwise_append]
    refine ⟨hO.srt.sublist List.filter_sublist, by simp, fun a ha b hb => ?_⟩
    rw [List.mem_singleton] at hb
    subst hb
    have := hO.top a (mem_but.1 ha).1
    show a.used < c.uses + 1
    omega
  top := fun y hy => by
    show y.used ≤ c.uses + 1
    rcases List.mem_append.1 hy with hy | hy
    · have := hO.top y (mem_but.1 hy).1; omega
    · rw [List.mem_singleton] at hy; subst hy; exact Nat.le_refl _
  pos := (newest_map Sx.pos hO.srt hx (c.uses + 1) rfl).symm.nodup hO.pos
  low := fun y hy => by
    rcases List.mem_append.1 hy with hy | hy
    · exact hO.low y (mem_but.1 hy).1
    · rw [List.mem_singleton] at hy; subst hy; exact hO.low x hx
  len := fun y hy => by
    rcases List.mem_append.1 hy with hy | hy
    · exact hO.len y (mem_but.1 hy).1
    · rw [List.mem_singleton] at hy; subst hy; exact hO.len x hx
  sub := by
    show (frx x c.H).Sublist (but x c.H ++ [x.at (c.uses + 1)])
    have e : frx x c.H = (but x c.H).filter Sx.free := by
      unfold frx but
      rw [List.filter_filter]
    rw [e]
    exact List.filter_sublist.trans (List.sublist_append_left _ _)
theorem trim_sub (m : Nat) (H : List Sx) : (trim m H).Sublist H := dropN_sub _ _
theorem trim_n (hO : CkOk c L) (h1 : ∀ x ∈ c.H, 1 ≤ x.used) {v : Value} (hM : CkM w B (c.trim.list v) (fr c.trim.H)) : CkN w B (c.trim.list v) := by
  have hs : ∀ x, x ∈ c.trim.H → x ∈ c.H := fun x hx => (trim_sub _ _).subset hx
  exact ⟨hM, ⟨hO.srt.sublist (trim_sub _ _), fun x hx => hO.top x (hs x hx), hO.pos.sub (trim_sub _ _), fun x hx => hO.low x (hs x hx), fun x hx => hO.len x (hs x hx), fr_sub _⟩, fun x hx => h1 x (hs x hx)⟩
/-- a cache and its disk -/
structure CkD (w : World) (B : Nat) (A : Lies) (d : Dk) (c : Ck) : Prop where
  dk : IsDk w B c.G A d
  n : CkN w B c
  ap : ∀ k ∈ c.foot, k ∉ A.foot c.G
def foots (A : Lies) (c : Ck) : List Nat := A.foot c.G ++ c.foot
variable {A A' : Lies} {d d' : Dk} {c' : Ck}
theorem CkD.dlt (h : CkD w B A d c) : ∀ k ∈ A.foot c.G, B ≤ k ∧ k < w.heap.size := fun k hk => IsDkS.over h.dk k hk
theorem CkD.clt (h : CkD w B A d c) : ∀ k ∈ c.foot, B ≤ k ∧ k < w.heap.size := fun k hk => ⟨h.n.mem.over k hk, h.n.mem.lt k hk⟩
theorem CkD.lt (h : CkD w B A d c) : ∀ k ∈ foots A c, B ≤ k ∧ k < w.heap.size := fun k hk => by
  rcases List.mem_append.1 hk with hk | hk
  · exact h.dlt k hk
  · exact h.clt k hk
/-- the cache alone has turned -/
theorem CkD.turn (h : CkD w B A d c) (hn : CkN w' B c') (hG : c'.G = c.G) (hs : Step w c.foot w' c'.foot) : CkD w' B A d c' ∧ Step w (foots A c) w' (foots A c') := by
  refine ⟨⟨?_, hn, fun k hk hk2 => ?_⟩, ⟨hs.os, hs.tape, hs.output, hs.size, fun k hk hf => hs.block k hk (fun e => hf (List.mem_append_right _ e)), fun k hk => ?_⟩⟩
  · rw [hG]
    exact IsDkS.carry h.dk hs.size fun k hk => hs.block k (h.dlt k hk).2 (fun e => h.ap k e hk)
  · rw [hG] at hk2
    rcases hs.foot k hk with e | e
    · exact h.ap k e hk2
    · have := (h.dlt k hk2).2; omega
  · rcases List.mem_append.1 hk with hk | hk
    · rw [hG] at hk; exact .inl (List.mem_append_left _ hk)
    · rcases hs.foot k hk with e | e
      · exact .inl (List.mem_append_right _ e)
      · exact .inr e
/-- the disk alone has turned -/
theorem CkD.turnD (h : CkD w B A d c) (hd : IsDk w' B c.G A' d') (hs : Step w (A.foot c.G) w' (A'.foot c.G)) : CkD w' B A' d' c ∧ Step w (foots A c) w' (foots A' c) := by
  refine ⟨⟨hd, ⟨h.n.mem.carry fun k hk => hs.block k (h.clt k hk).2 (h.ap k hk), h.n.ok, h.n.one⟩, fun k hk hk2 => ?_⟩, ⟨hs.os, hs.tape, hs.output, hs.size, fun k hk hf => hs.block k hk (fun e => hf (List.mem_append_left _ e)), fun k hk => ?_⟩⟩
  · rcases hs.foot k hk2 with e | e
    · exact h.ap k hk e
    · have := (h.clt k hk).2; omega
  · rcases List.mem_append.1 hk with hk | hk
    · rcases hs.foot k hk with e | e
      · exact .inl (List.mem_append_left _ e)
      · exact .inr e
    · exact .inl (List.mem_append_right _ hk)
theorem CkN.on {B' : Nat} (h : CkN w B c) (hb : Below B' w w') (hB : w.heap.size ≤ B') : CkN w' B c := ⟨h.mem.on hb hB, h.ok, h.one⟩
theorem CkD.on {B' : Nat} (h : CkD w B A d c) (hb : Below B' w w') (hB : w.heap.size ≤ B') : CkD w' B A d c := ⟨IsDkS.on h.dk hb hB, h.n.on hb hB, h.ap⟩
theorem CkD.drew (h : CkD w B A d c) {m : Nat} : CkD (w.drewN m) B A d c := h.on (below_drewN w m) (Nat.le_refl _)
end
end Go.Proofs.Ytnfaeejeipbciaa
end

section
set_option linter.unusedVariables false
set_option linter.unusedSimpArgs false
namespace Go.Proofs.Ytnfaeejeipbciaa
open Go.RowKit BigFrame
set_option maxRecDepth 100000

section
variable {w w1 w' : World} {B : Nat} {c c' : Ck} {L L' : List Sx} {A A' : Lies} {d d' : Dk}
theorem bat_x {x : Sx} (h : Vw w 86 x.blk x.cells) : BAt w (some ⟨x.blk, 1, none⟩) x.b := .inr ⟨x.blk, 1, rfl, fun k hk => by
  refine h.cell ?_
  unfold Sx.cells
  rw [Nat.add_comm 1 k, List.getElem?_cons_succ, List.getElem?_append_left (by rw [bv_length]; exact hk)]
  exact bv_get hk⟩
structure Same (c c' : Ck) (u : Nat) (H' : List Sx) : Prop where
  C : c'.C = c.C
  G : c'.G = c.G
  most : c'.most = c.most
  uses : c'.uses = u
  H : c'.H = H'
/-- behind a call that answers v -/
def DidPost (B : Nat) (A : Lies) (d : Dk) (c : Ck) (u : Nat) (H' : List Sx) (w w' : World) (c' : Ck) : Prop := CkD w' B A d c' ∧ Step w (foots A c) w' (foots A c') ∧ Same c c' u H'
/-- behind a Get: a sector's bytes, one's own -/
def GetPost (B : Nat) (A : Lies) (d : Dk) (c : Ck) (p : Nat) (l : List Nat) (dt pn : Bool) (w : World) (e : Ending) (w' : World) : Prop :=
  ∃ v c' blk, e = .returned (.tuple #[v, .int .i64 0]) ∧ DidPost B A d c (c.uses + 1) (trim c.most (nw c.H ⟨blk, p, l, c.uses + 1, dt, pn⟩)) w w' c' ∧ OwnB w' w.heap.size v l ∧ ∀ k, v.ownBlock = some k → k ∉ foots A c'
theorem renew_l {x : Sx} {v : Value} (hM : CkM w B (c.list v) (frx x c.H)) (hO : CkOk c (frx x c.H)) (hx : x ∈ c.H) (hu : c.uses < 100000) :
    Calls Try.prog 54 #[pv c.C, pv x.blk] w fun e w' => e = .returned (.tuple #[]) ∧ CkM w' B ((c.newest x).list v) (frx x c.H) ∧ Step w (c.list v).foot w' ((c.newest x).list v).foot :=
  renew_c (c := c.list v) hM ⟨hO.srt, hO.top, hO.pos, hO.low, hO.len, hO.sub⟩ hx (by show c.uses < 1000000; omega)
theorem settle_l {x : Sx} {v : Value} (hM : CkM w B ((c.newest x).list v) (frx x c.H)) (hO : CkOk c (frx x c.H)) (hx : x ∈ c.H) (hmo : c.most ≤ 100000) :
    Calls Try.prog 55 #[pv c.C, pv x.blk] w fun e w' => e = .returned (.tuple #[]) ∧ ∃ v', CkM w' B ((c.newest x).trim.list v') (fr (c.newest x).trim.H) ∧ Step w ((c.newest x).list v).foot w' ((c.newest x).trim.list v').foot ∧ Vw w' 86 x.blk (x.at (c.uses + 1)).cells := by
  have hx2 : x.at (c.uses + 1) ∈ (c.newest x).H := List.mem_append_right _ List.mem_cons_self
  have hsec := hM.sec _ hx2
  rw [← frx_newest hO x] at hM
  have h1 := settle_c (c := (c.newest x).list v) (x := x.at (c.uses + 1)) hM (by
    have := newest_ok hO hx
    exact ⟨this.srt, this.top, this.pos, this.low, this.len, frx_sub _ _⟩) hx2 hmo
  refine h1.mono ?_
  rintro e w' ⟨he, v', h2, h3, h4⟩
  exact ⟨he, v', h2, h3, (h4 _ hx2).trans hsec⟩
theorem newest_one (h1 : ∀ y ∈ c.H, y ∈ L ∨ 1 ≤ y.used) (x : Sx) (hL : ∀ y ∈ L, y.used = x.used) : ∀ y ∈ (c.newest x).H, 1 ≤ y.used := fun y hy => by
  rcases List.mem_append.1 hy with hy | hy
  · obtain ⟨h2, h3⟩ := mem_but.1 hy
    rcases h1 y h2 with h | h
    · exact absurd (hL y h) h3
    · exact h
  · rw [List.mem_singleton] at hy; subst hy; show 1 ≤ c.uses + 1; omega
set_option maxHeartbeats 1000000 in
theorem get_hit (h : CkD w B A d c) (hmo : c.most ≤ 100000) (hu : c.uses < 100000) {x : Sx} (hx : x ∈ c.H) :
    Calls Try.prog 26 #[pv c.C, .int .i64 ((x.pos : Nat) : Int)] w (GetPost B A d c x.pos x.b x.dirty x.pin w) := by
  have hO := h.n.ok
  have hlow := hO.low x hx
  have hfi := Lib.hid (find_c h.n.mem ((x.pos : Nat) : Int) ⟨by omega, by omega⟩)
  rw [get_at hO.pos hx] at hfi
  have hli := Lib.hid (lift_c h.n.mem hO hx)
  have hl := Lib.hid (hO.len x hx)
  have hO1 : CkOk c (frx x c.H) := ⟨hO.srt, hO.top, hO.pos, hO.low, hO.len, frx_sub _ _⟩
  have hre := Lib.hid (fun (w2 : World) (v : Value) (hM : CkM w2 B (c.list v) (but x (fr c.H))) => renew_l (x := x) (by rw [← but_fr]; exact hM) hO1 hx hu)
  have hse := Lib.hid (fun (w3 : World) (v : Value) (hM : CkM w3 B ((c.newest x).list v) (frx x c.H)) => settle_l hM hO1 hx hmo)
  have hfin := Lib.hid (fun (w2 w3 w4 w5 : World) (v2 v4 v5 : Value) (hS2 : Step w c.foot w2 (c.list v2).foot) (hS3 : Step w2 (c.list v2).foot w3 ((c.newest x).list v2).foot) (hM4 : CkM w4 B ((c.newest x).trim.list v4) (fr (c.newest x).trim.H)) (hS4 : Step w3 ((c.newest x).list v2).foot w4 ((c.newest x).trim.list v4).foot) (hb5 : Below w4.heap.size w4 w5) (ho : OwnB w5 w4.heap.size v5 x.b) =>
      show GetPost B A d c x.pos x.b x.dirty x.pin w (.returned (.tuple #[v5, .int .i64 0])) w5 from by
    have hN4 : CkN w4 B ((c.newest x).trim.list v4) := trim_n (newest_ok hO hx) (newest_one (L := []) (fun y hy => .inr (h.n.one y hy)) x (fun y hy => by cases hy)) hM4
    have hS := (hS2.trans hS3).trans hS4
    obtain ⟨hD, hF⟩ := h.turn hN4 rfl hS
    refine ⟨v5, _, x.blk, rfl, ⟨hD.on hb5 (Nat.le_refl _), hF.trans (Step.of_below hb5 _), ⟨rfl, rfl, rfl, rfl, ?_⟩⟩, ho.lower hS.size, fun k hk hk2 => ?_⟩
    · show trim c.most (but x c.H ++ [x.at (c.uses + 1)]) = _
      rw [but_pos hO.srt hO.pos hx]; rfl
    · have h1 := (hD.lt k hk2).2
      have h2 := (OwnB.lt ho k hk).1
      omega)
  clear h hO hx hO1
  unfold pv
  unfold pv at hfi hli hre hse
  simp only [found, pv] at hfi
  go_enter Try.func26, Try.ntmps26
  go_wp2_with (first
    | (go_at_call 50; refine hfi.out.mono ?_; rintro e w1 ⟨rfl, rfl⟩)
    | (go_at_call 53; refine hli.out.mono ?_; rintro e w2 ⟨rfl, v2, hM2, hS2⟩; have M2 := Lib.hid hM2; have S2 := Lib.hid hS2; clear hM2 hS2)
    | (go_at_call 54; refine (hre.out _ _ M2.out).mono ?_; rintro e w3 ⟨rfl, hM3, hS3⟩; have M3 := Lib.hid hM3; have S3 := Lib.hid hS3; clear hM3 hS3)
    | (go_at_call 55; refine (hse.out _ _ M3.out).mono ?_; rintro e w4 ⟨rfl, v4, hM4, hS4, hV4⟩; have M4 := Lib.hid hM4; have S4 := Lib.hid hS4; have V4 := Lib.hid hV4; clear hM4 hS4 hV4)
    | (go_at_call 49; refine (clone_b _ _ 128 x.b _ hl.out (by omega) (bat_x (x := x.at (c.uses + 1)) V4.out) (fun h => by cases h)).mono ?_; rintro e w5 ⟨v5, rfl, ho5, hb5⟩; obtain ⟨g5, cap5, rfl, _, _, _⟩ := ho5.at hl.out (by omega); have F5 := Lib.hid (hfin.out _ _ _ _ _ _ _ S2.out S3.out M4.out S4.out hb5 ho5); clear ho5 hb5))
  go_ret2
  exact F5.out
end
end Go.Proofs.Ytnfaeejeipbciaa
end
