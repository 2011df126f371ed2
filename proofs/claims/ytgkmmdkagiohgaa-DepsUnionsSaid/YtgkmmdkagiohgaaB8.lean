/-
  A node is put in an order: the walk.
  Integers: in memory, in slices of the call's own, and how they grow by append.
-/
import Derived.Test.YtgkmmdkagiohgaaB7
import Derived.StillTailTactics
import Derived.Deep.LoopGhost
import Derived.Deep.RegionLaw
import Derived.Test.YtgkmmdkagiohgaaRows
import Derived.Test.YtgkmmdkagiohgaaB2
import Derived.WalkKit
import Derived.ProofKit
import Derived.Handy
import Derived.OpenShut
import Derived.Lib.Hide
import Derived.Laws.AppendOwn
import Derived.Laws.AppendOwnNone
import Derived.Laws.CopyOwn
import Derived.Deep.OwnRows
import Derived.OwnWalk
import Derived.Deep.QuietTactic
import Derived.BigQuiet

section
set_option linter.unusedVariables false
set_option linter.unusedSimpArgs false
namespace Go.Proofs.Ytgkmmdkagiohgaa
open Go.RowKit BigFrame
set_option maxRecDepth 100000
variable {w w' wr : World} {W B a M : Nat} {G : Gr} {ρ : Nat → Nat} {b : Nat} {ns bs bm ns' bs' bm' v : Value} {O0 O E : List Nat} {x : Nat} {P : List (Nat × Nat)}

theorem step_append_ptr {w : World} {ops : Array Oper} {o : Oper} {a : Act} {K : Act → World → Prop} {Q : Exit → Act → World → Prop} {F : Prop} (hgd : o.guard = none) (s x : Operand)
    (ho : o.op = .call { callee := .builtin .append, args := #[s, x], argTypes := #[48, 48] })
    (B : Nat) (nb : Nat → Nat) (v : Value) (L : List Nat) (hs : a.eval s = v) (hown : SlAt w B nb v L) (ad : Addr) (cap : Nat) (y : Nat) (hx : a.eval x = .slice (some ad) 1 cap) (hsrc : w.cell? ad = some (pv (nb y)))
    (hlen : L.length + 1 ≤ 1000000) (hbase : B ≤ w.heap.size)
    (h : ∀ v' w', Hid (SlAt w' B nb v' (L ++ [y])) → Hid (w.grownBy w' v.ownBlock) → Hid (v'.ownBlock = v.ownBlock ∨ v'.ownBlock = some w.heap.size) → K (a.put o.dst v') w') :
    if Region.wanted o (yielded ops a.tmps) = true then Oper.wp Try.prog o a w K Q else F := by
  have hw : Region.wanted o (yielded ops a.tmps) = true := by simp [Region.wanted, hgd]
  rw [if_pos hw]
  obtain ⟨i, hi, hz0, hz1, hz2⟩ := info_parts Try.infoPt
  obtain ⟨v', w', hr, h1, h2, _, h4⟩ := run_append_own_at (P := Try.prog) w B 48 o.type 47 i (.pointer none) 1 8 Try.underlying48 hi hz0 hz1 hz2 rfl (by decide) v L.length (ptrs nb L) hown ad 1 cap (ptrs nb [y]) (by rw [ptrs_len]; rfl) (by
    intro j u hu
    have hj : j = 0 := by
      have := (List.getElem?_eq_some_iff.1 hu).1
      rw [ptrs_len] at this
      simp at this
      omega
    subst hj
    have hadd : ad.add 0 = ad := by unfold Addr.add; split <;> simp_all
    rw [hadd, hsrc]
    simpa [ptrs] using hu) (ptrs_one nb [y]) (by unfold maxLen; omega) (by omega) hbase
  unfold Oper.wp
  simp [execOp, ho, resolve, invoke, builtin, hs, hx, hr, Result.andThen]
  refine h v' w' ?_ h2 h4
  show SlAt w' B nb v' (L ++ [y])
  unfold SlAt
  have e : ptrs nb (L ++ [y]) = ptrs nb L ++ ptrs nb [y] := by simp [ptrs]
  rw [e, List.length_append]; exact h1
theorem vis_0 (w : World) (c : Nat) (n : Int) : (w.alloc (.cells #[pv c, .int .i64 n] 79)).cell? ⟨w.heap.size, 0, none⟩ = some (pv c) := by
  rw [cell_of_row _ w.heap.size _ _ _ _ (heap_alloc_new w _)]; rfl
theorem vis_1 (w : World) (c : Nat) (n : Int) : (w.alloc (.cells #[pv c, .int .i64 n] 79)).cell? ⟨w.heap.size, 1, none⟩ = some (.int .i64 n) := by
  rw [cell_of_row _ w.heap.size _ _ _ _ (heap_alloc_new w _)]; rfl
theorem VOk.few {lk : Nat → List Nat} {ids : List Nat} {ρ : Nat → Nat} {x : Nat} {O0 O E : List Nat} {P : List (Nat × Nat)} (h : VOk lk ids ρ x O0 O E P) : P.length ≤ ids.length := by
  have hn : (P.map fun e => e.1).Nodup := by
    have : P.Pairwise fun a b => a.1 ≠ b.1 := h.dec.imp fun {a b} hab e => by rw [e] at hab; exact absurd hab (Nat.lt_irrefl _)
    exact List.pairwise_map.2 this
  have := nodup_sub hn (m := ids) fun z hz => by
    obtain ⟨e, he, rfl⟩ := List.mem_map.1 hz
    exact (h.inn e.1 e.2 he).1
  simpa using this
theorem SlAt.at {w : World} {B : Nat} {nb : Nat → Nat} {v : Value} {L : List Nat} (h : SlAt w B nb v L) {a : Option Addr} {n cap k y : Nat} (hv : v = .slice a n cap) (hk : L[k]? = some y) : ∃ g, a = some ⟨g, 0, none⟩ ∧ w.cell? ⟨g, k, none⟩ = some (pv (nb y)) := by
  obtain ⟨a', cap', hv', _, hnil, had⟩ := h.slice
  rw [hv] at hv'
  simp only [Value.slice.injEq] at hv'
  obtain ⟨rfl, _, _⟩ := hv'
  cases a with
  | none => rw [hnil rfl] at hk; simp at hk
  | some ad =>
    obtain ⟨g, rfl, _, _, _, hc⟩ := had ad rfl
    exact ⟨g, rfl, hc k y hk⟩
set_option maxHeartbeats 4000000 in
theorem oadd_c (h : GrMem w B a M G) (ho : GOk G ρ) (hx : x ∈ G.ids) (hW : W ≤ w.heap.size) (hG : ∀ k r, G.own k = some r → k < W) (hO : OrdAt w W G.nb b ns bs bm O E) (hok : OOk (G.lk 0) G.ids O) (hE : ∀ z, z ∈ E ↔ z ∈ O) :
    Calls Try.prog 32 #[.pointer (some ⟨b, 0, none⟩), .pointer (some ⟨G.nb x, 0, none⟩)] w (VisPost w W G b ns bs bm O x) := by
  have px := h.pos x hx
  have hOl : O.length ≤ 500 := Nat.le_trans (nodup_sub hok.nd hok.sub) h.few
  have hEl : E.length ≤ 500 := Nat.le_trans (nodup_sub hO.set.one (fun z hz => hok.sub z ((hE z).1 hz))) h.few
  have hnb : ∀ y ∈ G.ids, G.nb y < W := fun y hy => hG _ _ (h.rn y hy)
  have hadd := Lib.hid (add_c (w := w) (B := W) (b := b) (o := 1) (t := 71) (nb := G.nb) (L := E) x hO.row rfl rfl hO.set hW hO.ap2 (by omega) (by omega) (h.num hx) (by have := hnb x hx; have := hO.lo; omega) (fun hh => by have := hnb x hx; have := (hO.set.block _ hh).1; omega))
  have h' := Lib.hid h
  have ho' := Lib.hid ho
  have hO' := Lib.hid hO
  have hok' := Lib.hid hok
  have hE' := Lib.hid hE
  have hG' := Lib.hid hG
  clear h ho hO hok hE hG hnb
  go_enter Try.func32, Try.ntmps32
  go_wp2_with fail
  go_step3
  go_wp2_with fail
  go_at_call 31
  refine hadd.out.mono ?_
  intro e w1 hp
  have he := hp.ret
  subst he
  by_cases hm : x ∈ E
  · have hw := hp.post.1 hm
    subst hw
    have hfin := Lib.hid (show VisPost w1 W G b ns bs bm O x (.returned (.tuple #[])) w1 from ⟨rfl, ⟨ns, bs, bm, O, E, hO'.out, hok'.out, hE'.out, ⟨[], by simp, by simp⟩, (hE'.out x).1 hm, fun k hk => .inl hk⟩, TurnS.refl _ _⟩)
    rw [decide_eq_false (by simpa using hm)]
    clear hp
    go_wp2_with fail
    rw [Exit.noGoto_ret]
    go_end0
    exact hfin.out
  · rw [decide_eq_true hm]
    obtain ⟨bs1, bm1, o1, hT1, hn1⟩ := hO'.out.met hp hm
    have hg1 : ∀ k, (∃ r, G.own k = some r) → ¬ OwnO b ns bs bm k := own_gr hG'.out (fun k hk => (hO'.out.own k hk).1)
    have hrel0 := Lib.hid (show VisRel w W B a M G ρ b ns bs bm O x 1101 (.slice (some ⟨w1.heap.size, 0, none⟩) 1 1) (w1.alloc (.cells #[.pointer (some ⟨G.nb x, 0, none⟩), .int .i64 0] 79)) from by
      have hA := TurnS.alloc (fun _ => False) w1 (.cells #[.pointer (some ⟨G.nb x, 0, none⟩), .int .i64 0] 79)
      have hs1 := hT1.size
      refine ⟨ns, bs1, bm1, O, E ++ [x], [(x, 0)], ⟨?_, o1.turn hA fun _ _ h => h, VOk.begin hok'.out hE'.out (fun e => hm ((hE'.out x).2 e)) hx, hT1.trans (TurnS.alloc _ _ _), hn1, fun k hk => ?_, (h'.out.turn hT1 hg1).turn hA fun _ _ h => h⟩, by simp⟩
      · exact World.ownsRow_lit w1 #[.pointer (some ⟨G.nb x, 0, none⟩), .int .i64 0] 1 (by omega) (by decide) rfl
      · have hk2 : w1.heap.size = k := Option.some.inj hk
        refine ⟨by omega, fun hh => ?_⟩
        have := (o1.own k hh).2
        omega)
    have hGl := Lib.hid (fun k r (hk : G.own k = some r) => hG'.out k r hk)
    have hin := Lib.hid (fun i hi k hk => ho'.out.inn 0 (by omega) i hi k hk)
    have hlow := Lib.hid (fun i hi k hk => ho'.out.low i hi k hk)
    have hnbW := Lib.hid (fun y (hy : y ∈ G.ids) => hG'.out _ _ (h'.out.rn y hy))
    clear hp o1 hT1 hn1 hg1
    go_wp2_with fail
    go_step3
    go_wp2_with fail
    go_loopg [4, 5, 6, 7] 1101 (fun g v v5 v6 v7 wr => VisRel w W B a M G ρ b ns bs bm O x g v wr)
    case atStart => exact hrel0.out
    case round =>
      obtain ⟨ns', bs', bm', O1, E1, P, hV, hg⟩ := hrel
      have hO1 : O1.length ≤ 500 := Nat.le_trans (nodup_sub hV.ok.ord.nd hV.ok.ord.sub) h'.out.few
      have hE1 : E1.length ≤ 500 := Nat.le_trans (nodup_sub hV.ord.set.one (fun z hz => by
        rcases (hV.ok.been z).1 hz with h1 | ⟨n, h1⟩
        · exact hV.ok.ord.sub z h1
        · exact (hV.ok.inn z n h1).1)) h'.out.few
      obtain ⟨g, rfl⟩ : ∃ g, gk = g + 1 := ⟨gk - 1, by omega⟩
      cases P with
      | nil =>
        obtain ⟨a0, cap0, hv0⟩ : ∃ a0 cap0, u4 = Value.slice a0 0 cap0 := by
          rcases hV.path.2 with ⟨e, _⟩ | ⟨g, cap, cur, e, _⟩
          · exact ⟨none, 0, e⟩
          · exact ⟨_, cap, e⟩
        have hfin := Lib.hid (show VisPost w W G b ns bs bm O x (.returned (.tuple #[])) wr from ⟨rfl, ⟨ns', bs', bm', O1, E1, hV.ord, hV.ok.ord, fun z => by rw [hV.ok.been z]; simp, hV.ok.pre, (by
          rcases hV.ok.fst with h1 | ⟨n, h1⟩
          · exact h1
          · cases h1), hV.own⟩, hV.turn⟩)
        clear hV
        subst hv0
        go_wp2_with fail
        rw [Exit.noGoto_normal]
        go_end0
        exact hfin.out
      | cons e r =>
        obtain ⟨p, n⟩ := e
        have hp := hV.path
        rw [List.reverse_cons] at hp
        obtain ⟨g1, cap, hv, hcap, hg1W, hg1l, cp, cn, fn⟩ := hp.form
        rw [List.length_reverse] at hv hcap cp cn fn
        obtain ⟨m, hm'⟩ : ∃ m, r.length = m := ⟨_, rfl⟩
        rw [hm'] at hv hcap cp cn fn
        have hpi := (hV.ok.inn p n (by simp)).1
        have hsl2 := hV.gr.set p hpi 0 (by omega)
        obtain ⟨ad2, cap2, hsv2, hcap2, hnil2, had2⟩ := hsl2.sl.slice
        have cl := (hV.gr.row p hpi).cell (k := 1) rfl
        have hsv2' : G.s p 0 = _ := hsv2
        rw [hsv2'] at cl
        obtain ⟨nl, hnl⟩ : ∃ nl, (G.lk 0 p).length = nl := ⟨_, rfl⟩
        rw [hnl] at cl
        have hn500 := hV.gr.len (by omega) hpi (fun k hk => hin.out p hpi k hk)
        rw [hnl] at hn500
        have hm500 : m ≤ 500 := by
          have := hV.ok.few
          simp only [List.length_cons, hm'] at this
          have := h'.out.few
          omega
        have hnle := (hV.ok.chain p n r rfl).1
        rw [hnl] at hnle
        have hV' := Lib.hid hV
        have hm2 := Lib.hid hm'
        have hnl' := Lib.hid hnl
        unfold pv at cp
        clear hp hsl2 had2 hV hm' hnl hnil2
        obtain ⟨v4, hv4⟩ : ∃ v4, u4 = v4 := ⟨_, rfl⟩
        have hv' := Lib.hid (hv4 ▸ hv)
        have hin0 := Lib.hid (show ∃ n', nl < n' + (nl + 1) ∧ VisAt w W B a M G ρ b ns bs bm O x wr v4 ns' bs' bm' O1 E1 ((p, n') :: r) from ⟨n, by omega, hv4 ▸ hV'.out⟩)
        clear hV' hv4
        subst hv
        go_wp2_with fail
        go_loopg [4, 7] (nl + 1) (fun g2 u v7 wx => u = Value.slice (some ⟨g1, 0, none⟩) (m + 1) cap ∧ ∃ n', nl < n' + g2 ∧ VisAt w W B a M G ρ b ns bs bm O x wx v4 ns' bs' bm' O1 E1 ((p, n') :: r))
        case atStart => exact ⟨rfl, hin0.out⟩
        case round =>
          obtain ⟨hu, n1, hg2, hVx⟩ := hrel
          subst hu
          have hpx := hVx.path
          rw [List.reverse_cons] at hpx
          obtain ⟨g1', cap', hvx, _, _, hg1x, cpx, cnx, fnx⟩ := hpx.form
          rw [List.length_reverse, hm2.out] at hvx cpx cnx fnx
          have hge : g1' = g1 := by
            have h1 := hvx.symm.trans hv'.out
            simp only [Value.slice.injEq, Option.some.injEq, Addr.mk.injEq, and_true] at h1
            exact h1.1
          subst hge
          have hnx := (hVx.ok.chain p n1 r rfl).1
          rw [hnl'.out] at hnx
          have hok2 := hVx.ok
          unfold pv at cpx
          by_cases hlt : n1 < nl
          · obtain ⟨g2, rfl⟩ : ∃ g, gk = g + 1 := ⟨gk - 1, by omega⟩
            obtain ⟨y, hy⟩ : ∃ y, (G.lk 0 p)[n1]? = some y := ⟨(G.lk 0 p)[n1]'(by rw [hnl'.out]; exact hlt), List.getElem?_eq_getElem _⟩
            have hyi := hin.out p hpi y (List.mem_of_getElem? hy)
            obtain ⟨gl, hgl, cy⟩ := (hVx.gr.set p hpi 0 (by omega)).sl.at hsv2' hy
            subst hgl
            unfold pv at cy
            have hT := TurnS.set (fun k => v4.ownBlock = some k) wr (s := g1') (by rw [hv'.out]; rfl) (m * 2 + 1) (.int .i64 ((n1 + 1 : Nat) : Int))
            have hgy := (hVx.grow hW hG'.out hT fun k hk => .inr hk).2
            have hoy := hVx.ord.turn hT fun k h1 h2 => (hVx.pnew k h2).2 h1
            have hsz : wr.heap.size ≥ w.heap.size := hVx.turn.size
            have hyW := hnbW.out y hyi
            have hbW := hVx.ord.lo
            have hpy := hVx.gr.pos y hyi
            have hady := Lib.hid (add_c (w := wr.setCell ⟨g1', m * 2 + 1, none⟩ (.int .i64 ((n1 + 1 : Nat) : Int))) (B := W) (b := b) (o := 1) (t := 71) (nb := G.nb) (L := E1) y hoy.row rfl rfl hoy.set (by rw [size_set]; omega) hoy.ap2 (by omega) (by omega) (hgy.num hyi) (by omega) (fun hh => by have := (hoy.set.block _ hh).1; omega))
            have hV2 := Lib.hid hVx
            have hy' := Lib.hid hy
            have ec : ((n1 + 1 : Nat) : Int) = (n1 : Int) + 1 := by omega
            rw [ec] at hady
            have hO2 := Lib.hid (fun hO => hok2.over hy (y := y) hO)
            have hP2 := Lib.hid (fun hE => hok2.push hin.out hlow.out hy (y := y) hE)
            have hM2 := Lib.hid (fun hE => hok2.met hlow.out hy (y := y) hE)
            clear hVx hpx hT hgy hoy hy hok2 ec
            go_wp2_with fail
            go_at_call 31
            refine hady.out.mono ?_
            intro e w2 hp2
            have he2 := hp2.ret
            subst he2
            by_cases hm2' : y ∈ E1
            · have hw := hp2.post.1 hm2'
              subst hw
              have hend := Lib.hid (show VisAt w W B a M G ρ b ns bs bm O x (wr.setCell ⟨g1', m * 2 + 1, none⟩ (.int .i64 ((n1 : Int) + 1))) v4 ns' bs' bm' O1 E1 ((p, n1 + 1) :: r) by
                have h1 := hV2.out.next (by rw [hv'.out, hm2.out]) (n1 + 1) (hO2.out (hM2.out hm2')) hW hG'.out
                rw [hm2.out, show ((n1 + 1 : Nat) : Int) = (n1 : Int) + 1 by omega] at h1
                exact h1)
              rw [decide_eq_false (by simpa using hm2')]
              clear hp2
              go_wp2_with fail
              go_roundg g2
              case measure => omega
              case rel => exact ⟨rfl, n1 + 1, by omega, hend.out⟩
            · rw [decide_eq_true hm2']
              have ewr : wr.setCell ⟨g1', m * 2 + 1, none⟩ (.int .i64 ((n1 : Int) + 1)) = wr.setCell ⟨g1', r.length * 2 + 1, none⟩ (.int .i64 ((n1 + 1 : Nat) : Int)) := by rw [hm2.out, show ((n1 + 1 : Nat) : Int) = (n1 : Int) + 1 by omega]
              have hend := Lib.hid (fun w3 w4 c ty v' hw3 hp4 hg4 hat => hV2.out.push (w3 := w3) (w4 := w4) (c := c) (ty := ty) (v' := v') (by rw [hv'.out, hm2.out]) hW hG'.out ewr hp2 hm2' hw3 hp4 hg4 hat (hP2.out hm2'))
              have hpa := Lib.hid (show PathAt w2 W G.nb (.slice (some ⟨g1', 0, none⟩) (m + 1) cap) (r.reverse ++ [(p, n1 + 1)]) by
                have h1 := hV2.out.path
                have hlo := hV2.out.pnew
                rw [hv'.out] at h1 hlo
                rw [List.reverse_cons] at h1
                have hl : r.reverse.length = m := by rw [List.length_reverse, hm2.out]
                rw [← hl] at h1 ⊢
                have h2 := h1.next (n1 + 1)
                rw [hl, show ((n1 + 1 : Nat) : Int) = (n1 : Int) + 1 by omega] at h2
                rw [hl]
                refine h2.blk fun k hk => hp2.turn.block k ?_ ?_
                · exact (h2.own k hk).2
                · intro hh
                  have hk2 : g1' = k := Option.some.inj hk
                  refine (hlo k (by rw [← hk2]; rfl)).2 ?_
                  rcases hh with h3 | h3
                  · exact .inl h3
                  · exact .inr (.inr h3))
              have hW2 : W ≤ w2.heap.size := by
                have h1 := hp2.turn.size
                rw [size_set] at h1
                have h2 : w.heap.size ≤ wr.heap.size := hV2.out.turn.size
                omega
              clear hp2 hady ewr
              go_wp2_with (at_builtin; refine wpList_append_visit rfl _ _ rfl W G.nb _ (r.reverse ++ [(p, n1 + 1)]) rfl (hpa.out.alloc _) _ _ y 0 rfl (vis_0 _ _ _) (vis_1 _ _ _) (by simp only [List.length_append, List.length_reverse, hm2.out, List.length_cons, List.length_nil]; omega) (by rw [size_alloc]; omega) ?_; intro v' w4 hp4 hg4 hat4)
              go_roundg g
              case measure => omega
              case rel =>
                obtain ⟨bs2, bm2, hfin⟩ := hend.out _ w4 _ _ v' rfl hp4.out (by rw [hv'.out]; exact hg4.out) (by rw [hv'.out]; exact hat4.out)
                exact ⟨_, _, _, _, _, _, hfin, by simp only [List.length_append, List.length_cons, List.length_nil]; omega⟩
          · have hne : n1 = nl := by omega
            subst hne
            have k0 := hVx.ord.row.cell (k := 0) rfl
            have f0 := hVx.ord.row.frozen 0
            obtain ⟨an, capn, hsn, _⟩ := hVx.ord.sl.slice
            obtain ⟨on, hon⟩ : ∃ on, O1.length = on := ⟨_, rfl⟩
            rw [hon] at hsn
            rw [hsn] at k0
            have hon5 : on ≤ 500 := by omega
            have hpop := Lib.hid (hok2.pop hnl'.out.symm)
            have hV2 := Lib.hid hVx
            have hsn' := Lib.hid hsn
            have hon' := Lib.hid hon
            have hVa := hVx.ord.turn (w' := wr.alloc (.cells #[.pointer (some ⟨G.nb p, 0, none⟩)] 47)) (TurnS.alloc (fun _ => False) wr (.cells #[.pointer (some ⟨G.nb p, 0, none⟩)] 47)) (fun _ _ h => h)
            have ka := hVa.row.cell (k := 0) rfl
            rw [hsn] at ka
            have hVa' := Lib.hid (show OrdAt (wr.alloc (.cells #[.pointer (some ⟨G.nb p, 0, none⟩)] 47)).drew W G.nb b ns' bs' bm' O1 E1 from hVa.turn (TurnS.drew (fun _ => False) _ 1) fun _ _ h => h)
            have hBa : Hid (W ≤ (wr.alloc (.cells #[.pointer (some ⟨G.nb p, 0, none⟩)] 47)).heap.size) := Lib.hid (by
              have h1 : w.heap.size ≤ wr.heap.size := hVx.turn.size
              rw [size_alloc]
              show W ≤ wr.heap.size + 1
              omega)
            clear hVx hpx hok2 hsn hon hVa
            go_wp2_with fail
            go_region_law (refine step_append_ptr (by rfl) (.tmp 69) (.tmp 74) (by rfl) W G.nb (.slice an on capn) O1 (by simp [Act.eval, Act.put]) (by rw [← hsn'.out]; exact hVa'.out.sl) ⟨wr.heap.size, 0, none⟩ 1 p (by simp [Act.eval, Act.put]) (step_ptr _ _) (by rw [hon'.out]; omega) hBa.out ?_; intro ns2 w4 hs4 hg4 hat4; obtain ⟨a4, cap4, hsl4, _⟩ := hs4.out.slice; obtain ⟨n4, hn4⟩ : ∃ n4, (O1 ++ [p]).length = n4 := ⟨_, rfl⟩; rw [hn4] at hsl4; clear hn4; subst hsl4; have V4 := Lib.hid (hVa'.out.row.grown hg4.out (fun e => hVa'.out.ap1 (by rw [hsn'.out]; exact e.symm))); have k4 := V4.out.cell (k := 0) rfl; have f4 := V4.out.frozen 0)
            all_goals (
              have hend := Lib.hid ((hV2.out.drew 1).pop (w3 := (wr.alloc (.cells #[.pointer (some ⟨G.nb p, 0, none⟩)] 47)).drew) (c := #[.pointer (some ⟨G.nb p, 0, none⟩)]) (ty := 47) (by rw [hv'.out, hm2.out]) hW hG'.out rfl hs4.out (by rw [hsn'.out]; exact hg4.out) (by rw [hsn'.out]; exact hat4.out) hpop.out)
              rw [hm2.out] at hend
              go_wp2_with fail
              go_roundg g
              case measure => omega
              case rel => exact ⟨_, _, _, _, _, _, hend.out, by simp only [List.length_append, List.length_cons, List.length_nil]; omega⟩)
end Go.Proofs.Ytgkmmdkagiohgaa
end

section
set_option linter.unusedVariables false
set_option linter.unusedSimpArgs false
namespace Go.Proofs.Ytgkmmdkagiohgaa
open Go.ChangeShapes Go.WideShapes Go.ChangeAt Go.RowKit BigFrame

theorem Try.infoI : (Try.prog.info? 3).map (fun i => (i.zero, i.size, i.bytes)) = some (some (.int .i64 0), 1, 8) := by kernel_rfl

/-- block g holds these numbers at its first n places -/
def At (g n : Nat) (D : Nat → Int) (w : World) : Prop := ∀ p, p < n → w.cell? ⟨g, p, none⟩ = some (.int .i64 (D p)) ∧ w.frozen? ⟨g, p, none⟩ = false
theorem At.drewN {g n m : Nat} {D : Nat → Int} {w : World} (h : At g n D w) : At g n D (w.drewN m) := h
theorem At.drew {g n : Nat} {D : Nat → Int} {w : World} (h : At g n D w) : At g n D w.drew := h
theorem At.congr {g n : Nat} {D D' : Nat → Int} {w : World} (h : At g n D w) (he : ∀ p, p < n → D' p = D p) : At g n D' w := fun p hp => by rw [he p hp]; exact h p hp
/-- one place written -/
def upd (D : Nat → Int) (q : Nat) (v : Int) (p : Nat) : Int := if p = q then v else D p
theorem At.setCell {g n q : Nat} {D : Nat → Int} {w : World} (h : At g n D w) (hq : q < n) (v : Int) : At g n (upd D q v) (w.setCell ⟨g, q, none⟩ (.int .i64 v)) := by
  intro p hp
  unfold upd
  by_cases e : p = q
  · subst e
    rw [if_pos rfl]
    exact ⟨World.cell?_setCell_same _ _ _ (h p hp).1, by rw [World.frozen?_setCell]; exact (h p hp).2⟩
  · rw [if_neg e]
    exact ⟨by rw [World.cell?_setCell_other _ _ _ _ (by intro h; exact e (Addr.mk.inj h).2.1.symm)]; exact (h p hp).1, by rw [World.frozen?_setCell]; exact (h p hp).2⟩

/-- the integers that lie there, if any -/
def IntsAt (w : World) (a : Option Addr) (n : Nat) (R : Nat → Int) : Prop := n = 0 ∨ ∃ b off, a = some ⟨b, off, none⟩ ∧ ∀ k, k < n → w.cell? ⟨b, off + k, none⟩ = some (.int .i64 (R k))
theorem IntsAt.drew {w : World} {a : Option Addr} {n m : Nat} {R : Nat → Int} (h : IntsAt w a n R) : IntsAt (w.drewN m) a n R := h
theorem IntsAt.on {w w' : World} {a : Option Addr} {n B : Nat} {R : Nat → Int} (h : IntsAt w a n R) (hb : Below B w w') (hB : B = w.heap.size) : IntsAt w' a n R := by
  rcases h with h | ⟨b, off, rfl, hx⟩
  · exact .inl h
  · by_cases h0 : 0 < n
    · have hlt : b < w.heap.size := World.block_lt_of_cell? w _ (hx 0 h0)
      exact .inr ⟨b, off, rfl, fun k hk => by rw [hb.cell (p := ⟨b, off + k, none⟩) (by show b < B; omega)]; exact hx k hk⟩
    · exact .inl (by omega)
theorem At.ints {g n : Nat} {C : Nat → Int} {w : World} (h : At g n C w) : IntsAt w (some ⟨g, 0, none⟩) n C := .inr ⟨g, 0, rfl, fun k hk => by rw [Nat.zero_add]; exact (h k hk).1⟩

/-- the first c, as cells -/
def rl (R : Nat → Int) (c : Nat) : List Value := (List.range c).map fun p => .int .i64 (R p)
theorem rl_succ (R : Nat → Int) (c : Nat) : rl R (c + 1) = rl R c ++ [.int .i64 (R c)] := by simp [rl, List.range_succ]
theorem own_ints {w : World} {B n : Nat} {e : TypeId} {v : Value} {R : Nat → Int} (h : w.ownsRow B e 1 v n (rl R n)) : ∃ a cap, v = .slice a n cap ∧ IntsAt w a n R := by
  have h' := h
  rcases h.2 with ⟨rfl, h0⟩ | ⟨g, cap, cur, rfl, _⟩
  · exact ⟨none, 0, by rw [h0], .inl h0⟩
  · refine ⟨_, cap, rfl, .inr ⟨g, 0, rfl, fun k hk => ?_⟩⟩
    rw [Nat.zero_add, h'.cellAt k (by omega)]
    simp [rl, hk]
def OwnI (w : World) (base : Nat) (v : Value) (n : Nat) (D : Nat → Int) : Prop := w.ownsRow base 3 1 v n (rl D n)
def joinI (D : Nat → Int) (n : Nat) (E : Nat → Int) (p : Nat) : Int := if p < n then D p else E (p - n)
theorem rl_length (D : Nat → Int) (n : Nat) : (rl D n).length = n := by simp [rl]
theorem rl_get {D : Nat → Int} {n k : Nat} (h : k < n) : (rl D n)[k]? = some (.int .i64 (D k)) := by simp [rl, h]
theorem rl_at {D : Nat → Int} {n k : Nat} {v : Value} (h : (rl D n)[k]? = some v) : k < n ∧ v = .int .i64 (D k) := by
  have hk : k < n := by have := (List.getElem?_eq_some_iff.1 h).1; rwa [rl_length] at this
  rw [rl_get hk] at h
  exact ⟨hk, (Option.some.inj h).symm⟩
theorem rl_one (D : Nat → Int) (n : Nat) : ∀ v ∈ rl D n, v.oneCell' = true := by
  intro v hv
  obtain ⟨k, _, rfl⟩ := List.mem_map.1 hv
  rfl
theorem rl_join (D : Nat → Int) (n : Nat) (E : Nat → Int) (m : Nat) : rl (joinI D n E) (n + m) = rl D n ++ rl E m := by
  apply List.ext_getElem?
  intro k
  by_cases h1 : k < n
  · rw [List.getElem?_append_left (by rw [rl_length]; exact h1), rl_get h1, rl_get (by omega)]
    simp [joinI, h1]
  · rw [List.getElem?_append_right (by rw [rl_length]; omega), rl_length]
    by_cases h2 : k < n + m
    · rw [rl_get h2, rl_get (by omega)]
      simp [joinI, h1]
    · rw [List.getElem?_eq_none (by rw [rl_length]; omega), List.getElem?_eq_none (by rw [rl_length]; omega)]
theorem rl_congr {D E : Nat → Int} {n : Nat} (h : ∀ p, p < n → D p = E p) : rl D n = rl E n := by
  unfold rl
  apply List.map_congr_left
  intro p hp
  rw [h p (List.mem_range.1 hp)]
theorem OwnI.congr {w : World} {base n : Nat} {v : Value} {D E : Nat → Int} (h : OwnI w base v n D) (he : ∀ p, p < n → D p = E p) : OwnI w base v n E := by
  unfold OwnI; rw [← rl_congr he]; exact h
theorem OwnI.slice {w : World} {base n : Nat} {v : Value} {D : Nat → Int} (h : OwnI w base v n D) : ∃ a cap, v = .slice a n cap ∧ IntsAt w a n D ∧ (a = none → cap = 0) ∧ n ≤ cap ∧ cap ≤ maxLen ∧ ∀ ad, a = some ad → ∃ b, ad = ⟨b, 0, none⟩ := by
  have h' := h
  rcases h.2 with ⟨rfl, h0⟩ | ⟨g, cap, cur, rfl, _, _, hn, hm, _⟩
  · exact ⟨none, 0, by rw [h0], .inl h0, fun _ => rfl, by omega, by unfold maxLen; omega, fun ad h => by cases h⟩
  · refine ⟨_, cap, rfl, .inr ⟨g, 0, rfl, fun k hk => ?_⟩, (fun h => by cases h), hn, hm, fun ad h => by cases h; exact ⟨g, rfl⟩⟩
    rw [Nat.zero_add, World.ownsRow.cellAt h' k (by omega)]
    simp [rl, hk]
theorem OwnI.nil (w : World) (base : Nat) (D : Nat → Int) : OwnI w base (.slice none 0 0) 0 D := World.ownsRow_nil _ _ _ _

theorem run_append_ints {w : World} (base n : Nat) (v : Value) (D : Nat → Int) (ty : TypeId) (hown : OwnI w base v n D) (sp : Option Addr) (m sCap : Nat) (E : Nat → Int) (hsrc : IntsAt w sp m E) (hnil : sp = none → sCap = 0)
    (hlen : n + m ≤ 1000000) (hbase : base ≤ w.heap.size) :
    ∃ v' w', (Builtin.append_ #[22, 22] ty #[v, .slice sp m sCap]).run Try.prog w = .ok v' w' ∧ OwnI w' base v' (n + m) (joinI D n E) ∧ w.grownBy w' v.ownBlock := by
  obtain ⟨i, hi, hz0, hz1, hz2⟩ := info_parts Try.infoI
  cases sp with
  | none =>
    obtain rfl := hnil rfl
    have hm : m = 0 := by
      rcases hsrc with h | ⟨_, _, e, _⟩
      · exact h
      · cases e
    subst hm
    have hr := run_append_owned_none (P := Try.prog) (w := w) base 22 ty 3 i 1 Try.underlying22 hi v n (rl D n) hown
    refine ⟨v, w, hr, ?_, World.grownBy.refl _ _⟩
    exact OwnI.congr (E := joinI D n E) hown (fun p hp => by unfold joinI; rw [if_pos (by omega)])
  | some ad =>
    obtain ⟨v', w', hr, h1, h2, _⟩ := run_append_own (P := Try.prog) w base 22 ty 3 i (.int .i64 0) 1 8 Try.underlying22 hi hz0 hz1 hz2 rfl (by decide) v n (rl D n) hown ad m sCap (rl E m) (by rw [rl_length, Nat.mul_one]) (by
      intro j u hu
      obtain ⟨hj, rfl⟩ := rl_at hu
      rcases hsrc with h | ⟨b, off, e, h⟩
      · omega
      · obtain rfl := Option.some.inj e
        have hadd : (⟨b, off, none⟩ : Addr).add j = ⟨b, off + j, none⟩ := by unfold Addr.add; split <;> simp_all
        rw [hadd]; exact h j hj) (rl_one E m) (by unfold maxLen; omega) (by omega) hbase
    refine ⟨v', w', hr, ?_, h2⟩
    unfold OwnI
    rw [rl_join]; exact h1

theorem step_append_ints {w : World} {ops : Array Oper} {o : Oper} {a : Act} {K : Act → World → Prop} {Q : Exit → Act → World → Prop} {F : Prop} (hgd : o.guard = none) (s x : Operand)
    (ho : o.op = .call { callee := .builtin .append, args := #[s, x], argTypes := #[22, 22] })
    (base n : Nat) (v : Value) (D : Nat → Int) (hs : a.eval s = v) (hown : OwnI w base v n D) (sp : Option Addr) (m sCap : Nat) (E : Nat → Int) (hx : a.eval x = .slice sp m sCap) (hsrc : IntsAt w sp m E) (hnil : sp = none → sCap = 0)
    (hlen : n + m ≤ 1000000) (hbase : base ≤ w.heap.size)
    (h : ∀ v' w', OwnI w' base v' (n + m) (joinI D n E) → w.grownBy w' v.ownBlock → K (a.put o.dst v') w') :
    if Region.wanted o (yielded ops a.tmps) = true then Oper.wp Try.prog o a w K Q else F := by
  have hw : Region.wanted o (yielded ops a.tmps) = true := by simp [Region.wanted, hgd]
  rw [if_pos hw]
  obtain ⟨v', w', hr, h1, h2⟩ := run_append_ints base n v D o.type hown sp m sCap E hsrc hnil hlen hbase
  unfold Oper.wp
  simp [execOp, ho, resolve, invoke, builtin, hs, hx, hr, Result.andThen]
  exact h v' w' h1 h2
theorem IntsAt.less {w : World} {a : Option Addr} {n m : Nat} {R : Nat → Int} (h : IntsAt w a n R) (hm : m ≤ n) : IntsAt w a m R := by
  rcases h with h | ⟨b, off, rfl, hx⟩
  · exact .inl (by omega)
  · exact .inr ⟨b, off, rfl, fun k hk => hx k (by omega)⟩
theorem IntsAt.from {w : World} {b off n q : Nat} {R : Nat → Int} (h : IntsAt w (some ⟨b, off, none⟩) n R) (hq : q ≤ n) : IntsAt w (some ⟨b, off + q, none⟩) (n - q) (fun p => R (q + p)) := by
  rcases h with h | ⟨b', o', e, hx⟩
  · exact .inl (by omega)
  · simp only [Option.some.injEq, Addr.mk.injEq, and_true] at e
    obtain ⟨rfl, rfl⟩ := e
    exact .inr ⟨b, off + q, rfl, fun k hk => by rw [Nat.add_assoc]; exact hx (q + k) (by omega)⟩
theorem int_new (w : World) (x : Int) (t : TypeId) : IntsAt (w.alloc (.cells #[.int .i64 x] t)) (some ⟨w.heap.size, 0, none⟩) 1 (fun _ => x) :=
  .inr ⟨w.heap.size, 0, rfl, fun k hk => by
    obtain rfl : k = 0 := by omega
    rw [cell_of_row _ w.heap.size _ _ _ _ (heap_alloc_new w _)]
    rfl⟩
theorem IntsAt.on' {w w' : World} {a : Option Addr} {n B : Nat} {R : Nat → Int} (h : IntsAt w a n R) (hb : Below B w w') (hB : w.heap.size ≤ B) : IntsAt w' a n R := h.on (hb.mono hB) rfl
theorem below_own {w w' : World} {base n : Nat} {v : Value} {D : Nat → Int} (h : OwnI w base v n D) (hg : w.grownBy w' v.ownBlock) (hb : base ≤ w.heap.size) : Below base w w' :=
  (Below.refl _ _).grown hg hb (fun k hk => (World.ownsRow.lt h k hk).1)

theorem IntsAt.drew1 {w : World} {a : Option Addr} {n : Nat} {R : Nat → Int} (h : IntsAt w a n R) : IntsAt w.drew a n R := h
theorem IntsAt.alloc {w : World} {a : Option Addr} {n : Nat} {R : Nat → Int} (h : IntsAt w a n R) (o : Obj) : IntsAt (w.alloc o) a n R := h.on ((Below.refl _ _).alloc (Nat.le_refl _) _) rfl
theorem OwnI.alloc {w : World} {base n : Nat} {v : Value} {D : Nat → Int} (h : OwnI w base v n D) (o : Obj) : OwnI (w.alloc o) base v n D := World.ownsRow.alloc h o
theorem OwnI.lower {w : World} {base base' n : Nat} {v : Value} {D : Nat → Int} (h : OwnI w base v n D) (hb : base' ≤ base) : OwnI w base' v n D := by
  obtain ⟨h1, h2⟩ := h
  refine ⟨h1, ?_⟩
  rcases h2 with h2 | ⟨g, cap, cur, e, hg, rest⟩
  · exact .inl h2
  · exact .inr ⟨g, cap, cur, e, Nat.le_trans hb hg, rest⟩
theorem below_none {w w' : World} (h : w.grownBy w' none) : Below w.heap.size w w' := (Below.refl _ _).grown h (Nat.le_refl _) (fun k hk => by cases hk)

theorem At.on {g n : Nat} {D : Nat → Int} {w w' : World} {B : Nat} (h : At g n D w) (hb : Below B w w') (hg : g < B) : At g n D w' := fun p hp => by
  rw [hb.cell (p := ⟨g, p, none⟩) hg, hb.frozen (p := ⟨g, p, none⟩) hg]; exact h p hp
theorem wpList_append_ints {w : World} {ops : Array Oper} {rest : List Oper} {o : Oper} {a : Act} {Q : Exit → Act → World → Prop} (hgd : o.guard = none) (s x : Operand)
    (ho : o.op = .call { callee := .builtin .append, args := #[s, x], argTypes := #[22, 22] })
    (base n : Nat) (v : Value) (D : Nat → Int) (hs : a.eval s = v) (hown : OwnI w base v n D) (sp : Option Addr) (m sCap : Nat) (E : Nat → Int) (hx : a.eval x = .slice sp m sCap) (hsrc : IntsAt w sp m E) (hnil : sp = none → sCap = 0)
    (hlen : n + m ≤ 1000000) (hbase : base ≤ w.heap.size)
    (h : ∀ v' w', Hid (OwnI w' base v' (n + m) (joinI D n E)) → w.grownBy w' v.ownBlock → Below base w w' → wpList Try.prog ops Q rest (a.put o.dst v') w') : wpList Try.prog ops Q (o :: rest) a w := by
  refine wpList_plain hgd fun K hK => ?_
  obtain ⟨v', w', hr, h1, h2⟩ := run_append_ints base n v D o.type hown sp m sCap E hsrc hnil hlen hbase
  unfold Oper.wp
  simp [execOp, ho, resolve, invoke, builtin, hs, hx, hr, Result.andThen]
  exact hK _ _ (h v' w' h1 h2 (below_own hown h2 hbase))

/-- a slice of integers that came in -/
def ZSlice (w : World) (v : Value) (n : Nat) (R : Nat → Int) : Prop :=
  ∃ a cap, v = .slice a n cap ∧ n ≤ cap ∧ IntsAt w a n R ∧ (a = none → cap = 0) ∧ ∀ k, k < n → -9223372036854775808 ≤ R k ∧ R k ≤ 9223372036854775807
theorem open_zs {H : Type} {enc : TypeId × Value → H} {P : Program} {W : World} {t e : TypeId} {base : Nat} {v : Value} {d : DataW H} {ps : List MemPlace} (ht : P.underlying t = some (.slice e)) (he : P.underlying e = some (.int .i64)) (hc : P.cellsOf e = 1)
    (hval : Value.okWide P W .any base t v) (h : DataW.Trod enc P W 0 (fun _ => true) true t v d ps) : ∃ n R, ZSlice W v n R := by
  obtain ⟨a0, len, cap, rfl⟩ := okWide_slice ht hval
  obtain ⟨fuel, hf⟩ := h
  rcases open_ints ht he hc hf with ⟨hcs, _⟩ | ⟨a, len', cap', zs, hcs, _, hl, hm, hz, hx, hcell, hwz⟩
  · simp [Value.cells] at hcs
    obtain ⟨rfl, rfl, rfl⟩ := hcs
    exact ⟨0, fun _ => 0, none, 0, rfl, by omega, .inl rfl, fun _ => rfl, fun k hk => absurd hk (by omega)⟩
  · simp [Value.cells] at hcs
    obtain ⟨rfl, rfl, rfl⟩ := hcs
    simp only [if_true] at hz
    refine ⟨len, fun k => zs.getD k 0, some a, cap, rfl, by omega, ?_, (fun h => by cases h), fun k hk => ?_⟩
    · by_cases h0 : len = 0
      · exact .inl h0
      · obtain ⟨b, off, rfl, hat⟩ := ints_at hcell (by omega)
        exact .inr ⟨b, off, rfl, fun k hk => hat k (by omega)⟩
    · have hk2 : k < zs.length := by omega
      have e2 : zs.getD k 0 = zs[k] := by simp [List.getD, List.getElem?_eq_getElem hk2]
      have h1 := hwz _ (List.getElem_mem hk2)
      simp only [Lit.wf, Bool.and_eq_true, decide_eq_true_eq] at h1
      have h2 : (-9223372036854775808 : Int) ≤ zs[k] := h1.1
      have h3 : zs[k] ≤ 9223372036854775807 := h1.2
      show _ ≤ zs.getD k 0 ∧ zs.getD k 0 ≤ _
      rw [e2]; exact ⟨h2, h3⟩
theorem OwnI.on {w w' : World} {base n : Nat} {v : Value} {D : Nat → Int} (h : OwnI w base v n D) (hb : Below w.heap.size w w') : OwnI w' base v n D :=
  World.ownsRow.kept h (row := none) ⟨hb.os, hb.tape, hb.output, hb.size, fun k hk _ => hb.block k hk⟩ (by cases v.ownBlock with
    | none => exact .inl rfl
    | some k => exact .inr (fun h => by cases h))
theorem OwnI.ints {w : World} {base n cap : Nat} {a : Option Addr} {D : Nat → Int} (h : OwnI w base (.slice a n cap) n D) : IntsAt w a n D := by
  obtain ⟨a', c', e, hx, _⟩ := h.slice
  simp only [Value.slice.injEq, true_and] at e
  rw [e.1]; exact hx
end Go.Proofs.Ytgkmmdkagiohgaa
end
