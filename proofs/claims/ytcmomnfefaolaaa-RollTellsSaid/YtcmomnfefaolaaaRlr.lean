/-
  Split.
-/
import Derived.Test.YtcmomnfefaolaaaRlq
import Derived.Test.YtcmomnfefaolaaaIt
import Derived.Deep.DeepCutAuto
namespace Go.Proofs.Ytcmomnfefaolaaa
open Go.RowKit BigFrame
set_option maxRecDepth 100000
attribute [local go_sem ↓] ldO_of stO_of
theorem RowO.notV {w : World} {base g : Nat} {v : Value} {L : List Op2} {l : List Value} {t : TypeId} (ht : ¬ 37 = t) (h : RowO w base v L) (k : Vw w t g l) : v.ownBlock ≠ some g := by
  intro hv
  rcases h.2 with ⟨rfl, _⟩ | ⟨g1, cap1, cur1, rfl, _, hh, _⟩
  · cases hv
  have e1 : g1 = g := Option.some.inj hv
  subst e1
  unfold Vw at k
  rw [hh] at k
  simp only [Option.some.injEq, Obj.cells.injEq] at k
  exact ht k.2.1
/-- two lists of one's own -/
def GivesS (X Y : List Ob) (w : World) (e : Ending) (w' : World) : Prop :=
  ∃ v1 v2 L1 L2, e = .returned (.tuple #[v1, v2]) ∧ SpAt w v1 v2 L1 L2 w' ∧ L1.map (·.1) = X ∧ L2.map (·.1) = Y
set_option maxHeartbeats 4000000 in
theorem split_c (os : Value) (xs : List Ob) (a2 : Option Addr) (m cap2 : Nat) (R : Nat → Int) (w : World) (ho : SlO w os xs) (hn : xs.length ≤ 100000) (hb : ∀ x ∈ xs, x.b.length ≤ 100000) (hm : m ≤ 100000) (hR : IntsAt w a2 m R) :
    Calls Try.prog 22 #[os, .slice a2 m cap2] w (GivesS (pickN (askd R m) xs xs.length) (pickN (fun j => !askd R m j) xs xs.length) w) := by
  obtain ⟨a, cap, rfl, hc, hX, hnil⟩ := ho
  obtain ⟨n, hl⟩ : ∃ n, xs.length = n := ⟨_, rfl⟩
  rw [hl] at hc hn ⊢
  have hX' := Lib.hid hX
  have hl' := Lib.hid hl
  have hb' := Lib.hid hb
  have hR' := Lib.hid hR
  clear hl hX hb hnil hc hR
  go_enter Try.func22, Try.ntmps22
  go_wp2_with (refine wpList_make_bools rfl _ _ rfl n rfl rfl (by omega) ?_; intro g1 w1 hv1 hg1 hb1; have V1 := hv1; have G1 := Lib.hid hg1; have B1 := Lib.hid hb1; clear hg1 hb1 hv1)
  go_loopg [8, 18] m (fun q v8 v18 wr => ∃ k : Nat, k + q = m ∧ v18 = .int .i64 (k : Int) ∧ Vw wr 4 g1 (bools n (askd R k)) ∧ Below w.heap.size w wr)
  case atStart => exact ⟨0, by omega, rfl, V1.out, B1.out⟩
  case round =>
    obtain ⟨k, hkq, rfl, hV, hB⟩ := hrel
    have hV' := Lib.hid hV
    have hB' := Lib.hid hB
    clear hV hB
    by_cases hlt : k < m
    · obtain ⟨q, rfl⟩ : ∃ q, gk = q + 1 := ⟨gk - 1, by omega⟩
      have hI := hR'.out.on' hB'.out (Nat.le_refl _)
      rcases hI with h0 | ⟨b, off, rfl, hcell⟩
      · omega
      have ck := hcell k hlt
      obtain ⟨z, hz⟩ : ∃ z, R k = z := ⟨_, rfl⟩
      rw [hz] at ck
      have hz' := Lib.hid hz
      clear hcell hz
      have nxt : Hid (∀ f, (∀ j, j < n → f j = (askd R k j || decide (z = (j : Int)))) → bools n (askd R (k + 1)) = bools n f) := Lib.hid (fun f hf => List.map_congr_left fun j hj => by rw [askd_succ, hz'.out, hf j (List.mem_range.1 hj)])
      by_cases h1 : 0 ≤ z
      · obtain ⟨zn, rfl⟩ := Int.eq_ofNat_of_zero_le h1
        by_cases h2 : zn < n
        · have fz := hV'.out.frozen zn
          have cz := hV'.out.cell (bools_get h2)
          go_wp2_with fail
          go_roundg q
          case measure => omega
          case rel => exact ⟨k + 1, by omega, by go_num, by
            rw [nxt.out (fun j => if j = zn then true else askd R k j) (fun j hj => by
              by_cases e : j = zn
              · subst e; simp
              · rw [if_neg e, decide_eq_false (by omega), Bool.or_false]), ← bools_set true h2]
            exact hV'.out.set zn (.bool true), hB'.out.trans (below_set (G1.out))⟩
        · go_wp2_with fail
          go_roundg q
          case measure => omega
          case rel => exact ⟨k + 1, by omega, by go_num, by
            rw [nxt.out (askd R k) (fun j hj => by rw [decide_eq_false (by omega), Bool.or_false])]
            exact hV'.out, hB'.out⟩
      · go_wp2_with fail
        go_roundg q
        case measure => omega
        case rel => exact ⟨k + 1, by omega, by go_num, by
            rw [nxt.out (askd R k) (fun j hj => by rw [decide_eq_false (by omega), Bool.or_false])]
            exact hV'.out, hB'.out⟩
    · obtain rfl : k = m := by omega
      obtain ⟨wo, hwo⟩ : ∃ wo, wo = wr := ⟨_, rfl⟩
      subst hwo
      have S0 := Lib.hid (SpAt.start w hB'.out)
      go_wp2_with fail
      go_loopg [9, 10, 11, 12, 36] n (fun q v9 v10 v11 v12 v36 wr => ∃ (j : Nat) (L1 L2 : List Op2), j + q = n ∧ v36 = .int .i64 (j : Int) ∧ Vw wr 4 g1 (bools n (askd R k)) ∧ SpAt w v9 v10 L1 L2 wr ∧ L1.map (·.1) = pickN (askd R k) xs j ∧ L2.map (·.1) = pickN (fun j => !askd R k j) xs j)
      case atStart => exact ⟨0, [], [], by omega, rfl, hV'.out, S0.out, rfl, rfl⟩
      case round =>
        obtain ⟨j, L1, L2, hjq, rfl, hV1, hS1, he1, he2⟩ := hrel
        have V1 := Lib.hid hV1
        have S1 := Lib.hid hS1
        have E1 := Lib.hid he1
        have E2 := Lib.hid he2
        clear hV1 hS1 he1 he2
        by_cases hlt : j < n
        · obtain ⟨q, rfl⟩ : ∃ q, gk = q + 1 := ⟨gk - 1, by omega⟩
          obtain ⟨b, off, u, had, hobj⟩ := (hX'.out.on S1.out.bel).at (k := j) (by rw [hl'.out]; exact hlt)
          subst had
          have hlen := hb'.out _ (ob_mem (L := xs) (k := j) (by rw [hl'.out]; exact hlt))
          obtain ⟨⟨xs0, xp, xb⟩, hx⟩ : ∃ x, ob xs j = x := ⟨_, rfl⟩
          rw [hx] at hobj hlen
          have hx' := Lib.hid hx
          obtain ⟨nb, hnb⟩ : ∃ nb, xb.length = nb := ⟨_, rfl⟩
          obtain ⟨ua, ucap, hu, -⟩ := hobj.2
          simp only at hu
          rw [hnb] at hu
          subst hu
          have hnb := Lib.hid hnb
          have hO := Lib.hid hobj
          have hld := run_ldO hobj.1
          have hu1 := hobj.2.one
          unfold ov oc at hld
          simp only at hld hlen
          have n1 := Lib.hid (Nat.le_trans (Nat.le_of_eq (by rw [← List.length_map (f := fun p : Op2 => p.1), E1.out] : L1.length = (pickN (askd R k) xs j).length)) (pickN_len _ _ _))
          have n2 := Lib.hid (Nat.le_trans (Nat.le_of_eq (by rw [← List.length_map (f := fun p : Op2 => p.1), E2.out] : L2.length = (pickN (fun j => !askd R k j) xs j).length)) (pickN_len _ _ _))
          have A4 : Hid (∀ g3 w3, Vw w3 37 g3 (oc o0 (.slice none 0 0)) → wr.heap.size ≤ g3 → Below wr.heap.size wr w3 → (stA 37 (.pointer (some ⟨g3, 0, none⟩)) (.agg #[.int .i64 xs0, .int .i64 xp, .slice ua nb ucap])).run Try.prog w3 = .ok () (w3.setCells g3 0 [.int .i64 xs0, .int .i64 xp, .slice ua nb ucap]) ∧ Vw (w3.setCells g3 0 [.int .i64 xs0, .int .i64 xp, .slice ua nb ucap]) 37 g3 [.int .i64 xs0, .int .i64 xp, .slice ua nb ucap] ∧ Below wr.heap.size wr (w3.setCells g3 0 [.int .i64 xs0, .int .i64 xp, .slice ua nb ucap])) :=
            Lib.hid (fun g3 w3 hv hg hb => ⟨run_stO (x := ⟨xs0, xp, xb⟩) (v := .slice ua nb ucap) hu1 (hv.there (o := 0) (n := 3) (by rw [oc_length]; omega)), hv.over (m := oc ⟨xs0, xp, xb⟩ (.slice ua nb ucap)) rfl, below_setCells hb hg 0 _⟩)
          clear hx hobj
          go_upto_region 13 with (first
            | (refine wpList_alloc_ob rfl rfl ?_; intro g3 w3 hv3 hg3 hb3; obtain ⟨hst, hV, hb4⟩ := A4.out g3 w3 hv3.out hg3 hb3; have V4 := Lib.hid hV; have c2 := hV.cell (k := 2) rfl; have B4 := Lib.hid hb4; have G3 := Lib.hid hg3; clear hv3 hg3 hb3 hV hb4)
            | (go_at_call 31; refine (clone_c (.slice ua nb ucap) xb _ (hO.out.2.on B4.out) hlen).mono ?_; rintro e w5 ⟨v5, rfl, ho5, hb5⟩; obtain ⟨a5, cap5, hv5, -⟩ := ho5.slice; rw [hnb.out] at hv5; subst hv5; have O5 := Lib.hid ((ho5.kept (grownBy_setCell w5 g3 2 (.slice a5 nb cap5)) (fun k hk e => by have := (ho5.blk k hk).1; have := V4.out.lt; have := Option.some.inj e; omega)).lower B4.out.size); have V5 := Lib.hid (V4.out.on' hb5); have f2 := V5.out.frozen 2; have c5 := V5.out.cell (k := 2) rfl; have B5 := Lib.hid (below_two B4.out hb5); clear hb5 ho5))
          have S6 := Lib.hid (S1.out.on (B5.out.trans (below_set (v := .slice a5 nb cap5) (k := 2) G3.out)))
          obtain ⟨w6, hw6⟩ : ∃ w6, w5.setCell ⟨g3, 2, none⟩ (.slice a5 nb cap5) = w6 := ⟨_, rfl⟩
          have V6 := Lib.hid (V5.out.set 2 (.slice a5 nb cap5))
          have K6 := Lib.hid (show Vw (w5.setCell ⟨g3, 2, none⟩ (.slice a5 nb cap5)) 4 g1 (bools n (askd R k)) from (V1.out.on' B5.out).grown (grownBy_setCell w5 g3 2 (.slice a5 nb cap5)) (by intro e; have := Option.some.inj e; have := V1.out.lt; have := G3.out; omega))
          rw [hw6] at S6 V6 K6
          have O6 : OwnB w6 wr.heap.size (.slice a5 nb cap5) xb := by rw [← hw6]; exact O5.out
          have O6 := Lib.hid O6
          rw [hw6]
          clear hw6
          have ck := K6.out.cell (bools_get hlt)
          have hld6 := run_ldW 3 _ V6.out.whole rfl Try.underlying37 rfl Try.sizeOb
          simp only [List.set_cons_succ, List.set_cons_zero] at hld6
          have fr := Lib.hid (S1.out.fresh (x := ⟨xs0, xp, xb⟩) O6.out)
          have O6b := Lib.hid (O6.out.lower S1.out.bel.size)
          have hba := Lib.hid ((Below.refl w6.heap.size w6).alloc (Nat.le_refl _) (.cells (oc ⟨xs0, xp, xb⟩ (.slice a5 nb cap5)).toArray 37))
          have S7 := Lib.hid (S6.out.on hba.out)
          have O7 := Lib.hid (O6b.out.on hba.out (Nat.le_refl _))
          have K7 := Lib.hid (K6.out.on' hba.out)
          obtain ⟨bq, hq⟩ : ∃ bq, askd R k j = bq := ⟨_, rfl⟩
          rw [hq] at ck
          have hq := Lib.hid hq
          cases bq
          · go_wp2_with (at_builtin; refine wpList_append_ob_at rfl (.tmp 53) (.tmp 55) rfl w.heap.size u10 L2 rfl S7.out.r2 ⟨w6.heap.size, 0, none⟩ 1 (⟨xs0, xp, xb⟩, .slice a5 nb cap5) rfl (ob_news w6 _ _) rfl (by have := n2.out; omega) (by have := S7.out.bel.size; simp at this ⊢; omega) ?_; intro v10 w10 hr10 hg10 hn10)
            go_roundg q
            case measure => omega
            case rel => exact ⟨j + 1, L1, L2 ++ [(⟨xs0, xp, xb⟩, .slice a5 nb cap5)], by omega, by go_num, K7.out.grown hg10.out (fun e => S7.out.r2.notV (by decide) K7.out e.symm), S7.out.more2 O7.out fr.out hr10.out hg10.out hn10.out, by rw [pickN_no hq.out]; exact E1.out, by rw [pickN_yes (by rw [hq.out]; rfl), List.map_append, E2.out, hx'.out]; rfl⟩
          · go_wp2_with (at_builtin; refine wpList_append_ob_at rfl (.tmp 49) (.tmp 51) rfl w.heap.size u9 L1 rfl S7.out.r1 ⟨w6.heap.size, 0, none⟩ 1 (⟨xs0, xp, xb⟩, .slice a5 nb cap5) rfl (ob_news w6 _ _) rfl (by have := n1.out; omega) (by have := S7.out.bel.size; simp at this ⊢; omega) ?_; intro v10 w10 hr10 hg10 hn10)
            go_roundg q
            case measure => omega
            case rel => exact ⟨j + 1, L1 ++ [(⟨xs0, xp, xb⟩, .slice a5 nb cap5)], L2, by omega, by go_num, K7.out.grown hg10.out (fun e => S7.out.r1.notV (by decide) K7.out e.symm), S7.out.more1 O7.out fr.out hr10.out hg10.out hn10.out, by rw [pickN_yes hq.out, List.map_append, E1.out, hx'.out]; rfl, by rw [pickN_no (by rw [hq.out]; rfl)]; exact E2.out⟩
        · obtain rfl : j = n := by omega
          go_wp2_with fail
          go_ret2
          exact ⟨_, _, L1, L2, rfl, S1.out, E1.out, E2.out⟩
end Go.Proofs.Ytcmomnfefaolaaa
