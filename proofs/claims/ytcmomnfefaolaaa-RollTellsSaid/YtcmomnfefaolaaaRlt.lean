/-
  Sectors: the document's own.
-/
import Derived.Test.YtcmomnfefaolaaaRls
import Derived.BigQuiet
import Derived.Deep.RegionLaw
import Derived.Deep.DeepCutAuto
namespace Go.Proofs.Ytcmomnfefaolaaa
open Go.RowKit BigFrame
set_option maxRecDepth 100000
attribute [local go_sem ↓] ldO_of
/-- the k-th -/
def nz (Z : List Nat) (k : Nat) : Nat := Z.getD k 0
theorem nz_get {Z : List Nat} {k : Nat} (h : k < Z.length) : nz Z k = Z[k] := by simp [nz, List.getD, List.getElem?_eq_getElem h]
theorem uniq_in {l Z : List Nat} {s p : Nat} (h : Uniq l Z) (hp : p < Z.length) (e : nz Z p = s) : Uniq (l ++ [s]) Z := by
  refine ⟨h.lt, fun z => (h.mem z).trans ⟨fun hz => List.mem_append.2 (.inl hz), fun hz => ?_⟩⟩
  rcases List.mem_append.1 hz with hz | hz
  · exact hz
  · obtain rfl := List.mem_singleton.1 hz
    rw [← e, nz_get hp]
    exact (h.mem _).1 (List.getElem_mem hp)
theorem uniq_ins {l Z : List Nat} {s p : Nat} (h : Uniq l Z) (hp : p ≤ Z.length) (h1 : ∀ j, j < p → nz Z j < s) (h2 : p < Z.length → s < nz Z p) : Uniq (l ++ [s]) (Z.take p ++ (s :: Z.drop p)) := by
  have hd : ∀ y ∈ Z.drop p, s < y := fun y hy => by
    obtain ⟨k, hk, rfl⟩ := List.mem_iff_getElem.1 hy
    rw [List.length_drop] at hk
    have h3 := h2 (by omega)
    rw [nz_get (by omega)] at h3
    rw [List.getElem_drop]
    by_cases e : k = 0
    · subst e; simpa using h3
    · have := List.pairwise_iff_getElem.1 h.lt p (p + k) (by omega) (by omega) (by omega)
      omega
  have ht : ∀ x ∈ Z.take p, x < s := fun x hx => by
    obtain ⟨k, hk, rfl⟩ := List.mem_iff_getElem.1 hx
    rw [List.length_take] at hk
    have := h1 k (by omega)
    rw [nz_get (by omega)] at this
    simpa using this
  refine ⟨?_, fun z => ?_⟩
  · rw [List.pairwise_append]
    refine ⟨h.lt.take, List.pairwise_cons.2 ⟨hd, h.lt.drop⟩, fun x hx y hy => ?_⟩
    rcases List.mem_cons.1 hy with rfl | hy
    · exact ht x hx
    · have := ht x hx; have := hd y hy; omega
  · rw [List.mem_append, List.mem_cons, List.mem_append, List.mem_singleton, ← h.mem z]
    constructor
    · rintro (hz | rfl | hz)
      · exact .inl (List.mem_of_mem_take hz)
      · exact .inr rfl
      · exact .inl (List.mem_of_mem_drop hz)
    · rintro (hz | rfl)
      · rw [← List.take_append_drop p Z] at hz
        rcases List.mem_append.1 hz with hz | hz
        · exact .inl hz
        · exact .inr (.inr hz)
      · exact .inr (.inl rfl)
theorem own_blk {w : World} {B n : Nat} {v : Value} {D : Nat → Int} (h : OwnI w B v n D) : ∀ k, v.ownBlock = some k → B ≤ k := fun k e => (World.ownsRow.lt h k e).1
theorem ins_own {w : World} {B nzl p m s : Nat} {v : Value} {Z : List Nat} (hz : Z.length = nzl) (h : OwnI w B v (0 + p + 1 + m) (joinI (joinI (joinI (fun _ => 0) 0 (fun k => ((Z.getD k 0 : Nat) : Int))) (0 + p) (fun _ => (s : Int))) (0 + p + 1) (fun j => ((Z.getD (p + j) 0 : Nat) : Int)))) (hm : p + m = nzl) : OwnZ w B v (Z.take p ++ (s :: Z.drop p)) := by
  have hl : (Z.take p ++ (s :: Z.drop p)).length = 0 + p + 1 + m := by simp only [List.length_append, List.length_take, List.length_cons, List.length_drop]; omega
  unfold OwnZ
  unfold OwnI at h
  rw [hl]
  have e : rl (joinI (joinI (joinI (fun _ => 0) 0 (fun k => ((Z.getD k 0 : Nat) : Int))) (0 + p) (fun _ => (s : Int))) (0 + p + 1) (fun j => ((Z.getD (p + j) 0 : Nat) : Int))) (0 + p + 1 + m) = nv (Z.take p ++ (s :: Z.drop p)) := by
    apply List.ext_getElem?
    intro k
    by_cases hk : k < 0 + p + 1 + m
    · rw [rl_get hk]
      unfold nv
      rw [List.getElem?_map]
      have hg : (Z.take p ++ (s :: Z.drop p))[k]? = some (if k < p then Z.getD k 0 else if k = p then s else Z.getD (k - 1) 0) := by
        by_cases h1 : k < p
        · rw [if_pos h1, List.getElem?_append_left (by rw [List.length_take]; omega), List.getElem?_take_of_lt h1]
          simp [List.getD, List.getElem?_eq_getElem (show k < Z.length by omega)]
        · rw [if_neg h1, List.getElem?_append_right (by rw [List.length_take]; omega), List.length_take, show min p Z.length = p by omega]
          by_cases h2 : k = p
          · subst h2; simp
          · rw [if_neg h2, show k - p = (k - p - 1) + 1 by omega, List.getElem?_cons_succ, List.getElem?_drop, show p + (k - p - 1) = k - 1 by omega]
            simp [List.getD, List.getElem?_eq_getElem (show k - 1 < Z.length by omega)]
      rw [hg]
      simp only [Option.map_some, joinI]
      congr 2
      by_cases h1 : k < p
      · rw [if_pos (by omega), if_pos (by omega), if_neg (by omega), if_pos h1, Nat.sub_zero]
      · rw [if_neg h1]
        by_cases h2 : k = p
        · rw [if_pos (by omega), if_neg (by omega), if_pos h2]
        · rw [if_neg (by omega), if_neg h2]
          congr 2
          omega
    · rw [List.getElem?_eq_none (by rw [rl_length]; omega), List.getElem?_eq_none (by rw [nv_len, hl]; omega)]
  rw [e] at h
  exact h
set_option maxHeartbeats 4000000 in
theorem refSectors_c (os : Value) (xs : List Ob) (w : World) (ho : SlO w os xs) (hn : xs.length ≤ 100000) (hb : ∀ x ∈ xs, x.b.length ≤ 100000) :
    Calls Try.prog 15 #[os] w (GivesZ (msec xs) w) := by
  obtain ⟨a, cap, rfl, hc, hX, hnil⟩ := ho
  obtain ⟨n, hl⟩ : ∃ n, xs.length = n := ⟨_, rfl⟩
  rw [hl] at hc hn ⊢
  have hX' := Lib.hid hX
  have hl' := Lib.hid hl
  have hb' := Lib.hid hb
  clear hl hX hb hnil
  go_enter Try.func15, Try.ntmps15
  go_wp2_with fail
  go_loopg [3, 4, 5] n (fun q v3 v4 v5 wr => ∃ (k : Nat) (Z : List Nat), k + q = n ∧ v4 = .int .i64 (k : Int) ∧ OwnZ wr w.heap.size v3 Z ∧ Uniq (msec (xs.take k)) Z ∧ Z.length ≤ k ∧ Below w.heap.size w wr)
  case atStart => exact ⟨0, [], by omega, rfl, OwnZ.nil _ _, ⟨List.Pairwise.nil, fun z => Iff.rfl⟩, Nat.le_refl _, Below.refl _ _⟩
  case round =>
    obtain ⟨k, Z, hkg, rfl, hrow, huq, hzk, hbel⟩ := hrel
    have hR := Lib.hid hrow
    have hU := Lib.hid huq
    have hB := Lib.hid hbel
    clear hrow hbel huq
    obtain ⟨wo, hwo⟩ : ∃ wo, wo = wr := ⟨_, rfl⟩
    subst hwo
    by_cases hlt : k < n
    · obtain ⟨q, rfl⟩ : ∃ q, gk = q + 1 := ⟨gk - 1, by omega⟩
      obtain ⟨b, off, u, had, hobj⟩ := (hX'.out.on hB.out).at (k := k) (by rw [hl'.out]; exact hlt)
      subst had
      have hlen := hb'.out _ (ob_mem (L := xs) (k := k) (by rw [hl'.out]; exact hlt))
      have htake := ob_take (L := xs) (k := k) (by rw [hl'.out]; exact hlt)
      obtain ⟨x, hx⟩ : ∃ x, ob xs k = x := ⟨_, rfl⟩
      rw [hx] at hobj hlen htake
      have hO := Lib.hid hobj
      have hT := Lib.hid htake
      have hld := run_ldO hobj.1
      have hm0 := Lib.hid (refMay_c x u wo hobj.2 hlen)
      clear hobj htake hx
      obtain ⟨mx, hmx⟩ : ∃ m, mayO x = m := ⟨_, rfl⟩
      rw [hmx] at hm0
      have hM := Lib.hid hmx
      clear hmx
      unfold ov oc at hld hm0
      obtain ⟨xs0, xp, xb⟩ := x
      simp only at hld hlen hm0
      cases mx
      · go_wp2_with (go_at_call 19; refine hm0.out.mono ?_; rintro e w5 ⟨rfl, hb5⟩; have B5 := Lib.hid hb5; clear hb5)
        go_roundg q
        case measure => omega
        case rel => exact ⟨k + 1, Z, by omega, by go_num, hR.out.on B5.out, by rw [hT.out, msec_snoc_no hM.out]; exact hU.out, by omega, hB.out.trans (B5.out.mono hB.out.size)⟩
      · obtain ⟨h1, h2, h3, h4⟩ := mayO_is.1 hM.out
        simp only at h1
        obtain ⟨s, hs⟩ : ∃ s : Nat, xs0 = (s : Int) := Int.eq_ofNat_of_zero_le h1
        subst hs
        clear h2 h3 h4 h1
        obtain ⟨nzl, hzl⟩ : ∃ m, Z.length = m := ⟨_, rfl⟩
        obtain ⟨a3, cap3, hv3, hi3, hn3, hcn3, -, had3⟩ := hR.out.ownI.slice
        have had3 := Lib.hid had3
        rw [hzl] at hv3 hi3 hzk hcn3
        subst hv3
        have hZl := Lib.hid hzl
        clear hzl hi3
        have Us := Lib.hid (show Uniq (msec (xs.take (k + 1))) Z ∨ True from .inr trivial)
        go_wp2_with (go_at_call 19; refine hm0.out.mono ?_; rintro e w5 ⟨rfl, hb5⟩; have B5 := Lib.hid hb5; have O5 := Lib.hid (hO.out.on hb5); have R5 := Lib.hid (hR.out.on hb5); clear hb5)
        go_loopg [5] nzl (fun q v5 wx => ∃ p r : Nat, p + q = nzl ∧ v5 = .int .i64 (p : Int) ∧ wx = w5.drewN r ∧ ∀ j, j < p → nz Z j < s)
        case atStart => exact ⟨0, 0, by omega, rfl, rfl, fun j hj => by omega⟩
        case round =>
          obtain ⟨p, r, hpq, rfl, hwx, hall⟩ := hrel
          have hX2 := Lib.hid hwx
          have hA := Lib.hid hall
          have R6 := Lib.hid (show OwnZ wr w.heap.size (.slice a3 nzl cap3) Z by rw [hX2.out]; exact R5.out)
          have O6 := Lib.hid (show ObAt wr b (off + k * 3) ⟨(s : Int), xp, xb⟩ u by rw [hX2.out]; exact O5.out)
          have B6 := Lib.hid (show Below w.heap.size w wr by rw [hX2.out]; exact (hB.out.trans (B5.out.mono hB.out.size)).trans ((below_drewN w5 r).mono (Nat.le_trans hB.out.size B5.out.size)))
          have c0 := O6.out.c0
          simp only at c0
          clear hwx hall
          obtain ⟨y, hy⟩ : ∃ y, nz Z p = y := ⟨_, rfl⟩
          have hI := Lib.hid (fun (w' : World) (h : Below wr.heap.size wr w') => (by
            have h1 := (R6.out.on h).ints
            obtain ⟨a', cap', e, _, h2⟩ := h1
            rw [hZl.out] at e h2
            cases e
            exact h2 : IntsAt w' a3 nzl (fun k => ((Z.getD k 0 : Nat) : Int))))
          have cz : p < nzl → ∀ r, (∃ b3 o3, a3 = some ⟨b3, o3, none⟩ ∧ (wr.drewN r).cell? ⟨b3, o3 + p, none⟩ = some (.int .i64 (y : Int))) := fun h r => by
            rcases hI.out (wr.drewN r) (below_drewN wr r) with e | ⟨b3, o3, rfl, hc⟩
            · omega
            · exact ⟨b3, o3, rfl, by rw [← hy]; exact hc p h⟩
          have hY := Lib.hid hy
          clear hy
          by_cases hpn : p < nzl
          · obtain ⟨b3, o3, rfl, c3⟩ := cz hpn 0
            have c3 : wr.cell? ⟨b3, o3 + p, none⟩ = some (.int .i64 (y : Int)) := c3
            have hcz := Lib.hid cz
            clear cz
            rcases Nat.lt_trichotomy y s with e | e | e
            · go_wp2_with fail
              go_big_quiet (fail)
              go_wp2_with fail
              go_roundg (nzl - (p + 1))
              case measure => omega
              case rel => exact ⟨p + 1, _, by omega, by go_num, by rw [hX2.out, World.drewN_drewN], fun j hj => by
                rcases Nat.lt_succ_iff_lt_or_eq.1 hj with h | h
                · exact hA.out j h
                · subst h; rw [hY.out]; exact e⟩
            · subst e
              have x1 : ¬ (y : Int) < (y : Int) := by omega
              have x2 : ((p : Int) == (nzl : Int)) = false := by rw [beq_eq_false_iff_ne]; omega
              have x3 : ((y : Int) != (y : Int)) = false := by simp
              go_wp2_with fail
              go_big_quiet (fail)
              go_wp2_with fail
              have O7 := Lib.hid (O6.out.drew (m := nq))
              have c7 := O7.out.c0
              have c8 : (wr.drewN nq).cell? ⟨b3, o3 + p, none⟩ = some (.int .i64 (y : Int)) := c3
              simp only at c7
              go_wp2_with fail
              go_big_quiet (fail)
              go_wp2_with fail
              go_roundg q
              case measure => omega
              case rel => exact ⟨k + 1, Z, by omega, by go_num, R6.out.on (below_drewN wr _), by rw [hT.out, msec_snoc_yes hM.out]; exact uniq_in hU.out (by rw [hZl.out]; exact hpn) (by rw [hY.out]; rfl), by rw [hZl.out]; omega, B6.out.trans ((below_drewN wr _).mono B6.out.size)⟩
            · have x1 : ¬ (y : Int) < (s : Int) := by omega
              have x2 : ((p : Int) == (nzl : Int)) = false := by rw [beq_eq_false_iff_ne]; omega
              have x3 : ((y : Int) != (s : Int)) = true := by rw [bne_iff_ne]; omega
              go_wp2_with fail
              go_big_quiet (fail)
              obtain ⟨n1, hn1⟩ : ∃ n1, n1 = nq := ⟨_, rfl⟩
              subst hn1
              go_wp2_with fail
              have O7 := Lib.hid (O6.out.drew (m := n1))
              have c7 := O7.out.c0
              have c8 : (wr.drewN n1).cell? ⟨b3, o3 + p, none⟩ = some (.int .i64 (y : Int)) := c3
              simp only at c7
              go_wp2_with fail
              go_big_quiet (fail)
              go_upto_region 10 with fail
              obtain ⟨wg, hwg⟩ : ∃ wg, wr.drewN (n1 + nq) = wg := ⟨_, rfl⟩
              have Bg := Lib.hid (show Below wr.heap.size wr wg by rw [← hwg]; exact below_drewN wr _)
              have cg : wg.cell? ⟨b, off + k * 3, none⟩ = some (.int .i64 (s : Int)) := by rw [← hwg]; exact c0
              first | rw [hwg] | (rw [← World.drewN_drewN] at hwg; rw [hwg])
              have Bg1 := Lib.hid (show Below wr.heap.size wr wg.drew from Bg.out.trans ((below_drewN wg 1).mono Bg.out.size))
              have Bg2 := Lib.hid (fun C => (Bg1.out.alloc Bg1.out.size C : Below wr.heap.size wr (wg.drew.alloc C)))
              have Bg3 := Lib.hid (fun C => (show Below wr.heap.size wr (wg.alloc C).drew from (Bg.out.alloc Bg.out.size C).trans ((below_drewN (wg.alloc C) 1).mono (Bg.out.alloc Bg.out.size C).size)))
              have cgF := Lib.hid (fun w' (h : Below wr.heap.size wr w') => (show w'.cell? ⟨b, off + k * 3, none⟩ = some (.int .i64 (s : Int)) from (O6.out.on h).c0))
              clear hwg c7 c8 c3 c0
              have x4 : ¬ cap3 = p := by omega
              have x5 : (p : Int) ≤ (nzl : Int) := by omega
              have x6 : (p : Int) ≤ (cap3 : Int) := by omega
              --INSC<
              go_region_law (first
                | (refine step_append_ints (by rfl) (.const (.slice none 0 0)) (.tmp 54) (by rfl) wr.heap.size 0 (.slice none 0 0) (fun _ => 0) (by simp [Act.eval, Act.put]) (OwnI.nil _ _ _) (some ⟨b3, o3, none⟩) p cap3 (fun k => ((Z.getD k 0 : Nat) : Int)) (by simp [Act.eval, Act.put]) ((hI.out _ (by first | exact Bg1.out | exact Bg2.out _ | exact Bg3.out _)).less (by omega)) (fun h => by cases h) (by omega) (by first | exact Bg1.out.size | exact (Bg2.out _).size | exact (Bg3.out _).size) ?_; intro v7 w7 ho7 hg7; have H7 := Lib.hid ho7; have B7 := Lib.hid (show Below wr.heap.size wr w7 from (by first | exact Bg1.out | exact Bg2.out _ | exact Bg3.out _ : Below wr.heap.size wr _).trans (grownBy_below hg7 (by first | exact Bg1.out.size | exact (Bg2.out _).size | exact (Bg3.out _).size) (fun k e => by cases e))); have cg7 := cgF.out w7 B7.out; (first | (have I7 := Lib.hid ((int_new wg.drew (s : Int) 3).on' (grownBy_below hg7 (Nat.le_refl _) (fun k e => by cases e)) (Nat.le_refl _))) | (have I7 := Lib.hid ((show IntsAt (wg.alloc (.cells #[.int .i64 (s : Int)] 3)).drew _ 1 _ from int_new wg (s : Int) 3).on' (grownBy_below hg7 (Nat.le_refl _) (fun k e => by cases e)) (Nat.le_refl _))) | skip); clear ho7 hg7)
                | (refine step_append_ints (by rfl) (.tmp 55) (.tmp 61) (by rfl) wr.heap.size (0 + p) v7 _ (by simp [Act.eval, Act.put]) (by first | exact H7.out | exact H7.out.alloc _) (some ⟨_, 0, none⟩) 1 1 (fun _ => (s : Int)) (by first | rfl | (simp [Act.eval, Act.put]; rfl)) (by first | exact I7.out | exact int_new _ _ _) (fun h => by cases h) (by omega) (by first | exact B7.out.size | exact (B7.out.alloc B7.out.size _).size) ?_; intro v8 w8 ho8 hg8; have H8 := Lib.hid ho8; have B8 := Lib.hid (show Below wr.heap.size wr w8 from (by first | exact B7.out | exact B7.out.alloc B7.out.size _ : Below wr.heap.size wr _).trans (grownBy_below hg8 (by first | exact B7.out.size | exact (B7.out.alloc B7.out.size _).size) (fun k e => (own_blk H7.out k e)))); clear ho8 hg8)
                | (refine step_append_ints (by rfl) (.tmp 62) (.tmp 65) (by rfl) wr.heap.size (0 + p + 1) v8 _ (by simp [Act.eval, Act.put]) H8.out (some ⟨b3, o3 + p, none⟩) (nzl - p) (cap3 - p) (fun j => ((Z.getD (p + j) 0 : Nat) : Int)) (by simp [Act.eval, Act.put]) (((hI.out _ B8.out).from (q := p) (by omega))) (fun h => by cases h) (by omega) B8.out.size ?_; intro v9 w9 ho9 hg9; have H9 := Lib.hid ho9; have B9 := Lib.hid (B8.out.trans (grownBy_below hg9 B8.out.size (fun k e => (own_blk H8.out k e)))); clear ho9 hg9))
              all_goals
                go_wp2_with fail
                go_roundg q
                case measure => omega
                case rel =>
                  refine ⟨k + 1, Z.take p ++ (s :: Z.drop p), by omega, by go_num, ?_, ?_, ?_, B6.out.trans (B9.out.mono B6.out.size)⟩
                  · exact (ins_own hZl.out H9.out (by omega)).lower B6.out.size
                  · rw [hT.out, msec_snoc_yes hM.out]
                    exact uniq_ins hU.out (by rw [hZl.out]; omega) hA.out (fun _ => by rw [hY.out]; exact e)
                  · simp only [List.length_append, List.length_take, List.length_cons, List.length_drop]; have := hZl.out; omega
              --INSC>
          · obtain rfl : p = nzl := by omega
            clear cz hY
            have x1 : ¬ (p : Int) < (p : Int) := by omega
            go_wp2_with fail
            go_big_quiet (fail)
            obtain ⟨n1, hn1⟩ : ∃ n1, n1 = nq := ⟨_, rfl⟩
            subst hn1
            go_wp2_with fail
            go_big_quiet (fail)
            go_upto_region 10 with fail
            obtain ⟨wg, hwg⟩ : ∃ wg, wr.drewN (n1 + nq) = wg := ⟨_, rfl⟩
            have Bg := Lib.hid (show Below wr.heap.size wr wg by rw [← hwg]; exact below_drewN wr _)
            have cg : wg.cell? ⟨b, off + k * 3, none⟩ = some (.int .i64 (s : Int)) := by rw [← hwg]; exact c0
            first | rw [hwg] | (rw [← World.drewN_drewN] at hwg; rw [hwg])
            have Bg1 := Lib.hid (show Below wr.heap.size wr wg.drew from Bg.out.trans ((below_drewN wg 1).mono Bg.out.size))
            have Bg2 := Lib.hid (fun C => (Bg1.out.alloc Bg1.out.size C : Below wr.heap.size wr (wg.drew.alloc C)))
            have Bg3 := Lib.hid (fun C => (show Below wr.heap.size wr (wg.alloc C).drew from (Bg.out.alloc Bg.out.size C).trans ((below_drewN (wg.alloc C) 1).mono (Bg.out.alloc Bg.out.size C).size)))
            have cgF := Lib.hid (fun w' (h : Below wr.heap.size wr w') => (show w'.cell? ⟨b, off + k * 3, none⟩ = some (.int .i64 (s : Int)) from (O6.out.on h).c0))
            clear hwg c0
            have x5 : (p : Int) ≤ (cap3 : Int) := by omega
            --INSD<
            cases a3 with
            | none =>
              obtain rfl : cap3 = 0 := hn3 rfl
              obtain rfl : p = 0 := by omega
              go_region_law (first
                | (refine step_append_ints (by rfl) (.const (.slice none 0 0)) (.tmp 54) (by rfl) wr.heap.size 0 (.slice none 0 0) (fun _ => 0) (by simp [Act.eval, Act.put]) (OwnI.nil _ _ _) none 0 0 (fun k => ((Z.getD k 0 : Nat) : Int)) (by simp [Act.eval, Act.put]) (.inl rfl) (fun _ => rfl) (by omega) (by first | exact Bg1.out.size | exact (Bg2.out _).size | exact (Bg3.out _).size) ?_; intro v7 w7 ho7 hg7; have H7 := Lib.hid ho7; have B7 := Lib.hid (show Below wr.heap.size wr w7 from (by first | exact Bg1.out | exact Bg2.out _ | exact Bg3.out _ : Below wr.heap.size wr _).trans (grownBy_below hg7 (by first | exact Bg1.out.size | exact (Bg2.out _).size | exact (Bg3.out _).size) (fun k e => by cases e))); have cg7 := cgF.out w7 B7.out; (first | (have I7 := Lib.hid ((int_new wg.drew (s : Int) 3).on' (grownBy_below hg7 (Nat.le_refl _) (fun k e => by cases e)) (Nat.le_refl _))) | (have I7 := Lib.hid ((show IntsAt (wg.alloc (.cells #[.int .i64 (s : Int)] 3)).drew _ 1 _ from int_new wg (s : Int) 3).on' (grownBy_below hg7 (Nat.le_refl _) (fun k e => by cases e)) (Nat.le_refl _))) | skip); clear ho7 hg7)
                | (refine step_append_ints (by rfl) (.tmp 55) (.tmp 61) (by rfl) wr.heap.size (0 + 0) v7 _ (by simp [Act.eval, Act.put]) (by first | exact H7.out | exact H7.out.alloc _) (some ⟨_, 0, none⟩) 1 1 (fun _ => (s : Int)) (by first | rfl | (simp [Act.eval, Act.put]; rfl)) (by first | exact I7.out | exact int_new _ _ _) (fun h => by cases h) (by omega) (by first | exact B7.out.size | exact (B7.out.alloc B7.out.size _).size) ?_; intro v8 w8 ho8 hg8; have H8 := Lib.hid ho8; have B8 := Lib.hid (show Below wr.heap.size wr w8 from (by first | exact B7.out | exact B7.out.alloc B7.out.size _ : Below wr.heap.size wr _).trans (grownBy_below hg8 (by first | exact B7.out.size | exact (B7.out.alloc B7.out.size _).size) (fun k e => (own_blk H7.out k e)))); clear ho8 hg8)
                | (refine step_append_ints (by rfl) (.tmp 62) (.tmp 65) (by rfl) wr.heap.size (0 + 0 + 1) v8 _ (by simp [Act.eval, Act.put]) H8.out none (0) (0) (fun j => ((Z.getD (0 + j) 0 : Nat) : Int)) (by simp [Act.eval, Act.put]) (.inl rfl) (fun _ => rfl) (by omega) B8.out.size ?_; intro v9 w9 ho9 hg9; have H9 := Lib.hid ho9; have B9 := Lib.hid (B8.out.trans (grownBy_below hg9 B8.out.size (fun k e => (own_blk H8.out k e)))); clear ho9 hg9))
              all_goals
                go_wp2_with fail
                go_roundg q
                case measure => omega
                case rel =>
                  refine ⟨k + 1, Z.take 0 ++ (s :: Z.drop 0), by omega, by go_num, ?_, ?_, ?_, B6.out.trans (B9.out.mono B6.out.size)⟩
                  · exact (ins_own hZl.out H9.out (by omega)).lower B6.out.size
                  · rw [hT.out, msec_snoc_yes hM.out]
                    exact uniq_ins hU.out (by rw [hZl.out]; omega) hA.out (fun h => by rw [hZl.out] at h; omega)
                  · simp only [List.length_append, List.length_take, List.length_cons, List.length_drop]; have := hZl.out; omega
            | some ad =>
              obtain ⟨b3, rfl⟩ := had3.out ad rfl
              by_cases x4 : cap3 = p
              · subst x4
                go_region_law (first
                  | (refine step_append_ints (by rfl) (.const (.slice none 0 0)) (.tmp 54) (by rfl) wr.heap.size 0 (.slice none 0 0) (fun _ => 0) (by simp [Act.eval, Act.put]) (OwnI.nil _ _ _) (some ⟨b3, 0, none⟩) cap3 cap3 (fun k => ((Z.getD k 0 : Nat) : Int)) (by simp [Act.eval, Act.put]) ((hI.out _ (by first | exact Bg1.out | exact Bg2.out _ | exact Bg3.out _)).less (by omega)) (fun h => by cases h) (by omega) (by first | exact Bg1.out.size | exact (Bg2.out _).size | exact (Bg3.out _).size) ?_; intro v7 w7 ho7 hg7; have H7 := Lib.hid ho7; have B7 := Lib.hid (show Below wr.heap.size wr w7 from (by first | exact Bg1.out | exact Bg2.out _ | exact Bg3.out _ : Below wr.heap.size wr _).trans (grownBy_below hg7 (by first | exact Bg1.out.size | exact (Bg2.out _).size | exact (Bg3.out _).size) (fun k e => by cases e))); have cg7 := cgF.out w7 B7.out; (first | (have I7 := Lib.hid ((int_new wg.drew (s : Int) 3).on' (grownBy_below hg7 (Nat.le_refl _) (fun k e => by cases e)) (Nat.le_refl _))) | (have I7 := Lib.hid ((show IntsAt (wg.alloc (.cells #[.int .i64 (s : Int)] 3)).drew _ 1 _ from int_new wg (s : Int) 3).on' (grownBy_below hg7 (Nat.le_refl _) (fun k e => by cases e)) (Nat.le_refl _))) | skip); clear ho7 hg7)
                  | (refine step_append_ints (by rfl) (.tmp 55) (.tmp 61) (by rfl) wr.heap.size (0 + cap3) v7 _ (by simp [Act.eval, Act.put]) (by first | exact H7.out | exact H7.out.alloc _) (some ⟨_, 0, none⟩) 1 1 (fun _ => (s : Int)) (by first | rfl | (simp [Act.eval, Act.put]; rfl)) (by first | exact I7.out | exact int_new _ _ _) (fun h => by cases h) (by omega) (by first | exact B7.out.size | exact (B7.out.alloc B7.out.size _).size) ?_; intro v8 w8 ho8 hg8; have H8 := Lib.hid ho8; have B8 := Lib.hid (show Below wr.heap.size wr w8 from (by first | exact B7.out | exact B7.out.alloc B7.out.size _ : Below wr.heap.size wr _).trans (grownBy_below hg8 (by first | exact B7.out.size | exact (B7.out.alloc B7.out.size _).size) (fun k e => (own_blk H7.out k e)))); clear ho8 hg8)
                  | (refine step_append_ints (by rfl) (.tmp 62) (.tmp 65) (by rfl) wr.heap.size (0 + cap3 + 1) v8 _ (by simp [Act.eval, Act.put]) H8.out (some ⟨b3, 0, none⟩) (0) (0) (fun j => ((Z.getD (cap3 + j) 0 : Nat) : Int)) (by simp [Act.eval, Act.put]) (.inl rfl) (fun h => by cases h) (by omega) B8.out.size ?_; intro v9 w9 ho9 hg9; have H9 := Lib.hid ho9; have B9 := Lib.hid (B8.out.trans (grownBy_below hg9 B8.out.size (fun k e => (own_blk H8.out k e)))); clear ho9 hg9))
                all_goals
                  go_wp2_with fail
                  go_roundg q
                  case measure => omega
                  case rel =>
                    refine ⟨k + 1, Z.take cap3 ++ (s :: Z.drop cap3), by omega, by go_num, ?_, ?_, ?_, B6.out.trans (B9.out.mono B6.out.size)⟩
                    · exact (ins_own hZl.out H9.out (by omega)).lower B6.out.size
                    · rw [hT.out, msec_snoc_yes hM.out]
                      exact uniq_ins hU.out (by rw [hZl.out]; omega) hA.out (fun h => by rw [hZl.out] at h; omega)
                    · simp only [List.length_append, List.length_take, List.length_cons, List.length_drop]; have := hZl.out; omega
              · have x6 : (p : Int) ≤ (cap3 : Int) := by omega
                go_region_law (first
                  | (refine step_append_ints (by rfl) (.const (.slice none 0 0)) (.tmp 54) (by rfl) wr.heap.size 0 (.slice none 0 0) (fun _ => 0) (by simp [Act.eval, Act.put]) (OwnI.nil _ _ _) (some ⟨b3, 0, none⟩) p cap3 (fun k => ((Z.getD k 0 : Nat) : Int)) (by simp [Act.eval, Act.put]) ((hI.out _ (by first | exact Bg1.out | exact Bg2.out _ | exact Bg3.out _)).less (by omega)) (fun h => by cases h) (by omega) (by first | exact Bg1.out.size | exact (Bg2.out _).size | exact (Bg3.out _).size) ?_; intro v7 w7 ho7 hg7; have H7 := Lib.hid ho7; have B7 := Lib.hid (show Below wr.heap.size wr w7 from (by first | exact Bg1.out | exact Bg2.out _ | exact Bg3.out _ : Below wr.heap.size wr _).trans (grownBy_below hg7 (by first | exact Bg1.out.size | exact (Bg2.out _).size | exact (Bg3.out _).size) (fun k e => by cases e))); have cg7 := cgF.out w7 B7.out; (first | (have I7 := Lib.hid ((int_new wg.drew (s : Int) 3).on' (grownBy_below hg7 (Nat.le_refl _) (fun k e => by cases e)) (Nat.le_refl _))) | (have I7 := Lib.hid ((show IntsAt (wg.alloc (.cells #[.int .i64 (s : Int)] 3)).drew _ 1 _ from int_new wg (s : Int) 3).on' (grownBy_below hg7 (Nat.le_refl _) (fun k e => by cases e)) (Nat.le_refl _))) | skip); clear ho7 hg7)
                  | (refine step_append_ints (by rfl) (.tmp 55) (.tmp 61) (by rfl) wr.heap.size (0 + p) v7 _ (by simp [Act.eval, Act.put]) (by first | exact H7.out | exact H7.out.alloc _) (some ⟨_, 0, none⟩) 1 1 (fun _ => (s : Int)) (by first | rfl | (simp [Act.eval, Act.put]; rfl)) (by first | exact I7.out | exact int_new _ _ _) (fun h => by cases h) (by omega) (by first | exact B7.out.size | exact (B7.out.alloc B7.out.size _).size) ?_; intro v8 w8 ho8 hg8; have H8 := Lib.hid ho8; have B8 := Lib.hid (show Below wr.heap.size wr w8 from (by first | exact B7.out | exact B7.out.alloc B7.out.size _ : Below wr.heap.size wr _).trans (grownBy_below hg8 (by first | exact B7.out.size | exact (B7.out.alloc B7.out.size _).size) (fun k e => (own_blk H7.out k e)))); clear ho8 hg8)
                  | (refine step_append_ints (by rfl) (.tmp 62) (.tmp 65) (by rfl) wr.heap.size (0 + p + 1) v8 _ (by simp [Act.eval, Act.put]) H8.out (some ⟨b3, p, none⟩) (0) (cap3 - p) (fun j => ((Z.getD (p + j) 0 : Nat) : Int)) (by simp [Act.eval, Act.put]) (.inl rfl) (fun h => by cases h) (by omega) B8.out.size ?_; intro v9 w9 ho9 hg9; have H9 := Lib.hid ho9; have B9 := Lib.hid (B8.out.trans (grownBy_below hg9 B8.out.size (fun k e => (own_blk H8.out k e)))); clear ho9 hg9))
                all_goals
                  go_wp2_with fail
                  go_roundg q
                  case measure => omega
                  case rel =>
                    refine ⟨k + 1, Z.take p ++ (s :: Z.drop p), by omega, by go_num, ?_, ?_, ?_, B6.out.trans (B9.out.mono B6.out.size)⟩
                    · exact (ins_own hZl.out H9.out (by omega)).lower B6.out.size
                    · rw [hT.out, msec_snoc_yes hM.out]
                      exact uniq_ins hU.out (by rw [hZl.out]; omega) hA.out (fun h => by rw [hZl.out] at h; omega)
                    · simp only [List.length_append, List.length_take, List.length_cons, List.length_drop]; have := hZl.out; omega
            --INSD>
    · have hkn : k = n := by omega
      have ht : xs.take k = xs := List.take_of_length_le (by rw [hl'.out]; omega)
      have hU2 := hU.out
      rw [ht] at hU2
      have hU3 := Lib.hid hU2
      clear hU2
      go_wp2_with fail
      go_ret
      exact ⟨_, Z, rfl, hR.out, hU3.out, hB.out⟩
end Go.Proofs.Ytcmomnfefaolaaa
