/-
  DepsUnions: the head: the graph of what each needs.
-/
import Derived.Test.YtgkmmdkagiohgaaDrj
import Derived.Test.YtgkmmdkagiohgaaB13
set_option linter.unusedVariables false
set_option linter.unusedSimpArgs false
namespace Go.Proofs.Ytgkmmdkagiohgaa
open Go.RowKit BigFrame
set_option maxRecDepth 100000
variable {w w' wr w0 : World} {W B a M : Nat} {G : Gr} {ρ : Nat → Nat} {ids : List Nat} {dn : Nat → List Nat}

def nidU (x : Nat) : Nat := x
theorem low_in (y n : Nat) (w : World) (hy : y < n) (hn : n ≤ 1000000) :
    Calls Try.prog 6 #[.int .i64 (y : Int), .int .i64 (n : Int)] w fun e w' => e = .returned (.int .i64 (y : Int)) ∧ w = w' :=
  (low_any (y : Int) (n : Int) w (by omega) (by omega)).mono fun e w' ⟨he, hw⟩ => ⟨by
    rw [he, show lowN (y : Int) (n : Int) = (y : Int) by
      unfold lowN
      rw [Int.emod_eq_of_lt (by omega) (by omega), Int.emod_eq_of_lt (by omega) (by omega)]], hw⟩
theorem OwnZ.turn {S : Nat → Prop} {v : Value} {l : List Nat} (h : OwnZ w B v l) (hT : TurnS S w wr) (hS : ∀ k, B ≤ k → ¬ S k) : OwnZ wr B v l :=
  h.blk fun k hk => hT.block k (h.block k hk).2 (hS k (h.block k hk).1)
theorem OwnZ.at {v : Value} {l : List Nat} {a : Option Addr} {n cap k y : Nat} (h : OwnZ w B v l) (hv : v = .slice a n cap) (hk : l[k]? = some y) : ∃ g, a = some ⟨g, 0, none⟩ ∧ w.cell? ⟨g, k, none⟩ = some (.int .i64 (y : Int)) := by
  obtain ⟨a', cap', hv', _, hi⟩ := h.ints
  rw [hv] at hv'
  obtain ⟨rfl, _, _⟩ := Value.slice.inj hv'
  have hl := (List.getElem?_eq_some_iff.1 hk).1
  rcases h.2 with ⟨rfl, h0⟩ | ⟨g, cap2, cur, rfl, _⟩
  · omega
  · obtain ⟨rfl, _, _⟩ := Value.slice.inj hv
    refine ⟨g, rfl, ?_⟩
    rcases hi with h0 | ⟨b, off, e, hx⟩
    · omega
    · have e2 := Option.some.inj e
      obtain ⟨rfl, rfl, _⟩ := Addr.mk.inj e2
      have := hx k hl
      rw [Nat.zero_add] at this
      exact this.trans (congrArg (fun t : Nat => some (Value.int .i64 (t : Int))) (show l.getD k 0 = y by rw [List.getD_eq_getElem?_getD, hk]; rfl))
/-- all of a graph are told -/
def AllC (a M : Nat) : Prop := ∀ (w : World) (B : Nat) (G : Gr), GrMem w B a M G → Calls Try.prog 17 #[.pointer (some ⟨a, 0, none⟩)] w fun e w' => ∃ ad cap, e = .returned (.slice ad G.ids.length cap) ∧ Below w.heap.size w w'
theorem upto_filter_yes {S : List Nat} {i : Nat} (h1 : 1 ≤ i) (h : i ∈ S) : (idsN i).filter (fun k => decide (k ∈ S)) = (idsN (i - 1)).filter (fun k => decide (k ∈ S)) ++ [i] := by
  obtain ⟨j, rfl⟩ : ∃ j, i = j + 1 := ⟨i - 1, by omega⟩
  rw [idsN_succ, List.filter_append]
  congr 1
  simp [h]
theorem upto_filter_no {S : List Nat} {i : Nat} (h1 : 1 ≤ i) (h : i ∉ S) : (idsN i).filter (fun k => decide (k ∈ S)) = (idsN (i - 1)).filter (fun k => decide (k ∈ S)) := by
  obtain ⟨j, rfl⟩ : ∃ j, i = j + 1 := ⟨i - 1, by omega⟩
  rw [idsN_succ, List.filter_append]
  simp [h]
theorem idsN_rise (m : Nat) : (idsN m).Pairwise fun x y => x < y := by
  unfold idsN
  rw [List.pairwise_map]
  exact List.pairwise_lt_range.imp fun h => by omega
theorem ints3 (w : World) (x y z : Nat) : IntsAt (w.alloc (.cells #[.int .i64 (x : Int), .int .i64 (y : Int), .int .i64 (z : Int)] 3)) (some ⟨w.heap.size, 0, none⟩) 3 (fun k => (([x, y, z].getD k 0 : Nat) : Int)) :=
  .inr ⟨w.heap.size, 0, rfl, fun k hk => by
    rw [cell_of_row _ w.heap.size _ _ _ _ (heap_alloc_new w _)]
    rcases (show k = 0 ∨ k = 1 ∨ k = 2 by omega) with rfl | rfl | rfl <;> rfl⟩
theorem mx_same {lv : Nat → Nat} {O P : List Nat} (h : ∀ z, z ∈ O ↔ z ∈ P) : mx lv O = mx lv P := by
  have := mx_union (lv := lv) (O := P) (P := P) (Q := O) fun z => by rw [h]; simp
  omega
theorem levs_len {lv : Nat → Nat} {O P : List Nat} {LL : List (List Nat)} {v : Value} {S : List Value} (hls : LsAt wr B v S (LL.map srt)) (hlv : LvOk lv O LL) (h : ∀ z, z ∈ O ↔ z ∈ P) : ∃ ad cap, v = .slice ad (mx lv P) cap := by
  obtain ⟨ad, cap, hvv, _⟩ := len_sl hls.row
  rw [hls.len, List.length_map, lists_mx hlv, mx_same h] at hvv
  exact ⟨ad, cap, hvv⟩
theorem Lv.turn {S : Nat → Prop} (h : Lv w0 a M ρ G ids dn w) (hT : TurnS S w wr) (hs : ∀ k, (∃ r, G.own k = some r) → ¬ S k) (hb : ∀ k, S k → w0.heap.size ≤ k) : Lv w0 a M ρ G ids dn wr :=
  ⟨h.gr.turn hT hs, h.ok, h.who, h.dn, h.bel.trans (hT.below h.bel.size hb)⟩
section
attribute [local go_sem ↓] ldU_of stU_of
set_option maxHeartbeats 16000000 in
theorem unions_any (z : Int) (n1 c1 : Nat) (a1 : Option Addr) (R1 : Nat → Int) (z2 z3 : Int) (w : World) (x1 : IntsAt w a1 n1 R1) (hall : ∀ a M, AllC a M) :
    Calls Try.prog 5 #[.int .i64 z, .slice a1 n1 c1, .int .i64 z2, .int .i64 z3] w (Woke w) := by
  have x1' := Lib.hid x1
  have hall' := Lib.hid hall
  clear x1 hall
  go_enter Try.func5, Try.ntmps5
  go_upto_region 2 with (go_at_call 6; refine (low_nat z 14 w (by omega) (by omega)).mono ?_; rintro e w1 ⟨m0, hm0, rfl, rfl⟩)
  obtain ⟨many, hmany⟩ : ∃ many, 1 + m0 = many := ⟨_, rfl⟩
  have hme : (1 : Int) + (m0 : Int) = (many : Int) := by omega
  rw [hme]
  have hm1 : 1 ≤ many := by omega
  have hm2 : many ≤ 14 := by omega
  clear hmany hme
  go_wp2_with fail
  refine (live_new nidU w).mono ?_
  rintro e w2 ⟨a, M, G0, rfl, hL0, _⟩
  have L0 := Lib.hid hL0
  have hwn := Lib.hid (wants_c (cap := c1) many (by omega) (x1'.out.on hL0.bel rfl))
  have ev := Lib.hid (Value.agg.injEq)
  clear hL0
  go_wp2_with fail
  refine hwn.out.mono ?_
  rintro e w3 ⟨L, rfl, hLl, hb3⟩
  have L3 := Lib.hid (L0.out.on hb3)
  obtain ⟨Z, hZ⟩ : ∃ Z, zz 21 = Z := ⟨_, rfl⟩
  have hZl := Lib.hid (show Z.length = 21 by rw [← hZ]; exact zz_length 21)
  have hZ' := Lib.hid hZ
  have hLl' := Lib.hid hLl
  clear hb3 hwn L0 hZ hLl
  unfold av
  go_wp2_with (refine wpList_alloc_U rfl rfl ?_; intro g1 w4 hv4 hg4 hb4; rw [hZ'.out] at hv4; have hst := run_stU (w := w4) hLl'.out (hv4.out.there (o := 0) (n := 21) (by rw [hZl.out]; exact Nat.le_refl _)); unfold av at hst; have V4 := Lib.hid (hv4.out.over (m := L) (by rw [hLl'.out, hZl.out])); have B4 := Lib.hid (below_setCells hb4 (Nat.le_of_eq hg4.symm) 0 (iv L)); clear hb4 hv4; subst hg4)
  obtain ⟨w5, hw5⟩ : ∃ w5, w4.setCells w3.heap.size 0 (iv L) = w5 := ⟨_, rfl⟩
  rw [hw5] at V4 B4 ⊢
  have L5 := Lib.hid (L3.out.on B4.out)
  have hnd : Hid (G0.own w3.heap.size = none) := Lib.hid (by
    cases hc : G0.own w3.heap.size with
    | none => rfl
    | some r => have := (L3.out.gr.hi _ _ hc).2; omega)
  have hwn3 := L3.out.bel.size
  obtain ⟨gn, hgn⟩ : ∃ gn, w3.heap.size = gn := ⟨_, rfl⟩
  rw [hgn] at V4 hnd hwn3 ⊢
  clear hw5 hgn B4 L3 hst
  have hrel2 := Lib.hid (show ∃ G, Lv w a M nidU G (idsN (1 - 1)) (dnAt L 1 1) w5 ∧ Vi w5 29 gn L ∧ G.own gn = none from ⟨G0, L5.out.cong (fun j hj => by cases hj), V4.out, hnd.out⟩)
  clear L5 V4 hnd
  go_loopg [11, 12] many (fun g v11 v12 wr => ∃ i : Nat, 1 ≤ i ∧ i ≤ many + 1 ∧ i + g = many + 1 ∧ v11 = .int .i64 (i : Int) ∧ ∃ G, Lv w a M nidU G (idsN (i - 1)) (dnAt L i 1) wr ∧ Vi wr 29 gn L ∧ G.own gn = none)
  case atStart => exact ⟨1, by omega, by omega, by omega, rfl, hrel2.out⟩
  case round =>
    obtain ⟨i, hi1, hi2, hig, rfl, G, hL, hV, hO⟩ := hrel
    by_cases hi : i ≤ many
    · obtain ⟨g, rfl⟩ : ∃ g, gk = g + 1 := ⟨gk - 1, by omega⟩
      have t4 : decide ((i : Int) ≤ (many : Int)) = true := decide_eq_true (by omega)
      have hadd := Lib.hid (live_add hL (i := i) (by rw [idsN_mem]; omega) (by omega) (by omega) (by rw [idsN_len]; omega))
      have hids : idsN (i - 1) ++ [i] = idsN i := by
        obtain ⟨j, rfl⟩ : ∃ j, i = j + 1 := ⟨i - 1, by omega⟩
        exact (idsN_succ j).symm
      rw [hids] at hadd
      have hV' := Lib.hid hV
      have hO' := Lib.hid hO
      have hvl := hV.lt
      clear hL hids hV hO
      go_wp2_with (go_at_call 9; refine hadd.out.mono ?_; rintro e w6 ⟨rfl, G6, hL6, hs6⟩; have hrel3 := Lib.hid (show ∃ G, Lv w a M nidU G (idsN i) (dnAt L i 1) w6 ∧ Vi w6 29 gn L ∧ G.own gn = none from ⟨G6, hL6.cong (fun j hj => by (by_cases e : j = i); (rw [if_pos e]; unfold dnAt; rw [if_neg (by omega), if_pos e]; rfl); (rw [if_neg e])), (by unfold Vi; rw [hs6.block hvl hO'.out]; exact hV'.out), hs6.free hvl hO'.out⟩); clear hL6 hs6)
      go_loopg [12] i (fun g2 v12 wr => ∃ k : Nat, 1 ≤ k ∧ k ≤ i ∧ k + g2 = i + 1 ∧ v12 = .int .i64 (k : Int) ∧ ∃ G, Lv w a M nidU G (idsN i) (dnAt L i k) wr ∧ Vi wr 29 gn L ∧ G.own gn = none)
      case atStart => exact ⟨1, by omega, by omega, by omega, rfl, hrel3.out⟩
      case round =>
        obtain ⟨k, hk1, hk2, hkg, rfl, G, hL, hV, hO⟩ := hrel
        by_cases hk : k < i
        · obtain ⟨g2, rfl⟩ : ∃ g, gk = g + 1 := ⟨gk - 1, by omega⟩
          have cn := hV.cell (k := i) (by rw [hLl'.out]; omega)
          obtain ⟨A, hA⟩ : ∃ A, zi L i = A := ⟨_, rfl⟩
          rw [hA] at cn
          have hL' := Lib.hid hL
          have hV' := Lib.hid hV
          have hO' := Lib.hid hO
          have hup := Lib.hid (show ∀ q, bitF A k = q → upto L i (k + 1) = if q = true then upto L i k ++ [k] else upto L i k from fun q hq => by
            rw [← hA] at hq
            cases q
            · rw [if_neg (by decide), upto_no hq]
            · rw [if_pos rfl, upto_yes hk1 hq])
          clear hL hV hO hA
          cases hF : bitF A k
          · have hu := Lib.hid (hup.out _ hF)
            unfold bitF at hF
            have hend := Lib.hid (show ∃ G, Lv w a M nidU G (idsN i) (dnAt L i (k + 1)) wr ∧ Vi wr 29 gn L ∧ G.own gn = none from ⟨G, hL'.out.cong fun j hj => by
              unfold dnAt
              rw [hu.out, if_neg (by decide : ¬ (false = true))], hV'.out, hO'.out⟩)
            go_wp2_with fail
            go_roundg g2
            case measure => omega
            case rel => exact ⟨k + 1, by omega, by omega, by omega, by go_num, hend.out⟩
          · have hu := Lib.hid (hup.out _ hF)
            unfold bitF at hF
            have hdi : dnAt L i k i = upto L i k := by unfold dnAt; rw [if_neg (by omega), if_pos rfl]
            have hne := Lib.hid (live_need hL'.out (i := i) (k := k) (by rw [idsN_mem]; omega) (by rw [idsN_mem]; omega) (by rw [hdi, upto_mem]; omega) (by show k < i; omega))
            rw [hdi] at hne
            have hdn := Lib.hid (show ∀ j, dnAt L i (k + 1) j = if j = i then upto L i k ++ [k] else dnAt L i k j from fun j => by
              unfold dnAt
              rw [hu.out, if_pos rfl]
              by_cases e : j = i
              · rw [if_neg (by omega), if_pos e, if_pos e]
              · rw [if_neg e, if_neg e, if_neg e])
            clear hdi
            have hvl := hV'.out.lt
            go_wp2_with fail
            refine hne.out.mono ?_
            rintro e w6 ⟨rfl, G6, hL6, hs6⟩
            have hend := Lib.hid (show ∃ G, Lv w a M nidU G (idsN i) (dnAt L i (k + 1)) w6 ∧ Vi w6 29 gn L ∧ G.own gn = none from ⟨G6, hL6.cong fun j _ => hdn.out j, (by unfold Vi; rw [hs6.block hvl hO'.out]; exact hV'.out), hs6.free hvl hO'.out⟩)
            clear hL6 hs6
            go_wp2_with fail
            go_roundg g2
            case measure => omega
            case rel => exact ⟨k + 1, by omega, by omega, by omega, by go_num, hend.out⟩
        · have hke : i = k := by omega
          subst hke
          have hend := Lib.hid (show ∃ G, Lv w a M nidU G (idsN (i + 1 - 1)) (dnAt L (i + 1) 1) wr ∧ Vi wr 29 gn L ∧ G.own gn = none from ⟨G, hL.cong fun j _ => dnAt_next L i j, hV, hO⟩)
          clear hL hV hO
          go_wp2_with fail
          go_roundg g
          case measure => omega
          case rel => exact ⟨i + 1, by omega, by omega, by omega, by go_num, hend.out⟩
    · have hie : i = many + 1 := by omega
      subst hie
      have L6 := Lib.hid (show Lv w a M nidU G (idsN many) (fun j => upto L j j) wr from hL.cong fun j hj => (dnAt_all L many (idsN_mem.1 hj)).symm)
      clear hL hV hO hrel2
      have t4 : decide ((many : Int) + 1 ≤ (many : Int)) = false := decide_eq_false (by omega)
      have tk1 : True := trivial
      go_upto_region 17 with (first
        | (have _t := tk1; go_at_call 6; refine (low_nat z2 many _ (by omega) (by omega)).mono ?_; rintro e w7 ⟨n2, hn2, rfl, rfl⟩; clear tk1)
        | (go_at_call 6; refine (low_nat z3 many _ (by omega) (by omega)).mono ?_; rintro e w7 ⟨n3, hn3, rfl, rfl⟩))
      obtain ⟨xa, hxa⟩ : ∃ xa, 1 + n2 = xa := ⟨_, rfl⟩
      obtain ⟨xb, hxb⟩ : ∃ xb, 1 + n3 = xb := ⟨_, rfl⟩
      rw [show (1 : Int) + (n2 : Int) = (xa : Int) by omega, show (1 : Int) + (n3 : Int) = (xb : Int) by omega]
      have ha : 1 ≤ xa ∧ xa ≤ many := by omega
      have hb' : 1 ≤ xb ∧ xb ≤ many := by omega
      clear hxa hxb hn2 hn3 t4
      go_wp2_with (refine wpList_alloc_B15 rfl rfl ?_; intro ge w7 hv7 hg7 hb7; have V7 := Lib.hid hv7; have L7 := Lib.hid (L6.out.on hb7); have hwg : w.heap.size ≤ ge := (by rw [hg7]; exact L6.out.bel.size); have hge := Lib.hid (show G.own ge = none from by (cases hc : G.own ge with | none => rfl | some r => (have := (L6.out.gr.hi _ _ hc).2; omega))); clear hb7 hv7 hg7)
      have hgl := V7.out.lt
      have L8 := Lib.hid (L7.out.on ((Below.refl _ _).alloc (Nat.le_refl _) (.cells #[.int .i64 (xa : Int)] 3)))
      have V8 := Lib.hid (V7.out.on' ((Below.refl _ _).alloc (Nat.le_refl _) (.cells #[.int .i64 (xa : Int)] 3)))
      refine (closure_c (R := fun _ => (xa : Int)) (cap := 1) L8.out.gr L8.out.ok (by omega) (ints1 w7 xa) (fun k _ => by omega)).mono ?_
      rintro e w9 ⟨⟨vx, O1, rfl, hown, hn1, hsub1, hcl1⟩, hb⟩
      have X9 := Lib.hid (hown.lower (B' := ge + 1) (by rw [size_alloc]; omega))
      have L9 := Lib.hid (L8.out.on hb)
      have V9 := Lib.hid (V8.out.on' hb)
      have hm1' := Lib.hid hn1
      have hq1 := Lib.hid (show ∀ z, z ∈ O1 ↔ Reach (G.lk 0) xa z from fun z => by rw [hcl1, clo_one (by rw [L8.out.who]; exact idsN_mem.2 ha)])
      have hs1 := Lib.hid (show ∀ z ∈ O1, 1 ≤ z ∧ z ≤ many from fun z hz => idsN_mem.1 (by rw [← L8.out.who]; exact hsub1 z hz))
      clear hown hn1 hsub1 hcl1 hb
      go_wp2_with fail
      have L10 := Lib.hid (L9.out.on ((Below.refl _ _).alloc (Nat.le_refl _) (.cells #[.int .i64 (xb : Int)] 3)))
      have V10 := Lib.hid (V9.out.on' ((Below.refl _ _).alloc (Nat.le_refl _) (.cells #[.int .i64 (xb : Int)] 3)))
      have X10 := Lib.hid (X9.out.on ((Below.refl _ _).alloc (Nat.le_refl _) (.cells #[.int .i64 (xb : Int)] 3)))
      refine (closure_c (R := fun _ => (xb : Int)) (cap := 1) L10.out.gr L10.out.ok (by omega) (ints1 w9 xb) (fun k _ => by omega)).mono ?_
      rintro e w11 ⟨⟨vy, O2, rfl, hown, hn1, hsub1, hcl1⟩, hb⟩
      have Y11 := Lib.hid (hown.lower (B' := ge + 1) (by have := V9.out.lt; rw [size_alloc]; omega))
      have L11 := Lib.hid (L10.out.on hb)
      have V11 := Lib.hid (V10.out.on' hb)
      have X11 := Lib.hid (X10.out.on hb)
      have hm2' := Lib.hid hn1
      have hq2 := Lib.hid (show ∀ z, z ∈ O2 ↔ Reach (G.lk 0) xb z from fun z => by rw [hcl1, clo_one (by rw [L8.out.who]; exact idsN_mem.2 hb')])
      have hs2 := Lib.hid (show ∀ z ∈ O2, 1 ≤ z ∧ z ≤ many from fun z hz => idsN_mem.1 (by rw [← L8.out.who]; exact hsub1 z hz))
      clear hown hn1 hsub1 hcl1 hb
      go_wp2_with fail
      have L12 := Lib.hid (L11.out.on ((Below.refl _ _).alloc (Nat.le_refl _) (.cells #[.int .i64 (xa : Int), .int .i64 (xb : Int)] 3)))
      have V12 := Lib.hid (V11.out.on' ((Below.refl _ _).alloc (Nat.le_refl _) (.cells #[.int .i64 (xa : Int), .int .i64 (xb : Int)] 3)))
      have X12 := Lib.hid (X11.out.on ((Below.refl _ _).alloc (Nat.le_refl _) (.cells #[.int .i64 (xa : Int), .int .i64 (xb : Int)] 3)))
      have Y12 := Lib.hid (Y11.out.on ((Below.refl _ _).alloc (Nat.le_refl _) (.cells #[.int .i64 (xa : Int), .int .i64 (xb : Int)] 3)))
      have hsub2 : ∀ x ∈ [xa, xb], x ∈ G.ids := fun x hx => by
        rw [L8.out.who, idsN_mem]
        simp at hx
        rcases hx with rfl | rfl
        · exact ha
        · exact hb'
      refine (closure_c (R := fun k => (([xa, xb].getD k 0 : Nat) : Int)) (cap := 2) L12.out.gr L12.out.ok (by omega) (ints2 w11 xa xb) (fun k hk => ?_)).mono ?_
      · rcases (show k = 0 ∨ k = 1 by omega) with rfl | rfl
        · show _ ≤ (xa : Int) ∧ (xa : Int) ≤ _; omega
        · show _ ≤ (xb : Int) ∧ (xb : Int) ≤ _; omega
      rintro e w13 ⟨⟨vz, O3, rfl, hown, hn1, hsub1, hcl1⟩, hb⟩
      have Z13 := Lib.hid (hown.lower (B' := ge + 1) (by have := V11.out.lt; rw [size_alloc]; omega))
      have L13 := Lib.hid (L12.out.on hb)
      have V13 := Lib.hid (V12.out.on' hb)
      have X13 := Lib.hid (X12.out.on hb)
      have Y13 := Lib.hid (Y12.out.on hb)
      have hm3' := Lib.hid hn1
      have hq3 := Lib.hid (show ∀ z, z ∈ O3 ↔ z ∈ O1 ∨ z ∈ O2 from fun z => by rw [hcl1, clo_list (n := 2) hsub2 rfl, hq1.out, hq2.out]; simp)
      have hsub2' := Lib.hid hsub2
      clear hown hn1 hsub1 hcl1 hb L9 L10 L11 L12 V9 V10 V11 V12 V7 V8 X9 X10 X11 X12 Y11 Y12 L7 L8 hsub2
      have hfew : ∀ O : List Nat, O.Nodup → (∀ z ∈ O, 1 ≤ z ∧ z ≤ many) → (srt O).length ≤ 14 := fun O h1 h2 => by
        have := nodup_sub h1 (m := idsN many) fun x hx => idsN_mem.2 (h2 x hx)
        rw [idsN_len] at this
        rw [srt_len]; omega
      have hxl := hfew O1 hm1'.out hs1.out
      have hyl := hfew O2 hm2'.out hs2.out
      have hzl := hfew O3 hm3'.out (fun z hz => by rcases (hq3.out z).1 hz with h | h; exact hs1.out z h; exact hs2.out z h)
      clear hfew
      obtain ⟨XL, hXL⟩ : ∃ XL, srt O1 = XL := ⟨_, rfl⟩
      obtain ⟨YL, hYL⟩ : ∃ YL, srt O2 = YL := ⟨_, rfl⟩
      have hXm := Lib.hid (show ∀ z, z ∈ XL ↔ z ∈ O1 from fun z => by rw [← hXL, srt_mem])
      have hYm := Lib.hid (show ∀ z, z ∈ YL ↔ z ∈ O2 from fun z => by rw [← hYL, srt_mem])
      rw [hXL] at X13 hxl
      rw [hYL] at Y13 hyl
      clear hXL hYL
      obtain ⟨ax, cx, hvx, _, _⟩ := X13.out.ints
      obtain ⟨ay, cy, hvy, _, _⟩ := Y13.out.ints
      obtain ⟨az, cz, hvz, _, _⟩ := Z13.out.ints
      obtain ⟨nx, hnx⟩ : ∃ nx, XL.length = nx := ⟨_, rfl⟩
      obtain ⟨ny, hny⟩ : ∃ ny, YL.length = ny := ⟨_, rfl⟩
      obtain ⟨nz, hnz⟩ : ∃ nz, (srt O3).length = nz := ⟨_, rfl⟩
      rw [hnx] at hvx hxl
      rw [hny] at hvy hyl
      rw [hnz] at hvz hzl
      have hnx' := Lib.hid hnx
      have hny' := Lib.hid hny
      have hnz' := Lib.hid hnz
      have hvx' := Lib.hid hvx
      subst hvx hvy hvz
      have hXd := Lib.hid (show ∀ z ∈ XL, 1 ≤ z ∧ z ≤ many from fun z hz => hs1.out z ((hXm.out z).1 hz))
      have hYd := Lib.hid (show ∀ z ∈ YL, 1 ≤ z ∧ z ≤ many from fun z hz => hs2.out z ((hYm.out z).1 hz))
      have hB13 : ge + 1 ≤ w13.heap.size := V13.out.lt
      clear hnx hny hnz
      go_wp2_with fail
      go_loopg [17] nx (fun g v17 wr => ∃ j : Nat, j + g = nx ∧ v17 = .int .i64 (j : Int) ∧ Vw wr 40 ge (bvs (XL.take j)) ∧ TurnS (fun k => k = ge) w13 wr)
      case atStart => exact ⟨0, by omega, rfl, V13.out, TurnS.refl _ _⟩
      case round =>
        obtain ⟨j, hjg, rfl, hV, hT⟩ := hrel
        by_cases hj : j < nx
        · obtain ⟨g, rfl⟩ : ∃ g, gk = g + 1 := ⟨gk - 1, by omega⟩
          obtain ⟨y, hy⟩ : ∃ y, XL[j]? = some y := ⟨XL[j]'(by rw [hnx'.out]; exact hj), List.getElem?_eq_getElem _⟩
          obtain ⟨gx, hgx, cx'⟩ := (X13.out.turn hT (fun k hk e => by omega)).at rfl hy
          subst hgx
          have hyb := hXd.out y (List.mem_of_getElem? hy)
          have cv := hV.cell (bvs_get (S := XL.take j) (k := y) (by omega))
          have fv := hV.frozen y
          have hend := Lib.hid (show Vw (wr.setCell ⟨ge, y, none⟩ (.bool true)) 40 ge (bvs (XL.take (j + 1))) ∧ TurnS (fun k => k = ge) w13 (wr.setCell ⟨ge, y, none⟩ (.bool true)) from
            ⟨by rw [take_snoc hy, ← bvs_set (by omega)]; exact hV.set y _, hT.trans (TurnS.set (fun k => k = ge) wr (s := ge) (show ge = ge from rfl) y _)⟩)
          clear hV hT hy
          go_wp2_with (go_at_call 6; refine (low_in y 15 _ (by omega) (by omega)).mono ?_; rintro e w14 ⟨rfl, rfl⟩)
          go_roundg g
          case measure => omega
          case rel => exact ⟨j + 1, by omega, by go_num, hend.out⟩
        · have hje : j = nx := by omega
          subst hje
          rw [List.take_of_length_le (by rw [hnx'.out]; omega)] at hV
          have hV' := Lib.hid hV
          have hT' := Lib.hid hT
          clear hV hT
          go_wp2_with fail
          go_loopg [18] ny (fun g v18 wr => ∃ k : Nat, k + g = ny ∧ v18 = .int .i64 (k : Int) ∧ Vw wr 40 ge (bvs (XL ++ YL.take k)) ∧ TurnS (fun k => k = ge) w13 wr)
          case atStart => exact ⟨0, by omega, rfl, by rw [List.take_zero, List.append_nil]; exact hV'.out, hT'.out⟩
          case round =>
            obtain ⟨k, hkg, rfl, hV, hT⟩ := hrel
            by_cases hk : k < ny
            · obtain ⟨g, rfl⟩ : ∃ g, gk = g + 1 := ⟨gk - 1, by omega⟩
              obtain ⟨y, hy⟩ : ∃ y, YL[k]? = some y := ⟨YL[k]'(by rw [hny'.out]; exact hk), List.getElem?_eq_getElem _⟩
              obtain ⟨gx, hgx, cx'⟩ := (Y13.out.turn hT (fun k hk e => by omega)).at rfl hy
              subst hgx
              have hyb := hYd.out y (List.mem_of_getElem? hy)
              have cv := hV.cell (bvs_get (S := XL ++ YL.take k) (k := y) (by omega))
              have fv := hV.frozen y
              have hend := Lib.hid (show Vw (wr.setCell ⟨ge, y, none⟩ (.bool true)) 40 ge (bvs (XL ++ YL.take (k + 1))) ∧ TurnS (fun k => k = ge) w13 (wr.setCell ⟨ge, y, none⟩ (.bool true)) from
                ⟨by rw [take_snoc hy, ← List.append_assoc, ← bvs_set (by omega)]; exact hV.set y _, hT.trans (TurnS.set (fun k => k = ge) wr (s := ge) (show ge = ge from rfl) y _)⟩)
              clear hV hT hy
              go_wp2_with (go_at_call 6; refine (low_in y 15 _ (by omega) (by omega)).mono ?_; rintro e w14 ⟨rfl, rfl⟩)
              go_roundg g
              case measure => omega
              case rel => exact ⟨k + 1, by omega, by go_num, hend.out⟩
            · have hke : k = ny := by omega
              subst hke
              rw [List.take_of_length_le (by rw [hny'.out]; omega)] at hV
              obtain ⟨S, hS⟩ : ∃ S, XL ++ YL = S := ⟨_, rfl⟩
              rw [hS] at hV
              have hSm := Lib.hid (show ∀ z, z ∈ S ↔ z ∈ O3 from fun z => by rw [← hS, List.mem_append, hXm.out, hYm.out, hq3.out])
              have L14 := Lib.hid (L13.out.turn hT (fun k ⟨r, hr⟩ e => by rw [e, hge.out] at hr; cases hr) (fun k e => by rw [e]; exact hwg))
              have Z14 := Lib.hid (Z13.out.turn hT (fun k hk e => by omega))
              have V14 := Lib.hid hV
              clear hV hT hS hV' hT'
              obtain ⟨w14, hw14⟩ : ∃ w14, wr = w14 := ⟨_, rfl⟩
              rw [hw14] at L14 Z14 V14 ⊢
              clear hw14
              go_wp2_with fail
              go_loopg [19, 20] many (fun g v19 v20 wr => ∃ i : Nat, 1 ≤ i ∧ i ≤ many + 1 ∧ i + g = many + 1 ∧ v20 = .int .i64 (i : Int) ∧ OwnZ wr w14.heap.size v19 ((idsN (i - 1)).filter fun k => decide (k ∈ S)) ∧ Below w14.heap.size w14 wr)
              case atStart => exact ⟨1, by omega, by omega, by omega, rfl, OwnZ.nil _ _, Below.refl _ _⟩
              case round =>
                obtain ⟨i, hi1, hi2, hig, rfl, hown, hbel⟩ := hrel
                have hsz := hbel.size
                have V15 := V14.out.on' hbel
                by_cases hi : i ≤ many
                · obtain ⟨g, rfl⟩ : ∃ g, gk = g + 1 := ⟨gk - 1, by omega⟩
                  have t4 : decide ((i : Int) ≤ (many : Int)) = true := decide_eq_true (by omega)
                  have cv := V15.cell (bvs_get (S := S) (k := i) (by omega))
                  by_cases hiS : i ∈ S
                  · rw [decide_eq_true hiS] at cv
                    have hfl := Lib.hid (upto_filter_yes hi1 hiS)
                    have hown' := Lib.hid hown
                    have hbel' := Lib.hid hbel
                    have hll : ((idsN (i - 1)).filter fun k => decide (k ∈ S)).length ≤ 14 := Nat.le_trans (List.length_filter_le _ _) (by rw [idsN_len]; omega)
                    clear hown hbel V15
                    go_wp2_with (at_builtin; refine wpList_append_nat rfl _ _ rfl w14.heap.size _ _ rfl (hown'.out.alloc _) _ _ i rfl (nat_new _ _) (by omega) (by rw [size_alloc]; omega) ?_; intro v' w4 ho4 hg4 hat4)
                    go_roundg g
                    case measure => omega
                    case rel =>
                      refine ⟨i + 1, by omega, by omega, by omega, by go_num, ?_, ?_⟩
                      · rw [show i + 1 - 1 = i by omega, hfl.out]; exact ho4.out
                      · exact (hbel'.out.alloc hsz _).grown hg4.out (by rw [size_alloc]; omega) (fun j hj => (hown'.out.block j hj).1)
                  · rw [decide_eq_false hiS] at cv
                    have hfl := Lib.hid (upto_filter_no hi1 hiS)
                    have hown' := Lib.hid hown
                    have hbel' := Lib.hid hbel
                    clear hown hbel V15
                    go_wp2_with fail
                    go_roundg g
                    case measure => omega
                    case rel => exact ⟨i + 1, by omega, by omega, by omega, by go_num, by rw [show i + 1 - 1 = i by omega, hfl.out]; exact hown'.out, hbel'.out⟩
                · have hie : i = many + 1 := by omega
                  subst hie
                  have hW := Lib.hid (show srt O3 = (idsN many).filter (fun k => decide (k ∈ S)) from srt_is hm3'.out ((idsN_rise many).filter _) fun z => by
                    rw [List.mem_filter, decide_eq_true_eq, hSm.out, idsN_mem]
                    constructor
                    · intro h
                      refine ⟨?_, h⟩
                      rcases (hq3.out z).1 h with h1 | h1
                      · exact hs1.out z h1
                      · exact hs2.out z h1
                    · intro h; exact h.2)
                  have hW' : (idsN (many + 1 - 1)).filter (fun k => decide (k ∈ S)) = srt O3 := hW.out.symm
                  rw [hW'] at hown
                  obtain ⟨aw, cw, hvw, _, iw⟩ := hown.ints
                  rw [hnz'.out] at hvw iw
                  subst hvw
                  have W15 := Lib.hid iw
                  have V16 := Lib.hid V15
                  have L16 := Lib.hid (L14.out.on hbel)
                  have Z16 := Lib.hid (Z14.out.on hbel)
                  clear hown hbel V15 iw hW'
                  obtain ⟨da, hda⟩ : ∃ da, mx (lvL L) O1 = da := ⟨_, rfl⟩
                  obtain ⟨db, hdb⟩ : ∃ db, mx (lvL L) O2 = db := ⟨_, rfl⟩
                  have hd3 := Lib.hid (show mx (lvL L) O3 = max da db by rw [mx_union (hq3.out), hda, hdb])
                  have hda' := Lib.hid hda
                  have hdb' := Lib.hid hdb
                  clear hda hdb
                  go_wp2_with fail
                  have L17 := Lib.hid (L16.out.on ((Below.refl _ _).alloc (Nat.le_refl _) (.cells #[.int .i64 (xa : Int)] 3)))
                  have B17 := Lib.hid ((Below.refl wr.heap.size wr).alloc (Nat.le_refl _) (.cells #[.int .i64 (xa : Int)] 3))
                  refine (levels_c (R := fun _ => (xa : Int)) (lv := lvL L) (cap := 1) L17.out.gr L17.out.ok (deepL L17.out) (by omega) (ints1 wr xa) (fun k _ => by omega)).mono ?_
                  rintro e w18 ⟨⟨v, S1, LL, Oa, rfl, hls, hlv, hn, hsub, hcl⟩, hb⟩
                  obtain ⟨ada, cda, hva⟩ := levs_len hls hlv (P := O1) fun z => by rw [hcl, clo_one (hsub2'.out xa (by simp)), hq1.out]
                  rw [hda'.out] at hva
                  subst hva
                  have L18 := Lib.hid (L17.out.on hb)
                  have B18 := Lib.hid (B17.out.trans (hb.mono B17.out.size))
                  clear hls hlv hn hsub hcl hb
                  go_wp2_with fail
                  have L19 := Lib.hid (L18.out.on ((Below.refl _ _).alloc (Nat.le_refl _) (.cells #[.int .i64 (xb : Int)] 3)))
                  have B19 := Lib.hid (B18.out.trans (((Below.refl _ _).alloc (Nat.le_refl _) (.cells #[.int .i64 (xb : Int)] 3)).mono B18.out.size))
                  refine (levels_c (R := fun _ => (xb : Int)) (lv := lvL L) (cap := 1) L19.out.gr L19.out.ok (deepL L19.out) (by omega) (ints1 w18 xb) (fun k _ => by omega)).mono ?_
                  rintro e w20 ⟨⟨v, S1, LL, Oa, rfl, hls, hlv, hn, hsub, hcl⟩, hb⟩
                  obtain ⟨adb, cdb, hvb⟩ := levs_len hls hlv (P := O2) fun z => by rw [hcl, clo_one (hsub2'.out xb (by simp)), hq2.out]
                  rw [hdb'.out] at hvb
                  subst hvb
                  have L20 := Lib.hid (L19.out.on hb)
                  have B20 := Lib.hid (B19.out.trans (hb.mono B19.out.size))
                  clear hls hlv hn hsub hcl hb
                  go_wp2_with fail
                  have Z20 := Lib.hid (Z16.out.on B20.out)
                  have V20 := Lib.hid (V16.out.on' B20.out)
                  have zi20 : Hid (IntsAt w20 az nz (fun k => (((srt O3).getD k 0 : Nat) : Int))) := Lib.hid (by
                    obtain ⟨a', c', hv, _, hi⟩ := Z20.out.ints
                    rw [hnz'.out] at hv hi
                    obtain ⟨rfl, _, _⟩ := Value.slice.inj hv
                    exact hi)
                  have wi20 := Lib.hid (W15.out.on B20.out rfl)
                  refine (sameI_any az aw cz cw nz _ _ _ (by omega) zi20.out wi20.out (fun _ _ => rfl)).mono ?_
                  rintro e w21 ⟨rfl, hb21⟩
                  have L21 := Lib.hid (L20.out.on hb21)
                  have V21 := Lib.hid (V20.out.on' hb21)
                  have zi21 := Lib.hid (zi20.out.on hb21 rfl)
                  clear hb21 zi20 wi20 W15 Z20 V20
                  go_wp2_with fail
                  have Bq := Lib.hid ((Below.refl w21.heap.size w21).alloc (Nat.le_refl _) (.cells #[.int .i64 (xa : Int), .int .i64 (xb : Int)] 3))
                  have L22 := Lib.hid (L21.out.on Bq.out)
                  have V22 := Lib.hid (V21.out.on' Bq.out)
                  have zi22 := Lib.hid (zi21.out.on Bq.out rfl)
                  refine (levels_c (R := fun k => (([xa, xb].getD k 0 : Nat) : Int)) (lv := lvL L) (cap := 2) L22.out.gr L22.out.ok (deepL L22.out) (by omega) (ints2 w21 xa xb) (fun k hk => ?_)).mono ?_
                  · rcases (show k = 0 ∨ k = 1 by omega) with rfl | rfl
                    · show _ ≤ (xa : Int) ∧ (xa : Int) ≤ _; omega
                    · show _ ≤ (xb : Int) ∧ (xb : Int) ≤ _; omega
                  rintro e w23 ⟨⟨v, S1, LL, Oa, rfl, hls, hlv, hn, hsub, hcl⟩, hb⟩
                  obtain ⟨adc, cdc, hvc⟩ := levs_len hls hlv (P := O3) fun z => by rw [hcl, clo_list (n := 2) hsub2'.out rfl, hq3.out, hq1.out, hq2.out]; simp
                  rw [hd3.out] at hvc
                  subst hvc
                  have L23 := Lib.hid (L22.out.on hb)
                  have V23 := Lib.hid (V22.out.on' hb)
                  have zi23 := Lib.hid (zi22.out.on hb rfl)
                  clear hls hlv hn hsub hcl hb Bq
                  have t7 : (((max da db : Nat) : Int) == max (da : Int) (db : Int)) = true := by rw [beq_iff_eq]; omega
                  go_wp2_with fail
                  have Bq := Lib.hid ((Below.refl w23.heap.size w23).alloc (Nat.le_refl _) (.cells #[.int .i64 (xb : Int), .int .i64 (xa : Int), .int .i64 (xb : Int)] 3))
                  have L24 := Lib.hid (L23.out.on Bq.out)
                  have V24 := Lib.hid (V23.out.on' Bq.out)
                  have zi24 := Lib.hid (zi23.out.on Bq.out rfl)
                  have hsub5 : ∀ x ∈ [xb, xa, xb], x ∈ G.ids := fun x hx => by
                    simp at hx
                    rcases hx with rfl | rfl | rfl
                    · exact hsub2'.out _ (by simp)
                    · exact hsub2'.out _ (by simp)
                    · exact hsub2'.out _ (by simp)
                  refine (closure_c (R := fun k => (([xb, xa, xb].getD k 0 : Nat) : Int)) (cap := 3) L24.out.gr L24.out.ok (by omega) (ints3 w23 xb xa xb) (fun k hk => ?_)).mono ?_
                  · rcases (show k = 0 ∨ k = 1 ∨ k = 2 by omega) with rfl | rfl | rfl
                    · show _ ≤ (xb : Int) ∧ (xb : Int) ≤ _; omega
                    · show _ ≤ (xa : Int) ∧ (xa : Int) ≤ _; omega
                    · show _ ≤ (xb : Int) ∧ (xb : Int) ≤ _; omega
                  rintro e w25 ⟨⟨v, O5, rfl, hown, hn, hsub, hcl⟩, hb⟩
                  have h53 : ∀ z, z ∈ O5 ↔ z ∈ O3 := fun z => by
                    rw [hcl, clo_list (n := 3) hsub5 rfl, hq3.out, hq1.out, hq2.out]
                    constructor
                    · rintro ⟨x, hx, hr⟩
                      rcases List.mem_cons.1 hx with e | hx
                      · rw [e] at hr; exact .inr hr
                      · rcases List.mem_cons.1 hx with e | hx
                        · rw [e] at hr; exact .inl hr
                        · rcases List.mem_cons.1 hx with e | hx
                          · rw [e] at hr; exact .inr hr
                          · cases hx
                    · rintro (h | h)
                      · exact ⟨xa, by simp, h⟩
                      · exact ⟨xb, by simp, h⟩
                  have hs5 : srt O5 = srt O3 := by
                    rw [hW.out]
                    exact srt_is hn ((idsN_rise many).filter _) fun z => by rw [← hW.out, srt_mem, h53]
                  rw [hs5] at hown
                  obtain ⟨a5, c5, hv5, _, hi5⟩ := hown.ints
                  rw [hnz'.out] at hv5 hi5
                  subst hv5
                  have i5 := Lib.hid hi5
                  have L25 := Lib.hid (L24.out.on hb)
                  have V25 := Lib.hid (V24.out.on' hb)
                  have zi25 := Lib.hid (zi24.out.on hb rfl)
                  clear hown hn hsub hcl hb Bq hi5 hs5 h53 hsub5
                  go_wp2_with fail
                  refine (sameI_any a5 az c5 cz nz _ _ _ (by omega) i5.out zi25.out (fun _ _ => rfl)).mono ?_
                  rintro e w26 ⟨rfl, hb26⟩
                  have L26 := Lib.hid (L25.out.on hb26)
                  have V26 := V25.out.on' hb26
                  have ka := V26.cell (bvs_get (S := S) (k := xa) (by omega))
                  have kb := V26.cell (bvs_get (S := S) (k := xb) (by omega))
                  rw [decide_eq_true ((hSm.out xa).2 ((hq3.out xa).2 (.inl ((hq1.out xa).2 .refl))))] at ka
                  rw [decide_eq_true ((hSm.out xb).2 ((hq3.out xb).2 (.inr ((hq2.out xb).2 .refl))))] at kb
                  clear hb26 i5 zi25 V26
                  go_wp2_with fail
                  refine (hall'.out a M w26 _ G L26.out.gr).mono ?_
                  rintro e w27 ⟨adl, cdl, rfl, hb27⟩
                  have hgl2 : G.ids.length = many := by rw [L26.out.who, idsN_len]
                  rw [hgl2]
                  have L27 := Lib.hid (L26.out.on hb27)
                  clear hb27 hgl2 ka kb
                  go_wp2_with fail
                  refine (awake_any _).mono ?_
                  rintro e w28 ⟨rfl, hb28⟩
                  have hfin := Lib.hid (L27.out.bel.trans (hb28.mono L27.out.bel.size))
                  clear hb28
                  go_wp2_with fail
                  go_ret
                  exact ⟨rfl, hfin.out⟩
end
end Go.Proofs.Ytgkmmdkagiohgaa
