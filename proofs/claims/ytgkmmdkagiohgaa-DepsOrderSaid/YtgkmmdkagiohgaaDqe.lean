/-
  DepsOrder answers true.
-/
import Derived.Test.YtgkmmdkagiohgaaB13
set_option linter.unusedVariables false
set_option linter.unusedSimpArgs false
namespace Go.Proofs.Ytgkmmdkagiohgaa
open Go.RowKit BigFrame
set_option maxRecDepth 100000
variable {w w' wr w0 : World} {W B a M : Nat} {G : Gr} {ρ : Nat → Nat} {ids : List Nat} {dn : Nat → List Nat}

def nid (x : Nat) : Nat := x
section
attribute [local go_sem ↓] ldU_of stU_of
set_option maxHeartbeats 16000000 in
theorem order_any (z : Int) (n1 c1 : Nat) (a1 : Option Addr) (R1 : Nat → Int) (n2 c2 : Nat) (a2 : Option Addr) (R2 : Nat → Int) (w : World) (x1 : IntsAt w a1 n1 R1) (x2 : IntsAt w a2 n2 R2) (b2 : ∀ k, k < n2 → -9223372036854775808 ≤ R2 k ∧ R2 k ≤ 9223372036854775807) :
    Calls Try.prog 3 #[.int .i64 z, .slice a1 n1 c1, .slice a2 n2 c2] w (Woke w) := by
  have x1' := Lib.hid x1
  have x2' := Lib.hid x2
  have b2' := Lib.hid b2
  clear x1 x2 b2
  go_enter Try.func3, Try.ntmps3
  go_wp2_with fail
  refine (low_nat z 21 w (by omega) (by omega)).mono ?_
  rintro e w1 ⟨many, hm, rfl, rfl⟩
  by_cases hn2 : 20 < n2
  · have t2 : decide ((20 : Int) < (n2 : Int)) = true := decide_eq_true (by omega)
    go_wp2_with fail
    refine (awake_any _).mono ?_
    rintro e w2 ⟨rfl, hb⟩
    have hb' := Lib.hid hb
    clear hb
    go_wp2_with fail
    go_ret
    exact ⟨rfl, hb'.out⟩
  · have t2 : decide ((20 : Int) < (n2 : Int)) = false := decide_eq_false (by omega)
    go_wp2_with fail
    refine (live_new nid w).mono ?_
    rintro e w2 ⟨a, M, G0, rfl, hL0, hO0⟩
    have L0 := Lib.hid hL0
    have O0 := Lib.hid hO0
    clear hL0 hO0
    go_wp2_with fail
    go_loopg [8] (many + 1) (fun g v8 wr => ∃ i : Nat, i + g = many + 1 ∧ i ≤ many ∧ v8 = .int .i64 ((i + 1 : Nat) : Int) ∧ ∃ G, Lv w a M nid G (idsN i) (fun _ => []) wr)
    case atStart => exact ⟨0, by omega, by omega, rfl, G0, L0.out⟩
    case round =>
      obtain ⟨i, hig, hile, rfl, G, hL⟩ := hrel
      by_cases hi : i + 1 ≤ many
      · obtain ⟨g, rfl⟩ : ∃ g, gk = g + 1 := ⟨gk - 1, by omega⟩
        have hadd := Lib.hid (live_add hL (i := i + 1) (by rw [idsN_mem]; omega) (by omega) (by omega) (by rw [idsN_len]; omega))
        clear hL
        go_wp2_with (go_at_call 9; refine hadd.out.mono ?_; rintro e w3 ⟨rfl, G', hL', _⟩; have L' := Lib.hid (show Lv w a M nid G' (idsN (i + 1)) (fun _ => []) w3 by rw [idsN_succ]; exact hL'.cong fun j hj => by split <;> rfl); clear hL')
        go_roundg g
        case measure => omega
        case rel => exact ⟨i + 1, by omega, by omega, by go_num, G', L'.out⟩
      · have him : many = i := by omega
        subst him
        have hL' := Lib.hid hL
        have hwn := Lib.hid (wants_c (cap := c1) many (by omega) (x1'.out.on hL.bel rfl))
        clear hL
        have t3 : decide ((many : Int) + 1 ≤ (many : Int)) = false := decide_eq_false (by omega)
        have ev := Lib.hid (Value.agg.injEq)
        go_wp2_with fail
        refine hwn.out.mono ?_
        rintro e w3 ⟨L, rfl, hLl, hb3⟩
        have L3 := Lib.hid (hL'.out.on hb3)
        obtain ⟨Z, hZ⟩ : ∃ Z, zz 21 = Z := ⟨_, rfl⟩
        have hZl := Lib.hid (show Z.length = 21 by rw [← hZ]; exact zz_length 21)
        have hZ' := Lib.hid hZ
        have hLl' := Lib.hid hLl
        clear hb3 hwn hL' hZ hLl
        unfold av
        go_wp2_with (refine wpList_alloc_U rfl rfl ?_; intro g1 w4 hv4 hg4 hb4; rw [hZ'.out] at hv4; have hst := run_stU (w := w4) hLl'.out (hv4.out.there (o := 0) (n := 21) (by rw [hZl.out]; exact Nat.le_refl _)); unfold av at hst; have V4 := Lib.hid (hv4.out.over (m := L) (by rw [hLl'.out, hZl.out])); have B4 := Lib.hid (below_setCells hb4 (Nat.le_of_eq hg4.symm) 0 (iv L)); clear hb4 hv4; subst hg4)
        obtain ⟨w5, hw5⟩ : ∃ w5, w4.setCells w3.heap.size 0 (iv L) = w5 := ⟨_, rfl⟩
        rw [hw5] at V4 B4 ⊢
        have L5 := Lib.hid (L3.out.on B4.out)
        have hnd : Hid (G.own w3.heap.size = none) := Lib.hid (by
          cases hc : G.own w3.heap.size with
          | none => rfl
          | some r => have := (L3.out.gr.hi _ _ hc).2; omega)
        have hwn3 := L3.out.bel.size
        obtain ⟨gn, hgn⟩ : ∃ gn, w3.heap.size = gn := ⟨_, rfl⟩
        rw [hgn] at V4 hnd hwn3 ⊢
        have hgn5 := V4.out.lt
        clear hw5 hgn B4 L3 hst
        have hrel2 := Lib.hid (show ∃ G, Lv w a M nid G (idsN many) (dnAt L 1 1) w5 ∧ Vi w5 29 gn L ∧ G.own gn = none from ⟨G, L5.out.cong fun j hj => by
          have := (idsN_mem.1 hj).1
          unfold dnAt
          rw [if_neg (by omega)]
          by_cases e : j = 1
          · rw [if_pos e]; rfl
          · rw [if_neg e], V4.out, hnd.out⟩)
        clear L5 V4 hnd hgn5
        go_loopg [10, 11] many (fun g v10 v11 wr => ∃ i : Nat, 1 ≤ i ∧ i ≤ many + 1 ∧ i + g = many + 1 ∧ v10 = .int .i64 (i : Int) ∧ ∃ G, Lv w a M nid G (idsN many) (dnAt L i 1) wr ∧ Vi wr 29 gn L ∧ G.own gn = none)
        case atStart => exact ⟨1, by omega, by omega, by omega, rfl, hrel2.out⟩
        case round =>
          obtain ⟨i, hi1, hi2, hig, rfl, G, hL, hV, hO⟩ := hrel
          by_cases hi : i ≤ many
          · obtain ⟨g, rfl⟩ : ∃ g, gk = g + 1 := ⟨gk - 1, by omega⟩
            have hrel3 := Lib.hid (show ∃ G, Lv w a M nid G (idsN many) (dnAt L i 1) wr ∧ Vi wr 29 gn L ∧ G.own gn = none from ⟨G, hL, hV, hO⟩)
            clear hL hV hO
            have t4 : decide ((i : Int) ≤ (many : Int)) = true := decide_eq_true (by omega)
            go_wp2_with fail
            go_loopg [11] i (fun g2 v11 wr => ∃ k : Nat, 1 ≤ k ∧ k ≤ i ∧ k + g2 = i + 1 ∧ v11 = .int .i64 (k : Int) ∧ ∃ G, Lv w a M nid G (idsN many) (dnAt L i k) wr ∧ Vi wr 29 gn L ∧ G.own gn = none)
            case atStart => exact ⟨1, by omega, by omega, by omega, rfl, hrel3.out⟩
            case round =>
              obtain ⟨k, hk1, hk2, hkg, rfl, G, hL, hV, hO⟩ := hrel
              by_cases hk : k < i
              · obtain ⟨g2, rfl⟩ : ∃ g, gk = g + 1 := ⟨gk - 1, by omega⟩
                have cn := hV.cell (k := i) (by rw [hLl'.out]; omega)
                obtain ⟨A, hA⟩ : ∃ A, zi L i = A := ⟨_, rfl⟩
                rw [hA] at cn
                have hA' := Lib.hid hA
                have hL' := Lib.hid hL
                have hV' := Lib.hid hV
                have hO' := Lib.hid hO
                have hup := Lib.hid (show ∀ q, bitF A k = q → upto L i (k + 1) = if q = true then upto L i k ++ [k] else upto L i k from fun q hq => by
                  rw [← hA] at hq
                  cases q
                  · rw [if_neg (by decide), upto_no hq]
                  · rw [if_pos rfl, upto_yes hk1 hq])
                clear hL hV hO hA
                cases hF : bitF A k
                · have hu := Lib.hid (hup.out _ hF)
                  unfold bitF at hF
                  have hend := Lib.hid (show ∃ G, Lv w a M nid G (idsN many) (dnAt L i (k + 1)) wr ∧ Vi wr 29 gn L ∧ G.own gn = none from ⟨G, hL'.out.cong fun j hj => by
                    unfold dnAt
                    rw [hu.out, if_neg (by decide : ¬ (false = true))], hV'.out, hO'.out⟩)
                  go_wp2_with fail
                  go_roundg g2
                  case measure => omega
                  case rel => exact ⟨k + 1, by omega, by omega, by omega, by go_num, hend.out⟩
                · have hu := Lib.hid (hup.out _ hF)
                  unfold bitF at hF
                  have hdi : dnAt L i k i = upto L i k := by unfold dnAt; rw [if_neg (by omega), if_pos rfl]
                  have hne := Lib.hid (live_need hL'.out (i := i) (k := k) (by rw [idsN_mem]; omega) (by rw [idsN_mem]; omega) (by rw [hdi, upto_mem]; omega) (by show k < i; omega))
                  rw [hdi] at hne
                  have hdn := Lib.hid (show ∀ j, dnAt L i (k + 1) j = if j = i then upto L i k ++ [k] else dnAt L i k j from fun j => by
                    unfold dnAt
                    rw [hu.out, if_pos rfl]
                    by_cases e : j = i
                    · rw [if_neg (by omega), if_pos e, if_pos e]
                    · rw [if_neg e, if_neg e, if_neg e])
                  clear hdi
                  have hvl := hV'.out.lt
                  go_wp2_with fail
                  refine hne.out.mono ?_
                  rintro e w6 ⟨rfl, G6, hL6, hs6⟩
                  have L6 := Lib.hid (show Lv w a M nid G6 (idsN many) (dnAt L i (k + 1)) w6 from hL6.cong fun j _ => hdn.out j)
                  have V6 := Lib.hid (show Vi w6 29 gn L by unfold Vi; rw [hs6.block hvl hO'.out]; exact hV'.out)
                  have O6 := Lib.hid (hs6.free hvl hO'.out)
                  clear hL6 hs6
                  have hlo := Lib.hid (live_loop L6.out (i := i) (k := k) (by rw [idsN_mem]; omega) (by rw [idsN_mem]; omega) (by rw [hdn.out, if_pos rfl]; simp))
                  go_wp2_with fail
                  refine hlo.out.mono ?_
                  rintro e w7 ⟨rfl, hb7⟩
                  have hend := Lib.hid (show ∃ G, Lv w a M nid G (idsN many) (dnAt L i (k + 1)) w7 ∧ Vi w7 29 gn L ∧ G.own gn = none from ⟨G6, L6.out.on hb7, V6.out.on' hb7, O6.out⟩)
                  clear hb7
                  go_wp2_with fail
                  go_roundg g2
                  case measure => omega
                  case rel => exact ⟨k + 1, by omega, by omega, by omega, by go_num, hend.out⟩
              · have hke : i = k := by omega
                subst hke
                have hend := Lib.hid (show ∃ G, Lv w a M nid G (idsN many) (dnAt L (i + 1) 1) wr ∧ Vi wr 29 gn L ∧ G.own gn = none from ⟨G, hL.cong fun j _ => dnAt_next L i j, hV, hO⟩)
                clear hL hV hO
                go_wp2_with fail
                go_roundg g
                case measure => omega
                case rel => exact ⟨i + 1, by omega, by omega, by omega, by go_num, hend.out⟩
          · have hie : i = many + 1 := by omega
            subst hie
            have L6 := Lib.hid (show Lv w a M nid G (idsN many) (fun j => upto L j j) wr from hL.cong fun j hj => (dnAt_all L many (idsN_mem.1 hj)).symm)
            have V6 := Lib.hid hV
            have O6 := Lib.hid hO
            clear hL hV hO hrel2
            go_wp2_with (refine wpList_alloc_U rfl rfl ?_; intro ge w7 hv7 hg7 hb7; have V7 := Lib.hid hv7; have L7 := Lib.hid (L6.out.on hb7); have N7 := Lib.hid (V6.out.on' hb7); have hwg : w.heap.size ≤ ge := (by rw [hg7]; exact L6.out.bel.size); have hgeq := Lib.hid hg7; have hnl : gn < ge := (by rw [hg7]; exact V6.out.lt); clear hb7 hv7 hg7)
            refine (levels_c (lv := lvL L) (cap := c2) L7.out.gr L7.out.ok (deepL L7.out) (by omega) (x2'.out.on L7.out.bel rfl) b2'.out).mono ?_
            rintro e w8 ⟨⟨v, S, LL, O, rfl, hls, hlv, hon, hoi, hcl⟩, hb8⟩
            have L8 := Lib.hid (L7.out.on hb8)
            have N8 := Lib.hid (N7.out.on' hb8)
            have V8 := Lib.hid (V7.out.on' hb8)
            have hi8 : ∀ x ∈ O, 1 ≤ x ∧ x ≤ many := fun x hx => by
              have := hoi x hx
              rw [L7.out.who] at this
              exact idsN_mem.1 this
            have hOl : O.length ≤ 20 := by
              have := nodup_sub hon (m := idsN many) fun x hx => idsN_mem.2 (hi8 x hx)
              rw [idsN_len] at this
              omega
            have hcl' := Lib.hid (show ∀ z, z ∈ O ↔ Clo G R2 n2 z from hcl)
            have hFl : LL.length ≤ 20 := Nat.le_trans (lists_few hlv) hOl
            obtain ⟨B7, hB7⟩ : ∃ B7, w7.heap.size = B7 := ⟨_, rfl⟩
            rw [hB7] at hls
            have hgB : ge < B7 := by rw [← hB7]; exact V7.out.lt
            obtain ⟨F, hF⟩ : ∃ F, LL.map srt = F := ⟨_, rfl⟩
            rw [hF] at hls
            have hfl := Lib.hid (fun (p : Nat) (l : List Nat) (hl : F[p]? = some l) => srt_filter (p := p) (l := l) hlv (by rw [hF]; exact hl))
            have hlt := Lib.hid (show ∀ x ∈ O, lvL L x < F.length by rw [← hF, List.length_map]; exact hlv.lt)
            have hFl' : F.length ≤ 20 := by rw [← hF, List.length_map]; exact hFl
            obtain ⟨nF, hnF⟩ : ∃ nF, F.length = nF := ⟨_, rfl⟩
            obtain ⟨adv, capv, hvv, hcv⟩ := len_sl hls.row
            rw [hls.len, hnF] at hvv hcv
            have hge : G.own ge = none := by
              cases hc : G.own ge with
              | none => rfl
              | some r => have := (L6.out.gr.hi _ _ hc).2; have := hgeq.out; omega
            have hst := Lib.hid (show OSt (ρ := nid) w a M G (idsN many) (fun j => upto L j j) gn ge B7 L v S F (zz 21) w8 from ⟨L8.out, N8.out, hls, V8.out, hge, hnl, hgB, hwg⟩)
            have hon' := Lib.hid hon
            have hi8' := Lib.hid hi8
            have hnF' := Lib.hid hnF
            have hvv' := Lib.hid hvv
            rw [hnF] at hFl'
            clear hls hlv hon hoi hcl hb8 hi8 hF hFl hnF hcv L7 L8 N7 N8 V7 V8 V6 O6 L6 hB7 hge
            subst hvv
            have hlev0 := Lib.hid (show LevIs (lvL L) (Seen (lvL L) O [] 0 0) (zz 21) from ⟨zz_length 21, fun x hx => ⟨fun hq => by rcases hq.2 with h | ⟨_, h⟩; (omega); (simp at h), fun _ => zi_rep 21 x 0 (by omega)⟩⟩)
            have hc0 := Lib.hid (cntL_zero (lvL L) O)
            obtain ⟨lv, hlvn⟩ : ∃ lv, lvL L = lv := ⟨_, rfl⟩
            rw [hlvn] at hlev0 hc0 hfl hlt
            have hlvn' := Lib.hid hlvn
            clear hlvn
            go_wp2_with fail
            go_loopg [14, 15, 16, 17] nF (fun g v14 v15 v16 v17 wr => ∃ p : Nat, p + g = nF ∧ v15 = .int .i64 (p : Int) ∧ v14 = .int .i64 ((cntL lv O p : Nat) : Int) ∧ ∃ V, LevIs lv (Seen lv O [] p 0) V ∧ OSt (ρ := nid) w a M G (idsN many) (fun j => upto L j j) gn ge B7 L (.slice adv nF capv) S F V wr)
            case atStart => exact ⟨0, by omega, rfl, val_int (by rw [hc0.out]; rfl), zz 21, hlev0.out, hst.out⟩
            case round =>
              obtain ⟨p, hpg, rfl, rfl, V, hV, hS⟩ := hrel
              have hcb : cntL lv O p ≤ 20 := Nat.le_trans (List.length_filter_le _ _) hOl
              by_cases hp : p < nF
              · obtain ⟨g, rfl⟩ : ∃ g, gk = g + 1 := ⟨gk - 1, by omega⟩
                obtain ⟨l, hl⟩ : ∃ l, F[p]? = some l := ⟨F[p]'(by rw [hnF'.out]; exact hp), List.getElem?_eq_getElem _⟩
                obtain ⟨gv, ax, cs, hgv, cv, iv⟩ := hS.lists.get hnF'.out hl
                subst hgv
                obtain ⟨h1, h2, h3⟩ := hfl.out p l hl
                have hln := h3 hon'.out
                have hll : l.length ≤ 20 := by rw [h2]; exact Nat.le_trans (List.length_filter_le _ _) hOl
                obtain ⟨ln, hlen⟩ : ∃ ln, l.length = ln := ⟨_, rfl⟩
                have hmem := Lib.hid h1
                have hnd := Lib.hid hln
                have hlen' := Lib.hid hlen
                have hcnt := Lib.hid (show cntL lv O (p + 1) = cntL lv O p + ln by rw [cntL_succ, ← h2, hlen])
                obtain ⟨cp, hcp⟩ : ∃ cp, cntL lv O p = cp := ⟨_, rfl⟩
                rw [hcp] at hcnt hcb ⊢
                rw [hlen] at cv hll
                have hin0 := Lib.hid (show ∃ V, LevIs lv (Seen lv O l p 0) V ∧ OSt (ρ := nid) w a M G (idsN many) (fun j => upto L j j) gn ge B7 L (.slice (some ⟨gv, 0, none⟩) nF capv) S F V wr from ⟨V, hV.congr fun x _ => by simp [Seen], hS⟩)
                have hl' := Lib.hid hl
                clear hV hS iv h1 h2 h3 hln hlen hcp hl
                go_wp2_with fail
                go_loopg [14, 16, 17] ln (fun g2 v14 v16 v17 wr => ∃ k : Nat, k + g2 = ln ∧ v16 = .int .i64 (k : Int) ∧ v14 = .int .i64 ((cp + k : Nat) : Int) ∧ ∃ V, LevIs lv (Seen lv O l p k) V ∧ OSt (ρ := nid) w a M G (idsN many) (fun j => upto L j j) gn ge B7 L (.slice (some ⟨gv, 0, none⟩) nF capv) S F V wr)
                case atStart => exact ⟨0, by omega, rfl, rfl, hin0.out⟩
                case round =>
                  obtain ⟨k, hkg, rfl, rfl, V, hV, hS⟩ := hrel
                  obtain ⟨gv', ax, cs, hgv, cv, iv⟩ := hS.lists.get hnF'.out hl'.out
                  obtain rfl : gv = gv' := by
                    have := Option.some.inj hgv
                    exact (Addr.mk.inj this).1
                  rw [hlen'.out] at cv iv
                  by_cases hk : k < ln
                  · obtain ⟨g2, rfl⟩ : ∃ g, gk = g + 1 := ⟨gk - 1, by omega⟩
                    obtain ⟨y, hy⟩ : ∃ y, l[k]? = some y := ⟨l[k]'(by rw [hlen'.out]; exact hk), List.getElem?_eq_getElem _⟩
                    obtain ⟨gb, off, rfl, cy⟩ : ∃ gb off, ax = some ⟨gb, off, none⟩ ∧ wr.cell? ⟨gb, off + k, none⟩ = some (.int .i64 (y : Int)) := by
                      rcases iv with h0 | ⟨gb, off, e, hx⟩
                      · omega
                      · exact ⟨gb, off, e, by rw [hx k hk]; simp [List.getD, hy]⟩
                    obtain ⟨hyO, hyp⟩ := (hmem.out y).1 (List.mem_of_getElem? hy)
                    have hyb := hi8'.out y hyO
                    have hns : ¬ Seen lv O l p k y := fun hh => by
                      rcases hh.2 with h1 | ⟨_, h1⟩
                      · omega
                      · obtain ⟨i, hi⟩ := List.getElem?_of_mem h1
                        have hil := (List.getElem?_eq_some_iff.1 hi).1
                        rw [List.length_take] at hil
                        rw [List.getElem?_take, if_pos (by omega)] at hi
                        have := nodup_at hnd.out hi hy
                        omega
                    have ce := hS.lev.cell (k := y) (by rw [hV.1]; omega)
                    have fe := hS.lev.frozen y
                    rw [(hV.2 y (by omega)).2 hns] at ce
                    have u1 : decide ((y : Int) < 1) = false := decide_eq_false (by omega)
                    have u2 : decide ((many : Int) < (y : Int)) = false := decide_eq_false (by omega)
                    have hend := Lib.hid (show ∃ V, LevIs lv (Seen lv O l p (k + 1)) V ∧ OSt (ρ := nid) w a M G (idsN many) (fun j => upto L j j) gn ge B7 L (.slice (some ⟨gv, 0, none⟩) nF capv) S F V (wr.setCell ⟨ge, y, none⟩ (.int .i64 ((p : Int) + 1))) from
                      ⟨V.set y ((p : Int) + 1), by
                        have h1 := (hV.set (y := y) (by omega)).congr (Q' := Seen lv O l p (k + 1)) fun x _ => seen_next hy hyO hyp x
                        rw [hyp, show ((p + 1 : Nat) : Int) = (p : Int) + 1 by omega] at h1
                        exact h1, hS.put⟩)
                    clear hV hS iv hy hns hgv
                    go_wp2_with fail
                    go_roundg g2
                    case measure => omega
                    case rel => exact ⟨k + 1, by omega, by go_num, val_int (by omega), hend.out⟩
                  · have hke : k = ln := by omega
                    subst hke
                    have hend := Lib.hid (show ∃ V, LevIs lv (Seen lv O [] (p + 1) 0) V ∧ OSt (ρ := nid) w a M G (idsN many) (fun j => upto L j j) gn ge B7 L (.slice (some ⟨gv, 0, none⟩) nF capv) S F V wr from ⟨V, hV.congr fun x _ => seen_list hlen'.out.symm hmem.out x, hS⟩)
                    clear hV hS iv hgv
                    go_wp2_with fail
                    go_roundg g
                    case measure => omega
                    case rel => exact ⟨p + 1, by omega, by go_num, val_int (by rw [hcnt.out]), hend.out⟩
              · have hpe : p = nF := by omega
                subst hpe
                have hco : cntL lv O p = O.length := cntL_all fun x hx => by have := hlt.out x hx; rw [hnF'.out] at this; exact this
                rw [hco]
                have hV6 := Lib.hid (show LevIs lv (fun x => x ∈ O) V from hV.congr fun x _ => ⟨fun h => h.1, fun h => ⟨h, .inl (by have := hlt.out x h; rw [hnF'.out] at this; exact this)⟩⟩)
                have hS6 := Lib.hid hS
                obtain ⟨oN, hoN⟩ : ∃ oN, O.length = oN := ⟨_, rfl⟩
                have hoN' := Lib.hid hoN
                rw [hoN] at hOl ⊢
                clear hV hS hco hoN hcb hlev0 hc0 hst
                have hlvi := Lib.hid (show ∀ i, lv i = mx lv (upto L i i) from fun i => by rw [← hlvn'.out]; exact lvL_is L i)
                have hcls := Lib.hid (show ∀ i ∈ O, ∀ k ∈ upto L i i, k ∈ O from fun i hi k hk => by
                  obtain ⟨j, i0, q1, q2, q3, q4⟩ := (hcl'.out i).1 hi
                  refine (hcl'.out k).2 ⟨j, i0, q1, q2, q3, q4.step ?_⟩
                  rw [hS6.out.live.dn i (idsN_mem.2 (hi8'.out i hi))]
                  exact hk)
                go_wp2_with fail
                go_loopg [18, 19, 20] many (fun g v18 v19 v20 wr => ∃ i : Nat, 1 ≤ i ∧ i ≤ many + 1 ∧ i + g = many + 1 ∧ v18 = .int .i64 (i : Int) ∧ OSt (ρ := nid) w a M G (idsN many) (fun j => upto L j j) gn ge B7 L (.slice adv p capv) S F V wr)
                case atStart => exact ⟨1, by omega, by omega, by omega, rfl, hS6.out⟩
                case round =>
                  obtain ⟨i, hi1, hi2, hig, rfl, hS⟩ := hrel
                  by_cases hi : i ≤ many
                  · obtain ⟨g, rfl⟩ : ∃ g, gk = g + 1 := ⟨gk - 1, by omega⟩
                    have t6 : decide ((i : Int) ≤ (many : Int)) = true := decide_eq_true (by omega)
                    have hS7 := Lib.hid hS
                    by_cases hiO : i ∈ O
                    · have hci := (hV6.out.2 i (by omega)).1 hiO
                      obtain ⟨D, hD⟩ : ∃ D, lv i = D := ⟨_, rfl⟩
                      rw [hD, show ((D + 1 : Nat) : Int) = (D : Int) + 1 by omega] at hci
                      have hDb : D ≤ 20 := by have := hlt.out i hiO; rw [hD, hnF'.out] at this; omega
                      have hD' := Lib.hid hD
                      have hci' := Lib.hid hci
                      clear hS hci hD
                      go_wp2_with fail
                      go_loopg [19, 20] i (fun g2 v19 v20 wr => ∃ k : Nat, 1 ≤ k ∧ k ≤ i ∧ k + g2 = i + 1 ∧ v20 = .int .i64 (k : Int) ∧ v19 = .int .i64 ((mx lv (upto L i k) : Nat) : Int) ∧ OSt (ρ := nid) w a M G (idsN many) (fun j => upto L j j) gn ge B7 L (.slice adv p capv) S F V wr)
                      case atStart => exact ⟨1, by omega, by omega, by omega, rfl, rfl, hS7.out⟩
                      case round =>
                        obtain ⟨k, hk1, hk2, hkg, rfl, rfl, hS⟩ := hrel
                        have ci := hS.lev.cell (k := i) (by rw [hV6.out.1]; omega)
                        rw [hci'.out] at ci
                        have hDp : (0 : Int) < (D : Int) + 1 := by omega
                        by_cases hk : k < i
                        · obtain ⟨g2, rfl⟩ : ∃ g, gk = g + 1 := ⟨gk - 1, by omega⟩
                          have cn := hS.need.cell (k := i) (by rw [hLl'.out]; omega)
                          obtain ⟨A, hA⟩ : ∃ A, zi L i = A := ⟨_, rfl⟩
                          rw [hA] at cn
                          have hA' := Lib.hid hA
                          have hup := Lib.hid (show ∀ q, bitF A k = q → upto L i (k + 1) = if q = true then upto L i k ++ [k] else upto L i k from fun q hq => by
                            rw [← hA] at hq
                            cases q
                            · rw [if_neg (by decide), upto_no hq]
                            · rw [if_pos rfl, upto_yes hk1 hq])
                          have hmb : mx lv (upto L i k) ≤ 20 := mx_le fun y hy => by
                            obtain ⟨y1, y2, y3⟩ := upto_mem.1 hy
                            have := hlt.out y (hcls.out i hiO y (upto_mem.2 ⟨by omega, y2, y3⟩))
                            rw [hnF'.out] at this
                            omega
                          have hS8 := Lib.hid hS
                          clear hA
                          cases hF : bitF A k
                          · have hu := Lib.hid (hup.out _ hF)
                            unfold bitF at hF
                            clear hS
                            go_wp2_with fail
                            go_roundg g2
                            case measure => omega
                            case rel => exact ⟨k + 1, by omega, by omega, by omega, by go_num, val_int (by rw [hu.out, if_neg (by decide)]), hS8.out⟩
                          · have hu := Lib.hid (hup.out _ hF)
                            have hkU : k ∈ upto L i i := upto_mem.2 ⟨by omega, hk1, by rw [hA'.out]; exact hF⟩
                            have hkO := hcls.out i hiO k hkU
                            have hkl : lv k + 1 ≤ D := by rw [← hD'.out, hlvi.out i]; exact mx_ge hkU
                            have hck := (hV6.out.2 k (by omega)).1 hkO
                            have hms := Lib.hid (mx_snoc lv (upto L i k) k)
                            obtain ⟨C, hC⟩ : ∃ C, lv k = C := ⟨_, rfl⟩
                            rw [hC] at hkl hck hms
                            rw [show ((C + 1 : Nat) : Int) = (C : Int) + 1 by omega] at hck
                            have ck := hS.lev.cell (k := k) (by rw [hV6.out.1]; omega)
                            rw [hck] at ck
                            obtain ⟨E, hE⟩ : ∃ E, mx lv (upto L i k) = E := ⟨_, rfl⟩
                            rw [hE] at hmb hms ⊢
                            unfold bitF at hF
                            have t7 : (((C : Int) + 1) == 0) = false := by rw [beq_eq_false_iff_ne]; omega
                            have t8 : decide ((D : Int) + 1 ≤ (C : Int) + 1) = false := decide_eq_false (by omega)
                            clear hS hC hE hkU hkO hck
                            go_wp2_with fail
                            go_quiet (fail)
                            go_wp2_with fail
                            go_roundg g2
                            case measure => omega
                            case rel => exact ⟨k + 1, by omega, by omega, by omega, by go_num, val_int (by rw [hu.out, if_pos trivial, hms.out]; omega), hS8.out.drew _⟩
                        · have hke : i = k := by omega
                          subst hke
                          have hS8 := Lib.hid hS
                          rw [← hlvi.out i, hD'.out]
                          clear hS
                          go_wp2_with fail
                          go_roundg g
                          case measure => omega
                          case rel => exact ⟨i + 1, by omega, by omega, by omega, by go_num, hS8.out⟩
                    · have hci := (hV6.out.2 i (by omega)).2 hiO
                      have hci' := Lib.hid hci
                      clear hS hci
                      go_wp2_with fail
                      go_loopg [19, 20] 0 (fun g2 v19 v20 wr => v20 = .int .i64 1 ∧ v19 = .int .i64 0 ∧ OSt (ρ := nid) w a M G (idsN many) (fun j => upto L j j) gn ge B7 L (.slice adv p capv) S F V wr)
                      case atStart => exact ⟨rfl, rfl, hS7.out⟩
                      case round =>
                        obtain ⟨rfl, rfl, hS⟩ := hrel
                        have ci := hS.lev.cell (k := i) (by rw [hV6.out.1]; omega)
                        rw [hci'.out] at ci
                        have hS8 := Lib.hid hS
                        clear hS
                        go_wp2_with fail
                        all_goals (
                          go_roundg g
                          case measure => omega
                          case rel => exact ⟨i + 1, by omega, by omega, by omega, by go_num, hS8.out⟩)
                  · have hie : i = many + 1 := by omega
                    subst hie
                    have hS8 := Lib.hid hS
                    clear hS
                    go_wp2_with fail
                    go_loopg [21] n2 (fun g v21 wr => ∃ j : Nat, j + g = n2 ∧ v21 = .int .i64 (j : Int) ∧ OSt (ρ := nid) w a M G (idsN many) (fun j => upto L j j) gn ge B7 L (.slice adv p capv) S F V wr)
                    case atStart => exact ⟨0, by omega, rfl, hS8.out⟩
                    case round =>
                      obtain ⟨j, hjg, rfl, hS⟩ := hrel
                      by_cases hj : j < n2
                      · obtain ⟨g, rfl⟩ : ∃ g, gk = g + 1 := ⟨gk - 1, by omega⟩
                        obtain ⟨gb, off, rfl, cx⟩ : ∃ gb off, a2 = some ⟨gb, off, none⟩ ∧ wr.cell? ⟨gb, off + j, none⟩ = some (.int .i64 (R2 j)) := by
                          rcases x2'.out.on hS.live.bel rfl with h0 | ⟨gb, off, e, hx⟩
                          · omega
                          · exact ⟨gb, off, e, hx j hj⟩
                        have hr2 := Lib.hid (fun x : Nat => fun h : R2 j = (x : Int) => fun hx : 1 ≤ x ∧ x ≤ many => (hcl'.out x).2 ⟨j, x, hj, by rw [hS.live.who]; exact idsN_mem.2 hx, h, .refl⟩)
                        obtain ⟨X, hX⟩ : ∃ X, R2 j = X := ⟨_, rfl⟩
                        rw [hX] at cx hr2
                        by_cases u1 : 1 ≤ X
                        · by_cases u2 : X ≤ (many : Int)
                          · obtain ⟨x, rfl⟩ : ∃ x : Nat, X = (x : Int) := ⟨X.toNat, by omega⟩
                            have hxO := hr2.out x rfl (by omega)
                            have hcx := (hV6.out.2 x (by omega)).1 hxO
                            have ck := hS.lev.cell (k := x) (by rw [hV6.out.1]; omega)
                            rw [hcx, show ((lv x + 1 : Nat) : Int) = (lv x : Int) + 1 by omega] at ck
                            obtain ⟨D, hD⟩ : ∃ D, lv x = D := ⟨_, rfl⟩
                            rw [hD] at ck
                            have t1 : decide ((1 : Int) ≤ (x : Int)) = true := decide_eq_true u1
                            have t2 : decide ((x : Int) ≤ (many : Int)) = true := decide_eq_true u2
                            have t7 : (((D : Int) + 1) == 0) = false := by rw [beq_eq_false_iff_ne]; omega
                            have hS9 := Lib.hid hS
                            clear hS hX hr2 hxO hcx hD
                            go_wp2_with fail
                            go_roundg g
                            case measure => omega
                            case rel => exact ⟨j + 1, by omega, by go_num, hS9.out⟩
                          · have t1 : decide ((1 : Int) ≤ X) = true := decide_eq_true u1
                            have t2 : decide (X ≤ (many : Int)) = false := decide_eq_false u2
                            have hS9 := Lib.hid hS
                            clear hS hX hr2
                            go_wp2_with fail
                            go_roundg g
                            case measure => omega
                            case rel => exact ⟨j + 1, by omega, by go_num, hS9.out⟩
                        · have t1 : decide ((1 : Int) ≤ X) = false := decide_eq_false u1
                          have hS9 := Lib.hid hS
                          clear hS hX hr2
                          go_wp2_with fail
                          go_roundg g
                          case measure => omega
                          case rel => exact ⟨j + 1, by omega, by go_num, hS9.out⟩
                      · have hje : j = n2 := by omega
                        subst hje
                        have L9 := Lib.hid hS.live
                        have hcl9 := Lib.hid (closure_c (cap := c2) hS.live.gr hS.live.ok (by omega) (x2'.out.on hS.live.bel rfl) b2'.out)
                        clear hS
                        go_wp2_with fail
                        refine hcl9.out.mono ?_
                        rintro e w9 ⟨⟨v, O2, rfl, ho, hn, hsub, hcl2⟩, hb⟩
                        have hO2 : (srt O2).length = oN := by
                          rw [srt_len, ← hoN'.out]
                          exact ((List.perm_ext_iff_of_nodup hn hon'.out).2 fun z => by rw [hcl2, hcl'.out]).length_eq
                        obtain ⟨a9, c9, hv9, _, _⟩ := ho.ints
                        rw [hO2] at hv9
                        subst hv9
                        have L10 := Lib.hid (L9.out.on hb)
                        clear ho hn hsub hcl2 hb hO2
                        go_wp2_with fail
                        refine (awake_any _).mono ?_
                        rintro e w10 ⟨rfl, hb⟩
                        have hbw := Lib.hid (L10.out.bel.trans (hb.mono L10.out.bel.size))
                        clear hb
                        go_wp2_with fail
                        go_ret
                        exact ⟨rfl, hbw.out⟩
end
end Go.Proofs.Ytgkmmdkagiohgaa
