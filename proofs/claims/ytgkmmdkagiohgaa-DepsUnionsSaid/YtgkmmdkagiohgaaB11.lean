/-
  The levels of a closure: the walk.
-/
import Derived.Test.YtgkmmdkagiohgaaB10
import Derived.Deep.LoopGhost
import Derived.StillTailTactics
import Derived.Deep.DeepCutAuto
import Derived.Deep.CutBlock

section
set_option linter.unusedVariables false
set_option linter.unusedSimpArgs false
namespace Go.Proofs.Ytgkmmdkagiohgaa
open Go.RowKit BigFrame
set_option maxRecDepth 100000
variable {w w' wr : World} {W B a M : Nat} {G : Gr} {ρ : Nat → Nat} {lv : Nat → Nat}

/-- what the levels tell -/
structure LlPost (G : Gr) (lv : Nat → Nat) (R : Nat → Int) (n : Nat) (w : World) (e : Ending) (w' : World) : Prop where
  ex : ∃ v S LL O, e = .returned v ∧ LsAt w' w.heap.size v S (LL.map srt) ∧ LvOk lv O LL ∧ O.Nodup ∧ (∀ z ∈ O, z ∈ G.ids) ∧ ∀ z, z ∈ O ↔ Clo G R n z
  bel : Below w.heap.size w w'
def LevRel (w : World) (B a M : Nat) (G : Gr) (lv : Nat → Nat) (vo : Value) (O : List Nat) (k : Nat) (v : Value) (wr : World) : Prop :=
  ∃ S LL, LvAt w B a M G lv w.heap.size vo O wr v S LL (O.take k) ∧ LvOk lv (O.take k) LL ∧ LL.length ≤ k
theorem len_sl {n : Nat} {S : List Value} {v : Value} {t : TypeId} (h : w.ownsRow W t 1 v n S) : ∃ ad cap, v = .slice ad n cap ∧ (0 < n → ∃ g, ad = some ⟨g, 0, none⟩ ∧ ∀ k x, S[k]? = some x → w.cell? ⟨g, k, none⟩ = some x ∧ w.frozen? ⟨g, k, none⟩ = false) := by
  have h' := h
  rcases h.2 with ⟨rfl, h0⟩ | ⟨g, cap, cur, rfl, _⟩
  · exact ⟨none, 0, by rw [h0], fun hh => by omega⟩
  · refine ⟨_, cap, rfl, fun _ => ⟨g, rfl, fun k x hk => ⟨?_, World.ownsRow.frozenAt h' _⟩⟩⟩
    have hl := (List.getElem?_eq_some_iff.1 hk).1
    rw [World.ownsRow.cellAt h' k (by have := h'.1; omega)]
    exact hk
theorem nodup_at {O : List Nat} (h : O.Nodup) {i j x : Nat} (hi : O[i]? = some x) (hj : O[j]? = some x) : i = j := by
  have hp := List.pairwise_iff_getElem.1 h
  obtain ⟨i1, i2⟩ := List.getElem?_eq_some_iff.1 hi
  obtain ⟨j1, j2⟩ := List.getElem?_eq_some_iff.1 hj
  by_cases e : i < j
  · exact absurd (i2.trans j2.symm) (hp i j i1 j1 e)
  · by_cases e2 : j < i
    · exact absurd (j2.trans i2.symm) (hp j i j1 i1 e2)
    · omega
set_option maxHeartbeats 8000000 in
theorem levels_c {ad : Option Addr} {n cap : Nat} {R : Nat → Int} (h : GrMem w B a M G) (ho : GOk G ρ) (hd : Deep G lv) (hn : n ≤ 1000) (hR : IntsAt w ad n R) (hb : ∀ k, k < n → -9223372036854775808 ≤ R k ∧ R k ≤ 9223372036854775807) :
    Calls Try.prog 12 #[.pointer (some ⟨a, 0, none⟩), .slice ad n cap] w (LlPost G lv R n w) := by
  have hmm := @run_makeMap Try.prog
  have hb0 := (Below.refl w.heap.size w).alloc (Nat.le_refl _) (.map #[] 0)
  have hod := Lib.hid (ordered_c (w := w.alloc (.map #[] 0)) (cap := cap) (h.on hb0) ho hn (hR.on hb0 rfl) hb)
  have hM0 := Lib.hid (MapAt.made 3 w)
  have h' := Lib.hid h
  have ho' := Lib.hid ho
  have hd' := Lib.hid hd
  have hG := Lib.hid (fun k r (hk : G.own k = some r) => (h.hi k r hk).2)
  have hB0 := Lib.hid hb0
  clear h ho hd hR hb hb0
  go_enter Try.func12, Try.ntmps12
  go_wp2_with fail
  go_at_call 22
  refine hod.out.mono ?_
  rintro e w1 ⟨⟨vo, O, rfl, hs1, ok1, hc1⟩, hb1⟩
  obtain ⟨a1, cap1, hv1, _⟩ := hs1.slice
  obtain ⟨on, hon⟩ : ∃ on, O.length = on := ⟨_, rfl⟩
  rw [hon] at hv1
  have hOl : on ≤ 500 := by rw [← hon]; exact Nat.le_trans (nodup_sub ok1.nd ok1.sub) h'.out.few
  have hsz1 : (w.alloc (.map #[] 0)).heap.size = w.heap.size + 1 := size_alloc _ _
  have hrel0 := Lib.hid (show LevRel w B a M G lv vo O 0 (.slice none 0 0) w1 from
    ⟨[], [], ⟨hs1.lower (by omega), ⟨[], hM0.out.blk (hb1.block w.heap.size (by omega)), Nat.zero_le _, fun x => by simp [fndL]⟩, LsAt.nil _ _, (h'.out.on hB0.out).on hb1, hB0.out.trans (hb1.mono (by omega)), Nat.le_refl _⟩, LvOk.nil _, Nat.le_refl _⟩)
  have hOk := Lib.hid ok1
  have hC1 := Lib.hid hc1
  have hon' := Lib.hid hon
  have hv1' := Lib.hid hv1
  subst hv1
  clear hs1 hb1 ok1 hc1 hod hon hsz1
  go_wp2_with fail
  go_loopg [5, 8, 9, 11, 19] on (fun g v5 v8 v9 v11 v19 wr => ∃ k : Nat, k + g = on ∧ v19 = .int .i64 (k : Int) ∧ LevRel w B a M G lv (.slice a1 on cap1) O k v5 wr)
  case atStart => exact ⟨0, by omega, rfl, hrel0.out⟩
  case round =>
    obtain ⟨k, hkg, rfl, S, LL, hV, hL, hLk⟩ := hrel
    by_cases hlt : k < on
    · obtain ⟨g, rfl⟩ : ∃ g, gk = g + 1 := ⟨gk - 1, by omega⟩
      obtain ⟨x, hx⟩ : ∃ x, O[k]? = some x := ⟨O[k]'(by rw [hon'.out]; exact hlt), List.getElem?_eq_getElem _⟩
      have hxi := hOk.out.sub x (List.mem_of_getElem? hx)
      obtain ⟨gl, hgl, cx⟩ := hV.sl.at rfl hx
      subst hgl
      have cn := hV.gr.num hxi
      have hsl2 := hV.gr.set x hxi 0 (by omega)
      obtain ⟨ad2, cap2, hsv2, _⟩ := hsl2.sl.slice
      have cl := (hV.gr.row x hxi).cell (k := 1) rfl
      have hsv2' : G.s x 0 = _ := hsv2
      rw [hsv2'] at cl
      obtain ⟨nl, hnl⟩ : ∃ nl, (G.lk 0 x).length = nl := ⟨_, rfl⟩
      rw [hnl] at cl hsv2'
      have hn500 := hV.gr.len (by omega) hxi (fun y hy => ho'.out.inn 0 (by omega) x hxi y hy)
      rw [hnl] at hn500
      have hV' := Lib.hid hV
      have hL' := Lib.hid hL
      have hx' := Lib.hid hx
      have hnl' := Lib.hid hnl
      unfold pv at cx
      clear hV hL hx hsl2 hsv2 hnl
      go_wp2_with fail
      go_loopg [9, 11, 30] nl (fun g2 v9 v11 v30 wx => ∃ j : Nat, j + g2 = nl ∧ v30 = .int .i64 (j : Int) ∧ v9 = .int .i64 ((mx lv ((G.lk 0 x).take j) : Nat) : Int) ∧ wx = wr)
      case atStart => exact ⟨0, by omega, rfl, rfl, rfl⟩
      case round =>
        obtain ⟨j, hjg, rfl, rfl, hw⟩ := hrel
        subst hw
        by_cases hjn : j < nl
        · obtain ⟨g2, rfl⟩ : ∃ g, gk = g + 1 := ⟨gk - 1, by omega⟩
          obtain ⟨y, hy⟩ : ∃ y, (G.lk 0 x)[j]? = some y := ⟨(G.lk 0 x)[j]'(by rw [hnl'.out]; exact hjn), List.getElem?_eq_getElem _⟩
          have hyl := List.mem_of_getElem? hy
          have hyi := ho'.out.inn 0 (by omega) x hxi y hyl
          obtain ⟨gy, hgy, cy⟩ := (hV'.out.gr.set x hxi 0 (by omega)).sl.at hsv2' hy
          subst hgy
          have cyn := hV'.out.gr.num hyi
          have hpy := hV'.out.gr.pos y hyi
          have hyP : y ∈ O.take k := by
            obtain ⟨i, hi, hiy⟩ := hOk.out.top k x hx'.out y hyl
            have : (O.take k)[i]? = some y := by rw [List.getElem?_take, if_pos hi]; exact hiy
            exact List.mem_of_getElem? this
          have hlk := hV'.out.look hyP (by omega)
          have hlv := hL'.out.lt y hyP
          have hmx := Lib.hid (mx_snoc lv ((G.lk 0 x).take j) y)
          have htk := Lib.hid (take_snoc hy)
          have hmb : mx lv ((G.lk 0 x).take j) ≤ LL.length := mx_le fun z hz => by
            obtain ⟨i, hi, hiz⟩ := hOk.out.top k x hx'.out z (List.mem_of_mem_take hz)
            exact hL'.out.lt z (List.mem_of_getElem? (show (O.take k)[i]? = some z by rw [List.getElem?_take, if_pos hi]; exact hiz))
          obtain ⟨A, hA⟩ : ∃ A, mx lv ((G.lk 0 x).take j) = A := ⟨_, rfl⟩
          obtain ⟨C, hC⟩ : ∃ C, lv y = C := ⟨_, rfl⟩
          rw [hA] at hmb hmx ⊢
          rw [hC] at hlv hlk hmx
          unfold pv at cy
          clear hA hC hy hyl hyP
          go_wp2_with fail
          go_roundg g2
          case measure => omega
          case rel => exact ⟨j + 1, by omega, by go_num, val_int (by rw [htk.out, hmx.out]; omega), rfl⟩
        · have hjn' : j = nl := by omega
          subst hjn'
          have htn : (G.lk 0 x).take j = G.lk 0 x := List.take_of_length_le (by rw [hnl'.out]; omega)
          rw [htn, ← hd'.out x hxi]
          have hxP : x ∉ O.take k := fun hm => by
            obtain ⟨i, hi⟩ := List.getElem?_of_mem hm
            have hil := (List.getElem?_eq_some_iff.1 hi).1
            rw [List.length_take] at hil
            rw [List.getElem?_take, if_pos (by omega)] at hi
            have := nodup_at hOk.out.nd hi hx'.out
            omega
          have hDle : lv x ≤ LL.length := by
            rw [hd'.out x hxi]
            exact mx_le fun z hz => by
              obtain ⟨i, hi, hiz⟩ := hOk.out.top k x hx'.out z hz
              exact hL'.out.lt z (List.mem_of_getElem? (show (O.take k)[i]? = some z by rw [List.getElem?_take, if_pos hi]; exact hiz))
          obtain ⟨l, m1, m2, m3⟩ := hV'.out.map
          have hml := Lib.hid (show l.length < maxLen by rw [List.length_take] at m2; unfold maxLen; omega)
          have hpl := Lib.hid (fun w2 hm ht => hV'.out.place (w' := w2) hG.out m1 m2 m3 hxP hm ht)
          have m1' := Lib.hid m1
          obtain ⟨ad5, cap5, hv5, hf5⟩ := len_sl hV'.out.ls.row
          have hSL := hV'.out.ls.len
          obtain ⟨q5, hq5⟩ : ∃ q5, S.length = q5 := ⟨_, rfl⟩
          rw [hq5] at hv5 hf5 hSL
          subst hv5
          have hpx := hV'.out.gr.pos x hxi
          have hLx := Lib.hid (fun h => hL'.out.more (x := x) h)
          have hLy := Lib.hid (fun l h1 h2 => hL'.out.into (x := x) (l := l) h1 h2)
          obtain ⟨D, hD⟩ : ∃ D, lv x = D := ⟨_, rfl⟩
          have hD' := Lib.hid hD
          rw [hD] at hDle hpl hLx hLy ⊢
          have hq5' := Lib.hid hq5
          have hsn5 : SlAt wr w.heap.size G.nb (.slice (some ⟨gl, 0, none⟩) on cap1) O := hV'.out.sl
          have hSL' := Lib.hid hSL
          rw [← hSL] at hDle hLk
          clear htn hxP m1 m2 m3 hf5 hD hq5 hsn5 hV' hSL
          by_cases hDq : D < q5
          · have hne : ((D : Int) == (q5 : Int)) = false := by rw [beq_eq_false_iff_ne]; omega
            go_upto_region 15 with (at_mapUpdate; refine wpList_map_store rfl _ _ _ rfl law_int Try.underlying49 w.heap.size l rfl m1'.out hml.out (.int .i64 (x : Int)) (.int .i64 (D : Int)) (.int .i64 (x : Int)) rfl rfl (key_nat (by omega)) ?_; intro w2 hm2 ht2; have hV2 := Lib.hid (hpl.out w2 hm2.out ht2.out))
            obtain ⟨s5, hs5'⟩ : ∃ s5, S[D]? = some s5 := ⟨S[D]'(by rw [hq5'.out]; exact hDq), List.getElem?_eq_getElem _⟩
            obtain ⟨l5, hl5'⟩ : ∃ l5, LL[D]? = some l5 := ⟨LL[D]'(by rw [← hSL'.out]; omega), List.getElem?_eq_getElem _⟩
            have hs5 := Lib.hid hs5'
            have hl5 := Lib.hid hl5'
            have hLf := Lib.hid (show l5 = (O.take k).filter fun y => decide (lv y = D) from by
              have := hL'.out.at' D (by rw [← hSL'.out]; omega)
              rw [hl5'] at this
              exact Option.some.inj this)
            have hK := Lib.hid (hLy.out l5 (by rw [← hSL'.out]; omega) hl5')
            obtain ⟨wz, hwz⟩ : ∃ wz, w2 = wz := ⟨_, rfl⟩
            have hZ := Lib.hid (hwz ▸ hV2.out)
            have hqz := Lib.hid hq5'.out
            have hLz := Lib.hid (show LL.length ≤ k + 1 by rw [← hSL'.out]; omega)
            subst hwz
            obtain ⟨wz, hwz⟩ : ∃ wz, w2 = wz := ⟨_, rfl⟩
            rw [hwz] at hZ ⊢
            clear hs5' hl5' hwz hV2 hm2 ht2 hpl hne
            have hl5l : l5.length ≤ 500 := by
              have h1 := hLf.out
              rw [h1]
              have h2 := List.length_filter_le (fun y => decide (lv y = D)) (O.take k)
              rw [List.length_take] at h2
              omega
            have ho5 := hZ.out.ls.each D s5 l5 hs5.out hl5.out
            obtain ⟨as5, sc5, hsf5, _⟩ := ho5.ints
            obtain ⟨sn5, hsn5⟩ : ∃ sn5, l5.length = sn5 := ⟨_, rfl⟩
            rw [hsn5] at hsf5
            have hrow5 := hZ.out.ls.row
            obtain ⟨adz, capz, hvz, hfz⟩ := len_sl hrow5
            rw [hqz.out] at hvz hfz
            obtain ⟨gz, hgz, hcz⟩ := hfz (by omega)
            have hzz := Value.slice.inj hvz
            obtain ⟨rfl, _, rfl⟩ := hzz
            subst hgz
            obtain ⟨ks, fs⟩ := hcz D s5 hs5.out
            have kn := hZ.out.gr.num hxi
            have hgzl := (hZ.out.ls.block gz (.inl rfl)).2
            have ka : (wz.alloc (.cells #[.int .i64 (x : Int)] 3)).cell? ⟨gz, D, none⟩ = some s5 := by rw [World.cell?_of_block (w := wz) (old_alloc wz _ gz hgzl)]; exact ks
            have hOa := Lib.hid (show OwnZ (wz.alloc (.cells #[.int .i64 (x : Int)] 3)).drew w.heap.size s5 l5 from (ho5.alloc _).blk fun _ _ => rfl)
            have hBa : Hid (w.heap.size ≤ (wz.alloc (.cells #[.int .i64 (x : Int)] 3)).heap.size) := Lib.hid (by rw [size_alloc]; have := hZ.out.bel.size; omega)
            have hne5 : s5.ownBlock ≠ some gz := fun e => row_apart (t := 22) (u := 3) hrow5 ho5 (by decide) (k := gz) rfl e
            have hk4 := Lib.hid (fun (w4 : World) (hg : ((wz.alloc (.cells #[.int .i64 (x : Int)] 3)).drew).grownBy w4 s5.ownBlock) => show w4.cell? ⟨gz, D, none⟩ = some s5 ∧ w4.frozen? ⟨gz, D, none⟩ = false from by
              have e := (hg.block gz (by show gz < (wz.alloc _).heap.size; rw [size_alloc]; omega) (Ne.symm hne5)).trans (old_alloc wz _ gz hgzl)
              exact ⟨by rw [World.cell?_of_block (w := wz) e]; exact ks, by rw [World.frozen?_of_block (w := wz) e]; exact fs⟩)
            have hsf := Lib.hid hsf5
            have hO5 := Lib.hid ho5
            have hsn5' := Lib.hid hsn5
            rw [hsf5] at ks ka
            clear ho5 hrow5 hcz hfz hvz hsf5 hsn5
            go_region_law (refine step_append_nat (by rfl) (.tmp 62) (.tmp 67) (by rfl) w.heap.size (.slice as5 sn5 sc5) l5 (by simp [Act.eval, Act.put]) (by rw [← hsf.out]; exact hOa.out) ⟨wz.heap.size, 0, none⟩ 1 x (by simp [Act.eval, Act.put]) (nat_new _ _) (by omega) hBa.out ?_; intro s6 w4 hs4 hg4 hat4; obtain ⟨a6, c6, hsl6, _⟩ := hs4.out.ints; obtain ⟨n6, hn6⟩ : ∃ n6, (l5 ++ [x]).length = n6 := ⟨_, rfl⟩; rw [hn6] at hsl6; clear hn6; subst hsl6; obtain ⟨k4, f4⟩ := hk4.out w4 (by rw [hsf.out]; exact hg4.out); rw [hsf.out] at k4)
            all_goals (
              have hend := Lib.hid ((hZ.out.drew 1).into (w3 := (wz.alloc (.cells #[.int .i64 (x : Int)] 3)).drew) (c := #[.int .i64 (x : Int)]) (ty := 3) hG.out hqz.out.symm hs5.out hl5.out rfl hs4.out (by rw [hsf.out]; exact hg4.out) (by rw [hsf.out]; exact hat4.out))
              go_wp2_with fail
              go_roundg g
              case measure => omega
              case rel => exact ⟨k + 1, by omega, by go_num, _, _, by rw [take_snoc hx'.out]; exact hend.out, by rw [take_snoc hx'.out]; exact hK.out, by rw [List.length_set]; exact hLz.out⟩)
          · have hDe : D = q5 := by omega
            subst hDe
            have hm15 := Lib.hid hmm
            go_upto_region 15 with (first
              | (at_mapUpdate; refine wpList_map_store rfl _ _ _ rfl law_int Try.underlying49 w.heap.size l rfl m1'.out hml.out (.int .i64 (x : Int)) (.int .i64 (D : Int)) (.int .i64 (x : Int)) rfl rfl (key_nat (by omega)) ?_; intro w2 hm2 ht2; have hV2 := Lib.hid (hpl.out w2 hm2.out ht2.out); have hr2 := Lib.hid hV2.out.ls.row; have hB2 := hV2.out.bel.size)
              | (at_builtin; refine wpList_append_sl rfl _ _ rfl w.heap.size (.slice ad5 D cap5) S rfl (row_blk hr2.out fun k hk => old_alloc w2 _ k (World.ownsRow.lt hr2.out k hk).2) _ _ rfl (by rw [cell_of_row _ w2.heap.size _ _ _ _ (heap_alloc_new w2 _)]; rfl) (by rw [hq5'.out]; omega) (by rw [size_alloc]; omega) ?_; intro v3 w3 hr3 hg3; have hV3 := Lib.hid (hV2.out.more hG.out rfl hr3.out hg3.out)))
            have hq5D := hq5'.out
            obtain ⟨q3, hq3⟩ : ∃ q3, (S ++ [Value.slice none 0 0]).length = q3 := ⟨_, rfl⟩
            have hq3D : q3 = D + 1 := by rw [← hq3, List.length_append, hq5D]; rfl
            obtain ⟨ad3, cap3, hv3, _⟩ := len_sl hV3.out.ls.row
            rw [hq3] at hv3
            subst hv3
            have hs5 := Lib.hid (show (S ++ [Value.slice none 0 0])[D]? = some (.slice none 0 0) by rw [List.getElem?_append_right (by omega), hq5D, Nat.sub_self]; rfl)
            have hl5 := Lib.hid (show (LL ++ [[]])[D]? = some [] by rw [List.getElem?_append_right (by rw [← hSL'.out]; omega), ← hSL'.out, Nat.sub_self]; rfl)
            obtain ⟨s5, hse⟩ : ∃ s5, Value.slice none 0 0 = s5 := ⟨_, rfl⟩
            obtain ⟨l5, hle⟩ : ∃ l5 : List Nat, [] = l5 := ⟨_, rfl⟩
            have hl5l : l5.length ≤ 500 := by rw [← hle]; exact Nat.zero_le _
            have hK := Lib.hid (show LvOk lv (O.take k ++ [x]) ((LL ++ [[]]).set D (l5 ++ [x])) by rw [← hle]; exact hLx.out hSL'.out)
            have hLz := Lib.hid (show ((LL ++ [[]]) : List (List Nat)).length ≤ k + 1 by rw [List.length_append, ← hSL'.out]; exact Nat.succ_le_succ hLk)
            obtain ⟨S5, hS5⟩ : ∃ S5, S ++ [Value.slice none 0 0] = S5 := ⟨_, rfl⟩
            obtain ⟨L5, hL5⟩ : ∃ L5 : List (List Nat), LL ++ [[]] = L5 := ⟨_, rfl⟩
            rw [hL5] at hK hLz
            clear hl5
            have hl5 := Lib.hid (show L5[D]? = some l5 by rw [← hL5, ← hle, List.getElem?_append_right (by rw [← hSL'.out]; omega), ← hSL'.out, Nat.sub_self]; rfl)
            rw [hS5] at hs5 hq3
            rw [hse] at hs5
            have hZ := hV3
            rw [hS5, hL5] at hZ
            have hqz := Lib.hid hq3
            obtain ⟨wz, hwz⟩ : ∃ wz, w3 = wz := ⟨_, rfl⟩
            rw [hwz] at hZ ⊢
            have hDq3 : D < q3 := by omega
            have hq3b : q3 ≤ 501 := by omega
            clear hV3 hr3 hg3 hwz hq3 hq3D hS5 hL5 hse hle hV2 hr2 hB2 hm2 ht2 hpl hq5D hm15
            have ho5 := hZ.out.ls.each D s5 l5 hs5.out hl5.out
            obtain ⟨as5, sc5, hsf5, _⟩ := ho5.ints
            obtain ⟨sn5, hsn5⟩ : ∃ sn5, l5.length = sn5 := ⟨_, rfl⟩
            rw [hsn5] at hsf5
            have hrow5 := hZ.out.ls.row
            obtain ⟨adz, capz, hvz, hfz⟩ := len_sl hrow5
            rw [hqz.out] at hvz hfz
            obtain ⟨gz, hgz, hcz⟩ := hfz (by omega)
            have hzz := Value.slice.inj hvz
            obtain ⟨rfl, _, rfl⟩ := hzz
            subst hgz
            obtain ⟨ks, fs⟩ := hcz D s5 hs5.out
            have kn := hZ.out.gr.num hxi
            have hgzl := (hZ.out.ls.block gz (.inl rfl)).2
            have ka : (wz.alloc (.cells #[.int .i64 (x : Int)] 3)).cell? ⟨gz, D, none⟩ = some s5 := by rw [World.cell?_of_block (w := wz) (old_alloc wz _ gz hgzl)]; exact ks
            have hOa := Lib.hid (show OwnZ (wz.alloc (.cells #[.int .i64 (x : Int)] 3)).drew w.heap.size s5 l5 from (ho5.alloc _).blk fun _ _ => rfl)
            have hBa : Hid (w.heap.size ≤ (wz.alloc (.cells #[.int .i64 (x : Int)] 3)).heap.size) := Lib.hid (by rw [size_alloc]; have := hZ.out.bel.size; omega)
            have hne5 : s5.ownBlock ≠ some gz := fun e => row_apart (t := 22) (u := 3) hrow5 ho5 (by decide) (k := gz) rfl e
            have hk4 := Lib.hid (fun (w4 : World) (hg : ((wz.alloc (.cells #[.int .i64 (x : Int)] 3)).drew).grownBy w4 s5.ownBlock) => show w4.cell? ⟨gz, D, none⟩ = some s5 ∧ w4.frozen? ⟨gz, D, none⟩ = false from by
              have e := (hg.block gz (by show gz < (wz.alloc _).heap.size; rw [size_alloc]; omega) (Ne.symm hne5)).trans (old_alloc wz _ gz hgzl)
              exact ⟨by rw [World.cell?_of_block (w := wz) e]; exact ks, by rw [World.frozen?_of_block (w := wz) e]; exact fs⟩)
            have hsf := Lib.hid hsf5
            have hO5 := Lib.hid ho5
            have hsn5' := Lib.hid hsn5
            rw [hsf5] at ks ka
            clear ho5 hrow5 hcz hfz hvz hsf5 hsn5
            go_region_law (refine step_append_nat (by rfl) (.tmp 62) (.tmp 67) (by rfl) w.heap.size (.slice as5 sn5 sc5) l5 (by simp [Act.eval, Act.put]) (by rw [← hsf.out]; exact hOa.out) ⟨wz.heap.size, 0, none⟩ 1 x (by simp [Act.eval, Act.put]) (nat_new _ _) (by omega) hBa.out ?_; intro s6 w4 hs4 hg4 hat4; obtain ⟨a6, c6, hsl6, _⟩ := hs4.out.ints; obtain ⟨n6, hn6⟩ : ∃ n6, (l5 ++ [x]).length = n6 := ⟨_, rfl⟩; rw [hn6] at hsl6; clear hn6; subst hsl6; obtain ⟨k4, f4⟩ := hk4.out w4 (by rw [hsf.out]; exact hg4.out); rw [hsf.out] at k4)
            all_goals (
              have hend := Lib.hid ((hZ.out.drew 1).into (w3 := (wz.alloc (.cells #[.int .i64 (x : Int)] 3)).drew) (c := #[.int .i64 (x : Int)]) (ty := 3) hG.out hqz.out.symm hs5.out hl5.out rfl hs4.out (by rw [hsf.out]; exact hg4.out) (by rw [hsf.out]; exact hat4.out))
              go_wp2_with fail
              go_roundg g
              case measure => omega
              case rel => exact ⟨k + 1, by omega, by go_num, _, _, by rw [take_snoc hx'.out]; exact hend.out, by rw [take_snoc hx'.out]; exact hK.out, by rw [List.length_set]; exact hLz.out⟩)
    · have hkn : k = on := by omega
      subst hkn
      have htO : O.take k = O := List.take_of_length_le (by rw [hon'.out]; omega)
      rw [htO] at hV hL
      obtain ⟨ad5, cap5, hv5, hf5⟩ := len_sl hV.ls.row
      obtain ⟨q5, hq5⟩ : ∃ q5, S.length = q5 := ⟨_, rfl⟩
      have hSL := hV.ls.len
      rw [hq5] at hv5 hf5 hSL
      obtain ⟨v4, hv4⟩ : ∃ v4, u5 = v4 := ⟨_, rfl⟩
      have hV0 := Lib.hid (hv4 ▸ hV)
      have hv5' := Lib.hid (hv4 ▸ hv5)
      have hL' := Lib.hid hL
      have hSL' := Lib.hid hSL
      have hq5' := Lib.hid hq5
      have hqk : q5 ≤ 500 := by omega
      clear hV hL hv4 hf5 hSL hq5 htO hLk
      subst hv5
      go_wp2_with fail
      go_loopg [13, 73] q5 (fun g v13 v73 wr => ∃ p : Nat, p + g = q5 ∧ v73 = .int .i64 (p : Int) ∧ ∃ LL2, LvAt w B a M G lv w.heap.size (.slice a1 k cap1) O wr v4 S LL2 O ∧ LL2.length = q5 ∧ (∀ i, i < p → LL2[i]? = (LL.map srt)[i]?) ∧ ∀ i, p ≤ i → LL2[i]? = LL[i]?)
      case atStart => exact ⟨0, by omega, rfl, LL, hV0.out, hSL'.out.symm, fun i hi => by omega, fun i _ => rfl⟩
      case round =>
        obtain ⟨p, hpg, rfl, LL2, hZ, hZl, hZ1, hZ2⟩ := hrel
        by_cases hpq : p < q5
        · obtain ⟨g, rfl⟩ : ∃ g, gk = g + 1 := ⟨gk - 1, by omega⟩
          obtain ⟨s5, hs5⟩ : ∃ s5, S[p]? = some s5 := ⟨S[p]'(by rw [hq5'.out]; exact hpq), List.getElem?_eq_getElem _⟩
          obtain ⟨l5, hl5⟩ : ∃ l5, LL2[p]? = some l5 := ⟨LL2[p]'(by rw [hZl]; exact hpq), List.getElem?_eq_getElem _⟩
          have hl5L : LL[p]? = some l5 := (hZ2 p (Nat.le_refl _)).symm.trans hl5
          have hlf : l5 = O.filter fun y => decide (lv y = p) := by
            have := hL'.out.at' p (by rw [← hSL'.out]; exact hpq)
            rw [hl5L] at this
            exact Option.some.inj this
          have hll : l5.length ≤ 500 := by
            rw [hlf]
            have := List.length_filter_le (fun y => decide (lv y = p)) O
            rw [hon'.out] at this
            omega
          have hrow := hZ.ls.row
          obtain ⟨adz, capz, hvz, hfz⟩ := len_sl hrow
          rw [hq5'.out, hv5'.out] at hvz
          rw [hq5'.out] at hfz
          obtain ⟨gz, hgz, hcz⟩ := hfz (by omega)
          have hzz := Value.slice.inj hvz
          obtain ⟨h1, _, h2⟩ := hzz
          rw [hgz] at h1
          subst h1
          subst h2
          obtain ⟨ks, fs⟩ := hcz p s5 hs5
          have ho5 := hZ.ls.each p s5 l5 hs5 hl5
          obtain ⟨as5, sc5, hsf5, _⟩ := ho5.ints
          obtain ⟨sn5, hsn5⟩ : ∃ sn5, l5.length = sn5 := ⟨_, rfl⟩
          rw [hsn5] at hsf5
          have hso := Lib.hid (sort_c ho5 (by omega))
          rw [hsf5] at hso ks
          have hsf := Lib.hid hsf5
          have hnx := Lib.hid (fun w' (ho : OwnZ w' w.heap.size s5 (srt l5)) hg => show ∃ LL3, LvAt w B a M G lv w.heap.size (.slice a1 k cap1) O w' v4 S LL3 O ∧ LL3.length = q5 ∧ (∀ i, i < p + 1 → LL3[i]? = (LL.map srt)[i]?) ∧ ∀ i, p + 1 ≤ i → LL3[i]? = LL[i]? from by
            refine ⟨LL2.set p (srt l5), hZ.sorted hG.out hs5 hl5 ho hg, by rw [List.length_set]; exact hZl, fun i hi => ?_, fun i hi => ?_⟩
            · rw [List.getElem?_set]
              by_cases e : p = i
              · subst e
                rw [if_pos rfl, if_pos (by rw [hZl]; exact hpq), List.getElem?_map, hl5L]; rfl
              · rw [if_neg e]; exact hZ1 i (by omega)
            · rw [List.getElem?_set, if_neg (by omega)]; exact hZ2 i (by omega))
          clear hZ hZ1 hZ2 hrow hfz hcz ho5 hsf5 hlf hsn5 hvz
          go_wp2_with (go_at_call 23; refine hso.out.mono ?_; rintro e w5 ⟨rfl, ho5, hg5⟩; have H5 := Lib.hid (hnx.out w5 (by rw [hsf.out]; exact ho5) (by rw [hsf.out]; exact hg5)); clear ho5 hg5)
          go_roundg g
          case measure => omega
          case rel => exact ⟨p + 1, by omega, by go_num, H5.out⟩
        · have hLe : LL2 = LL.map srt := by
            apply List.ext_getElem?
            intro i
            by_cases e : i < p
            · exact hZ1 i e
            · rw [List.getElem?_eq_none (by rw [hZl]; omega), List.getElem?_eq_none (by rw [List.length_map, ← hSL'.out]; omega)]
          have hfin := Lib.hid (show LlPost G lv R n w (.returned v4) wr from ⟨⟨v4, S, LL, O, rfl, by rw [← hLe]; exact hZ.ls, hL'.out, hOk.out.nd, hOk.out.sub, hC1.out⟩, hZ.bel⟩)
          rw [hv5'.out] at hfin
          clear hZ hZ1 hZ2
          go_wp2_with fail
          go_ret
          exact hfin.out
end Go.Proofs.Ytgkmmdkagiohgaa
end
