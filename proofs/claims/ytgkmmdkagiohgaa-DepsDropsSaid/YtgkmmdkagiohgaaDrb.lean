/-
  A set of nodes: one is taken away: the walk.
-/
import Derived.Test.YtgkmmdkagiohgaaDra
import Derived.StillTailTactics
set_option linter.unusedVariables false
set_option linter.unusedSimpArgs false
namespace Go.Proofs.Ytgkmmdkagiohgaa
open Go.RowKit BigFrame
set_option maxRecDepth 100000

theorem TurnS.set1 (w : World) (g c : Nat) (v : Value) : TurnS (fun k => k = g) w (w.setCell ⟨g, c, none⟩ v) := TurnS.set (fun k => k = g) w (s := g) (show g = g from rfl) c v
structure RmPost (B : Nat) (nb : Nat → Nat) (b o : Nat) (t : TypeId) (C : List Value) (sl mp : Value) (L' : List Nat) (w : World) (e : Ending) (w' : World) : Prop where
  ret : e = .returned (.tuple #[])
  turn : TurnS (fun k => k = b ∨ InS sl mp k) w w'
  post : ∃ sl', Vw w' t b (C.set o sl') ∧ SetIs w' B nb sl' mp L' ∧ ∀ k, InS sl' mp k → InS sl mp k

variable {w : World} {B b o g m e p cap : Nat} {t tn : TypeId} {C : List Value} {nb : Nat → Nat} {L : List Nat} {x z : Nat} {Nx Nz : List Value}
set_option maxHeartbeats 4000000 in
theorem remove_c (hV : Vw w t b C) (h0 : C[o]? = some (.slice (some ⟨g, 0, none⟩) (e + 1) cap)) (h1 : C[o + 1]? = some (.map (some m))) (h : SetIs w B nb (.slice (some ⟨g, 0, none⟩) (e + 1) cap) (.map (some m)) L)
    (hL : L.length = e + 1) (hp : L[p]? = some x) (hz : L[e]? = some z) (hbg : b ≠ g) (hbm : b ≠ m) (hx : x ≤ 1000000) (hzb : z ≤ 1000000) (hn : e ≤ 1000)
    (hNx : Vw w tn (nb x) Nx) (hNx0 : Nx[0]? = some (.int .i64 (x : Int))) (hNz : Vw w tn (nb z) Nz) (hNz0 : Nz[0]? = some (.int .i64 (z : Int)))
    (xb : nb x ≠ b) (xg : nb x ≠ g) (xm : nb x ≠ m) (zb : nb z ≠ b) (zg : nb z ≠ g) (zm : nb z ≠ m) :
    Calls Try.prog 35 #[.pointer (some ⟨b, o, none⟩), .pointer (some ⟨nb x, 0, none⟩)] w (RmPost B nb b o t C (.slice (some ⟨g, 0, none⟩) (e + 1) cap) (.map (some m)) (remL L p z) w) := by
  obtain ⟨cur, hcu, hcl, hcn, hcm, hBg, hLn, hcx⟩ := h.sl.cur
  obtain ⟨l, hm1, hm2, hm3, hm4⟩ : ∃ l, B ≤ m ∧ MapAt 3 w m l ∧ l.length = L.length ∧ ∀ x : Nat, fndL l (.int .i64 (x : Int)) = (ix L x).map fun i => .int .i64 ((i : Nat) : Int) := by
    rcases h.mp with ⟨h2, _⟩ | ⟨m', l, h2, r⟩
    · cases h2
    · cases h2; exact ⟨l, r⟩
  have hone := h.one
  have hpe : p < e + 1 := by rw [← hL]; exact (List.getElem?_eq_some_iff.1 hp).1
  have hgm : g ≠ m := fun e => by
    obtain ⟨es, c', h2, _⟩ := hm2
    have h3 := hcu
    unfold Vw at h3
    rw [e, h2] at h3
    cases h3
  have hlk := Lib.hid (fun q => show (Instr.lookup 49 (.map (some m)) (.int .i64 (x : Int)) false).run Try.prog (w.drewN q) = .ok (.int .i64 (p : Int)) (w.drewN q) from by
    have := (show MapAt 3 (w.drewN q) m l from hm2.blk rfl).look law_int Try.underlying49 (z := .int .i64 0) rfl (key_nat (k := x) (by omega))
    rw [hm4 x, ix_of hone hp] at this
    exact this)
  have c0 := hV.cell h0
  have c1 := hV.cell h1
  have kx := hNx.cell hNx0
  have ge := hcu.cell (hcx e z hz)
  have gp := hcu.cell (hcx p x hp)
  have fp := hcu.frozen p
  unfold pv at ge gp
  have hV' := Lib.hid hV
  have hcu' := Lib.hid hcu
  have h' := Lib.hid h
  have hNx' := Lib.hid hNx
  have hNz' := Lib.hid hNz
  have hm2' := Lib.hid hm2
  have hcx' := Lib.hid hcx
  have hm4' := Lib.hid hm4
  have hlk0 := hlk.out
  clear hV hcu h hNx hNz hm2 hcx hm4 hone
  go_enter Try.func35, Try.ntmps35
  go_wp2_with fail
  go_quiet (fail)
  go_upto_region 3 with fail
  have hS1 : TurnS (fun k => k = g) (w.drewN nq) ((w.drewN nq).setCell ⟨g, p, none⟩ (.pointer (some ⟨nb z, 0, none⟩))) := TurnS.set1 _ _ _ _
  have V1 := Lib.hid (hV'.out.drew.turnS hS1 hbg)
  have X1 := Lib.hid (hNx'.out.drew.turnS hS1 xg)
  have Z1 := Lib.hid (hNz'.out.drew.turnS hS1 zg)
  have U1 := Lib.hid ((Vw.drew (m := nq) hcu'.out).set p (.pointer (some ⟨nb z, 0, none⟩)))
  have M1 := Lib.hid (hm2'.out.blk (w' := (w.drewN nq).setCell ⟨g, p, none⟩ (.pointer (some ⟨nb z, 0, none⟩))) (hS1.block m hm2'.out.lt (Ne.symm hgm)))
  have T1 := Lib.hid ((TurnS.drew (fun k => k = b ∨ k = g ∨ k = m) w nq).trans (hS1.mono fun k _ hk => .inr (.inl hk)))
  have cue : (cur.set p (.pointer (some ⟨nb z, 0, none⟩)))[e]? = some (.pointer (some ⟨nb z, 0, none⟩)) := by
    rw [List.getElem?_set]
    by_cases e1 : p = e
    · rw [if_pos e1, if_pos (by omega)]
    · rw [if_neg e1]; exact hcx'.out e z hz
  obtain ⟨w1, hw1⟩ : ∃ w1, (w.drewN nq).setCell ⟨g, p, none⟩ (.pointer (some ⟨nb z, 0, none⟩)) = w1 := ⟨_, rfl⟩
  rw [hw1] at V1 X1 Z1 U1 M1 T1
  rw [hw1]
  clear hS1 hw1
  have k1 := V1.out.cell h1
  have kz := Z1.out.cell hNz0
  have hml := Lib.hid (show l.length < maxLen by rw [hm3, hL]; unfold maxLen; omega)
  have M1' := Lib.hid (show MapAt 3 w1.drew m l from M1.out)
  have cue' := Lib.hid cue
  clear cue
  have tk : True := trivial
  go_still_tail 9, (by kernel_rfl)
  change wpList _ _ _ _ _ w1.drew
  go_wp2_with (at_mapUpdate; have _t := tk; clear tk; refine wpList_map_store rfl _ _ _ rfl law_int Try.underlying49 m l rfl M1'.out hml.out (.int .i64 (z : Int)) (.int .i64 (p : Int)) (.int .i64 (z : Int)) rfl rfl (key_nat hzb) ?_; intro w3 hm5 ht5; have hT3 := Lib.hid ((TurnS.drew (fun k => k = m) w1 1).trans (TurnS.turned ht5.out rfl)); have V3 := Lib.hid (V1.out.turnS hT3.out hbm); have U3 := Lib.hid (U1.out.turnS hT3.out hgm); have X3 := Lib.hid (X1.out.turnS hT3.out xm); have k3 := V3.out.cell h0; have u3 := U3.out.cell cue'.out; have f3 := U3.out.frozen e; have hS4 : TurnS (fun k => k = g) w3 (w3.setCell ⟨g, e, none⟩ (.pointer none)) := TurnS.set1 _ _ _ _; have V4 := Lib.hid (V3.out.turnS hS4 hbg); have k4 := V4.out.cell h0; have f4 := V4.out.frozen o; clear k1 kz hS4)
  have hS4 : TurnS (fun k => k = g) w3 (w3.setCell ⟨g, e, none⟩ (.pointer none)) := TurnS.set1 _ _ _ _
  have hS5 : TurnS (fun k => k = b) (w3.setCell ⟨g, e, none⟩ (.pointer none)) ((w3.setCell ⟨g, e, none⟩ (.pointer none)).setCell ⟨b, o, none⟩ (.slice (some ⟨g, 0, none⟩) e cap)) := TurnS.set1 _ _ _ _
  have V5 := Lib.hid (V4.out.set o (.slice (some ⟨g, 0, none⟩) e cap))
  have U5 := Lib.hid (((U3.out.set e (.pointer none))).turnS hS5 (Ne.symm hbg))
  have X5 := Lib.hid ((X3.out.turnS hS4 xg).turnS hS5 xb)
  have hm5l := hm5.out.lt
  have M5 := Lib.hid (hm5.out.blk ((hS5.block m (by rw [size_set]; exact hm5l) (Ne.symm hbm)).trans (hS4.block m hm5l (Ne.symm hgm))))
  have T5 := Lib.hid (((T1.out.trans (hT3.out.mono fun k _ hk => .inr (.inr hk))).trans (hS4.mono fun k _ hk => .inr (.inl hk))).trans (hS5.mono fun k _ hk => .inl hk))
  obtain ⟨w5, hw5⟩ : ∃ w5, (w3.setCell ⟨g, e, none⟩ (.pointer none)).setCell ⟨b, o, none⟩ (.slice (some ⟨g, 0, none⟩) e cap) = w5 := ⟨_, rfl⟩
  rw [hw5] at V5 U5 X5 M5 T5
  rw [hw5]
  clear hS4 hS5 hw5 k3 u3 f3 k4 f4 hm5l
  have ho5 : (C.set o (.slice (some ⟨g, 0, none⟩) e cap))[o + 1]? = some (.map (some m)) := by rw [List.getElem?_set_ne (by omega)]; exact h1
  have k5 := V5.out.cell ho5
  have kx5 := X5.out.cell hNx0
  have M5' := Lib.hid (show MapAt 3 w5.drew m _ from M5.out)
  clear ho5
  have tk : True := trivial
  go_still_tail 8, (by kernel_rfl)
  change wpList _ _ _ _ _ w5.drew
  go_wp2_with (have _t := tk; refine wpList_map_drop rfl _ _ rfl law_int Try.underlying49 m _ rfl M5'.out (.int .i64 (x : Int)) (.int .i64 (x : Int)) rfl (key_nat hx) ?_; intro w6 hm6 ht6; clear tk)
  go_end0
  have hT6 : TurnS (fun k => k = m) w5 w6 := (TurnS.drew (fun k => k = m) w5 1).trans (TurnS.turned ht6.out rfl)
  refine ⟨rfl, (T5.out.trans (hT6.mono fun k _ hk => .inr (.inr hk))).mono ?_, .slice (some ⟨g, 0, none⟩) e cap, V5.out.turnS hT6 hbm, ⟨?_, ?_, ?_⟩, ?_⟩
  · rintro k _ (h | h | h)
    · exact .inl h
    · exact .inr (.inl (by rw [h]; rfl))
    · exact .inr (.inr (by rw [h]))
  · have hq := SlAt.of_cur (B := B) (nb := nb) (L := remL L p z) (cap := cap) (U5.out.turnS hT6 hgm) (by simp [hcl]) (by rw [remL_len]; omega) hcm hBg fun k y hk => by
      rw [remL_get (by omega), hL] at hk
      by_cases h1 : k < e
      · rw [if_pos (by omega)] at hk
        rw [List.getElem?_set_ne (by omega), List.getElem?_set]
        by_cases h2 : k = p
        · rw [if_pos h2] at hk
          rw [if_pos h2.symm, if_pos (by omega), Option.some.inj hk]; rfl
        · rw [if_neg h2] at hk
          rw [if_neg (Ne.symm h2)]
          exact hcx'.out k y hk
      · rw [if_neg (by omega)] at hk; cases hk
    rw [remL_len, hL] at hq
    exact hq
  · have hone := h'.out.one
    have hz' : L[L.length - 1]? = some z := by rw [hL]; exact hz
    have hfz : fndL l (.int .i64 (z : Int)) = some (.int .i64 (e : Int)) := by rw [hm4'.out, ix_of hone hz]; rfl
    have hl1 := strL_len (hm2'.out.apart law_int) hfz
    have hfx : ∃ v, fndL (insL (.int .i64 (z : Int), .int .i64 (p : Int)) (strL l (.int .i64 (z : Int)))) (.int .i64 (x : Int)) = some v := by
      rw [fndL_put]
      by_cases e1 : (x : Int) = z
      · exact ⟨_, if_pos e1⟩
      · rw [if_neg e1, hm4'.out, ix_of hone hp]; exact ⟨_, rfl⟩
    obtain ⟨v, hv⟩ := hfx
    have hl2 := strL_len (hm5.out.apart law_int) hv
    rw [insL_length] at hl2
    refine .inr ⟨m, _, rfl, hm1, hm6.out, by rw [remL_len]; omega, fun y => ?_⟩
    rw [fndL_str, fndL_put, ix_rem hone hp hz', hm4'.out]
    by_cases e1 : y = x
    · rw [if_pos (by omega), if_pos e1]; rfl
    · rw [if_neg (by omega), if_neg e1]
      by_cases e2 : y = z
      · rw [if_pos (by omega), if_pos e2]; rfl
      · rw [if_neg (by omega), if_neg e2]
  · exact remL_nodup h'.out.one hp (by rw [hL]; exact hz)
  · intro k hk
    rcases hk with hk | hk
    · exact .inl hk
    · exact .inr hk
end Go.Proofs.Ytgkmmdkagiohgaa
