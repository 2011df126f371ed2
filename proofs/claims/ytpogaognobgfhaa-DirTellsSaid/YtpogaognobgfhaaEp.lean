/-
  What is laid of any slots, as one answer; are names long; what every program answers that is one.
-/
import Derived.Test.YtpogaognobgfhaaEi
import Derived.Test.YtpogaognobgfhaaEk
import Derived.Test.YtpogaognobgfhaaEm
import Derived.Test.YtpogaognobgfhaaBv
namespace Go.Proofs.Ytpogaognobgfhaa
open Go.RowKit BigFrame

/-- what is laid of any four, and the code -/
def lyD (L : List Slt) : List Nat := if stand4 L = true then secD L else []
def lcD (L : List Slt) : Int := if stand4 L = true then 0 else 2
theorem lyD_length {L : List Slt} : (lyD L).length ≤ 100000 := by
  unfold lyD
  split
  · rename_i h
    rw [secD_length (standP_may (stand4_iff.1 h))]; omega
  · simp
theorem lyD_octs (L : List Slt) : Octs (lyD L) := by
  unfold lyD
  split
  · rename_i h
    exact secD_octs (standP_may (stand4_iff.1 h))
  · exact .nil
theorem dirLay_u (L : List Slt) (w : World) (hL : L.length = 4) :
    Calls Try.prog 10 #[fv L] w fun e w' => ∃ v, e = .returned (.tuple #[v, .int .i64 (lcD L)]) ∧ Ans w w' v (lyD L) ∧ Below w.heap.size w w' := by
  unfold lyD lcD
  cases h : stand4 L
  · exact (dirLay_no L w hL h).mono fun e w' ⟨he, hb⟩ => ⟨_, he, .inl ⟨rfl, rfl⟩, hb⟩
  · exact (dirLay_ok L w hL h).mono fun e w' ⟨g1, he, hg, hr, hb⟩ => ⟨_, he, .inr ⟨g1, 128, rfl, secD_length (standP_may (stand4_iff.1 h)), hg, hr⟩, hb⟩
theorem dirRead_u {w0 : World} (v : Value) (X : List Nat) (w : World) (ho : Octs X) (h : Ans w0 w v X) : Calls Try.prog 12 #[v] w (Tells (readDV X) w) := by
  rcases h with ⟨rfl, rfl⟩ | ⟨g, n, rfl, hn, _, hr⟩
  · exact dirRead_any none 0 0 [] w rfl ho (Nat.le_refl _) (.inl rfl)
  · exact dirRead_any _ n n X w hn ho (Nat.le_refl _) hr.bat

/-- are names longer than is gone through? -/
def bigS (L : List Slt) : Bool := (List.range 4).any fun k => decide (100 < (sl L k).name.size)
theorem bigS_yes {L : List Slt} {k : Nat} (hk : k < 4) (h : 100 < (sl L k).name.size) : bigS L = true := by
  unfold bigS; rw [List.any_eq_true]; exact ⟨k, by simpa using hk, by simpa using h⟩
theorem bigS_no {L : List Slt} (h : ∀ k, k < 4 → ¬ 100 < (sl L k).name.size) : bigS L = false := by
  unfold bigS; rw [List.any_eq_false]; intro k hk; simpa using h k (by simpa using hk)
def GrRel (L : List Slt) (i : Value) : Prop := ∃ k : Nat, k ≤ 4 ∧ i = .int .i64 k ∧ ∀ j, j < k → ¬ 100 < (sl L j).name.size
set_option maxHeartbeats 1000000 in
theorem great_any (L : List Slt) (w : World) (hL : L.length = 4) : Calls Try.prog 7 #[fv L] w (Tells (.bool (bigS L)) w) := by
  have hL' := Lib.hid hL
  have hV := Lib.hid (Vw.alloc w (fc L) 24)
  have hb0 := Lib.hid ((Below.refl w.heap.size w).alloc (Nat.le_refl _) (.cells (fc L).toArray 24))
  unfold fv
  clear hL
  go_enter Try.func7, Try.ntmps7
  go_wp2_with fail
  go_loop [3] (fun i => GrRel L i) (fun i => 4 - (intOf i).toNat)
  case atStart => exact ⟨0, by omega, rfl, fun k hk => by omega⟩
  case round =>
    obtain ⟨k, hk, rfl, hno0⟩ := hrel
    have hno := Lib.hid hno0
    clear hno0
    by_cases hlt : k < 4
    · have hc := fc_cells (L := L) (k := k) (by rw [hL'.out]; exact hlt)
      have hyes := Lib.hid (fun h => bigS_yes (L := L) hlt h)
      obtain ⟨s, hs⟩ : ∃ s, sl L k = s := ⟨_, rfl⟩
      rw [hs] at hc hyes
      obtain ⟨m, hm⟩ : ∃ m, s.name.size = m := ⟨_, rfl⟩
      rw [hm] at hyes
      have hs' := Lib.hid hs
      clear hs
      have c2 := hV.out.cell hc.2.2
      clear hc
      have k0 : (0 : Int) ≤ (k : Int) := by omega
      have k4 : (k : Int) < 4 := by omega
      have hm' := Lib.hid hm
      by_cases hg : 100 < m
      · have hend := Lib.hid (hyes.out hg)
        go_wp2_with fail
        go_ret
        exact ⟨by rw [hend.out]; rfl, hb0.out⟩
      · go_wp2_with fail
        exact ⟨⟨k + 1, by omega, by go_num, fun j hj => by
          by_cases e : j = k
          · subst e; rw [hs'.out, hm'.out]; exact hg
          · exact hno.out j (by omega)⟩, by simp [intOf]; omega⟩
    · obtain rfl : k = 4 := by omega
      have hend := Lib.hid (bigS_no hno.out)
      go_wp2_with fail
      go_ret
      exact ⟨by rw [hend.out]; rfl, hb0.out⟩
theorem great_is (L : List Slt) (r : Bool) (w : World) (hL : L.length = 4) (hr : bigS L = r) : Calls Try.prog 7 #[fv L] w (Tells (.bool r) w) := by
  subst hr; exact great_any L w hL

def wakeD : List Slt := [s0, s0, ⟨5, 1, ⟨#[97]⟩⟩, s0]
theorem run_bdWD (w : World) : (bdA 24 #[(2, sv ⟨5, 1, ⟨#[97]⟩⟩)]).run Try.prog w = .ok (fv wakeD) w := by
  unfold bdA
  exact run_build w _ _ _ (by kernel_rfl)
theorem nb_one (x : UInt8) : nb ⟨#[x]⟩ = [x.toNat] := rfl
theorem wakeD_find : findS wakeD ⟨#[97]⟩ = 2 := by decide
theorem wakeD_none : findS wakeD ⟨#[98]⟩ = -1 := by decide
theorem wakeD_free : freeS wakeD = 0 := by decide
theorem wakeD_stand : stand4 wakeD = true := by decide
theorem name_a : nameB (nb ⟨#[97]⟩) = true := by decide
theorem name_dots : nameB (nb ⟨#[46, 46]⟩) = false := by decide
theorem readDV_sec {L : List Slt} (h : L.length = 4) (hm : stand4 L = true) : readDV (secD L) = .tuple #[fv L, .int .i64 0] := by unfold readDV; rw [readD_sec h (stand4_iff.1 hm)]

attribute [local go_sem ↓] ldL_of ldLs_of stL_of stLs_of bdL_of bdLs_of eqLs_of
set_option maxRecDepth 100000 in
set_option maxHeartbeats 2000000 in
theorem dirAwake_any (w : World) : Calls Try.prog 8 #[] w (Tells (.bool true) w) := by
  have hb1 := fun w => run_bdL w 5 1 ⟨#[97]⟩
  have hb2 := run_bdWD
  obtain ⟨u, hu⟩ : ∃ u, (⟨5, 1, ⟨#[97]⟩⟩ : Slt) = u := ⟨_, rfl⟩
  rw [hu] at hb1 hb2
  obtain ⟨L, hL⟩ : ∃ L, wakeD = L := ⟨_, rfl⟩
  rw [hL] at hb2
  have hLl := Lib.hid (show L.length = 4 by rw [← hL]; rfl)
  have hst := Lib.hid (show stand4 L = true by rw [← hL]; exact wakeD_stand)
  have hf1 := Lib.hid (show findS L ⟨#[97]⟩ = 2 by rw [← hL]; exact wakeD_find)
  have hf2 := Lib.hid (show findS L ⟨#[98]⟩ = -1 by rw [← hL]; exact wakeD_none)
  have hfr := Lib.hid (show freeS L = 0 by rw [← hL]; exact wakeD_free)
  have hsl := Lib.hid (secD_length (standP_may (stand4_iff.1 hst.out)))
  have hso := Lib.hid (secD_octs (standP_may (stand4_iff.1 hst.out)))
  have hrd := Lib.hid (readDV_sec hLl.out hst.out)
  have hLay := Lib.hid (fun w => dirLay_ok L w hLl.out hst.out)
  have q1 := Lib.hid (fun w => dirFind_is L ⟨#[97]⟩ 2 w hLl.out hf1.out)
  have q2 := Lib.hid (fun w => dirFind_is L ⟨#[98]⟩ (-1) w hLl.out hf2.out)
  have q3 := Lib.hid (fun w => dirFree_is L 0 w hLl.out hfr.out)
  have heq := fun w => run_eqLs L L w hLl.out hLl.out
  rw [show decide (L = L) = true from decide_eq_true rfl] at heq
  have hgd := Try.eqGuardLs
  unfold sv at hb1 hb2
  unfold fv at hb2 heq hLay q1 q2 q3
  clear hL hu
  go_enter Try.func8, Try.ntmps8
  have tk0 : True := trivial
  have tk1 : True := trivial
  have tk2 : True := trivial
  have tk3 : True := trivial
  go_wp2_with (first
    | (go_at_call 10; refine (hLay.out _).mono ?_; rintro e w1 ⟨g1, rfl, hg1, hr1, hb1⟩; have R1 := Lib.hid (show Row w1 g1 (secD L) from hr1); have B1 := Lib.hid (below_two B0.out hb1); have V1 := Lib.hid (V0.out.on' hb1); clear hr1 hb1 hst0)
    | (go_at_call 12; refine (dirRead_any _ _ 128 (secD L) _ hsl.out hso.out (by omega) R1.out.bat).mono ?_; rw [hrd.out]; unfold fv; rintro e w2 ⟨rfl, hb2⟩; have B2 := Lib.hid (below_two B1.out hb2); have V2 := Lib.hid (V1.out.on' hb2); clear hb2)
    | (go_at_call 19; clear tk2; refine (q1.out _).mono ?_; rintro e w4 ⟨rfl, hb4⟩; have B4 := Lib.hid (below_two B3.out hb4); have V4 := Lib.hid (V3.out.on' hb4); have hld4 := run_ldLs V4.out.whole hLl.out; unfold fv at hld4; clear hb4)
    | (go_at_call 19; refine (q2.out _).mono ?_; rintro e w5 ⟨rfl, hb5⟩; have B5 := Lib.hid (below_two B4.out hb5); have V5 := Lib.hid (V4.out.on' hb5); have hld5 := run_ldLs V5.out.whole hLl.out; unfold fv at hld5; clear hb5)
    | (go_at_call 21; refine (q3.out _).mono ?_; rintro e w6 ⟨rfl, hb6⟩; have B6 := Lib.hid (below_two B5.out hb6); clear hb6)
    | (go_at_call 15; clear tk3; refine (name_is ⟨#[97]⟩ true _ name_a).mono ?_; rintro e w7 ⟨rfl, rfl⟩)
    | (go_at_call 15; refine (name_is ⟨#[46, 46]⟩ false _ name_dots).mono ?_; rintro e w8 ⟨rfl, rfl⟩)
    | (clear tk0; refine wpList_alloc_slots rfl rfl ?_; intro G w0 hv0 hG0 hb0; have hst0 := run_stLs (w := w0) hLl.out (hv0.out.there (o := 0) (n := 12) (by rw [fc_z4]; omega)); have V0 := Lib.hid (hv0.out.over (m := fc L) (by rw [fc_length, hLl.out, fc_z4])); have B0 := Lib.hid (below_setCells hb0 hG0 0 (fc L)); have hld0 := run_ldLs V0.out.whole hLl.out; unfold fv at hst0 hld0; clear hb0)
    | (clear tk1; refine wpList_alloc_slots rfl rfl ?_; intro G3 w3 hv3 hG3 hb3; have hst3 := run_stLs (w := w3) hLl.out (hv3.out.there (o := 0) (n := 12) (by rw [fc_z4]; omega)); have hbb := below_setCells ((Below.refl w2.heap.size w2).trans hb3) hG3 0 (fc L); have V3 := Lib.hid (V2.out.on' hbb); have B3 := Lib.hid (below_two B2.out hbb); have hld3 := run_ldLs (hv3.out.over (m := fc L) (by rw [fc_length, hLl.out, fc_z4])).whole hLl.out; have hld3b := run_ldLs V3.out.whole hLl.out; unfold fv at hst3 hld3 hld3b; clear hb3 hbb))
  go_ret
  exact ⟨rfl, B6.out⟩
end Go.Proofs.Ytpogaognobgfhaa
