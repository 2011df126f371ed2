/-
  What is laid of any record, as one answer; what every program answers that is one.
-/
import Derived.Test.YtkeihpenelpblaaVd
import Derived.Test.YtkeihpenelpblaaVf
import Derived.Test.YtkeihpenelpblaaBv
namespace Go.Proofs.Ytkeihpenelpblaa
open Go.RowKit BigFrame

/-- what is laid of any record, and the code -/
def lyR (r : Rcd) : List Nat := if mayR r = true then secR r else []
def lcR (r : Rcd) : Int := if mayR r = true then 0 else 2
theorem lyR_length {r : Rcd} : (lyR r).length ≤ 100000 := by
  unfold lyR
  split
  · rename_i h
    rw [secR_length (mayR_len h)]; omega
  · simp
theorem lyR_octs (r : Rcd) : Octs (lyR r) := by
  unfold lyR
  split
  · rename_i h
    exact secR_octs (mayR_len h)
  · exact .nil
theorem recLay_u (r : Rcd) (w : World) :
    Calls Try.prog 7 #[rv r] w fun e w' => ∃ v, e = .returned (.tuple #[v, .int .i64 (lcR r)]) ∧ Ans w w' v (lyR r) ∧ Below w.heap.size w w' := by
  unfold lyR lcR
  cases h : mayR r
  · exact (recLay_no r w h).mono fun e w' ⟨he, hb⟩ => ⟨_, he, .inl ⟨rfl, rfl⟩, hb⟩
  · exact (recLay_ok r w h).mono fun e w' ⟨g1, he, hg, hr, hb⟩ => ⟨_, he, .inr ⟨g1, 128, rfl, secR_length (mayR_len h), hg, hr⟩, hb⟩
theorem recRead_u {w0 : World} (v : Value) (X : List Nat) (w : World) (ho : Octs X) (h : Ans w0 w v X) : Calls Try.prog 9 #[v] w (Tells (readRV X) w) := by
  rcases h with ⟨rfl, rfl⟩ | ⟨g, n, rfl, hn, _, hr⟩
  · exact recRead_any none 0 0 [] w rfl ho (Nat.le_refl _) (.inl rfl)
  · exact recRead_any _ n n X w hn ho (Nat.le_refl _) hr.bat

def wakeR : Rcd := ⟨true, 1, 2, 3, 0, ⟨#[97]⟩, ⟨#[98]⟩⟩
def onR : Rcd := ⟨true, 0, 0, 0, 0, ⟨#[]⟩, ⟨#[]⟩⟩
theorem run_bdWR (w : World) : (bdA 23 #[(0, .bool true), (1, .int .i64 1), (2, .int .i64 2), (3, .int .i64 3), (5, .string ⟨#[97]⟩), (6, .string ⟨#[98]⟩)]).run Try.prog w = .ok (rv wakeR) w := by
  unfold bdA
  exact run_build w _ _ _ (by kernel_rfl)
theorem run_bdOR (w : World) : (bdA 23 #[(0, .bool true)]).run Try.prog w = .ok (rv onR) w := by
  unfold bdA
  exact run_build w _ _ _ (by kernel_rfl)
theorem wakeR_may : mayR wakeR = true := by decide
theorem onR_may : mayR onR = false := by decide
theorem readRV_sec {r : Rcd} (h : mayR r = true) : readRV (secR r) = .tuple #[rv r, .int .i64 0] := by unfold readRV; rw [readR_sec h]
theorem readRV_nil : readRV [] = .tuple #[rv r0, .int .i64 3] := by
  unfold readRV
  rw [readR_no (l := []) (fun h => by have := kindOf_len (l := []) (by rw [h.1]; decide); simp at this)]

attribute [local go_sem ↓] ldR_of stR_of bdR_of eqR_of
set_option maxRecDepth 100000 in
set_option maxHeartbeats 2000000 in
theorem recAwake_any (w : World) : Calls Try.prog 5 #[] w (Tells (.bool true) w) := by
  have hb1 := run_bdWR
  have hb2 := run_bdOR
  have hb3 := run_bd0R
  have hsl := Lib.hid (secR_length (mayR_len wakeR_may))
  have hso := Lib.hid (secR_octs (mayR_len wakeR_may))
  have hrd := Lib.hid (readRV_sec wakeR_may)
  have hrn := Lib.hid readRV_nil
  have hLay := Lib.hid (fun w => recLay_ok wakeR w wakeR_may)
  have hM0 := Lib.hid (fun w => recMay_is r0 true w mayR_zero)
  have hM1 := Lib.hid (fun w => recMay_is onR false w onR_may)
  have heq := fun w => run_eqR wakeR wakeR w
  rw [show decide (wakeR = wakeR) = true from decide_eq_true rfl] at heq
  have hgd := Try.eqGuardR
  obtain ⟨E, hE⟩ : ∃ E, wakeR = E := ⟨_, rfl⟩
  obtain ⟨Z, hZ⟩ : ∃ Z, r0 = Z := ⟨_, rfl⟩
  obtain ⟨N, hN⟩ : ∃ N, onR = N := ⟨_, rfl⟩
  rw [hE] at hb1 hsl hso hrd hLay heq
  rw [hZ] at hb3 hrn hM0
  rw [hN] at hb2 hM1
  unfold rv at hb1 hb2 hb3 hrd hrn hLay hM0 hM1 heq
  obtain ⟨Ce, hCe0⟩ : ∃ Ce, rc E = Ce := ⟨_, rfl⟩
  obtain ⟨Cz, hCz0⟩ : ∃ Cz, rc Z = Cz := ⟨_, rfl⟩
  obtain ⟨Cn, hCn0⟩ : ∃ Cn, rc N = Cn := ⟨_, rfl⟩
  rw [hCe0] at hb1 hrd hLay heq
  rw [hCz0] at hb3 hrn hM0
  rw [hCn0] at hb2 hM1
  have hCe := Lib.hid hCe0
  have hCz := Lib.hid hCz0
  clear hE hZ hN hCe0 hCz0 hCn0
  go_enter Try.func5, Try.ntmps5
  have tk0 : True := trivial
  have tk1 : True := trivial
  have tk2 : True := trivial
  have tk3 : True := trivial
  have tk4 : True := trivial
  go_wp2_with (first
    | (go_at_call 7; refine (hLay.out _).mono ?_; rintro e w1 ⟨g1, rfl, hg1, hr1, hb1⟩; have R1 := Lib.hid (show Row w1 g1 (secR E) from hr1); have B1 := Lib.hid (below_two B0.out hb1); have V1 := Lib.hid (V0.out.on' hb1); clear hr1 hb1 hst0 hld0)
    | (go_at_call 9; clear tk2; refine (recRead_any _ _ 128 (secR E) _ hsl.out hso.out (by omega) R1.out.bat).mono ?_; rw [hrd.out]; rintro e w2 ⟨rfl, hb2⟩; have B2 := Lib.hid (below_two B1.out hb2); have V2 := Lib.hid (V1.out.on' hb2); clear hb2)
    | (go_at_call 9; refine (recRead_any none 0 0 [] _ rfl .nil (Nat.le_refl _) (.inl rfl)).mono ?_; rw [hrn.out]; rintro e w4 ⟨rfl, hb4⟩; have B4 := Lib.hid (below_two B3.out hb4); have V4 := Lib.hid (V3.out.on' hb4); have X4 := Lib.hid (X3.out.on' hb4); clear hb4 hst3)
    | (go_at_call 12; clear tk3; refine (hM0.out _).mono ?_; rintro e w6 ⟨rfl, hb6⟩; have B6 := Lib.hid (below_two B5.out hb6); clear hb6)
    | (go_at_call 12; refine (hM1.out _).mono ?_; rintro e w7 ⟨rfl, hb7⟩; have B7 := Lib.hid (below_two B6.out hb7); clear hb7)
    | (clear tk0; refine wpList_alloc_rec rfl rfl ?_; intro G w0 hv0 hG0 hb0; have hst0 := run_stR (w := w0) (r := E) (hv0.out.there (o := 0) (n := 7) (by rw [rc_length]; omega)); have v0 := hv0.out.over (m := rc E) rfl; have hld0 := run_ldR v0.whole; have B0 := Lib.hid (below_setCells hb0 hG0 0 (rc E)); unfold rv at hst0 hld0; rw [hCe.out] at hst0 hld0 v0 B0; have V0 := Lib.hid v0; clear hb0 v0)
    | (clear tk1; refine wpList_alloc_rec rfl rfl ?_; intro G3 w3 hv3 hG3 hb3; have hst3 := run_stR (w := w3) (r := E) (hv3.out.there (o := 0) (n := 7) (by rw [rc_length]; omega)); have x3 := hv3.out.over (m := rc E) rfl; have hbb := below_setCells ((Below.refl w2.heap.size w2).trans hb3) hG3 0 (rc E); unfold rv at hst3; rw [hCe.out] at hst3 x3 hbb; have X3 := Lib.hid x3; have V3 := Lib.hid (V2.out.on' hbb); have B3 := Lib.hid (below_two B2.out hbb); clear hb3 hbb x3)
    | (clear tk4; refine wpList_alloc_rec rfl rfl ?_; intro G5 w5 hv5 hG5 hb5; have hst5 := run_stR (w := w5) (r := Z) (hv5.out.there (o := 0) (n := 7) (by rw [rc_length]; omega)); have hbb := below_setCells ((Below.refl w4.heap.size w4).trans hb5) hG5 0 (rc Z); unfold rv at hst5; rw [hCz.out] at hst5 hbb; have V5 := V4.out.on' hbb; have X5 := X4.out.on' hbb; have hldx := run_ldR (r := E) (by rw [hCe.out]; exact X5.whole); have hldr := run_ldR (r := E) (by rw [hCe.out]; exact V5.whole); unfold rv at hldx hldr; rw [hCe.out] at hldx hldr; have B5 := Lib.hid (below_two B4.out hbb); clear hb5 hbb V5 X5))
  go_ret
  exact ⟨rfl, B7.out⟩
end Go.Proofs.Ytkeihpenelpblaa
