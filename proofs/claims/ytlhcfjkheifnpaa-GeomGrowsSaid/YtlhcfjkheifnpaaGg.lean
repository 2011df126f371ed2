/-
  A block more, four inodes more, a group more: the walk.
-/
import Derived.Test.YtlhcfjkheifnpaaGh
import Derived.Test.YtlhcfjkheifnpaaLo
import Derived.BigRegion
import Derived.Deep.DeepCutAuto
namespace Go.Proofs.Ytlhcfjkheifnpaa
open Go.RowKit BigFrame

theorem wrap_in' {n m : Int} (h : -9223372036854775808 ≤ n ∧ n ≤ 9223372036854775807 ∧ n = m) : IntKind.i64.wrap n = m := by rw [wrap_in ⟨h.1, h.2.1⟩]; exact h.2.2
theorem told_four {f : FuncId} {args : Array Value} {v : Value} {w0 w : World} {g i b g1 i1 b1 : Int} {x y z : Nat} (hc : ∀ w, Calls Try.prog f args w (Tells v w)) (hw : Four w0 g i b g1 i1 b1 x y z w) :
    Calls Try.prog f args w (fun e w' => e = .returned v ∧ Four w0 g i b g1 i1 b1 x y z w') := (hc w).mono fun _ _ ⟨he, hd⟩ => ⟨he, hw.on hd⟩
def GrowsCut (w : World) (u v t : Value) (wx : World) : Prop :=
  ∃ (G I B : Int) (g i b x y z : Nat), Geom G I B g i b ∧ g ≤ 7 ∧ i ≤ 28 ∧ b ≤ 95 ∧ Alike w G I B x y z wx ∧ u = .pointer (some ⟨x, 0, none⟩) ∧ v = .pointer (some ⟨y, 0, none⟩) ∧ t = .pointer (some ⟨z, 0, none⟩)

set_option maxRecDepth 100000 in
set_option maxHeartbeats 4000000 in
theorem grows_any (x0 x1 x2 n : Int) (w : World) : Calls Try.prog 5 #[.int .i64 x0, .int .i64 x1, .int .i64 x2, .int .i64 n] w (Tells (.bool true) w) := by
  go_enter Try.func5, Try.ntmps5
  go_wp2_with (first
    | (go_at_call_of 25 x0; refine (low_c x0 _ 7 _ (by omega) (by omega) (by omega)).mono ?_; rintro e w1 ⟨k0, hk0, rfl, rfl⟩)
    | (go_at_call_of 25 x1; refine (low_c x1 _ 7 _ (by omega) (by omega) (by omega)).mono ?_; rintro e w1 ⟨k1, hk1, rfl, rfl⟩)
    | (go_at_call_of 25 x2; refine (low_c x2 _ 80 _ (by omega) (by omega) (by omega)).mono ?_; rintro e w1 ⟨k2, hk2, rfl, rfl⟩))
  go_cut [10, 11, 12] (fun u v t wx => GrowsCut w u v t wx)
  case first =>
    have ok : Geom (1 + (k0 : Int)) (4 + 4 * (k1 : Int)) (16 + (k2 : Int)) (1 + k0) (4 + 4 * k1) (16 + k2) := ⟨by omega, by omega, by omega, by constructor <;> omega⟩
    go_region
    all_goals go_wp2_with fail
    all_goals go_meet
    all_goals exact ⟨_, _, _, _, _, _, _, _, _, ok, by omega, by omega, by omega, alike_new w _ _ _ _ rfl _ _ _ (by omega) (by omega), rfl, rfl, rfl⟩
  case rest =>
    obtain ⟨G, I, B, g, i, b, x, y, z, ⟨rfl, rfl, rfl, ok⟩, hg, hi, hb, hA, rfl, rfl, rfl⟩ := hcut
    obtain ⟨o1, o2, o3, o4, o5, o6, o7⟩ := ok
    have ok0 := Lib.hid (show Geom (g : Int) (i : Int) (b : Int) g i b from ⟨rfl, rfl, rfl, by constructor <;> omega⟩)
    have okx := Lib.hid (show Geom (g : Int) (i : Int) ((b : Int) + 1) g i (b + 1) from ⟨rfl, rfl, by omega, by constructor <;> omega⟩)
    have oky := Lib.hid (show Geom (g : Int) ((i : Int) + 4) (b : Int) g (i + 4) b from ⟨rfl, by omega, rfl, by constructor <;> omega⟩)
    have okz := Lib.hid (show Geom ((g : Int) + 1) (i : Int) (b : Int) (g + 1) i b from ⟨by omega, rfl, rfl, by constructor <;> omega⟩)
    have f1 := Lib.hid (hA.four (g1 := (g : Int) + 1) (i1 := (i : Int) + 4) (b1 := (b : Int) + 1))
    obtain ⟨h0, hx, hy, hz, ⟨a1, a2, a3⟩, ⟨p1, p2, p3⟩, _⟩ := hA
    have b0 := hx.box.2.2.1
    have b1 := hx.frozen 2
    have b2 := (hy.far (k := 2) (Ne.symm p1) (.int .i64 ((b : Int) + 1))).box.2.1
    have b3 := (hy.far (k := 2) (Ne.symm p1) (.int .i64 ((b : Int) + 1))).frozen 1
    have b4 := ((hz.far (k := 2) (Ne.symm p2) (.int .i64 ((b : Int) + 1))).far (k := 1) (Ne.symm p3) (.int .i64 ((i : Int) + 4))).box.1
    have b5 := ((hz.far (k := 2) (Ne.symm p2) (.int .i64 ((b : Int) + 1))).far (k := 1) (Ne.symm p3) (.int .i64 ((i : Int) + 4))).frozen 0
    have b6 := f1.out.h0.2.1
    obtain ⟨P, hP⟩ : ∃ P, P = spanN i b := ⟨_, rfl⟩
    obtain ⟨S, hS⟩ : ∃ S, S = 2 + g * P := ⟨_, rfl⟩
    obtain ⟨N, hN⟩ : ∃ N, N = g * i := ⟨_, rfl⟩
    obtain ⟨U, hU⟩ : ∃ U, U = g * b := ⟨_, rfl⟩
    have bP : P = 1 + i / 4 + b := hP
    have bS : S ≤ 1000 := by have := Nat.mul_le_mul (show g ≤ 8 by omega) (show P ≤ 110 by omega); omega
    have bN : N ≤ 1000 := by have := Nat.mul_le_mul (show g ≤ 8 by omega) (show i ≤ 32 by omega); omega
    have bU : U ≤ 1000 := by have := Nat.mul_le_mul (show g ≤ 8 by omega) (show b ≤ 100 by omega); omega
    have hSx := Lib.hid (show ((S : Int) + (g : Int)) = ((2 + g * spanN i (b + 1) : Nat) : Int) by
      have e : spanN i (b + 1) = P + 1 := by unfold spanN; omega
      rw [e, Nat.mul_add, Nat.mul_one]; omega)
    have hSy := Lib.hid (show ((S : Int) + (g : Int)) = ((2 + g * spanN (i + 4) b : Nat) : Int) by
      have e : spanN (i + 4) b = P + 1 := by unfold spanN; omega
      rw [e, Nat.mul_add, Nat.mul_one]; omega)
    have hSz := Lib.hid (show ((S : Int) + (P : Int)) = ((2 + (g + 1) * spanN i b : Nat) : Int) by
      rw [← hP, Nat.add_mul, Nat.one_mul]; omega)
    have hS0 := Lib.hid (show (S : Int) = ((2 + g * spanN i b : Nat) : Int) by rw [← hP]; omega)
    have hNz := Lib.hid (show ((N : Int) + (i : Int)) = (((g + 1) * i : Nat) : Int) by rw [Nat.add_mul, Nat.one_mul]; omega)
    have hN0 := Lib.hid (show (N : Int) = ((g * i : Nat) : Int) by rw [hN])
    have hUx := Lib.hid (show ((U : Int) + (g : Int)) = ((g * (b + 1) : Nat) : Int) by rw [Nat.mul_add, Nat.mul_one]; omega)
    have hU0 := Lib.hid (show (U : Int) = ((g * b : Nat) : Int) by rw [hU])
    have bP1 : P ≤ 1 + i / 4 + b := by omega
    have bP2 : 1 + i / 4 + b ≤ P := by omega
    clear h0 hx hy hz hP hS hN hU bP
    have tk0 := Lib.hid trivial
    have tk1 := Lib.hid trivial
    have tk2 := Lib.hid trivial
    go_wp2_with (first
      | (go_at_call_of 25 n; refine (low_nat n i _ (by omega) (by omega)).mono ?_; rintro e w1 ⟨k, hk, rfl, rfl⟩; obtain ⟨⟨c0, c1, c2, cl⟩, ⟨x0, x1, x2, xl⟩, ⟨y0, y1, y2, yl⟩, ⟨z0, z1, z2, zl⟩, _⟩ := f1.out)
      | (go_at_call 6; clear tk0; refine (geoInode_c 0 k _ (((3 + k / 4 : Nat)) : Int) ((k % 4 : Nat) : Int) _ ok0.out (by omega) hk (by omega) (by simp [nodeN]) rfl).mono ?_; rintro e w1 ⟨rfl, hd⟩; unfold two; have f2 := Lib.hid (f1.out.on hd); clear f1; have f1 := f2; clear f2; obtain ⟨⟨c0, c1, c2, cl⟩, ⟨x0, x1, x2, xl⟩, ⟨y0, y1, y2, yl⟩, ⟨z0, z1, z2, zl⟩, _⟩ := f1.out; clear hd)
      | (go_at_call 6; clear tk1; refine (geoInode_c 0 k _ (((3 + k / 4 : Nat)) : Int) ((k % 4 : Nat) : Int) _ okz.out (by omega) hk (by omega) (by simp [nodeN]) rfl).mono ?_; rintro e w1 ⟨rfl, hd⟩; unfold two; have f2 := Lib.hid (f1.out.on hd); clear f1; have f1 := f2; clear f2; obtain ⟨⟨c0, c1, c2, cl⟩, ⟨x0, x1, x2, xl⟩, ⟨y0, y1, y2, yl⟩, ⟨z0, z1, z2, zl⟩, _⟩ := f1.out; clear hd)
      | (go_at_call 6; clear tk2; refine (geoInode_c 0 k _ (((3 + k / 4 : Nat)) : Int) ((k % 4 : Nat) : Int) _ okx.out (by omega) hk (by omega) (by simp [nodeN]) rfl).mono ?_; rintro e w1 ⟨rfl, hd⟩; unfold two; have f2 := Lib.hid (f1.out.on hd); clear f1; have f1 := f2; clear f2; obtain ⟨⟨c0, c1, c2, cl⟩, ⟨x0, x1, x2, xl⟩, ⟨y0, y1, y2, yl⟩, ⟨z0, z1, z2, zl⟩, _⟩ := f1.out; clear hd)
      | (go_at_call 14; refine (geoSectors_c (S : Int) _ ok0.out hS0.out).mono ?_; rintro e w1 ⟨rfl, hd⟩; have f2 := Lib.hid (f1.out.on hd); clear f1; have f1 := f2; clear f2; obtain ⟨⟨c0, c1, c2, cl⟩, ⟨x0, x1, x2, xl⟩, ⟨y0, y1, y2, yl⟩, ⟨z0, z1, z2, zl⟩, _⟩ := f1.out; clear hd))
    simp only [List.append]
    refine wp_region_at (C := Four w g i b ((g : Int) + 1) ((i : Int) + 4) ((b : Int) + 1) x y z) (by kernel_rfl) (by kernel_rfl) f1.out.drew ?_
    go_big_quiet_want; refine quiet_geo (A := x) rfl rfl (fun _ h => h.hx) ?_; go_simp; try go_big_quiet_on
    go_big_quiet_want; refine quiet_val (.int .i64 ((S : Int) + (g : Int))) (fun _ hC => by unfold Oper.quietAt Oper.quietUpon; go_simp; exact told_four (fun w => geoSectors_c _ w okx.out hSx.out) hC) ?_; go_simp; try go_big_quiet_on
    go_big_quiet_want; go_big_quiet_op; go_big_quiet_on
    go_big_quiet_want; refine quiet_val (.pointer (some ⟨w.heap.size, 0, none⟩)) (fun _ _ => by unfold Oper.quietAt Oper.quietUpon; go_simp; try exact wrap_in' (by omega)) ?_; go_simp; try go_big_quiet_on
    go_big_quiet_want; refine quiet_val (.int .i64 (g)) (fun _ hC => by have hc := hC.h0.1; unfold Oper.quietAt Oper.quietUpon; go_simp) ?_; go_simp; try go_big_quiet_on
    go_big_quiet_want; refine quiet_val (.int .i64 ((S : Int) + (g : Int))) (fun _ _ => by unfold Oper.quietAt Oper.quietUpon; go_simp; try exact wrap_in' (by omega)) ?_; go_simp; try go_big_quiet_on
    go_big_quiet_want; refine quiet_val (.bool true) (fun _ _ => by unfold Oper.quietAt Oper.quietUpon; go_simp; try exact wrap_in' (by omega)) ?_; go_simp; try go_big_quiet_on
    go_big_quiet_want; go_big_quiet_op; go_big_quiet_on
    go_big_quiet_want; refine quiet_geo (A := y) rfl rfl (fun _ h => h.hy) ?_; go_simp; try go_big_quiet_on
    go_big_quiet_want; refine quiet_val (.int .i64 ((S : Int) + (g : Int))) (fun _ hC => by unfold Oper.quietAt Oper.quietUpon; go_simp; exact told_four (fun w => geoSectors_c _ w oky.out hSy.out) hC) ?_; go_simp; try go_big_quiet_on
    go_big_quiet_want; go_big_quiet_op; go_big_quiet_on
    go_big_quiet_want; refine quiet_val (.pointer (some ⟨w.heap.size, 0, none⟩)) (fun _ _ => by unfold Oper.quietAt Oper.quietUpon; go_simp; try exact wrap_in' (by omega)) ?_; go_simp; try go_big_quiet_on
    go_big_quiet_want; refine quiet_val (.int .i64 (g)) (fun _ hC => by have hc := hC.h0.1; unfold Oper.quietAt Oper.quietUpon; go_simp) ?_; go_simp; try go_big_quiet_on
    go_big_quiet_want; refine quiet_val (.int .i64 ((S : Int) + (g : Int))) (fun _ _ => by unfold Oper.quietAt Oper.quietUpon; go_simp; try exact wrap_in' (by omega)) ?_; go_simp; try go_big_quiet_on
    go_big_quiet_want; refine quiet_val (.bool true) (fun _ _ => by unfold Oper.quietAt Oper.quietUpon; go_simp; try exact wrap_in' (by omega)) ?_; go_simp; try go_big_quiet_on
    go_big_quiet_want; refine quiet_val (.bool true) (fun _ _ => by unfold Oper.quietAt Oper.quietUpon; go_simp; try exact wrap_in' (by omega)) ?_; go_simp; try go_big_quiet_on
    go_big_quiet_want; go_big_quiet_op; go_big_quiet_on
    go_big_quiet_want; refine quiet_geo (A := z) rfl rfl (fun _ h => h.hz) ?_; go_simp; try go_big_quiet_on
    go_big_quiet_want; refine quiet_val (.int .i64 ((S : Int) + (P : Int))) (fun _ hC => by unfold Oper.quietAt Oper.quietUpon; go_simp; exact told_four (fun w => geoSectors_c _ w okz.out hSz.out) hC) ?_; go_simp; try go_big_quiet_on
    go_big_quiet_want; go_big_quiet_op; go_big_quiet_on
    go_big_quiet_want; refine quiet_val (.int .i64 (P : Int)) (fun _ _ => by unfold Oper.quietAt Oper.quietUpon; go_simp; try exact wrap_in' (by omega)) ?_; go_simp; try go_big_quiet_on
    go_big_quiet_want; refine quiet_geo (A := w.heap.size) rfl rfl (fun _ h => h.h0) ?_; go_simp; try go_big_quiet_on
    go_big_quiet_want; refine quiet_val (.int .i64 ((3 + i / 4 : Nat) : Int)) (fun _ hC => by unfold Oper.quietAt Oper.quietUpon; go_simp; exact told_four (fun w => geoFirst_c 0 _ _ w ok0.out (by omega) (by omega) (by simp [firstN])) hC) ?_; go_simp; try go_big_quiet_on
    go_big_quiet_want; refine quiet_val (.int .i64 ((3 + i / 4 : Nat) - 2 : Int)) (fun _ _ => by unfold Oper.quietAt Oper.quietUpon; go_simp; try exact wrap_in' (by omega)) ?_; go_simp; try go_big_quiet_on
    go_big_quiet_want; refine quiet_val (.pointer (some ⟨w.heap.size, 2, none⟩)) (fun _ _ => by unfold Oper.quietAt Oper.quietUpon; go_simp; try exact wrap_in' (by omega)) ?_; go_simp; try go_big_quiet_on
    go_big_quiet_want; refine quiet_val (.int .i64 (b)) (fun _ hC => by have hc := hC.h0.2.2.1; unfold Oper.quietAt Oper.quietUpon; go_simp) ?_; go_simp; try go_big_quiet_on
    go_big_quiet_want; refine quiet_val (.int .i64 (P : Int)) (fun _ _ => by unfold Oper.quietAt Oper.quietUpon; go_simp; try exact wrap_in' (by omega)) ?_; go_simp; try go_big_quiet_on
    go_big_quiet_want; refine quiet_val (.bool true) (fun _ _ => by unfold Oper.quietAt Oper.quietUpon; go_simp; try exact wrap_in' (by omega)) ?_; go_simp; try go_big_quiet_on
    go_big_quiet_want; refine quiet_val (.bool true) (fun _ _ => by unfold Oper.quietAt Oper.quietUpon; go_simp; try exact wrap_in' (by omega)) ?_; go_simp; try go_big_quiet_on
    go_big_quiet_want; go_big_quiet_op; go_big_quiet_on
    go_big_quiet_want; refine quiet_geo (A := z) rfl rfl (fun _ h => h.hz) ?_; go_simp; try go_big_quiet_on
    go_big_quiet_want; refine quiet_val (.pointer (some ⟨w.heap.size, 0, none⟩)) (fun _ _ => by unfold Oper.quietAt Oper.quietUpon; go_simp; try exact wrap_in' (by omega)) ?_; go_simp; try go_big_quiet_on
    go_big_quiet_want; refine quiet_val (.int .i64 (g)) (fun _ hC => by have hc := hC.h0.1; unfold Oper.quietAt Oper.quietUpon; go_simp) ?_; go_simp; try go_big_quiet_on
    go_big_quiet_want; refine quiet_val (.int .i64 (S : Int)) (fun _ hC => by unfold Oper.quietAt Oper.quietUpon; go_simp; exact told_four (fun w => geoGroup_c g _ _ w okz.out (by omega) (by omega) hS0.out) hC) ?_; go_simp; try go_big_quiet_on
    go_big_quiet_want; go_big_quiet_op; go_big_quiet_on
    go_big_quiet_want; refine quiet_val (.bool true) (fun _ _ => by unfold Oper.quietAt Oper.quietUpon; go_simp; try exact wrap_in' (by omega)) ?_; go_simp; try go_big_quiet_on
    go_big_quiet_want; refine quiet_val (.bool true) (fun _ _ => by unfold Oper.quietAt Oper.quietUpon; go_simp; try exact wrap_in' (by omega)) ?_; go_simp; try go_big_quiet_on
    go_big_quiet_want; go_big_quiet_op; go_big_quiet_on
    go_big_quiet_want; go_big_quiet_op; go_big_quiet_on
    go_big_quiet_want; go_big_quiet_op; go_big_quiet_on
    go_big_quiet_want; refine quiet_val (.bool true) (fun _ _ => by unfold Oper.quietAt Oper.quietUpon; go_simp; try exact wrap_in' (by omega)) ?_; go_simp; try go_big_quiet_on
    go_big_quiet_want; refine quiet_val (.bool true) (fun _ _ => by unfold Oper.quietAt Oper.quietUpon; go_simp; try exact wrap_in' (by omega)) ?_; go_simp; try go_big_quiet_on
    go_big_quiet_want; go_big_quiet_op; go_big_quiet_on
    go_big_quiet_want; go_big_quiet_op; go_big_quiet_on
    go_big_quiet_want; go_big_quiet_op; go_big_quiet_on
    go_big_quiet_want; refine quiet_val (.bool true) (fun _ _ => by unfold Oper.quietAt Oper.quietUpon; go_simp; try exact wrap_in' (by omega)) ?_; go_simp; try go_big_quiet_on
    go_big_quiet_want; refine quiet_val (.bool true) (fun _ _ => by unfold Oper.quietAt Oper.quietUpon; go_simp; try exact wrap_in' (by omega)) ?_; go_simp; try go_big_quiet_on
    go_big_quiet_want; go_big_quiet_op; go_big_quiet_on
    go_big_quiet_want; go_big_quiet_op; go_big_quiet_on
    go_big_quiet_want; go_big_quiet_op; go_big_quiet_on
    go_big_quiet_want; refine quiet_val (.bool true) (fun _ _ => by unfold Oper.quietAt Oper.quietUpon; go_simp; try exact wrap_in' (by omega)) ?_; go_simp; try go_big_quiet_on
    go_big_quiet_want; refine quiet_val (.bool true) (fun _ _ => by unfold Oper.quietAt Oper.quietUpon; go_simp; try exact wrap_in' (by omega)) ?_; go_simp; try go_big_quiet_on
    go_big_quiet_want; go_big_quiet_op; go_big_quiet_on
    go_big_quiet_want; go_big_quiet_op; go_big_quiet_on
    go_big_quiet_want; go_big_quiet_op; go_big_quiet_on
    go_big_quiet_want; refine quiet_val (.bool true) (fun _ _ => by unfold Oper.quietAt Oper.quietUpon; go_simp; try exact wrap_in' (by omega)) ?_; go_simp; try go_big_quiet_on
    go_big_quiet_want; refine quiet_val (.bool true) (fun _ _ => by unfold Oper.quietAt Oper.quietUpon; go_simp; try exact wrap_in' (by omega)) ?_; go_simp; try go_big_quiet_on
    go_big_quiet_want; go_big_quiet_op; go_big_quiet_on
    go_big_quiet_want; refine quiet_geo (A := z) rfl rfl (fun _ h => h.hz) ?_; go_simp; try go_big_quiet_on
    go_big_quiet_want; refine quiet_val (.int .i64 ((N : Int) + (i : Int))) (fun _ hC => by unfold Oper.quietAt Oper.quietUpon; go_simp; exact told_four (fun w => geoInodes_c _ w okz.out hNz.out) hC) ?_; go_simp; try go_big_quiet_on
    go_big_quiet_want; refine quiet_geo (A := w.heap.size) rfl rfl (fun _ h => h.h0) ?_; go_simp; try go_big_quiet_on
    go_big_quiet_want; refine quiet_val (.int .i64 (N : Int)) (fun _ hC => by unfold Oper.quietAt Oper.quietUpon; go_simp; exact told_four (fun w => geoInodes_c _ w ok0.out hN0.out) hC) ?_; go_simp; try go_big_quiet_on
    go_big_quiet_want; refine quiet_val (.pointer (some ⟨w.heap.size, 1, none⟩)) (fun _ _ => by unfold Oper.quietAt Oper.quietUpon; go_simp; try exact wrap_in' (by omega)) ?_; go_simp; try go_big_quiet_on
    go_big_quiet_want; refine quiet_val (.int .i64 (i)) (fun _ hC => by have hc := hC.h0.2.1; unfold Oper.quietAt Oper.quietUpon; go_simp) ?_; go_simp; try go_big_quiet_on
    go_big_quiet_want; refine quiet_val (.int .i64 ((N : Int) + (i : Int))) (fun _ _ => by unfold Oper.quietAt Oper.quietUpon; go_simp; try exact wrap_in' (by omega)) ?_; go_simp; try go_big_quiet_on
    go_big_quiet_want; refine quiet_val (.bool true) (fun _ _ => by unfold Oper.quietAt Oper.quietUpon; go_simp; try exact wrap_in' (by omega)) ?_; go_simp; try go_big_quiet_on
    go_big_quiet_want; refine quiet_val (.bool true) (fun _ _ => by unfold Oper.quietAt Oper.quietUpon; go_simp; try exact wrap_in' (by omega)) ?_; go_simp; try go_big_quiet_on
    go_big_quiet_want; go_big_quiet_op; go_big_quiet_on
    go_big_quiet_want; refine quiet_geo (A := x) rfl rfl (fun _ h => h.hx) ?_; go_simp; try go_big_quiet_on
    go_big_quiet_want; refine quiet_val (.int .i64 ((U : Int) + (g : Int))) (fun _ hC => by unfold Oper.quietAt Oper.quietUpon; go_simp; exact told_four (fun w => geoBlocks_c _ w okx.out hUx.out) hC) ?_; go_simp; try go_big_quiet_on
    go_big_quiet_want; refine quiet_geo (A := w.heap.size) rfl rfl (fun _ h => h.h0) ?_; go_simp; try go_big_quiet_on
    go_big_quiet_want; refine quiet_val (.int .i64 (U : Int)) (fun _ hC => by unfold Oper.quietAt Oper.quietUpon; go_simp; exact told_four (fun w => geoBlocks_c _ w ok0.out hU0.out) hC) ?_; go_simp; try go_big_quiet_on
    go_big_quiet_want; refine quiet_val (.pointer (some ⟨w.heap.size, 0, none⟩)) (fun _ _ => by unfold Oper.quietAt Oper.quietUpon; go_simp; try exact wrap_in' (by omega)) ?_; go_simp; try go_big_quiet_on
    go_big_quiet_want; refine quiet_val (.int .i64 (g)) (fun _ hC => by have hc := hC.h0.1; unfold Oper.quietAt Oper.quietUpon; go_simp) ?_; go_simp; try go_big_quiet_on
    go_big_quiet_want; refine quiet_val (.int .i64 ((U : Int) + (g : Int))) (fun _ _ => by unfold Oper.quietAt Oper.quietUpon; go_simp; try exact wrap_in' (by omega)) ?_; go_simp; try go_big_quiet_on
    go_big_quiet_want; refine quiet_val (.bool true) (fun _ _ => by unfold Oper.quietAt Oper.quietUpon; go_simp; try exact wrap_in' (by omega)) ?_; go_simp; try go_big_quiet_on
    go_big_quiet_want; refine quiet_val (.bool true) (fun _ _ => by unfold Oper.quietAt Oper.quietUpon; go_simp; try exact wrap_in' (by omega)) ?_; go_simp; try go_big_quiet_on
    go_big_quiet_want; go_big_quiet_op; go_big_quiet_on
    go_big_quiet_want; refine quiet_val (.bool true) (fun _ hC => by unfold Oper.quietAt Oper.quietUpon; go_simp; exact told_four awake_any hC) ?_; go_simp; try go_big_quiet_on
    go_big_quiet_want; refine quiet_val (.bool true) (fun _ _ => by unfold Oper.quietAt Oper.quietUpon; go_simp; try exact wrap_in' (by omega)) ?_; go_simp; try go_big_quiet_on
    go_big_quiet_want; go_big_quiet_op; go_big_quiet_on
    refine wpQuiet_nil ?_
    intro w3 hC
    obtain ⟨_, _, _, _, hd⟩ := hC
    go_wp2_with fail
    go_ret
    exact ⟨rfl, hd⟩
end Go.Proofs.Ytlhcfjkheifnpaa
