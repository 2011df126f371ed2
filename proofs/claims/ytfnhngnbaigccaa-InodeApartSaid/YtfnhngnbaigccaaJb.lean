/-
  Inodes in memory: loaded, stored, compared; as the walks meet them.
-/
import Derived.Test.YtfnhngnbaigccaaJa
import Derived.Test.YtfnhngnbaigccaaAv
import Derived.Test.YtfnhngnbaigccaaTo
namespace Go.Proofs.Ytfnhngnbaigccaa
open Go.RowKit BigFrame

theorem Try.sizeIno : (Try.prog.info? 24).map (·.size) = some 11 := by kernel_rfl
theorem Try.sizeFour : (Try.prog.info? 25).map (·.size) = some 44 := by kernel_rfl
theorem Try.sizeSix : (Try.prog.info? 22).map (·.size) = some 6 := by kernel_rfl
theorem Try.infoIno : (Try.prog.info? 24).map (fun i => (i.zero, i.size)) = some (some (av (zz 11)), 11) := by kernel_rfl
theorem Try.infoFour : (Try.prog.info? 25).map (fun i => (i.zero, i.size)) = some (some (av (zz 44)), 44) := by kernel_rfl

theorem ldI_of (v : Value) : Instr.loadAt 24 v = ldA 24 v := rfl
theorem ldF_of (v : Value) : Instr.loadAt 25 v = ldA 25 v := rfl
theorem ldS_of (v : Value) : Instr.loadAt 22 v = ldA 22 v := rfl
theorem stI_of (p v : Value) : Instr.storeAt 24 p v = stA 24 p v := rfl
theorem stF_of (p v : Value) : Instr.storeAt 25 p v = stA 25 p v := rfl
theorem ixF_of (x i : Value) : Instr.index 25 x i = ixA 25 x i := rfl
theorem ixS_of (x i : Value) : Instr.index 22 x i = ixA 22 x i := rfl
theorem eqI_of (x y : Value) : Op.equalIn 10000 24 x y = eqA 24 x y := rfl
theorem eqF_of (x y : Value) : Op.equalIn 10000 25 x y = eqA 25 x y := rfl
theorem bdI_of (ps : Array (Nat × Value)) : Instr.build 24 ps = bdA 24 ps := rfl
theorem bdF_of (ps : Array (Nat × Value)) : Instr.build 25 ps = bdA 25 ps := rfl

theorem run_ldI {w : World} {g o : Nat} {l : List Int} (hr : w.rangeAt g o (iv l)) (hl : l.length = 11) : (ldA 24 (.pointer (some ⟨g, o, none⟩))).run Try.prog w = .ok (av l) w :=
  run_ldA 11 _ hr hl Try.underlying24 rfl Try.sizeIno
theorem run_ldF {w : World} {g o : Nat} {l : List Int} (hr : w.rangeAt g o (iv l)) (hl : l.length = 44) : (ldA 25 (.pointer (some ⟨g, o, none⟩))).run Try.prog w = .ok (av l) w :=
  run_ldA 44 _ hr hl Try.underlying25 rfl Try.sizeFour
theorem run_ldS {w : World} {g o : Nat} {l : List Int} (hr : w.rangeAt g o (iv l)) (hl : l.length = 6) : (ldA 22 (.pointer (some ⟨g, o, none⟩))).run Try.prog w = .ok (av l) w :=
  run_ldA 6 _ hr hl Try.underlying22 rfl Try.sizeSix
theorem run_stI {w : World} {g o : Nat} {m : List Int} (hm : m.length = 11) (ht : w.there g o 11) : (stA 24 (.pointer (some ⟨g, o, none⟩)) (av m)).run Try.prog w = .ok () (w.setCells g o (iv m)) :=
  run_stA 11 hm ht Try.sizeIno
theorem run_stF {w : World} {g o : Nat} {m : List Int} (hm : m.length = 44) (ht : w.there g o 44) : (stA 25 (.pointer (some ⟨g, o, none⟩)) (av m)).run Try.prog w = .ok () (w.setCells g o (iv m)) :=
  run_stA 44 hm ht Try.sizeFour
theorem run_ixF (w : World) (L : List Int) (k : Nat) (hk : k < 4) : (ixA 25 (av L) (.int .i64 (k : Int))).run Try.prog w = .ok (av (inoAt L k)) w :=
  run_ixA_row Try.underlying25 Try.underlying24 rfl Try.sizeIno w L k hk
theorem run_ixS (w : World) (L : List Int) (k : Nat) (hk : k < 6) (hL : L.length = 6) : (ixA 22 (av L) (.int .i64 (k : Int))).run Try.prog w = .ok (.int .i64 (zi L k)) w :=
  run_ixA_int Try.underlying22 Try.underlying3 Try.sizeInt w L k hk hL
theorem run_bd0I (w : World) : (bdA 24 #[]).run Try.prog w = .ok (av (zz 11)) w := by
  unfold bdA
  exact run_build w _ _ _ (by kernel_rfl)
theorem run_bd0F (w : World) : (bdA 25 #[]).run Try.prog w = .ok (av (zz 44)) w := by
  unfold bdA
  exact run_build w _ _ _ (by kernel_rfl)
theorem Try.heldIno : Try.prog.stoodInHeld 24 = false := by kernel_rfl
theorem run_eqI' (d : Nat) (X Y : List Int) (w : World) (hX : X.length = 11) (hY : Y.length = 11) : (Op.equalIn (d + 3) 24 (av X) (av Y)).run Try.prog w = .ok (decide (X = Y)) w := by
  have hf : Try.prog.underlying 24 = some (.struct (Try.prog.fieldsOf 24)) := by unfold Program.fieldsOf; rw [Try.underlying24]
  have h := run_equalIn_struct (P := Try.prog) w (d + 2) 24 (iv X).toArray (iv Y).toArray hf Try.heldIno
  unfold av
  rw [h]
  simp only [Program.fieldsOf, Try.underlying24]
  rw [eqFields_int (by decide) Try.underlying3 (by show 0 < _; omega) (by show 0 < _; omega), eqFields_int (by decide) Try.underlying3 (by show 1 < _; omega) (by show 1 < _; omega), eqFields_int (by decide) Try.underlying3 (by show 2 < _; omega) (by show 2 < _; omega),
    eqFields_row (n := 6) (by decide) Try.underlying22 rfl Try.sizeSix (fun x y hx hy => run_eq_ints Try.underlying22 Try.underlying3 Try.sizeInt d w x y hx hy) (by show 3 + 6 ≤ _; omega) (by show 3 + 6 ≤ _; omega),
    eqFields_int (by decide) Try.underlying3 (by show 9 < _; omega) (by show 9 < _; omega), eqFields_int (by decide) Try.underlying3 (by show 10 < _; omega) (by show 10 < _; omega), eqFields_nil]
  have key : X = Y ↔ zi X 0 = zi Y 0 ∧ zi X 1 = zi Y 1 ∧ zi X 2 = zi Y 2 ∧ (X.drop 3).take 6 = (Y.drop 3).take 6 ∧ zi X 9 = zi Y 9 ∧ zi X 10 = zi Y 10 := by
    obtain ⟨a, b, c, d0, d1, d2, d3, d4, d5, e, f, rfl⟩ := eleven hX
    obtain ⟨a', b', c', d0', d1', d2', d3', d4', d5', e', f', rfl⟩ := eleven hY
    simp [zi]
    intros
    simp only [and_assoc]
  show (if zi X 0 = zi Y 0 then if zi X 1 = zi Y 1 then if zi X 2 = zi Y 2 then if (X.drop 3).take 6 = (Y.drop 3).take 6 then if zi X 9 = zi Y 9 then if zi X 10 = zi Y 10 then Result.ok true w else .ok false w else .ok false w else .ok false w else .ok false w else .ok false w else .ok false w) = _
  by_cases h : X = Y
  · obtain ⟨h0, h1, h2, h3, h4, h5⟩ := key.1 h
    rw [if_pos h0, if_pos h1, if_pos h2, if_pos h3, if_pos h4, if_pos h5, decide_eq_true h]
  · rw [decide_eq_false h]
    by_cases h0 : zi X 0 = zi Y 0
    · rw [if_pos h0]
      by_cases h1 : zi X 1 = zi Y 1
      · rw [if_pos h1]
        by_cases h2 : zi X 2 = zi Y 2
        · rw [if_pos h2]
          by_cases h3 : (X.drop 3).take 6 = (Y.drop 3).take 6
          · rw [if_pos h3]
            by_cases h4 : zi X 9 = zi Y 9
            · rw [if_pos h4, if_neg (fun h5 => h (key.2 ⟨h0, h1, h2, h3, h4, h5⟩))]
            · rw [if_neg h4]
          · rw [if_neg h3]
        · rw [if_neg h2]
      · rw [if_neg h1]
    · rw [if_neg h0]
theorem run_eqI (X Y : List Int) (w : World) (hX : X.length = 11) (hY : Y.length = 11) : (eqA 24 (av X) (av Y)).run Try.prog w = .ok (decide (X = Y)) w := run_eqI' 9997 X Y w hX hY
theorem run_eqF (X Y : List Int) (w : World) (hX : X.length = 44) (hY : Y.length = 44) : (eqA 25 (av X) (av Y)).run Try.prog w = .ok (decide (X = Y)) w :=
  run_eq_rows Try.underlying25 Try.sizeIno 9998 w X Y hX hY (fun i hi => parted_row Try.underlying24 rfl Try.sizeIno w X Y i (fun x y hx hy => run_eqI' 9996 x y w hx hy) (by omega) (by omega))
theorem Try.eqGuardI : Try.prog.eqGuardType Try.prog.depth 24 = false := by kernel_rfl
theorem Try.eqGuardF : Try.prog.eqGuardType Try.prog.depth 25 = false := by kernel_rfl
end Go.Proofs.Ytfnhngnbaigccaa
