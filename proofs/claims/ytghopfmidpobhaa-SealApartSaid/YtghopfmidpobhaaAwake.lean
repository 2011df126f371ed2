/-
  What every program answers that is one.
-/
import Derived.Test.YtghopfmidpobhaaOpen
import Derived.Test.YtghopfmidpobhaaApp
namespace Go.Proofs.Ytghopfmidpobhaa
open Go.RowKit BigFrame

theorem sealed_take {kind : Nat} {l : List Nat} (h : l.length ≤ 123) : (sealed kind l).take 124 = front kind l := by
  unfold sealed
  rw [List.take_append_of_le_length (by rw [front_length h]; omega), List.take_of_length_le (by rw [front_length h]; omega)]
theorem sealed_drop {kind : Nat} {l : List Nat} (h : l.length ≤ 123) : (sealed kind l).drop 124 = be4 (sumOf (front kind l)) := by
  unfold sealed
  rw [List.drop_append_of_le_length (by rw [front_length h]; omega), List.drop_of_length_le (by rw [front_length h]; omega), List.nil_append]
theorem sealed_fits {kind : Nat} {l : List Nat} (h : l.length ≤ 123) : fitsB (sealed kind l) = true := by
  unfold fitsB
  rw [sealed_take h, sealed_drop h, rd_be4 (sumOf_lt _)]; simp
theorem sealed_zero (kind : Nat) (l : List Nat) : bz (sealed kind l) 0 = kind := rfl
theorem kindOf_sealed {kind : Nat} {l : List Nat} (h : l.length ≤ 123) : kindOf (sealed kind l) = kind := by
  unfold kindOf
  rw [if_pos ⟨sealed_length h, sealed_fits h⟩, sealed_zero]
theorem bodyOf_sealed {kind : Nat} {l : List Nat} (h : l.length ≤ 123) : bodyOf (sealed kind l) = l ++ zs (123 - l.length) := by
  have e : (sealed kind l).drop 1 = (l ++ zs (123 - l.length)) ++ be4 (sumOf (front kind l)) := rfl
  unfold bodyOf
  have hl : (l ++ zs (123 - l.length)).length = 123 := by rw [List.length_append, zs_length]; omega
  rw [e, List.take_append_of_le_length (by omega), List.take_of_length_le (by omega)]

def Woke (w : World) (e : Ending) (w' : World) : Prop := e = .returned (.bool true) ∧ Below w.heap.size w w'

set_option maxHeartbeats 400000 in
theorem awake_any (w : World) : Calls Try.prog 7 #[] w (Woke w) := by
  have h5 : (1 : Nat) ≤ 123 := by omega
  have ho : Octs [5] := .cons (by omega) .nil
  have hf := Lib.hid (kindOf_sealed (kind := 68) (l := [5]) (by simp))
  have hb := Lib.hid (bodyOf_sealed (kind := 68) (l := [5]) (by simp))
  have hb5 := Lib.hid (show bz (bodyOf (sealed 68 [5])) 0 = 5 by rw [hb.out]; try rfl)
  have hb0 := Lib.hid (show 0 < (bodyOf (sealed 68 [5])).length by rw [bodyOf_length (sealed_length (by simp))]; omega)
  have hs := Lib.hid (sealed_length (kind := 68) (l := [5]) (by simp))
  have hso := Lib.hid (sealed_octs (kind := 68) (by omega) ho)
  have ho' := Lib.hid ho
  have r0 := Lib.hid (row_alloc w [5]).bat
  have b0 := Lib.hid ((Below.refl w.heap.size w).alloc (Nat.le_refl _) (.cells (bv [5]).toArray 5))
  have e0 : (bv [5]).toArray = #[Value.int .u8 5] := rfl
  rw [e0] at r0 b0
  clear ho e0
  go_enter Try.func7, Try.ntmps7
  go_wp2_with (first
    | (go_at_call 9; refine (seal_n 68 _ _ [5] _ rfl (by omega) (by omega) ho'.out h5 r0.out).mono ?_; rintro e w1 ⟨g, rfl, hg, hr, hw1⟩; have hr' := Lib.hid hr; have hw1' := Lib.hid (b0.out.trans (hw1.mono (by simp))); clear hr hw1)
    | (go_at_call_of 11 (Value.int IntKind.u8 68); refine (open_good 68 _ _ 128 _ _ hs.out (by omega) hf.out hso.out (by omega) hr'.out.bat).mono ?_; rintro e w2 ⟨g2, rfl, hg2, hr2, hw2⟩; have hr2' := Lib.hid hr2; have hr3 := Lib.hid (hr'.out.on hw2 hr'.out.lt); have hw2' := Lib.hid (hw1'.out.trans (hw2.mono hw1'.out.size)); clear hr2 hw2)
    | (go_at_call_of 11 (Value.int IntKind.u8 69); refine (open_bad 69 68 _ _ 128 _ _ hs.out hf.out (by omega) hso.out (by omega) hr3.out.bat).mono ?_; rintro e w3 ⟨rfl, m, rfl⟩; have c5 := hr2'.out.cell (k := 0) hb0.out; rw [hb5.out] at c5)
    | (go_at_call 14; refine (kind_is _ _ _ _ hf.out hs.out hso.out (by omega) (BAt.drew hr3.out.bat)).mono ?_; rintro e w4 ⟨rfl, m2, rfl⟩))
  go_ret
  exact ⟨rfl, hw2'.out.trans ⟨rfl, rfl, rfl, Nat.le_refl _, fun _ _ => rfl⟩⟩
end Go.Proofs.Ytghopfmidpobhaa
