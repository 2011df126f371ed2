/-
  What every program answers that is one.
-/
import Derived.Test.YtabbogkecnjikaaFirst
import Derived.Test.YtabbogkecnjikaaRun
import Derived.Test.YtabbogkecnjikaaCount
import Derived.Test.YtabbogkecnjikaaOf
import Derived.Test.YtabbogkecnjikaaSb
namespace Go.Proofs.Ytabbogkecnjikaa
open Go.RowKit BigFrame

def Woke (w : World) (e : Ending) (w' : World) : Prop := e = .returned (.bool true) ∧ Below w.heap.size w w'

theorem new_bytes (w : World) (l : List Nat) {arr : Array Value} (h : (bv l).toArray = arr) : BAt (w.alloc (.cells arr 5)) (some ⟨w.heap.size, 0, none⟩) l := by
  subst h; exact (row_alloc w l).bat
def R8 (k : Nat) : Int := if k = 0 then 8 else 0
theorem new_two (w : World) : IntsAt (w.alloc (.cells #[.int .i64 8, .int .i64 0] 3)) (some ⟨w.heap.size, 0, none⟩) 2 R8 :=
  .inr ⟨w.heap.size, 0, rfl, fun k hk => by
    rw [cell_of_row _ w.heap.size _ _ _ _ (heap_alloc_new w _)]
    match k, hk with
    | 0, _ => rfl
    | 1, _ => rfl⟩
theorem awake1 : IsFirst [3] 0 8 2 := .inl ⟨2, rfl, by omega, by omega, by decide, fun i _ h => by
  match i, h with
  | 0, _ => decide
  | 1, _ => decide⟩
theorem awake2 : hasN [0, 1] 8 = true := by decide
theorem awake3 : countN [7] 2 = 2 := by decide
theorem awake4 : IsRun [4] 0 9 3 3 := .inl ⟨3, rfl, by omega, by omega, fun k h1 h2 => by
    match k, h1, h2 with
    | 3, _, _ => decide
    | 4, _, _ => decide
    | 5, _, _ => decide, fun i _ h hf => by
    have := hf 2 (by omega) (by omega)
    revert this
    decide⟩
theorem awake5 : setsN 9 R8 2 = [1, 1] := by decide
theorem octs_one {x : Nat} (h : x < 256) : Octs [x] := .cons h .nil
theorem octs_two {x y : Nat} (h : x < 256) (h2 : y < 256) : Octs [x, y] := .cons h (.cons h2 .nil)

set_option maxHeartbeats 1000000 in
theorem awake_any (w : World) : Calls Try.prog 6 #[] w (Woke w) := by
  have o3 := Lib.hid (octs_one (x := 3) (by omega))
  have o01 := Lib.hid (octs_two (x := 0) (y := 1) (by omega) (by omega))
  have o7 := Lib.hid (octs_one (x := 7) (by omega))
  have o4 := Lib.hid (octs_one (x := 4) (by omega))
  have r0 := Lib.hid (new_bytes w [3] (arr := #[.int .u8 3]) rfl)
  have b0 := Lib.hid ((Below.refl w.heap.size w).alloc (Nat.le_refl _) (.cells #[.int .u8 3] 5))
  go_enter Try.func6, Try.ntmps6
  go_wp2_with (first
    | (go_at_call 10; refine (first_is _ _ 1 0 8 _ _ 2 [3] _ awake1 rfl rfl o3.out rfl (by omega) r0.out (by omega) (by omega)).mono ?_; rintro e w1 ht1; obtain ⟨rfl, hb1⟩ := ht1.below; have c1 := Lib.hid (b0.out.trans (hb1.mono b0.out.size)); have r1 := Lib.hid (new_bytes w1 [0, 1] (arr := #[.int .u8 0, .int .u8 1]) rfl); have b1 := Lib.hid (c1.out.alloc c1.out.size (.cells #[.int .u8 0, .int .u8 1] 5)); clear ht1 hb1)
    | (go_at_call 9; refine (has_c _ _ 2 8 _ [0, 1] _ _ awake2 rfl o01.out rfl (by omega) r1.out).mono ?_; rintro e w2 ht2; obtain ⟨rfl, hb2⟩ := ht2.below; have c2 := Lib.hid (b1.out.trans (hb2.mono b1.out.size)); have r2 := Lib.hid (new_bytes w2 [7] (arr := #[.int .u8 7]) rfl); have b2 := Lib.hid (c2.out.alloc c2.out.size (.cells #[.int .u8 7] 5)); clear ht2 hb2)
    | (go_at_call 13; refine (count_is _ _ 1 2 2 _ [7] _ awake3 rfl o7.out rfl (by omega) r2.out (by omega)).mono ?_; rintro e w3 ht3; obtain ⟨rfl, hb3⟩ := ht3.below; have c3 := Lib.hid (b2.out.trans (hb3.mono b2.out.size)); have r3 := Lib.hid (new_bytes w3 [4] (arr := #[.int .u8 4]) rfl); have b3 := Lib.hid (c3.out.alloc c3.out.size (.cells #[.int .u8 4] 5)); clear ht3 hb3)
    | (go_at_call 8; refine (run_is _ _ 1 0 9 3 _ _ _ 3 [4] _ awake4 rfl rfl rfl o4.out rfl (by omega) r3.out (by omega) (by omega) (by omega) (by omega)).mono ?_; rintro e w4 ht4; obtain ⟨rfl, hb4⟩ := ht4.below; have c4 := Lib.hid (b3.out.trans (hb4.mono b3.out.size)); have r4 := Lib.hid (new_two w4); have b4 := Lib.hid (c4.out.alloc c4.out.size (.cells #[.int .i64 8, .int .i64 0] 3)); clear ht4 hb4)
    | (go_at_call 11; refine (of_is _ _ 9 2 2 _ R8 [1, 1] _ awake5 rfl (by omega) (by omega) (by omega) r4.out).mono ?_; rintro e w5 ⟨g5, rfl, hg5, hr5, hb5⟩; have c5 := Lib.hid (b4.out.trans (hb5.mono b4.out.size)); have x5 := Lib.hid ((hr5.on ((Below.refl w5.heap.size w5).alloc (Nat.le_refl _) (.cells #[.int .u8 1, .int .u8 1] 5)) hr5.lt).bat); have r5 := Lib.hid (new_bytes w5 [1, 1] (arr := #[.int .u8 1, .int .u8 1]) rfl); have b5 := Lib.hid (c5.out.alloc c5.out.size (.cells #[.int .u8 1, .int .u8 1] 5)); clear hb5 hr5)
    | (go_at_call 15; refine (same_same _ _ _ _ 2 [1, 1] [1, 1] _ rfl rfl (by omega) x5.out r5.out).mono ?_; rintro e w6 ⟨rfl, hb6⟩; have c6 := Lib.hid (b5.out.trans (hb6.mono b5.out.size)); clear hb6))
  go_ret
  exact ⟨rfl, c6.out⟩
end Go.Proofs.Ytabbogkecnjikaa
