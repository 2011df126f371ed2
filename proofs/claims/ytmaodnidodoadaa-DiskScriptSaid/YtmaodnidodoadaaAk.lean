/-
  What every program answers that is one.
-/
import Derived.Test.YtmaodnidodoadaaLv
import Derived.Test.YtmaodnidodoadaaFi
import Derived.Test.YtmaodnidodoadaaSb
import Derived.Test.YtmaodnidodoadaaSi
namespace Go.Proofs.Ytmaodnidodoadaa
open Go.RowKit BigFrame

def zrow : Array Value := (bv (zs 128)).toArray
theorem make_zrow (w : World) : (Instr.makeSlice 43 (.int .i64 128) (.int .i64 128)).run Try.prog w = .ok (.slice (some ⟨w.heap.size, 0, none⟩) 128 128) (w.alloc (.cells zrow 5)) := by
  have := run_make_row' (P := Try.prog) 43 5 (.int .u8 0) 1 Try.underlying43 Try.infoB rfl .i64 .i64 128 (by omega) (by omega) w
  rw [made_bytes] at this
  exact this
theorem zrow_row (w : World) : Row (w.alloc (.cells zrow 5)) w.heap.size (zs 128) := row_alloc w (zs 128)
theorem wake_seen (l : List Nat) : ((((Dk.fresh 3 fun _ => zs 128).wrote 1 l).crashed []).booted).seen 1 = zs 128 := rfl

set_option maxRecDepth 100000 in
set_option maxHeartbeats 2000000 in
theorem awake_any (w : World) : Calls Try.prog 4 #[] w (Woke w) := by
  have hmk := make_zrow
  obtain ⟨d0, hd0⟩ : ∃ d0, (Dk.fresh 3 fun _ => zs 128) = d0 := ⟨_, rfl⟩
  have h0 := Lib.hid (show d0.on = true ∧ d0.set = false ∧ d0.n = 3 ∧ d0.waits.length = 0 ∧ d0.log.length = 0 by rw [← hd0]; exact ⟨rfl, rfl, rfl, rfl, rfl⟩)
  obtain ⟨l, hl0⟩ : ∃ l, fillN 5 128 = l := ⟨_, rfl⟩
  have hl := Lib.hid (show l.length = 128 by rw [← hl0]; exact fillN_length _ _)
  obtain ⟨d3, hd3⟩ : ∃ d3, d0.wrote 1 l = d3 := ⟨_, rfl⟩
  obtain ⟨d5, hd5⟩ : ∃ d5, d3.crashed [] = d5 := ⟨_, rfl⟩
  obtain ⟨d7, hd7⟩ : ∃ d7, d5.booted = d7 := ⟨_, rfl⟩
  have h3 := Lib.hid (show d3.waits.length = 1 ∧ ∀ j, j < 1 → waitD d3 j = 1 by
    rw [← hd3, ← hd0]; exact ⟨rfl, fun j hj => by obtain rfl : j = 0 := by omega
                                                  rfl⟩)
  have h5 := Lib.hid (show d5.on = false by rw [← hd5]; rfl)
  have h7 := Lib.hid (show d7.on = true ∧ d7.n = 3 ∧ d7.seen 1 = zs 128 by
    rw [← hd7, ← hd5, ← hd3, ← hd0]; exact ⟨rfl, rfl, wake_seen l⟩)
  have e0 := Lib.hid hd0
  have el := Lib.hid hl0
  have e3 := Lib.hid hd3
  have e5 := Lib.hid hd5
  have e7 := Lib.hid hd7
  clear hd0 hl0 hd3 hd5 hd7
  go_enter Try.func4, Try.ntmps4
  go_wp2_with (go_at_call 5; refine (new_c _ 3 _ rfl (by omega) (by omega)).mono ?_; rw [e0.out]; rintro e w1 ⟨G, A1, rfl, hD1, hb1⟩; have L1 := Lib.hid (Live.new (Below.refl _ _) hD1 hb1); clear hD1 hb1)
  go_wp2_with (go_at_call 20; refine (fill_c 5 _ 128 _ rfl (by omega)).mono ?_; rw [el.out]; rintro e w2 ⟨v2, rfl, ho2, hb2⟩; obtain ⟨g2, cap2, rfl, hc2, hg2, hlt2⟩ := ho2.at hl.out (by omega); have L2 := Lib.hid (L1.out.read hb2); have O2 := Lib.hid ho2; have F2 := Lib.hid (L1.out.fresh hg2 hlt2); clear ho2 hb2)
  go_wp2_with (go_at_call 19; refine (write_ns _ _ G A1 d0 _ 1 g2 0 128 cap2 l rfl rfl L2.out.disk h0.out.1 h0.out.2.1 (by rw [h0.out.2.2.1]; omega) hl.out hc2 O2.out.bat F2.out (by rw [h0.out.2.2.2.1]; omega) (by rw [h0.out.2.2.2.2]; omega)).mono ?_; rw [e3.out]; rintro e w3 ⟨rfl, A3, hD3, hS3⟩; have L3 := Lib.hid (L2.out.call hD3 hS3); clear hD3 hS3)
  go_wp2_with (go_at_call 9; refine (waiting_n _ _ G A3 d3 1 (fun _ => 1) L3.out.disk h3.out.1 h3.out.2).mono ?_; rintro e w4 ⟨g4, rfl, hg4, hr4, hb4⟩; have L4 := Lib.hid (L3.out.read hb4); have F4 := Lib.hid (L3.out.fresh hg4 hr4.lt); have R4 := Lib.hid hr4; clear hr4 hb4)
  go_wp2_with (go_at_call 21; refine (crash_nil _ _ G A3 d3 L4.out.disk).mono ?_; rw [e5.out]; rintro e w5 ⟨rfl, A5, hD5, hS5⟩; have L5 := Lib.hid (L4.out.call hD5 hS5); have F5 := Lib.hid (hS5.off F4.out); have R5 := Lib.hid (R4.out.of_block (hS5.same F4.out)); clear hD5 hS5)
  go_wp2_with (go_at_call 22; refine (read_off _ _ G A5 d5 1 L5.out.disk h5.out).mono ?_; rintro e w6 ⟨v6, rfl, ho6, hb6⟩; have L6 := Lib.hid (L5.out.read hb6); have F6 := Lib.hid ((Step.of_below hb6 _).off F5.out); have R6 := Lib.hid (R5.out.of_block (hb6.block _ F5.out.2)); obtain ⟨a6, cap6, rfl, _, _, _⟩ := ho6.slice; clear ho6 hb6)
  go_wp2_with (go_at_call 23; refine (boot_off _ _ G A5 d5 L6.out.disk h5.out).mono ?_; rw [e7.out]; rintro e w7 ⟨rfl, A7, hD7, hS7⟩; have L7 := Lib.hid (L6.out.call hD7 hS7); have R7 := Lib.hid (R6.out.of_block (hS7.same F6.out)); clear hD7 hS7)
  go_wp2_with (go_at_call 22; refine (read_c _ _ G A7 d7 _ 1 (zs 128) rfl L7.out.disk h7.out.1 (by rw [h7.out.2.1]; omega) h7.out.2.2).mono ?_; rintro e w8 ⟨v8, rfl, ho8, hb8⟩; obtain ⟨g8, cap8, rfl, hc8, hg8, hlt8⟩ := ho8.at (zs_length 128) (by omega); have L8 := Lib.hid (L7.out.read hb8); have R8 := Lib.hid (R7.out.of_block (hb8.block _ R7.out.lt)); have O8 := Lib.hid ho8; clear ho8 hb8; have b9 := Lib.hid ((Below.refl w8.heap.size w8).alloc (Nat.le_refl _) (.cells #[.int .i64 1] 3)); have I9 := Lib.hid ((rowIs_ints R8.out).on b9.out rfl); have N9 := Lib.hid (int_new w8 1 3); have L9 := Lib.hid (L8.out.read b9.out); have O9 := Lib.hid (O8.out.on b9.out (Nat.le_refl _)))
  go_wp2_with (go_at_call 12; refine (sameI_any _ _ 1 1 1 (fun _ => 1) (fun _ => 1) _ (by omega) I9.out N9.out (fun _ _ => rfl)).mono ?_; rintro e w10 ⟨rfl, hb10⟩; have L10 := Lib.hid (L9.out.read hb10); have O10 := Lib.hid (O9.out.on hb10 (Nat.le_refl _)); have b11 := Lib.hid ((Below.refl w10.heap.size w10).alloc (Nat.le_refl _) (.cells zrow 5)); have Z11 := Lib.hid (zrow_row w10); have L11 := Lib.hid (L10.out.read b11.out); have O11 := Lib.hid (O10.out.on b11.out (Nat.le_refl _)); clear hb10)
  go_wp2_with (go_at_call 24; refine (same_same _ _ _ _ 128 (zs 128) (zs 128) _ (zs_length 128) rfl (by omega) O11.out.bat Z11.out.bat).mono ?_; rintro e w12 ⟨rfl, hb12⟩; have L12 := Lib.hid (L11.out.read hb12); clear hb12)
  go_wp2_with (go_at_call 18; refine (sectors_any _ _ G A7 d7 L12.out.disk).mono ?_; rw [h7.out.2.1]; rintro e w13 ⟨rfl, rfl⟩)
  go_wp2_with (go_at_call 5; refine (new_none 0 _ (.inl (by omega))).mono ?_; rintro e w14 ⟨rfl, rfl⟩)
  go_ret
  exact ⟨rfl, L12.out.below⟩
end Go.Proofs.Ytmaodnidodoadaa
