/-
  The law on the document's own answers.
-/
import Derived.Test.YtdnemlanahlnpaaDoorRefOrder
import Derived.Test.YtdnemlanahlnpaaDoorRefBest
import Derived.Test.YtdnemlanahlnpaaDoorRefMean
import Derived.Test.YtdnemlanahlnpaaDoorRefShare
import Derived.Test.YtdnemlanahlnpaaDoorRefText
import Derived.Test.YtdnemlanahlnpaaDoorOver
namespace Go.Proofs.YtdnemlanahlnpaaDoor
open Go.RowKit Fl BigFrame

theorem At.on {g n : Nat} {D : Nat → Int} {w w' : World} {B : Nat} (h : At g n D w) (hb : Below B w w') (hg : g < B) : At g n D w' := fun p hp => by
  rw [hb.cell (p := ⟨g, p, none⟩) hg, hb.frozen (p := ⟨g, p, none⟩) hg]; exact h p hp
theorem fat_fits1 {w : World} {a : Option Addr} {xs : List Nat} (hx : FAt w a xs) : ∀ x ∈ xs, Fits x := by
  rcases hx with rfl | ⟨b, off, rfl, hx⟩
  · intro x hx; cases hx
  · intro x hx'
    obtain ⟨i, hi, rfl⟩ := List.getElem_of_mem hx'
    have := hx.fits i hi
    have e : fl xs i = xs[i] := by simp [fl, List.getD, List.getElem?_eq_getElem hi]
    rwa [e] at this

theorem tells_none (d : Option Addr) (cap n : Nat) (x y z : Nat) (f t : Int) (w : World) (ht : Tab w.heap.size w) (hn : 40 < n) :
    Calls Tryd.prog 3 #[.slice d n cap, .int .u64 x, .int .u64 y, .int .u64 z, .int .i64 f, .int .i64 t] w fun e w' => e = .returned (.bool true) ∧ Below w.heap.size w w' := by
  have ht' := Lib.hid ht
  clear ht
  go_enter Tryd.func3, Tryd.ntmps3
  go_wp2_with (go_at_call 4; refine (awake_any _ ht'.out).mono ?_; rintro e w1 ⟨rfl, hb⟩)
  go_ret
  exact ⟨rfl, by assumption⟩

set_option maxRecDepth 100000 in
set_option maxHeartbeats 2000000 in
theorem tells_some (d : Option Addr) (cap n : Nat) (zs : List Int) (x y z : Nat) (f t : Int) (w : World) (ht : Tab w.heap.size w) (hv : ISlice .u64 w (.slice d n cap) zs) (hn : n = zs.length) (hl : zs.length ≤ 40) (hx : Fits x) (hy : Fits y) (hz : Fits z) :
    Calls Tryd.prog 3 #[.slice d n cap, .int .u64 x, .int .u64 y, .int .u64 z, .int .i64 f, .int .i64 t] w fun e w' => e = .returned (.bool true) ∧ Below w.heap.size w w' := by
  have hfb := frombits_run
  have ht' := Lib.hid ht
  have hv' := Lib.hid hv
  have hn' := Lib.hid hn
  have hx' := Lib.hid hx
  have hy' := Lib.hid hy
  have hz' := Lib.hid hz
  have e1 : decide ((40 : Int) < (n : Int)) = false := by simp; omega
  clear ht hv hn hx hy hz
  go_enter Tryd.func3, Tryd.ntmps3
  go_wp2_with fail
  refine (numbers_sl _ zs w hv'.out (by omega)).mono ?_
  rintro e w1 ⟨a1, c1, rfl, hF, hb1, ho⟩
  have hL := bitsOf_length zs
  generalize bitsOf zs = xs at *
  rw [← hL] at hl ho ⊢
  have F1 := Lib.hid hF
  have L1 := Lib.hid hb1
  have O1 := Lib.hid ho
  have hfit := Lib.hid (fat_fits1 hF)
  have z1 := hb1.size
  have hxl : xs.length ≤ 1000 := by omega
  have hxl40 : xs.length ≤ 40 := hl
  clear hF hL hv' hb1 ho hn' hl
  go_wp2_with (first
    | (go_at_call 7; refine (order_sl a1 c1 xs w1 F1.out hxl40).mono ?_; rintro e w2 ⟨g, C, rfl, hg1, hg2, hA, hP, hb2⟩; have A2 := Lib.hid hA; have P2 := Lib.hid hP; have F2 := Lib.hid (F1.out.on hb2 rfl); have L2 := Lib.hid (L1.out.trans (hb2.mono z1)); have O2 := Lib.hid (own_below O1.out hb2); have hgw := Nat.le_trans z1 hg1; clear hA hP hb2)
    | (go_at_call 9; refine (refOrder_any a1 c1 xs w2 F2.out hxl40).mono ?_; rintro e w3 ⟨v3, D, rfl, hO, hPD, hb3⟩; obtain ⟨a3, c3, rfl, hI3, _⟩ := hO.slice; have I3 := Lib.hid hI3; have A3 := Lib.hid (A2.out.on hb3 hg2); have hCD := Lib.hid (places_unique P2.out hPD); have F3 := Lib.hid (F2.out.on hb3 rfl); have L3 := Lib.hid (L2.out.trans (hb3.mono L2.out.size)); have O3 := Lib.hid (own_below O2.out hb3); have hg3 := Nat.lt_of_lt_of_le hg2 hb3.size; clear hO hPD hb3 hI3)
    | (go_at_call 8; refine (same_any _ _ _ _ _ C D w3 hxl A3.out.ints I3.out hCD.out).mono ?_; rintro e w4 ⟨rfl, hb4⟩; have A4 := Lib.hid (A3.out.on hb4 hg3); have F4 := Lib.hid (F3.out.on hb4 rfl); have L4 := Lib.hid (L3.out.trans (hb4.mono L3.out.size)); have O4 := Lib.hid (own_below O3.out hb4); have hg4 := Nat.lt_of_lt_of_le hg3 hb4.size; clear hb4)
    | (go_at_call 10; refine (best_sl a1 c1 xs w4 F4.out hxl).mono ?_; rintro e w5 ⟨rfl, rfl⟩)
    | (go_at_call 11; refine (refBest_any a1 c1 xs w4 F4.out hxl).mono ?_; rintro e w5 ⟨rfl, hb5⟩; have A5 := Lib.hid (A4.out.on hb5 hg4); have F5 := Lib.hid (F4.out.on hb5 rfl); have L5 := Lib.hid (L4.out.trans (hb5.mono L4.out.size)); have O5 := Lib.hid (own_below O4.out hb5); have hg5 := Nat.lt_of_lt_of_le hg4 hb5.size; clear hb5)
    | (go_at_call 13; refine (mean_any _ xs w5 (own_floats O5.out hfit.out) hxl).mono ?_; rintro e w6 ⟨r6, rfl, hr6, hb6⟩; have R6 := Lib.hid hr6; have A6 := Lib.hid (A5.out.on hb6 hg5); have F6 := Lib.hid (F5.out.on hb6 rfl); have L6 := Lib.hid (L5.out.trans (hb6.mono L5.out.size)); have hg6 := Nat.lt_of_lt_of_le hg5 hb6.size; clear hb6 hr6)
    | (go_at_call 14; refine (refMean_any a1 c1 xs w6 F6.out hxl).mono ?_; rintro e w7 ⟨r7, rfl, hr7, hb7⟩; have K7 : decide (key r6 = key r7) = true := decide_eq_true (fres_key R6.out hr7); have A7 := Lib.hid (A6.out.on hb7 hg6); have L7 := Lib.hid (L6.out.trans (hb7.mono L6.out.size)); have hg7 := Nat.lt_of_lt_of_le hg6 hb7.size; clear hb7 hr7)
    | (go_at_call 12; refine (refAlike_any _ _ _).mono ?_; rintro e w8 ⟨rfl, rfl⟩)
    | (go_at_call 15; refine (over_any g _ C w7 hxl40 A7.out).mono ?_; rintro e w8 ⟨rfl, hb8⟩; have L8 := Lib.hid (L7.out.trans (hb8 w.heap.size hgw L7.out.size)); clear hb8)
    | (go_at_call 16; refine (alike_any x y _ hx'.out hy'.out).mono ?_; rintro e w9 ⟨rfl, rfl⟩)
    | (go_at_call 17; refine (less_any x y _ hx'.out hy'.out).mono ?_; rintro e w9 ⟨rfl, rfl⟩)
    | (go_at_call 18; refine (refLess_any x y _).mono ?_; rintro e w9 ⟨rfl, rfl⟩)
    | (go_at_call 19; refine (clamp_any x y z _ hx'.out hy'.out hz'.out).mono ?_; rintro e w9 ⟨rfl, rfl⟩)
    | (go_at_call 20; refine (refClamp_any x y z _).mono ?_; rintro e w9 ⟨rfl, rfl⟩)
    | (go_at_call 21; refine (text_any x w8 (ht'.out.on L8.out) hx'.out).mono ?_; rintro e w9 ⟨rfl, hb9⟩; have L9 := Lib.hid (L8.out.trans (hb9.mono L8.out.size)); clear hb9)
    | (go_at_call 22; refine (refText_any x w9 hx'.out).mono ?_; rintro e w10 ⟨rfl, hb10⟩; have L10 := Lib.hid (L9.out.trans (hb10.mono L9.out.size)); clear hb10)
    | (go_at_call 23; refine (share_any f t w10).mono ?_; rintro e w11 ⟨r11, rfl, hr11, hb11⟩; have R11 := Lib.hid hr11; have L11 := Lib.hid (L10.out.trans (hb11.mono L10.out.size)); clear hb11 hr11)
    | (go_at_call 24; refine (refShare_any f t w11).mono ?_; rintro e w12 ⟨r12, rfl, hr12, hb12⟩; have K12 : decide (key r11 = key r12) = true := decide_eq_true (fres_key R11.out hr12); have L12 := Lib.hid (L11.out.trans (hb12.mono L11.out.size)); clear hb12 hr12)
    | (go_at_call 4; refine (awake_any w12 (ht'.out.on L12.out)).mono ?_; rintro e w13 ⟨rfl, hb13⟩; have L13 := Lib.hid (L12.out.trans (hb13.mono L12.out.size)); clear hb13))
  go_ret
  exact ⟨rfl, L13.out⟩

theorem tells_any (v : Value) (zs : List Int) (x y z : Nat) (f t : Int) (hx : Fits x) (hy : Fits y) (hz : Fits z) (w : World) (ht : Tab w.heap.size w) (hv : ISlice .u64 w v zs) :
    Calls Tryd.prog 3 #[v, .int .u64 x, .int .u64 y, .int .u64 z, .int .i64 f, .int .i64 t] w fun e w' => e = .returned (.bool true) ∧ Below w.heap.size w w' := by
  obtain ⟨d, cap, rfl⟩ : ∃ d cap, v = .slice d zs.length cap := by
    rcases hv with ⟨a, cap, rfl, rfl⟩ | ⟨_, b, off, cap, rfl, _⟩
    · exact ⟨a, cap, rfl⟩
    · exact ⟨_, cap, rfl⟩
  by_cases hl : 40 < zs.length
  · exact tells_none d cap _ x y z f t w ht hl
  · exact tells_some d cap _ zs x y z f t w ht hv rfl (by omega) hx hy hz
end Go.Proofs.YtdnemlanahlnpaaDoor
