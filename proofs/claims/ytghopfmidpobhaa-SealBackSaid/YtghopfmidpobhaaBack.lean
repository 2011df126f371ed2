/-
  The law on one bit.
-/
import Derived.Test.YtghopfmidpobhaaBag
import Derived.RegionTactic
namespace Go.Proofs.Ytghopfmidpobhaa
open Go.RowKit BigFrame

theorem flip_ne {x d : Nat} (hd : 0 < d) : x ^^^ d ≠ x := fun h => by
  have e : x ^^^ d = x ^^^ 0 := by rw [h, Nat.xor_zero]
  have := xor_left_cancel e
  omega
theorem fits_flip {L : List Nat} {k v : Nat} (ho : Octs L) (hl : L.length = 128) (hf : fitsB L = true) (hk : k < 128) (hv : v < 256) (hne : v ≠ bz L k) : fitsB (L.set k v) = false := by
  unfold fitsB at *
  rw [decide_eq_true_eq] at hf
  rw [decide_eq_false_iff_not]
  intro h
  rw [List.take_set, List.drop_set] at h
  by_cases h1 : k < 124
  · rw [if_pos h1, hf] at h
    have h2 := sumOf_set (l := L.take 124) (k := k) (v := v) (Octs.mem (ho.take 124)) (by rw [List.length_take]; omega) hv h.symm
    rw [bz_take h1] at h2
    exact hne h2
  · rw [if_neg h1, List.set_eq_of_length_le (l := L.take 124) (by rw [List.length_take]; omega), ← hf] at h
    have l4 : (L.drop 124).length = 4 := by rw [List.length_drop]; omega
    have h2 := be4_rd (ho.drop 124) l4
    have h3 := be4_rd ((ho.drop 124).set (k := k - 124) hv) (by rw [List.length_set]; exact l4)
    rw [h, h2] at h3
    have h4 := congrArg (fun x => bz x (k - 124)) h3
    simp only [bz_set (l := L.drop 124) (k := k - 124) (j := k - 124) (x := v) (by omega), if_true] at h4
    rw [bz_drop, show 124 + (k - 124) = k by omega] at h4
    exact hne h4.symm
theorem kindOf_flip {L : List Nat} {k d : Nat} (ho : Octs L) (hl : L.length = 128) (hf : fitsB L = true) (hk : k < 128) (hd : 0 < d) (hd2 : d < 256) : kindOf (L.set k (bz L k ^^^ d)) = 0 := by
  have hv : bz L k ^^^ d < 256 := by
    have h := Nat.xor_lt_two_pow (n := 8) (x := bz L k) (y := d) (by have := ho k (by omega); simpa using this) (by simpa using hd2)
    simpa using h
  unfold kindOf
  rw [if_neg]
  intro h
  have := fits_flip ho hl hf hk hv (flip_ne hd)
  rw [this] at h
  exact absurd h.2 (by simp)

theorem pow_small {d : Nat} (hd : d < 8) : (2 : Nat) ^ d < 256 := by
  match d, hd with
  | 0, _ => decide
  | 1, _ => decide
  | 2, _ => decide
  | 3, _ => decide
  | 4, _ => decide
  | 5, _ => decide
  | 6, _ => decide
  | 7, _ => decide
theorem pow_int {d : Nat} (hd : d < 8) : (2 : Int) ^ d % 256 = ((2 ^ d : Nat) : Int) := by
  match d, hd with
  | 0, _ => rfl
  | 1, _ => rfl
  | 2, _ => rfl
  | 3, _ => rfl
  | 4, _ => rfl
  | 5, _ => rfl
  | 6, _ => rfl
  | 7, _ => rfl
theorem flip_int {x d : Nat} (hx : x < 256) (hd : d < 8) : bits .xor .u8 (x : Int) ((2 : Int) ^ d % 256) = ((x ^^^ 2 ^ d : Nat) : Int) := by
  rw [pow_int hd, u8_xor_nat _ _ hx (pow_small hd)]

theorem back_long (kind : Int) (a : Option Addr) (cap n : Nat) (z : Int) (w : World) (hl : 123 < n) :
    Calls Try.prog 4 #[.int .u8 kind, .slice a n cap, .int .i64 z] w (Woke w) := by
  go_enter Try.func4, Try.ntmps4
  go_wp2_with (go_at_call 7; refine (awake_any _).mono ?_; rintro e w1 ⟨rfl, hb⟩)
  go_ret
  exact ⟨rfl, by assumption⟩
theorem back_zero (a : Option Addr) (cap n : Nat) (z : Int) (w : World) (hl : n ≤ 123) :
    Calls Try.prog 4 #[.int .u8 0, .slice a n cap, .int .i64 z] w (Woke w) := by
  go_enter Try.func4, Try.ntmps4
  go_wp2_with (first
    | (go_at_call 9; refine (seal_zero _ _ _ _).mono ?_; rintro e w1 ⟨rfl, rfl⟩)
    | (go_at_call 7; refine (awake_any _).mono ?_; rintro e w1 ⟨rfl, hb⟩))
  go_ret
  exact ⟨rfl, by assumption⟩

def BackRel (n : Nat) (i : Value) : Prop := ∃ k : Nat, n ≤ k ∧ k ≤ 123 ∧ i = .int .i64 k

set_option maxRecDepth 100000 in
set_option maxHeartbeats 1000000 in
theorem back_main (kind : Nat) (a : Option Addr) (cap n : Nat) (l : List Nat) (z : Int) (w : World) (hk0 : 0 < kind) (hk : kind < 256) (hn : l.length = n) (hl : n ≤ 123) (ho : Octs l) (hx : BAt w a l) :
    Calls Try.prog 4 #[.int .u8 (kind : Int), .slice a n cap, .int .i64 z] w (Woke w) := by
  have t1 : ((kind : Int) == 0) = false := by rw [beq_eq_false_iff_ne]; omega
  have hs := Lib.hid (sealed_length (kind := kind) (l := l) (by omega))
  have hso := Lib.hid (sealed_octs (kind := kind) (l := l) hk ho)
  have hsk := Lib.hid (kindOf_sealed (kind := kind) (l := l) (by omega))
  have hsf := Lib.hid (sealed_fits (kind := kind) (l := l) (by omega))
  have hbl := Lib.hid (bodyOf_length hs.out)
  have hbf := Lib.hid (show (bodyOf (sealed kind l)).take n = l by rw [bodyOf_sealed (by omega), List.take_append_of_le_length (by omega), List.take_of_length_le (by omega)])
  have hbz := Lib.hid (show ∀ k, n ≤ k → k < 123 → bz (bodyOf (sealed kind l)) k = 0 from fun k h1 h2 => by
    rw [bodyOf_sealed (by omega), bz_append_right (by omega)]; unfold zs; exact bz_rep _ _ _ (by omega))
  have hx' := Lib.hid hx
  have ho' := Lib.hid ho
  have hn' := Lib.hid hn
  clear hx ho hn
  go_enter Try.func4, Try.ntmps4
  go_wp2_with (first
    | (go_at_call 9; refine (seal_n kind a cap l w hn'.out hk0 hk ho'.out hl hx'.out).mono ?_; rintro e w1 ⟨g1, rfl, hg1, hr1, hb1⟩; have B1 := Lib.hid ((Bag.start w).add hb1 hg1 hr1); clear hr1 hb1 hg1)
    | (go_at_call 11; refine (open_good kind _ _ 128 _ w1 hs.out hk0 hsk.out hso.out (by omega) B1.out.r0.bat).mono ?_; rintro e w2 ⟨g2, rfl, hg2, hr2, hb2⟩; have B2 := Lib.hid (B1.out.add hb2 hg2 hr2); clear hr2 hb2 hg2)
    | (go_at_call 13; refine (same_same (some ⟨g2, 0, none⟩) a _ _ n ((bodyOf (sealed kind l)).take n) l w2 (by rw [hbf.out, hn'.out]) hbf.out (by omega) (by have := B2.out.r0.bat.sub 0 n; rwa [List.drop_zero] at this) (B2.out.arg hx'.out)).mono ?_; rintro e w3 ⟨rfl, hb3⟩; have B3 := Lib.hid (B2.out.on hb3); clear hb3))
  go_loop [11] (fun i => BackRel n i) (fun i => 123 - (intOf i).toNat)
  case atStart => exact ⟨n, by omega, by omega, rfl⟩
  case round =>
    obtain ⟨k, hk1, hk2, rfl⟩ := hrel
    by_cases hlt : k < 123
    · have c1 := B3.out.r0.cell (k := k) (by rw [hbl.out]; omega)
      rw [hbz.out k hk1 hlt] at c1
      go_wp2_with fail
      exact ⟨⟨k + 1, by omega, by omega, by go_num⟩, by simp [intOf]; omega⟩
    · go_wp2_with (go_at_call 20; refine (low_nat z 1024 _ (by omega) (by omega)).mono ?_; rintro e w4 ⟨q, hq, rfl, rfl⟩)
      obtain ⟨k2, hk2e⟩ : ∃ k2, q / 8 = k2 := ⟨_, rfl⟩
      obtain ⟨d, hde⟩ : ∃ d, q % 8 = d := ⟨_, rfl⟩
      have e1 : (q : Int) / 8 = (k2 : Int) := by omega
      have e2 : (q : Int) % 8 = (d : Int) := by omega
      have hk128 : k2 < 128 := by omega
      have hd8 : d < 8 := by omega
      have c1 := B3.out.r1.cell (k := k2) (by rw [hs.out]; omega)
      have c2 := B3.out.r1.frozen k2
      clear hk2e hde
      go_region
      have hp := pow_small hd8
      have hp0 : 0 < (2 : Nat) ^ d := Nat.pow_pos (by decide)
      have ev := flip_int (x := bz (sealed kind l) k2) (hso.out k2 (by rw [hs.out]; omega)) hd8
      rw [ev]
      have hk0' := Lib.hid (kindOf_flip (d := 2 ^ d) hso.out hs.out hsf.out hk128 hp0 hp)
      have hv8 : bz (sealed kind l) k2 ^^^ 2 ^ d < 256 := by
        have h := Nat.xor_lt_two_pow (n := 8) (x := bz (sealed kind l) k2) (y := 2 ^ d) (by have := hso.out k2 (by rw [hs.out]; omega); simpa using this) (by simpa using hp)
        simpa using h
      obtain ⟨v8, hv8e⟩ : ∃ v8, bz (sealed kind l) k2 ^^^ 2 ^ d = v8 := ⟨_, rfl⟩
      rw [hv8e] at hk0' hv8 ⊢
      have hLo := Lib.hid (hso.out.set (k := k2) hv8)
      have hLl := Lib.hid (show ((sealed kind l).set k2 v8).length = 128 by rw [List.length_set]; exact hs.out)
      obtain ⟨wn, hwn⟩ : ∃ wn, wn = (w3.setCell ⟨g1, k2, none⟩ (.int .u8 ((v8 : Nat) : Int))).drew := ⟨_, rfl⟩
      rw [← hwn]
      have hRn := Lib.hid (show Row wn g1 ((sealed kind l).set k2 v8) by rw [hwn]; exact (B3.out.r1.set k2 v8).drew1)
      have hg1 : w.heap.size ≤ g1 := B3.out.2.1.1
      have hBn := Lib.hid (show Below w.heap.size w wn by rw [hwn]; exact (B3.out.below.setCell (p := ⟨g1, k2, none⟩) hg1 _).drew)
      clear hwn ev hp hp0 hv8e e1 e2 c1 c2 hv8
      go_wp2_with (first
        | (go_at_call 14; refine (kind_b (some ⟨g1, 0, none⟩) _ _ wn hk0'.out hLl.out hLo.out (by omega) hRn.out.bat).mono ?_; rintro e w5 ⟨rfl, hb5⟩; have hB5 := Lib.hid (hBn.out.trans (hb5.mono hBn.out.size)); clear hb5)
        | (go_at_call 7; refine (awake_any w5).mono ?_; rintro e w6 ⟨rfl, hb6⟩; have hend := Lib.hid (hB5.out.trans (hb6.mono hB5.out.size)); clear hb6))
      go_ret
      exact ⟨rfl, hend.out⟩

theorem back_any (kind : Nat) (a : Option Addr) (cap : Nat) (l : List Nat) (z : Int) (w : World) (hk : kind < 256) (ho : Octs l) (hx : BAt w a l) :
    Calls Try.prog 4 #[.int .u8 (kind : Int), .slice a l.length cap, .int .i64 z] w (Woke w) := by
  by_cases hl : 123 < l.length
  · exact back_long _ a cap _ z w hl
  · by_cases h0 : kind = 0
    · subst h0; exact back_zero a cap _ z w (by omega)
    · exact back_main kind a cap _ l z w (by omega) hk rfl (by omega) ho hx
end Go.Proofs.Ytghopfmidpobhaa
