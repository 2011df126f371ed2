/-
  What Text gives: the bytes of a float's sign and whole part.
-/
import Derived.Test.YtdnemlanahlnpaaDoorClamp
import Derived.Test.YtdnemlanahlnpaaDoorShelf
import Derived.Lib.AppendIntMem
import Derived.Handy
import Derived.Lib.ItoaLen
namespace Go.Proofs.YtdnemlanahlnpaaDoor
open Go.RowKit Fl

/-- the table that strconv reads is there, below block B, and stays -/
def Tab (B : Nat) (w : World) : Prop := B ≤ w.heap.size ∧ Lib.TabBelow Tryd.prog B w "internal/strconv.uint64pow10" .u64 Lib.pow10Tab
theorem Tab.on {B : Nat} {w w1 : World} (h : Tab B w) (hb : Below w.heap.size w w1) : Tab B w1 :=
  ⟨Nat.le_trans h.1 hb.size, h.2.on (hb.mono h.1)⟩
theorem below_grow (w : World) (k : Nat) (os : Array Obj) : Below w.heap.size w (Sort.grow (w.drewN k) os) := by
  refine ⟨rfl, rfl, rfl, ?_, fun i hi => ?_⟩
  · show w.heap.size ≤ (w.heap ++ os).size
    simp
  · show (w.heap ++ os)[i]? = w.heap[i]?
    rw [Array.getElem?_append_left hi]

def R53 : Nat := 4845873199050653696
/-- the whole part of a float above or at 0, below 2^53 -/
def trunc (r : Nat) : Nat := mag r / (1 <<< min (1074 - up r) ((mag r).log2 + 2))
theorem R53_I : R53 < I := by decide
theorem up_R53 {r : Nat} (h : r < R53) : up r ≤ 1074 := by
  unfold up
  split
  · omega
  · have : r / B ≤ (R53 - 1) / B := Nat.div_le_div_right (by omega)
    have e : (R53 - 1) / B = 1075 := by decide +kernel
    omega
theorem mag_lt (r : Nat) : mag r < 2 ^ 53 := by
  unfold mag
  have h := Nat.mod_lt r (show 0 < B by decide)
  have hB : B = 4503599627370496 := rfl
  split <;> omega
theorem trunc_lt (r : Nat) : trunc r < 2 ^ 53 := Nat.lt_of_le_of_lt (Nat.div_le_self _ _) (mag_lt r)

theorem neg_rung (b : Nat) : neg (rung b) = false := by
  unfold neg rung
  rw [Nat.div_eq_of_lt (Nat.mod_lt _ (by decide))]; rfl
theorem rung_rung (b : Nat) : rung (rung b) = rung b := Nat.mod_mod _ _
theorem ord_rung (b : Nat) : ord (rung b) = rung b := by
  unfold ord; rw [neg_rung, rung_rung]; rfl

theorem toInt_rung {r : Nat} (h : r < R53) : (FloatKind.f64.decode r).toInt .zero = some ((trunc r : Nat) : Int) := by
  have hS : R53 < S := by decide
  have e0 : rung r = r := Nat.mod_eq_of_lt (by omega)
  have hn : neg r = false := by unfold neg; rw [Nat.div_eq_of_lt (by omega)]; rfl
  have hu := up_R53 h
  show (Ieee.double.read r).toInt .zero = _
  rw [read_num (by rw [e0]; exact Nat.lt_trans h R53_I), e0, hn]
  have lp : Ieee.double.leastPlace = -1074 := by decide +kernel
  rw [lp]
  have e1 : (-1074 + ((up r : Nat) : Int)).toNat = 0 := by omega
  have e2 : (-(-1074 + ((up r : Nat) : Int))).toNat = 1074 - up r := by omega
  simp only [Ieee.Datum.toInt, Ieee.Datum.integral, e1, e2, Ieee.Toward.cut, Ieee.signed]
  simp [trunc]
theorem conv_small (r : Nat) (h : r < R53) (w : World) : (convert 27 2 (.float .f64 r)).run Tryd.prog w = .ok (.int .i64 ((trunc r : Nat) : Int)) w := by
  have ht := trunc_lt r
  refine run_convert_float_int w _ _ _ _ _ _ (by kernel_rfl) Tryd.underlying2 ?_
  unfold floatToIntVal
  rw [toInt_rung h]
  simp only
  rw [if_pos]
  constructor
  · show (-9223372036854775808 : Int) ≤ _; omega
  · show _ ≤ (9223372036854775807 : Int); omega

theorem geqB (a b : Nat) : (FloatKind.f64.format.order a b == some Ordering.gt || FloatKind.f64.format.order a b == some Ordering.eq) = (!nanB a && !nanB b && decide (ord b ≤ ord a)) := by
  rw [eqB, gtB, Bool.eq_iff_iff]
  cases nanB a <;> cases nanB b <;> simp <;> omega

theorem leqB (a b : Nat) : (FloatKind.f64.format.order a b == some Ordering.lt || FloatKind.f64.format.order a b == some Ordering.eq) = (!nanB a && !nanB b && decide (ord a ≤ ord b)) := by
  rw [eqB, ltB, Bool.eq_iff_iff]
  cases nanB a <;> cases nanB b <;> simp <;> omega

def signC (b : Nat) : UInt8 := if neg b then 45 else 43
def textB (b : Nat) : List UInt8 :=
  if nanB b then [110, 97, 110] else if rung b = I then [signC b, 105, 110, 102] else if R53 ≤ rung b then [109, 97, 110, 121] else signC b :: Lib.itoa (trunc (rung b))

set_option maxHeartbeats 400000 in
theorem isInf_pos (b : Nat) (w : World) :
    Calls Tryd.prog 34 #[.float .f64 b, .int .i64 1] w fun e w' => e = .returned (.bool (!nanB b && decide ((I : Int) ≤ ord b))) ∧ w = w' := by
  go_enter Tryd.func34, Tryd.ntmps34
  go_wp2_with fail
  go_ret
  refine ⟨ret_bool ?_, rfl⟩
  rw [gtB, show nanB 9218868437227405311 = false by decide, show ord 9218868437227405311 = (I : Int) - 1 by decide, Bool.eq_iff_iff]
  cases nanB b <;> simp <;> omega

theorem text_nan (b : Nat) (w : World) (h : nanB b = true) :
    Calls Tryd.prog 21 #[.float .f64 b] w fun e w' => e = .returned (.string ⟨(textB b).toArray⟩) ∧ Below w.heap.size w w' := by
  have e : textB b = [110, 97, 110] := by unfold textB; rw [if_pos h]
  rw [e]
  have h' := Lib.hid h
  clear e h
  go_enter Tryd.func21, Tryd.ntmps21
  go_wp2_with (go_at_call 27; refine (isNaN_any _ _).mono ?_; rintro e w' ⟨rfl, rfl⟩; rw [h'.out])
  go_ret
  exact ⟨rfl, Below.refl _ _⟩

theorem signC_pos {b : Nat} (h : neg b = false) : signC b = 43 := by unfold signC; rw [h]; rfl
theorem signC_neg {b : Nat} (h : neg b = true) : signC b = 45 := by unfold signC; rw [h]; rfl
theorem ret_string {a b : ByteArray} (h : a = b) : Ending.returned (.string a) = .returned (.string b) := by rw [h]

set_option maxHeartbeats 400000 in
theorem text_inf (b : Nat) (w : World) (hb : Fits b) (h : nanB b = false) (hi : I ≤ rung b) :
    Calls Tryd.prog 21 #[.float .f64 b] w fun e w' => e = .returned (.string ⟨(textB b).toArray⟩) ∧ Below w.heap.size w w' := by
  have h' := Lib.hid h
  have n1 : nanB (rung b) = false := by unfold nanB; rw [rung_rung]; exact h
  have h2 := Lib.hid (show (!nanB (rung b) && decide ((I : Int) ≤ ord (rung b))) = true by rw [n1, ord_rung]; simpa using hi)
  have ht' : textB b = [signC b, 105, 110, 102] := by
    have : rung b = I := by simp [nanB] at h; omega
    unfold textB; rw [if_neg (by rw [h]; decide), if_pos this]
  cases hs : neg b
  · rw [ht', signC_pos hs]
    have hs' := Lib.hid hs
    clear h n1 hi hs ht'
    go_enter Tryd.func21, Tryd.ntmps21
    go_wp2_with (first
      | (go_at_call 27; refine (isNaN_any _ _).mono ?_; rintro e w' ⟨rfl, rfl⟩; rw [h'.out])
      | (go_at_call 32; refine (signbit_any _ _).mono ?_; rintro e w' ⟨rfl, rfl⟩; rw [hs'.out])
      | (go_at_call 33; refine (abs_any _ _ hb).mono ?_; rintro e w' ⟨rfl, rfl⟩)
      | (go_at_call 34; refine (isInf_pos _ _).mono ?_; rintro e w' ⟨rfl, rfl⟩; rw [h2.out]))
    go_ret
    exact ⟨ret_string (by decide), Below.refl _ _⟩
  · rw [ht', signC_neg hs]
    have hs' := Lib.hid hs
    clear h n1 hi hs ht'
    go_enter Tryd.func21, Tryd.ntmps21
    go_wp2_with (first
      | (go_at_call 27; refine (isNaN_any _ _).mono ?_; rintro e w' ⟨rfl, rfl⟩; rw [h'.out])
      | (go_at_call 32; refine (signbit_any _ _).mono ?_; rintro e w' ⟨rfl, rfl⟩; rw [hs'.out])
      | (go_at_call 33; refine (abs_any _ _ hb).mono ?_; rintro e w' ⟨rfl, rfl⟩)
      | (go_at_call 34; refine (isInf_pos _ _).mono ?_; rintro e w' ⟨rfl, rfl⟩; rw [h2.out]))
    go_ret
    exact ⟨ret_string (by decide), Below.refl _ _⟩

theorem str_join (c : UInt8) (l : List UInt8) : (⟨#[c]⟩ ++ ⟨l.toArray⟩ : ByteArray) = ⟨(c :: l).toArray⟩ := by
  apply ByteArray.ext
  simp

set_option maxHeartbeats 400000 in
theorem text_fin (b : Nat) (w : World) {B0 : Nat} (ht : Tab B0 w) (hb : Fits b) (h : nanB b = false) (hi : ¬ I ≤ rung b) :
    Calls Tryd.prog 21 #[.float .f64 b] w fun e w' => e = .returned (.string ⟨(textB b).toArray⟩) ∧ Below w.heap.size w w' := by
  have h' := Lib.hid h
  have n1 : nanB (rung b) = false := by unfold nanB; rw [rung_rung]; exact h
  have h2 := Lib.hid (show (!nanB (rung b) && decide ((I : Int) ≤ ord (rung b))) = false by rw [n1, ord_rung]; simp; omega)
  have hg : (FloatKind.f64.format.order (rung b) 4845873199050653696 == some Ordering.gt || FloatKind.f64.format.order (rung b) 4845873199050653696 == some Ordering.eq) = decide (R53 ≤ rung b) := by
    rw [geqB, n1, ord_rung, show nanB 4845873199050653696 = false by decide, show ord 4845873199050653696 = R53 by decide]; simp
  have ht' : textB b = if R53 ≤ rung b then [109, 97, 110, 121] else signC b :: Lib.itoa (trunc (rung b)) := by
    unfold textB; rw [if_neg (by rw [h]; decide), if_neg (by omega)]
  by_cases hm : R53 ≤ rung b
  · rw [ht', if_pos hm]
    have hg' : (FloatKind.f64.format.order (rung b) 4845873199050653696 == some Ordering.gt || FloatKind.f64.format.order (rung b) 4845873199050653696 == some Ordering.eq) = true := by rw [hg]; simpa using hm
    clear h n1 hi ht' hg hm
    cases hs : neg b
    all_goals
      have hs' := Lib.hid hs
      clear hs
      go_enter Tryd.func21, Tryd.ntmps21
      go_wp2_with (first
        | (go_at_call 27; refine (isNaN_any _ _).mono ?_; rintro e w' ⟨rfl, rfl⟩; rw [h'.out])
        | (go_at_call 32; refine (signbit_any _ _).mono ?_; rintro e w' ⟨rfl, rfl⟩; rw [hs'.out])
        | (go_at_call 33; refine (abs_any _ _ hb).mono ?_; rintro e w' ⟨rfl, rfl⟩)
        | (go_at_call 34; refine (isInf_pos _ _).mono ?_; rintro e w' ⟨rfl, rfl⟩; rw [h2.out]))
      go_ret
      exact ⟨rfl, Below.refl _ _⟩
  · have hg' : (FloatKind.f64.format.order (rung b) 4845873199050653696 == some Ordering.gt || FloatKind.f64.format.order (rung b) 4845873199050653696 == some Ordering.eq) = false := by rw [hg]; simpa using hm
    have hcv := conv_small (rung b) (by omega)
    have hlt := trunc_lt (rung b)
    have hlen := Lib.itoa_length_le (trunc (rung b) : Nat) (by omega) (by omega)
    have hfmt := fun n h0 h1 => Tryd.strconv_FormatInt_10 n h0 h1 w ht.2.here
    have hfmt' := Lib.hid hfmt
    cases hs : neg b
    · rw [ht', if_neg hm, signC_pos hs]
      have hs' := Lib.hid hs
      have hlt' := Lib.hid hlt
      clear h n1 hi hs ht' hg hm hlt hfmt
      go_enter Tryd.func21, Tryd.ntmps21
      go_wp2_with (first
        | (go_at_call 27; refine (isNaN_any _ _).mono ?_; rintro e w' ⟨rfl, rfl⟩; rw [h'.out])
        | (go_at_call 32; refine (signbit_any _ _).mono ?_; rintro e w' ⟨rfl, rfl⟩; rw [hs'.out])
        | (go_at_call 33; refine (abs_any _ _ hb).mono ?_; rintro e w' ⟨rfl, rfl⟩)
        | (go_at_call 34; refine (isInf_pos _ _).mono ?_; rintro e w' ⟨rfl, rfl⟩; rw [h2.out])
        | (go_at_call 35; refine (hfmt'.out _ (by omega) (by have := hlt'.out; omega)).mono ?_; rintro e w' ⟨rfl, k, os, rfl⟩))
      go_ret
      exact ⟨ret_string (str_join 43 _), below_grow _ _ _⟩
    · rw [ht', if_neg hm, signC_neg hs]
      have hs' := Lib.hid hs
      have hlt' := Lib.hid hlt
      clear h n1 hi hs ht' hg hm hlt hfmt
      go_enter Tryd.func21, Tryd.ntmps21
      go_wp2_with (first
        | (go_at_call 27; refine (isNaN_any _ _).mono ?_; rintro e w' ⟨rfl, rfl⟩; rw [h'.out])
        | (go_at_call 32; refine (signbit_any _ _).mono ?_; rintro e w' ⟨rfl, rfl⟩; rw [hs'.out])
        | (go_at_call 33; refine (abs_any _ _ hb).mono ?_; rintro e w' ⟨rfl, rfl⟩)
        | (go_at_call 34; refine (isInf_pos _ _).mono ?_; rintro e w' ⟨rfl, rfl⟩; rw [h2.out])
        | (go_at_call 35; refine (hfmt'.out _ (by omega) (by have := hlt'.out; omega)).mono ?_; rintro e w' ⟨rfl, k, os, rfl⟩))
      go_ret
      exact ⟨ret_string (str_join 45 _), below_grow _ _ _⟩

theorem text_any (b : Nat) (w : World) {B0 : Nat} (ht : Tab B0 w) (hb : Fits b) :
    Calls Tryd.prog 21 #[.float .f64 b] w fun e w' => e = .returned (.string ⟨(textB b).toArray⟩) ∧ Below w.heap.size w w' := by
  cases h : nanB b
  · by_cases hi : I ≤ rung b
    · exact text_inf b w hb h hi
    · exact text_fin b w ht hb h hi
  · exact text_nan b w h
end Go.Proofs.YtdnemlanahlnpaaDoor
