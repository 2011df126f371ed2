/-
  What the comparisons of package score give: contracts of its functions and of those of math and cmp that they call.
-/
import Derived.Test.YtdkjmpicdkfgoaaRw
import Derived.Test.YtdkjmpicdkfgoaaF1
import Derived.WalkKit
import Derived.WalkSpells
import Derived.WalkLawsBesides
import Derived.BigQuiet
import Derived.Deep.RegionWith
import Derived.Lib.Hide
namespace Go.Proofs.Ytdkjmpicdkfgoaa
open Go.RowKit Fl

theorem ret_boolF {a b : Bool} (h : a = b) : Ending.returned (.bool a) = .returned (.bool b) := by rw [h]
theorem ret_float {k : FloatKind} {a b : Nat} (h : a = b) : Ending.returned (.float k a) = .returned (.float k b) := by rw [h]

theorem frombits_run (n : Int) (w : World) : (callFunc 63 #[.int .u64 n]).run Try.prog w = .ok (.value (.float .f64 n.toNat)) w := by
  rw [run_callFunc_extern (e := Extern.MathFloatBits.float64frombits) Try.func63 (by kernel_rfl) (by kernel_rfl) (by kernel_rfl) (by kernel_rfl)]
  rfl
theorem bits_run (b : Nat) (w : World) : (callFunc 83 #[.float .f64 b]).run Try.prog w = .ok (.value (.int .u64 b)) w := by
  rw [run_callFunc_extern (e := Extern.MathFloatBits.float64bits) Try.func83 (by kernel_rfl) (by kernel_rfl) (by kernel_rfl) (by kernel_rfl)]
  rfl

set_option maxHeartbeats 400000 in
theorem isNaN_any (b : Nat) (w : World) :
    Calls Try.prog 64 #[.float .f64 b] w fun e w' => e = .returned (.bool (nanB b)) ∧ w = w' := by
  go_enter Try.func64, Try.ntmps64
  go_wp2
  go_ret
  exact ⟨ret_boolF (neq_self b), rfl⟩

set_option maxHeartbeats 400000 in
theorem cmpIsNaN_any (b : Nat) (w : World) :
    Calls Try.prog 86 #[.float .f64 b] w fun e w' => e = .returned (.bool (nanB b)) ∧ w = w' := by
  go_enter Try.func86, Try.ntmps86
  go_wp2
  go_ret
  exact ⟨ret_boolF (neq_self b), rfl⟩

set_option maxHeartbeats 400000 in
theorem nan_any (w : World) :
    Calls Try.prog 43 #[] w fun e w' => e = .returned (.float .f64 9221120237041090561) ∧ w = w' := by
  have hf := frombits_run
  go_enter Try.func43, Try.ntmps43
  go_wp2
  go_ret
  exact ⟨rfl, rfl⟩

set_option maxHeartbeats 400000 in
theorem signbit_any (b : Nat) (w : World) :
    Calls Try.prog 79 #[.float .f64 b] w fun e w' => e = .returned (.bool (neg b)) ∧ w = w' := by
  have hg := bits_run
  go_enter Try.func79, Try.ntmps79
  go_wp2
  go_ret
  exact ⟨ret_boolF (signbit_bits b), rfl⟩

/-- a float with the size of one, and the sign of the other -/
def signOf (a b : Nat) : Nat := rung a + if neg b then S else 0
theorem signOf_lt (a b : Nat) : signOf a b < 2 ^ 64 := copysign_lt a b

set_option maxHeartbeats 400000 in
theorem copysign_any (a b : Nat) (w : World) (ha : a < 2 ^ 64) (hb : b < 2 ^ 64) :
    Calls Try.prog 84 #[.float .f64 a, .float .f64 b] w fun e w' => e = .returned (.float .f64 (signOf a b)) ∧ w = w' := by
  have hf := frombits_run
  have hg := bits_run
  have hb' := Lib.hid hb
  have ha' := Lib.hid ha
  clear hb ha
  go_enter Try.func84, Try.ntmps84
  go_wp2
  go_ret
  exact ⟨ret_float (bits_copysign a b ha'.out hb'.out), rfl⟩

/-- the five roads of cmp.Compare, each with its tests known -/
theorem cmpCompare_nn (a b : Nat) (w : World) (na : nanB a = true) (nb : nanB b = true) :
    Calls Try.prog 85 #[.float .f64 a, .float .f64 b] w fun e w' => e = .returned (.int .i64 0) ∧ w = w' := by
  have na' := Lib.hid na
  have nb' := Lib.hid nb
  clear na nb
  go_enter Try.func85, Try.ntmps85
  go_wp2_with fail
  refine (cmpIsNaN_any _ _).mono ?_; rintro e w' ⟨rfl, rfl⟩; rw [na'.out]
  go_wp2_with fail
  refine (cmpIsNaN_any _ _).mono ?_; rintro e w' ⟨rfl, rfl⟩; rw [nb'.out]
  go_wp2_with fail
  go_ret
  exact ⟨rfl, rfl⟩
theorem cmpCompare_nr (a b : Nat) (w : World) (na : nanB a = true) (nb : nanB b = false) :
    Calls Try.prog 85 #[.float .f64 a, .float .f64 b] w fun e w' => e = .returned (.int .i64 (-1)) ∧ w = w' := by
  have na' := Lib.hid na
  have nb' := Lib.hid nb
  clear na nb
  go_enter Try.func85, Try.ntmps85
  go_wp2_with fail
  refine (cmpIsNaN_any _ _).mono ?_; rintro e w' ⟨rfl, rfl⟩; rw [na'.out]
  go_wp2_with fail
  refine (cmpIsNaN_any _ _).mono ?_; rintro e w' ⟨rfl, rfl⟩; rw [nb'.out]
  go_wp2_with fail
  go_ret
  exact ⟨rfl, rfl⟩
theorem cmpCompare_rn (a b : Nat) (w : World) (na : nanB a = false) (nb : nanB b = true) :
    Calls Try.prog 85 #[.float .f64 a, .float .f64 b] w fun e w' => e = .returned (.int .i64 1) ∧ w = w' := by
  have na' := Lib.hid na
  have nb' := Lib.hid nb
  clear na nb
  go_enter Try.func85, Try.ntmps85
  go_wp2_with fail
  refine (cmpIsNaN_any _ _).mono ?_; rintro e w' ⟨rfl, rfl⟩; rw [na'.out]
  go_wp2_with fail
  refine (cmpIsNaN_any _ _).mono ?_; rintro e w' ⟨rfl, rfl⟩; rw [nb'.out]
  go_wp2_with fail
  go_ret
  exact ⟨rfl, rfl⟩
theorem cmpCompare_rr (a b : Nat) (w : World) (na : nanB a = false) (nb : nanB b = false) :
    Calls Try.prog 85 #[.float .f64 a, .float .f64 b] w fun e w' => e = .returned (.int .i64 (cmp3 (ord a) (ord b))) ∧ w = w' := by
  have h1 := ltB a b
  have h2 := gtB a b
  rw [na, nb] at h1 h2
  have na' := Lib.hid na
  have nb' := Lib.hid nb
  clear na nb
  rcases Int.lt_trichotomy (ord a) (ord b) with hl | he | hg
  · have h1' : (FloatKind.f64.format.order a b == some Ordering.lt) = true := by rw [h1]; simpa using hl
    have hc : Hid (cmp3 (ord a) (ord b) = -1) := Lib.hid (by unfold cmp3; rw [if_pos hl])
    clear h1 h2 hl
    go_enter Try.func85, Try.ntmps85
    go_wp2_with fail
    refine (cmpIsNaN_any _ _).mono ?_; rintro e w' ⟨rfl, rfl⟩; rw [na'.out]
    go_wp2_with fail
    refine (cmpIsNaN_any _ _).mono ?_; rintro e w' ⟨rfl, rfl⟩; rw [nb'.out]
    go_wp2_with fail
    go_ret
    exact ⟨ret_int hc.out.symm, rfl⟩
  · have h1' : (FloatKind.f64.format.order a b == some Ordering.lt) = false := by rw [h1]; simp; omega
    have h2' : (FloatKind.f64.format.order a b == some Ordering.gt) = false := by rw [h2]; simp; omega
    have hc : Hid (cmp3 (ord a) (ord b) = 0) := Lib.hid (by unfold cmp3; rw [if_neg (by omega), if_neg (by omega)])
    clear h1 h2 he
    go_enter Try.func85, Try.ntmps85
    go_wp2_with fail
    refine (cmpIsNaN_any _ _).mono ?_; rintro e w' ⟨rfl, rfl⟩; rw [na'.out]
    go_wp2_with fail
    refine (cmpIsNaN_any _ _).mono ?_; rintro e w' ⟨rfl, rfl⟩; rw [nb'.out]
    go_wp2_with fail
    go_ret
    exact ⟨ret_int hc.out.symm, rfl⟩
  · have h1' : (FloatKind.f64.format.order a b == some Ordering.lt) = false := by rw [h1]; simp; omega
    have h2' : (FloatKind.f64.format.order a b == some Ordering.gt) = true := by rw [h2]; simpa using hg
    have hc : Hid (cmp3 (ord a) (ord b) = 1) := Lib.hid (by unfold cmp3; rw [if_neg (by omega), if_pos hg])
    clear h1 h2 hg
    go_enter Try.func85, Try.ntmps85
    go_wp2_with fail
    refine (cmpIsNaN_any _ _).mono ?_; rintro e w' ⟨rfl, rfl⟩; rw [na'.out]
    go_wp2_with fail
    refine (cmpIsNaN_any _ _).mono ?_; rintro e w' ⟨rfl, rfl⟩; rw [nb'.out]
    go_wp2_with fail
    go_ret
    exact ⟨ret_int hc.out.symm, rfl⟩
theorem cmpCompare_any (a b : Nat) (w : World) :
    Calls Try.prog 85 #[.float .f64 a, .float .f64 b] w fun e w' => e = .returned (.int .i64 (cmp3 (keyc a) (keyc b))) ∧ w = w' := by
  have ba := ord_bd a
  have bb := ord_bd b
  have hS : (S : Int) = 9223372036854775808 := rfl
  have kt : ∀ x, nanB x = true → keyc x = -(2 ^ 64) := fun x h => by unfold keyc; rw [h]; rfl
  have kf : ∀ x, nanB x = false → keyc x = ord x := fun x h => by unfold keyc; rw [h]; rfl
  cases na : nanB a <;> cases nb : nanB b
  · rw [kf a na, kf b nb]; exact cmpCompare_rr a b w na nb
  · refine (cmpCompare_rn a b w na nb).mono fun e w' ⟨he, hw⟩ => ⟨he.trans (ret_int ?_), hw⟩
    rw [kf a na, kt b nb]; unfold cmp3; rw [if_neg (by omega), if_pos (by omega)]
  · refine (cmpCompare_nr a b w na nb).mono fun e w' ⟨he, hw⟩ => ⟨he.trans (ret_int ?_), hw⟩
    rw [kt a na, kf b nb]; unfold cmp3; rw [if_pos (by omega)]
  · refine (cmpCompare_nn a b w na nb).mono fun e w' ⟨he, hw⟩ => ⟨he.trans (ret_int ?_), hw⟩
    rw [kt a na, kt b nb]; unfold cmp3; simp

/-- package score's own: zeros apart -/
theorem compare_zz (a b : Nat) (w : World) (ha : a < 2 ^ 64) (hb : b < 2 ^ 64) (h1 : nanB a = false ∧ ord a = 0) (h2 : nanB b = false ∧ ord b = 0) :
    Calls Try.prog 82 #[.float .f64 a, .float .f64 b] w fun e w' => e = .returned (.int .i64 (cmp3 (key a) (key b))) ∧ w = w' := by
  have e1' : (FloatKind.f64.format.order a 0 == some Ordering.eq) = true := by rw [eqB, h1.1, h1.2]; rfl
  have e2' : (FloatKind.f64.format.order b 0 == some Ordering.eq) = true := by rw [eqB, h2.1, h2.2]; rfl
  have hc := Lib.hid (cmp_signs a b h1.2 h2.2 h1.1 h2.1)
  have ha' := Lib.hid ha
  have hb' := Lib.hid hb
  clear h1 h2 ha hb
  go_enter Try.func82, Try.ntmps82
  go_wp2_with fail
  refine (copysign_any _ _ _ (by decide) ha'.out).mono ?_; rintro e w' ⟨rfl, rfl⟩
  go_wp2_with fail
  refine (copysign_any _ _ _ (by decide) hb'.out).mono ?_; rintro e w' ⟨rfl, rfl⟩
  go_wp2_with fail
  refine (cmpCompare_any _ _ _).mono ?_; rintro e w' ⟨rfl, rfl⟩
  go_wp2_with fail
  go_ret
  exact ⟨ret_int hc.out, rfl⟩
theorem compare_z (a b : Nat) (w : World) (h1 : nanB a = false ∧ ord a = 0) (h2 : ¬ (nanB b = false ∧ ord b = 0)) :
    Calls Try.prog 82 #[.float .f64 a, .float .f64 b] w fun e w' => e = .returned (.int .i64 (cmp3 (keyc a) (keyc b))) ∧ w = w' := by
  have e1' : (FloatKind.f64.format.order a 0 == some Ordering.eq) = true := by rw [eqB, h1.1, h1.2]; rfl
  have e2' : (FloatKind.f64.format.order b 0 == some Ordering.eq) = false := by
    rw [eqB, show nanB 0 = false by decide, show ord 0 = 0 by decide]; cases h : nanB b <;> simp_all
  clear h1 h2
  go_enter Try.func82, Try.ntmps82
  go_wp2_with fail
  refine (cmpCompare_any _ _ _).mono ?_; rintro e w' ⟨rfl, rfl⟩
  go_wp2_with fail
  go_ret
  exact ⟨rfl, rfl⟩
theorem compare_n (a b : Nat) (w : World) (h1 : ¬ (nanB a = false ∧ ord a = 0)) :
    Calls Try.prog 82 #[.float .f64 a, .float .f64 b] w fun e w' => e = .returned (.int .i64 (cmp3 (keyc a) (keyc b))) ∧ w = w' := by
  have e1' : (FloatKind.f64.format.order a 0 == some Ordering.eq) = false := by
    rw [eqB, show nanB 0 = false by decide, show ord 0 = 0 by decide]; cases h : nanB a <;> simp_all
  clear h1
  go_enter Try.func82, Try.ntmps82
  go_wp2_with fail
  refine (cmpCompare_any _ _ _).mono ?_; rintro e w' ⟨rfl, rfl⟩
  go_wp2_with fail
  go_ret
  exact ⟨rfl, rfl⟩
theorem compare_any (a b : Nat) (w : World) (ha : a < 2 ^ 64) (hb : b < 2 ^ 64) :
    Calls Try.prog 82 #[.float .f64 a, .float .f64 b] w fun e w' => e = .returned (.int .i64 (cmp3 (key a) (key b))) ∧ w = w' := by
  by_cases h1 : nanB a = false ∧ ord a = 0
  · by_cases h2 : nanB b = false ∧ ord b = 0
    · exact compare_zz a b w ha hb h1 h2
    · have e : cmp3 (key a) (key b) = cmp3 (keyc a) (keyc b) := by
        cases nb : nanB b
        · exact key_zeros a b h1.1 nb fun h => h2 ⟨nb, h.2⟩
        · exact cmp_nan a b (.inr nb)
      rw [e]; exact compare_z a b w h1 h2
  · have e : cmp3 (key a) (key b) = cmp3 (keyc a) (keyc b) := by
      cases na : nanB a
      · cases nb : nanB b
        · exact key_zeros a b na nb fun h => h1 ⟨na, h.1⟩
        · exact cmp_nan a b (.inr nb)
      · exact cmp_nan a b (.inl na)
    rw [e]; exact compare_n a b w h1
theorem less_any (a b : Nat) (w : World) (ha : a < 2 ^ 64) (hb : b < 2 ^ 64) :
    Calls Try.prog 78 #[.float .f64 a, .float .f64 b] w fun e w' => e = .returned (.bool (decide (key a < key b))) ∧ w = w' := by
  have hc := Lib.hid (cmp3_lt (key a) (key b))
  have ha' := Lib.hid ha
  have hb' := Lib.hid hb
  clear ha hb
  go_enter Try.func78, Try.ntmps78
  go_wp2_with fail
  refine (compare_any _ _ _ ha'.out hb'.out).mono ?_; rintro e w' ⟨rfl, rfl⟩
  go_wp2_with fail
  go_ret
  exact ⟨ret_boolF hc.out, rfl⟩
end Go.Proofs.Ytdkjmpicdkfgoaa
