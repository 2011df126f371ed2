/-
  A number is spelled over bytes of a variable of the call's own.
-/
import Derived.Test.YtkeihpenelpblaaPa
import Derived.Test.YtkeihpenelpblaaQt
namespace Go.Proofs.Ytkeihpenelpblaa
open Go.RowKit BigFrame

def PutRelT (t : TypeId) (g off m : Nat) (L : List Nat) (s : Nat) (w : World) (v i : Value) (wr : World) : Prop :=
  ∃ j : Nat, j ≤ m ∧ v = .int .i64 ((s / 256 ^ j : Nat) : Int) ∧ i = .int .i64 ((m : Int) - 1 - (j : Int)) ∧ RowT wr t g (splice L (off + (m - j)) (be j s)) ∧ Oth g w wr

set_option maxHeartbeats 400000 in
theorem put_t (t : TypeId) (g off m cap : Nat) (L : List Nat) (s : Nat) (w : World) (hs : s < 9223372036854775808) (hm : m ≤ 1000) (hrow : RowT w t g L) (hl : off + m ≤ L.length) :
    Calls Try.prog 18 #[.slice (some ⟨g, off, none⟩) m cap, .int .i64 (s : Int)] w fun e w' => e = .returned (.tuple #[]) ∧ RowT w' t g (splice L off (be m s)) ∧ Oth g w w' := by
  have hrow' := Lib.hid hrow
  clear hrow
  go_enter Try.func18, Try.ntmps18
  go_wp2_with fail
  go_loopw [1, 4] (fun v i wr => PutRelT t g off m L s w v i wr) (fun _ i _ => (intOf i + 1).toNat)
  case atStart => exact ⟨0, by omega, by simp, by simp, by rw [be, splice_nil]; exact hrow'.out, Oth.refl _ _⟩
  case round =>
    obtain ⟨j, hj, rfl, rfl, hr, hb⟩ := hrel
    have hr' := Lib.hid hr
    have hb' := Lib.hid hb
    have hlen : (splice L (off + (m - j)) (be j s)).length = L.length := length_splice _ _ _ (by rw [be_length]; omega)
    by_cases hlt : j < m
    · obtain ⟨k, hk⟩ : ∃ k, m - 1 - j = k := ⟨_, rfl⟩
      have hk' : (m : Int) - 1 - (j : Int) = (k : Int) := by omega
      have c1 := hr.cell (k := off + k) (by rw [hlen]; omega)
      have c2 := hr.frozen (off + k)
      clear hr hb
      rw [hk']
      have hkk := Lib.hid hk
      have hkk' := Lib.hid hk'
      have hjl := Lib.hid hlt
      have hjm := Lib.hid hj
      have hkm : k < m := by omega
      have hsp := Lib.hid (set_splice L (off + k) (s / 256 ^ j % 256) (be j s) (by omega))
      have hoff := Lib.hid (show off + (m - j) = off + k + 1 by omega)
      have hof2 := Lib.hid (show off + (m - (j + 1)) = off + k by omega)
      clear hk hk' hlen hj hlt
      obtain ⟨d, hd⟩ : ∃ d, d = s / 256 ^ j := ⟨_, rfl⟩
      rw [← hd]
      have hd1 : d < 9223372036854775808 := by rw [hd]; exact Nat.lt_of_le_of_lt (Nat.div_le_self _ _) hs
      have hd2 := Lib.hid (show d / 256 = s / 256 ^ (j + 1) by rw [hd, Nat.div_div_eq_div_mul, Nat.pow_succ])
      have hd' := Lib.hid hd
      clear hd
      go_wp2_with fail
      refine ⟨⟨j + 1, hjl.out, val_int ?_, val_int ?_, ?_, hb'.out.setCell _⟩, ?_⟩
      · rw [← hd2.out]; omega
      · have := hkk'.out; omega
      · have e : ((d : Int) % 256) = ((s / 256 ^ j % 256 : Nat) : Int) := by rw [← hd'.out]; omega
        rw [e, hof2.out, be_cons, ← hsp.out, ← hoff.out]
        exact hr'.out.set _ _
      · simp [intOf]
    · obtain rfl : j = m := by omega
      clear hr hb
      go_wp2_with fail
      go_end0
      refine ⟨rfl, ?_, hb'.out⟩
      have := hr'.out
      rwa [Nat.sub_self, Nat.add_zero] at this
theorem put_tc (t : TypeId) (g off m cap : Nat) (L : List Nat) (C : Int) (s : Nat) (w : World) (hC : C = (s : Int)) (hs : s < 9223372036854775808) (hm : m ≤ 1000) (hrow : RowT w t g L) (hl : off + m ≤ L.length) :
    Calls Try.prog 18 #[.slice (some ⟨g, off, none⟩) m cap, .int .i64 C] w fun e w' => e = .returned (.tuple #[]) ∧ RowT w' t g (splice L off (be m s)) ∧ Oth g w w' := by
  subst hC; exact put_t t g off m cap L s w hs hm hrow hl
end Go.Proofs.Ytkeihpenelpblaa
