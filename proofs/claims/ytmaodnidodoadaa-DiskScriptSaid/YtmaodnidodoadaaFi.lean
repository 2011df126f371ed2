/-
  So many bytes of a number.
-/
import Derived.Test.YtmaodnidodoadaaOx
import Derived.Deep.LoopGhost
namespace Go.Proofs.Ytmaodnidodoadaa
open Go.RowKit BigFrame

/-- the i-th byte of a number's -/
def fillB (n : Int) (i : Nat) : Nat := ((n / 2 ^ (8 * (i % 4)) + (i : Int) * 7) % 256).toNat
def fillN (n : Int) (s : Nat) : List Nat := (List.range s).map (fillB n)
theorem fillN_length (n : Int) (s : Nat) : (fillN n s).length = s := by simp [fillN]
theorem fillN_succ (n : Int) (k : Nat) : fillN n (k + 1) = fillN n k ++ [fillB n k] := by simp [fillN, List.range_succ]
def FillRel (n : Int) (s : Nat) (w : World) (g : Nat) (v i : Value) (wr : World) : Prop :=
  ∃ k : Nat, k + g = s ∧ i = .int .i64 k ∧ OwnB wr w.heap.size v (fillN n k) ∧ Below w.heap.size w wr

set_option maxHeartbeats 1000000 in
theorem fill_any (n : Int) (s : Nat) (w : World) (hs : s ≤ 30000) :
    Calls Try.prog 20 #[.int .i64 n, .int .i64 (s : Int)] w (GivesB (fillN n s) w) := by
  go_enter Try.func20, Try.ntmps20
  go_wp2_with fail
  go_loopg [5, 6] s (fun g v i wr => FillRel n s w g v i wr)
  case atStart => exact ⟨0, by omega, rfl, OwnB.nil _ _, Below.refl _ _⟩
  case round =>
    obtain ⟨k, hk, rfl, hO, hB⟩ := hrel
    have hO' := Lib.hid hO
    have hB' := Lib.hid hB
    have hkb : k ≤ 30000 := by omega
    clear hO hB
    by_cases hlt : k < s
    · obtain ⟨g, rfl⟩ : ∃ g, gk = g + 1 := ⟨gk - 1, by omega⟩
      obtain ⟨b, hb0⟩ : ∃ b, fillB n k = b := ⟨_, rfl⟩
      have hb : (n / 2 ^ (8 * (k % 4)) + (k : Int) * 7) % 256 = (b : Int) := by
        rw [← hb0, fillB]
        have := Int.emod_nonneg (n / 2 ^ (8 * (k % 4)) + (k : Int) * 7) (show (256 : Int) ≠ 0 by omega)
        omega
      have hb' := Lib.hid hb0
      have hl1 := Lib.hid (fillN_length n k)
      have B1 := Lib.hid (hB'.out.alloc hB'.out.size (.cells #[.int .u8 (b : Int)] 5))
      have O1 := Lib.hid (hO'.out.on ((Below.refl wr.heap.size wr).alloc (Nat.le_refl _) (.cells #[.int .u8 (b : Int)] 5)) (Nat.le_refl _))
      have N1 := Lib.hid (show BAt (wr.alloc (.cells #[.int .u8 (b : Int)] 5)) (some ⟨wr.heap.size, 0, none⟩) [b] from (row_alloc wr [b]).bat)
      clear hb0
      go_wp2_with (at_builtin; refine wpList_append_bytes rfl (.tmp 16) (.tmp 27) rfl w.heap.size _ (fillN n k) rfl O1.out _ 1 1 [b] rfl rfl N1.out (fun h => by cases h) (by rw [hl1.out]; omega) B1.out.size ?_; intro v2 w2 ho2 hg2 hb2; have B2 := Lib.hid (B1.out.trans hb2); clear hb2 hg2)
      go_roundg g
      case measure => omega
      case rel =>
        refine ⟨k + 1, by omega, by go_num, ?_, B2.out⟩
        rw [fillN_succ, hb'.out]; exact ho2.out
    · obtain rfl : k = s := by omega
      go_wp2_with fail
      go_ret
      exact ⟨_, rfl, hO'.out, hB'.out⟩
theorem fill_c (n C : Int) (s : Nat) (w : World) (hC : C = (s : Int)) (hs : s ≤ 30000) :
    Calls Try.prog 20 #[.int .i64 n, .int .i64 C] w (GivesB (fillN n s) w) := by
  subst hC; exact fill_any n s w hs
end Go.Proofs.Ytmaodnidodoadaa
