/-
  Bytes of some numbers.
-/
import Derived.Test.YtdkjmpicdkfgoaaHas
import Derived.Test.YtdkjmpicdkfgoaaIt
import Derived.Deep.LoopGhost
import Derived.Deep.RegionWith
namespace Go.Proofs.Ytdkjmpicdkfgoaa
open Go.RowKit BigFrame

/-- the first k of some integers, those of them from 0 to below n, as bytes -/
def setsN (n : Nat) (R : Nat → Int) : Nat → List Nat
  | 0 => zs ((n + 7) / 8)
  | k + 1 => if 0 ≤ R k ∧ R k < (n : Int) then putN (setsN n R k) (R k).toNat true else setsN n R k
/-- is x among the first k? -/
def anyI (R : Nat → Int) (x : Int) : Nat → Bool
  | 0 => false
  | k + 1 => anyI R x k || R k == x
theorem setsN_length (n : Nat) (R : Nat → Int) : ∀ k, (setsN n R k).length = (n + 7) / 8
  | 0 => zs_length _
  | k + 1 => by
    unfold setsN
    split
    · rw [putN_length]; exact setsN_length n R k
    · exact setsN_length n R k
theorem setsN_octs (n : Nat) (R : Nat → Int) : ∀ k, Octs (setsN n R k)
  | 0 => Octs.rep _ 0 (by decide)
  | k + 1 => by
    unfold setsN
    split
    · exact putN_octs (setsN_octs n R k) _ _
    · exact setsN_octs n R k
theorem setsN_has (n : Nat) (R : Nat → Int) (i : Nat) : ∀ k, hasN (setsN n R k) i = (decide (i < n) && anyI R (i : Int) k)
  | 0 => by simp [setsN, hasN_zs, anyI]
  | k + 1 => by
    unfold setsN anyI
    split
    · rename_i h
      rw [hasN_put (by rw [setsN_length]; omega), setsN_has n R i k]
      by_cases e : i = (R k).toNat
      · rw [if_pos e]
        have e1 : (R k == (i : Int)) = true := by rw [beq_iff_eq]; omega
        have e2 : decide (i < n) = true := by rw [decide_eq_true_eq]; omega
        simp [e1, e2]
      · rw [if_neg e]
        have e1 : (R k == (i : Int)) = false := by rw [beq_eq_false_iff_ne]; omega
        simp [e1]
    · rename_i h
      rw [setsN_has n R i k]
      by_cases e : i < n
      · have e1 : (R k == (i : Int)) = false := by rw [beq_eq_false_iff_ne]; omega
        simp [e1]
      · have e2 : decide (i < n) = false := by rw [decide_eq_false_iff_not]; exact e
        simp [e2]
theorem setsN_in {n k x : Nat} {R : Nat → Int} (h : R k = (x : Int)) (hx : x < n) : setsN n R (k + 1) = putN (setsN n R k) x true := by
  show (if 0 ≤ R k ∧ R k < (n : Int) then putN (setsN n R k) (R k).toNat true else setsN n R k) = _
  rw [if_pos (by omega), h, Int.toNat_natCast]
theorem setsN_un {n k : Nat} {R : Nat → Int} (h : ¬ (0 ≤ R k ∧ R k < (n : Int))) : setsN n R (k + 1) = setsN n R k := by
  show (if 0 ≤ R k ∧ R k < (n : Int) then putN (setsN n R k) (R k).toNat true else setsN n R k) = _
  rw [if_neg h]

def OfRel (n c : Nat) (R : Nat → Int) (w : World) (g0 : Nat) (g : Nat) (i : Value) (wr : World) : Prop :=
  ∃ k : Nat, k + g = c ∧ i = .int .i64 k ∧ Row wr g0 (setsN n R k) ∧ Below w.heap.size w wr
def OfPost (L : List Nat) (m : Nat) (w : World) (e : Ending) (w' : World) : Prop :=
  ∃ g, e = .returned (.slice (some ⟨g, 0, none⟩) m m) ∧ w.heap.size ≤ g ∧ Row w' g L ∧ Below w.heap.size w w'

set_option maxHeartbeats 1000000 in
theorem of_any (a : Option Addr) (cap n c m : Nat) (R : Nat → Int) (w : World) (hn : n ≤ 1000) (hm : m = (n + 7) / 8) (hc : c ≤ 1000000) (hx : IntsAt w a c R) :
    Calls Try.prog 57 #[.int .i64 (n : Int), .slice a c cap] w (OfPost (setsN n R c) m w) := by
  have hx' := Lib.hid hx
  have e1 := Lib.hid (show ((n : Int) + 7) / 8 = ((m : Nat) : Int) by omega)
  have t0 : decide ((n : Int) < 0) = false := by rw [decide_eq_false_iff_not]; omega
  have t1 : decide ((n : Int) > 1000) = false := by rw [decide_eq_false_iff_not]; omega
  have hm' := Lib.hid hm
  have hs0 := Lib.hid (setsN_length n R)
  have ho0 := Lib.hid (setsN_octs n R)
  have hm2 : 8 * m < 2000 := by omega
  clear hx hm
  go_enter Try.func57, Try.ntmps57
  go_wp2_with (at_make; refine wpList_make_bytes rfl _ _ rfl m (val_int e1.out) (val_int e1.out) (by omega) ?_; intro g1 w1 hr1 hg1 hb1; have B1 := Lib.hid hb1; clear hb1)
  go_loopg [20] c (fun g i wr => OfRel n c R w g1 g i wr)
  case atStart => exact ⟨0, by omega, rfl, by rw [show setsN n R 0 = zs m by rw [hm'.out]; rfl]; exact hr1.out, B1.out⟩
  case round =>
    obtain ⟨k, hg, rfl, hR, hB⟩ := hrel
    have hR' := Lib.hid hR
    have hB' := Lib.hid hB
    clear hR hB
    by_cases hlt : k < c
    · obtain ⟨g, rfl⟩ : ∃ g, gk = g + 1 := ⟨gk - 1, by omega⟩
      obtain ⟨b, off, rfl, hcell⟩ : ∃ b off, a = some ⟨b, off, none⟩ ∧ w.cell? ⟨b, off + k, none⟩ = some (.int .i64 (R k)) := by
        rcases hx'.out with h | ⟨b, off, e, h⟩
        · omega
        · exact ⟨b, off, e, h k hlt⟩
      have hbl := World.block_lt_of_cell? w _ hcell
      have hcell2 : wr.cell? ⟨b, off + k, none⟩ = some (.int .i64 (R k)) := by rw [hB'.out.cell (p := ⟨b, off + k, none⟩) hbl]; exact hcell
      clear hcell
      obtain ⟨r, hr⟩ : ∃ r, R k = r := ⟨_, rfl⟩
      have hr' := Lib.hid hr
      rw [hr] at hcell2
      clear hr
      by_cases h0 : r < 0
      · have t2 : decide ((0 : Int) ≤ r) = false := by rw [decide_eq_false_iff_not]; omega
        have hend := Lib.hid (setsN_un (n := n) (k := k) (R := R) (by rw [hr'.out]; omega))
        go_wp2_with fail
        go_roundg g
        case measure => omega
        case rel => exact ⟨k + 1, by omega, by go_num, by rw [hend.out]; exact hR'.out, hB'.out⟩
      · by_cases h1 : r < (n : Int)
        · obtain ⟨x, rfl⟩ : ∃ x : Nat, r = (x : Int) := ⟨r.toNat, by omega⟩
          obtain ⟨q, hq⟩ : ∃ q, q = x / 8 := ⟨_, rfl⟩
          have h8 : q < m := by rw [hq]; have := hm'.out; omega
          have hq2 : IntKind.i64.wrap ((x : Int) / 8) = ((q : Nat) : Int) := by rw [IntKind.wrap_i64]; omega
          have hi2 : x < 4611686018427387904 := by omega
          have t2 : decide (x < n) = true := by rw [decide_eq_true_eq]; omega
          have hlen := hs0.out k
          have c1 := hR'.out.cell (k := q) (by rw [hlen]; omega)
          have f1 := hR'.out.frozen q
          have hp := Lib.hid (put_int (x := bz (setsN n R k) q) (i := x) (ho0.out k q (by rw [hlen]; omega)))
          have hend := Lib.hid (setsN_in (n := n) (k := k) (R := R) hr'.out (by omega))
          have hset := Lib.hid (hR'.out.set q (putB (bz (setsN n R k) q) x true))
          have hbel := Lib.hid (hB'.out.setCell (p := ⟨g1, q, none⟩) hg1 (.int .u8 ((putB (bz (setsN n R k) q) x true : Nat) : Int)))
          have hq' := Lib.hid hq
          clear hq hlen
          go_wp2_with fail
          go_region_with ((go_at_call 73; refine (mask_any x _ hi2).mono ?_; rintro e w2 ⟨rfl, rfl⟩))
          all_goals go_wp2_with fail
          all_goals (
            go_roundg g
            case measure => omega
            case rel => exact ⟨k + 1, by omega, by go_num, by rw [hend.out, hp.out]; unfold putN; rw [← hq'.out]; exact hset.out, by rw [hp.out]; exact hbel.out.drew⟩)
        · have t2 : decide ((0 : Int) ≤ r) = true := by rw [decide_eq_true_eq]; omega
          have t3 : decide (r < (n : Int)) = false := by rw [decide_eq_false_iff_not]; omega
          have hend := Lib.hid (setsN_un (n := n) (k := k) (R := R) (by rw [hr'.out]; omega))
          go_wp2_with fail
          go_roundg g
          case measure => omega
          case rel => exact ⟨k + 1, by omega, by go_num, by rw [hend.out]; exact hR'.out, hB'.out⟩
    · obtain rfl : k = c := by omega
      go_wp2_with fail
      go_ret
      exact ⟨g1, rfl, hg1, hR'.out, hB'.out⟩
theorem of_is (a : Option Addr) (cap n c m : Nat) (N : Int) (R : Nat → Int) (L : List Nat) (w : World) (hL : setsN n R c = L) (hN : N = (n : Int)) (hn : n ≤ 1000) (hm : m = (n + 7) / 8) (hc : c ≤ 1000000) (hx : IntsAt w a c R) :
    Calls Try.prog 57 #[.int .i64 N, .slice a c cap] w (OfPost L m w) := by
  subst hN; subst hL
  exact of_any a cap n c m R w hn hm hc hx
end Go.Proofs.Ytdkjmpicdkfgoaa
