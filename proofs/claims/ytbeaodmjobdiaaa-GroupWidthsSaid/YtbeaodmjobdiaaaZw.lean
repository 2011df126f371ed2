/-
  A sum is written, and read.
-/
import Derived.Test.YtbeaodmjobdiaaaZs
namespace Go.Proofs.Ytbeaodmjobdiaaa
open Go.RowKit

def be4 (s : Nat) : List Nat := [s / 16777216 % 256, s / 65536 % 256, s / 256 % 256, s % 256]
theorem be4_octs (s : Nat) : Octs (be4 s) := octs_mem (by intro x hx; simp [be4] at hx; omega)
def wrt (L : List Nat) (off s : Nat) : Nat → List Nat
  | 0 => L
  | j + 1 => (wrt L off s j).set (off + (3 - j)) (s / 256 ^ j % 256)
theorem wrt_length (L : List Nat) (off s : Nat) : ∀ j, (wrt L off s j).length = L.length
  | 0 => rfl
  | j + 1 => by rw [wrt, List.length_set, wrt_length L off s j]
theorem wrt_four (L : List Nat) (off s : Nat) (h : off + 4 ≤ L.length) : wrt L off s 4 = splice L off (be4 s) := by
  apply bz_ext
  · rw [wrt_length, length_splice _ _ _ (by simpa [be4] using h)]
  intro k hk
  rw [wrt_length] at hk
  simp only [wrt]
  rw [bz_set (by simp; omega), bz_set (by simp; omega), bz_set (by simp; omega), bz_set (by omega)]
  unfold splice
  by_cases h1 : k < off
  · rw [bz_append_left (by rw [List.length_take]; omega), bz_take h1]
    simp only [show ¬ k = off + 3 by omega, show ¬ k = off + (3 - 3) by omega, show ¬ k = off + (3 - 2) by omega, show ¬ k = off + (3 - 1) by omega, if_false]
  · rw [bz_append_right (by rw [List.length_take]; omega), List.length_take, Nat.min_eq_left (by omega)]
    by_cases h2 : k < off + 4
    · rw [bz_append_left (by simp [be4]; omega)]
      obtain ⟨d, rfl⟩ : ∃ d, k = off + d := ⟨k - off, by omega⟩
      rw [Nat.add_sub_cancel_left]
      match d, (show d < 4 by omega) with
      | 0, _ => simp [be4, bz]
      | 1, _ => simp [be4, bz]
      | 2, _ => simp [be4, bz]
      | 3, _ => simp [be4, bz]
    · rw [bz_append_right (by simp [be4]; omega)]
      simp only [show ¬ k = off + (3 - 3) by omega, show ¬ k = off + (3 - 2) by omega, show ¬ k = off + (3 - 1) by omega, show ¬ k = off + (3 - 0) by omega, if_false]
      rw [bz_drop]
      congr 1
      simp [be4]; omega

def WRel (g off : Nat) (L : List Nat) (s : Nat) (w : World) (v i : Value) (wr : World) : Prop :=
  ∃ j : Nat, j ≤ 4 ∧ v = .int .u32 ((s / 256 ^ j : Nat) : Int) ∧ i = .int .i64 (3 - (j : Int)) ∧ Row wr g (wrt L off s j) ∧ ∀ B, B ≤ g → Below B w wr

set_option maxHeartbeats 400000 in
theorem writeSum_any (g off cap : Nat) (L : List Nat) (s : Nat) (w : World) (hs : s < 4294967296) (hrow : Row w g L) (hl : off + 4 ≤ L.length) :
    Calls Try.prog 34 #[.slice (some ⟨g, off, none⟩) 4 cap, .int .u32 (s : Int)] w fun e w' => e = .returned (.tuple #[]) ∧ Row w' g (splice L off (be4 s)) ∧ ∀ B, B ≤ g → Below B w w' := by
  have hrow' := Lib.hid hrow
  clear hrow
  go_enter Try.func34, Try.ntmps34
  go_wp2_with fail
  go_loopw [1, 4] (fun v i wr => WRel g off L s w v i wr) (fun _ i _ => (intOf i + 1).toNat)
  case atStart => exact ⟨0, by omega, by simp, rfl, hrow'.out, fun B _ => Below.refl _ _⟩
  case round =>
    obtain ⟨j, hj, rfl, rfl, hr, hb⟩ := hrel
    have hr' := Lib.hid hr
    have hb' := Lib.hid hb
    by_cases hlt : j < 4
    · obtain ⟨k, hk⟩ : ∃ k, 3 - j = k := ⟨_, rfl⟩
      have hk' : (3 : Int) - (j : Int) = (k : Int) := by omega
      have c1 := hr.cell (k := off + k) (by rw [wrt_length]; omega)
      have c2 := hr.frozen (off + k)
      clear hr hb
      rw [hk']
      have hkk := Lib.hid hk
      have hkk' := Lib.hid hk'
      have hj3 : k ≤ 3 := by omega
      clear hk hk'
      obtain ⟨d, hd⟩ : ∃ d, d = s / 256 ^ j := ⟨_, rfl⟩
      rw [← hd]
      have hd1 : d < 4294967296 := by rw [hd]; exact Nat.lt_of_le_of_lt (Nat.div_le_self _ _) hs
      have hd2 := Lib.hid (show d / 256 = s / 256 ^ (j + 1) by rw [hd, Nat.div_div_eq_div_mul, Nat.pow_succ])
      have hd' := Lib.hid hd
      clear hd
      go_wp2_with fail
      refine ⟨⟨j + 1, by omega, val_int ?_, val_int ?_, ?_, fun B hB => (hb'.out B hB).setCell hB _⟩, ?_⟩
      · rw [← hd2.out]; omega
      · have := hkk'.out; omega
      · have e : ((d : Int) % 256) = ((s / 256 ^ j % 256 : Nat) : Int) := by rw [← hd'.out]; omega
        rw [e, wrt, hkk.out]
        exact hr'.out.set _ _
      · simp [intOf]
    · obtain rfl : j = 4 := by omega
      clear hr hb
      go_wp2_with fail
      go_end0
      exact ⟨rfl, by rw [← wrt_four L off s hl]; exact hr'.out, hb'.out⟩

def rdN (l : List Nat) : Nat := l.foldl (fun s x => s * 256 + x) 0
theorem rd_take {l : List Nat} {k : Nat} (h : k < l.length) : rdN (l.take (k + 1)) = rdN (l.take k) * 256 + bz l k := by
  rw [take_succ_bz h]
  unfold rdN
  rw [List.foldl_append, List.foldl_cons, List.foldl_nil]
theorem rd_lt {l : List Nat} (ho : Octs l) : ∀ k, k ≤ l.length → rdN (l.take k) < 256 ^ k
  | 0, _ => by simp [rdN]
  | k + 1, h => by
    rw [rd_take (by omega), Nat.pow_succ]
    have := rd_lt ho k (by omega)
    have := ho k (by omega)
    omega
theorem rd_be4 {s : Nat} (h : s < 4294967296) : rdN (be4 s) = s := by
  simp only [rdN, be4, List.foldl_cons, List.foldl_nil]
  omega
theorem be4_rd {l : List Nat} (ho : Octs l) (hl : l.length = 4) : be4 (rdN l) = l := by
  match l, hl with
  | [a, b, c, d], _ =>
    have h0 : a < 256 := ho 0 (by simp)
    have h1 : b < 256 := ho 1 (by simp)
    have h2 : c < 256 := ho 2 (by simp)
    have h3 : d < 256 := ho 3 (by simp)
    simp only [rdN, be4, List.foldl_cons, List.foldl_nil, List.cons.injEq, and_true]
    omega
theorem rd_step {s x : Nat} (hs : s < 16777216) (hx : x < 256) : bits .or .u32 ((s : Int) * 256 % 4294967296) ((x : Int) % 4294967296) = ((s * 256 + x : Nat) : Int) := by
  have e1 : (s : Int) * 256 % 4294967296 = ((s * 256 : Nat) : Int) := by omega
  have e2 : (x : Int) % 4294967296 = (x : Int) := by omega
  rw [e1, e2, u32_or_nat _ x (by omega) (by omega), nat_join 8 (s * 256) x (by omega) (by omega)]

def RdRel (l : List Nat) (s i : Value) : Prop := ∃ k : Nat, k ≤ l.length ∧ i = .int .i64 k ∧ s = .int .u32 ((rdN (l.take k) : Nat) : Int)
set_option maxHeartbeats 400000 in
theorem readSum_any (a : Option Addr) (cap : Nat) (l : List Nat) (w : World) (ho : Octs l) (hl : l.length = 4) (hx : BAt w a l) :
    Calls Try.prog 40 #[.slice a 4 cap] w fun e w' => e = .returned (.int .u32 ((rdN l : Nat) : Int)) ∧ w = w' := by
  have hx' := Lib.hid hx
  have ho' := Lib.hid ho
  have hl' := Lib.hid hl
  clear hx ho hl
  go_enter Try.func40, Try.ntmps40
  go_wp2_with fail
  go_loop [3, 8] (fun s i => RdRel l s i) (fun _ i => 4 - (intOf i).toNat)
  case atStart => exact ⟨0, by omega, rfl, rfl⟩
  case round =>
    obtain ⟨k, hk, rfl, rfl⟩ := hrel
    rw [hl'.out] at hk
    by_cases hlt : k < 4
    · obtain ⟨b, off, rfl⟩ := hx'.out.addr (by rw [hl'.out]; omega)
      have q := hx'.out.cell (k := k) (by rw [hl'.out]; omega)
      have hs : rdN (l.take k) < 16777216 := by
        have h1 := rd_lt ho'.out k (by rw [hl'.out]; omega)
        have h2 : 256 ^ k ≤ 256 ^ 3 := Nat.pow_le_pow_right (by decide) (by omega)
        have h3 : (256 : Nat) ^ 3 = 16777216 := by decide
        omega
      have hs' := Lib.hid hs
      clear hs
      go_wp2_with fail
      exact ⟨⟨k + 1, by rw [hl'.out]; omega, by go_num, val_int (by rw [rd_step hs'.out (ho'.out k (by rw [hl'.out]; omega)), rd_take (by rw [hl'.out]; omega)])⟩, by simp [intOf]; omega⟩
    · have hk' := Lib.hid (show l.take k = l from List.take_of_length_le (by rw [hl'.out]; omega))
      go_wp2_with fail
      go_ret
      exact ⟨ret_int (by rw [hk'.out]), rfl⟩
end Go.Proofs.Ytbeaodmjobdiaaa
