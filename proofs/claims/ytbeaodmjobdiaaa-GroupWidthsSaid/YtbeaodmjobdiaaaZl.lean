/-
  What Seal makes: the sealed sector, in a row of the call's own.
-/
import Derived.Test.YtbeaodmjobdiaaaZw
import Derived.Deep.RegionWith
import Derived.StillTailTactics
namespace Go.Proofs.Ytbeaodmjobdiaaa
open Go.RowKit

/-- the 124 bytes that are summed -/
def front (kind : Nat) (l : List Nat) : List Nat := kind :: (l ++ zs (123 - l.length))
def sealed (kind : Nat) (l : List Nat) : List Nat := front kind l ++ be4 (sumOf (front kind l))
theorem front_length {kind : Nat} {l : List Nat} (h : l.length ≤ 123) : (front kind l).length = 124 := by simp [front, zs]; omega
theorem sealed_length {kind : Nat} {l : List Nat} (h : l.length ≤ 123) : (sealed kind l).length = 128 := by simp [sealed, front_length h, be4]
theorem front_octs {kind : Nat} {l : List Nat} (hk : kind < 256) (h : Octs l) : Octs (front kind l) := .cons hk (h.append (.rep _ _ (by omega)))
theorem sealed_octs {kind : Nat} {l : List Nat} (hk : kind < 256) (h : Octs l) : Octs (sealed kind l) := (front_octs hk h).append (be4_octs _)

theorem front_is {kind : Nat} {l : List Nat} (h : l.length ≤ 123) : (splice ((zs 128).set 0 kind) 1 (l.take 123)).take 124 = front kind l := by
  rw [List.take_of_length_le h]
  apply bz_ext
  · rw [List.length_take, length_splice _ _ _ (by simp [zs]; omega), front_length h]; simp [zs]
  intro k hk
  rw [List.length_take, length_splice _ _ _ (by simp [zs]; omega)] at hk
  simp only [zs, List.length_set, List.length_replicate] at hk
  rw [bz_take (by omega)]
  unfold splice front
  have e1 : (List.take 1 ((zs 128).set 0 kind)) = [kind] := rfl
  rw [e1]
  cases k with
  | zero => rfl
  | succ k =>
    rw [bz_append_right (by simp)]
    show bz _ (k + 1 - 1) = bz (l ++ zs (123 - l.length)) k
    rw [Nat.add_sub_cancel]
    by_cases h1 : k < l.length
    · rw [bz_append_left h1, bz_append_left h1]
    · rw [bz_append_right (by omega), bz_append_right (by omega), bz_drop, bz_set (by simp [zs]), if_neg (by omega)]
      unfold zs
      rw [bz_rep _ _ _ (by omega), bz_rep _ _ _ (by omega)]
theorem sealed_is {L : List Nat} {f : List Nat} (hL : L.length = 128) (h : L.take 124 = f) (s : Nat) : splice L 124 (be4 s) = f ++ be4 s := by
  unfold splice
  rw [h, List.drop_of_length_le (by simp [be4]; omega), List.append_nil]

def SealPost (kind : Nat) (l : List Nat) (w : World) (e : Ending) (w' : World) : Prop :=
  ∃ g, e = .returned (.tuple #[.slice (some ⟨g, 0, none⟩) 128 128, .int .i64 0]) ∧ w.heap.size ≤ g ∧ Row w' g (sealed kind l) ∧ Below w.heap.size w w'

set_option maxHeartbeats 400000 in
theorem seal_any (kind : Nat) (a : Option Addr) (cap : Nat) (l : List Nat) (w : World) (hk0 : 0 < kind) (hk : kind < 256) (ho : Octs l) (hl : l.length ≤ 123) (hx : BAt w a l) :
    Calls Try.prog 21 #[.int .u8 (kind : Int), .slice a l.length cap] w (SealPost kind l w) := by
  have t1 : ((kind : Int) == 0) = false := by rw [beq_eq_false_iff_ne]; omega
  have hx' := Lib.hid hx
  have ho' := Lib.hid ho
  clear hx ho
  go_enter Try.func21, Try.ntmps21
  go_wp2_with (at_make; refine wpList_make_bytes rfl _ _ rfl 128 rfl rfl (by decide) ?_)
  intro g w1 hr hg hb
  have c1 := hr.out.cell (k := 0) (by rw [zs_length]; omega)
  have c2 := hr.out.frozen 0
  have hr1 := Lib.hid (hr.out.set 0 kind)
  have hb1 := Lib.hid (hb.setCell (p := ⟨g, 0, none⟩) hg (.int .u8 (kind : Int)))
  have hx1 := Lib.hid (hx'.out.on hb1.out (Nat.le_refl _))
  clear hb hx'
  go_wp2_with (refine wpList_copy_bytes rfl (.tmp 19) (.tmp 20) rfl g 1 123 127 a _ cap _ l rfl rfl rfl hr1.out hx1.out (by rw [List.length_set, zs_length]; omega) w.heap.size w hb1.out hg ?_)
  intro w2 hr2 hb2
  have hL : (splice ((zs 128).set 0 kind) 1 (l.take 123)).length = 128 := by rw [length_splice _ _ _ (by rw [List.length_take, List.length_set, zs_length]; omega), List.length_set, zs_length]
  have hF := front_is (kind := kind) hl
  obtain ⟨L, hLe⟩ : ∃ L, L = splice ((zs 128).set 0 kind) 1 (l.take 123) := ⟨_, rfl⟩
  rw [← hLe] at hr2 hL hF
  have hb2' := Lib.hid hb2
  have hL' := Lib.hid hL
  have hF' := Lib.hid hF
  have hb3 := hb1
  clear hLe hb2 hL hF hr hr1 hx1 hb1 c1 c2
  have hf := Lib.hid (front_octs hk ho'.out)
  have hlen := Lib.hid (front_length (kind := kind) hl)
  have hslice : BAt w2 (some ⟨g, 0, none⟩) (front kind l) := by
    have := hr2.out.bat.sub 0 124
    rwa [List.drop_zero, hF'.out] at this
  have hsl := Lib.hid hslice
  clear hslice
  go_wp2_with fail
  go_region_with (first
    | (go_at_call 35; refine (sum_n _ _ _ _ hlen.out hf.out (by omega) hsl.out.drew1).mono ?_; rintro e w3 ⟨rfl, rfl⟩)
    | (go_at_call 34; refine (writeSum_any g 124 4 L _ _ (sumOf_lt _) hr2.out.drew1 (by rw [hL'.out]; omega)).mono ?_; rintro e w3 ⟨rfl, hr3, hb3⟩))
  have hend := Lib.hid (show SealPost kind l w (.returned (.tuple #[.slice (some ⟨g, 0, none⟩) 128 128, .int .i64 0])) w3 from ⟨g, rfl, hg, by rw [sealed_is hL'.out hF'.out] at hr3; exact hr3, hb2'.out.drew.trans (hb3 _ hg)⟩)
  clear hr3 hb3
  go_wp2_with fail
  go_ret2
  exact hend.out
theorem seal_n {n : Nat} (kind : Nat) (a : Option Addr) (cap : Nat) (l : List Nat) (w : World) (hn : l.length = n) (hk0 : 0 < kind) (hk : kind < 256) (ho : Octs l) (hl : n ≤ 123) (hx : BAt w a l) :
    Calls Try.prog 21 #[.int .u8 (kind : Int), .slice a n cap] w (SealPost kind l w) := by
  subst hn; exact seal_any kind a cap l w hk0 hk ho hl hx
theorem seal_zero (a : Option Addr) (cap n : Nat) (w : World) :
    Calls Try.prog 21 #[.int .u8 0, .slice a n cap] w fun e w' => e = .returned (.tuple #[.slice none 0 0, .int .i64 2]) ∧ w = w' := by
  go_enter Try.func21, Try.ntmps21
  go_wp2_with fail
  go_ret2
  exact ⟨rfl, rfl⟩
theorem seal_long (kind : Nat) (a : Option Addr) (cap n : Nat) (w : World) (hn : 123 < n) :
    Calls Try.prog 21 #[.int .u8 (kind : Int), .slice a n cap] w fun e w' => e = .returned (.tuple #[.slice none 0 0, .int .i64 2]) ∧ w = w' := by
  by_cases h0 : kind = 0
  · subst h0; exact seal_zero a cap n w
  · have t1 : ((kind : Int) == 0) = false := by rw [beq_eq_false_iff_ne]; omega
    go_enter Try.func21, Try.ntmps21
    go_wp2_with fail
    go_ret2
    exact ⟨rfl, rfl⟩
end Go.Proofs.Ytbeaodmjobdiaaa
