/-
  What the document's own Kind and Open tell.
-/
import Derived.Test.YtbeaodmjobdiaaaYl
import Derived.Test.YtbeaodmjobdiaaaZx
import Derived.Test.YtbeaodmjobdiaaaZo
import Derived.Test.YtbeaodmjobdiaaaTx
import Derived.Deep.RegionWith
namespace Go.Proofs.Ytbeaodmjobdiaaa
open Go.RowKit BigFrame

set_option maxHeartbeats 400000 in
theorem refKind_128 (b off cap : Nat) (l : List Nat) (w : World) (ho : Octs l) (hl : l.length = 128) (hc : 128 ≤ cap) (h0 : bz l 0 ≠ 0) (hx : BAt w (some ⟨b, off, none⟩) l) :
    Calls Try.prog 38 #[.slice (some ⟨b, off, none⟩) 128 cap] w fun e w' => e = .returned (.int .u8 ((kindOf l : Nat) : Int)) ∧ Below w.heap.size w w' := by
  have c0 := hx.cell (k := 0) (by omega)
  rw [Nat.add_zero] at c0
  have hsb := sealed_body ho hl
  have hk1 : fitsB l = true → kindOf l = bz l 0 := fun h => by unfold kindOf; rw [if_pos ⟨hl, h⟩]
  have hk2 : ¬ fitsB l = true → kindOf l = 0 := fun h => by unfold kindOf; rw [if_neg (fun h' => h h'.2)]
  obtain ⟨kind, hkd⟩ : ∃ kind, kind = bz l 0 := ⟨_, rfl⟩
  rw [← hkd] at c0 h0 hsb hk1
  have hsb' := Lib.hid hsb
  have hk1' := Lib.hid hk1
  have hk2' := Lib.hid hk2
  clear hsb hk1 hk2
  have hlt : kind < 256 := by rw [hkd]; exact ho 0 (by omega)
  have hblt : b < w.heap.size := World.block_lt_of_cell? w _ c0
  have t0 : ((kind : Int) == 0) = false := by rw [beq_eq_false_iff_ne]; omega
  have hx1 := Lib.hid (show BAt w (some ⟨b, off + 1, none⟩) (bodyOf l) from hx.sub 1 123)
  have ho1 := Lib.hid (show Octs (bodyOf l) from (ho.drop 1).take 123)
  have hb1 := Lib.hid (bodyOf_length hl)
  have hx' := Lib.hid hx
  have ho' := Lib.hid ho
  have hl' := Lib.hid hl
  clear hx ho hl hkd
  go_enter Try.func38, Try.ntmps38
  go_wp2_with fail
  go_region_with ((go_at_call 22; refine (refSeal_any kind _ _ 123 (bodyOf l) _ hb1.out (by omega) hlt ho1.out (by omega) (BAt.drew1 hx1.out) (fun h => by cases h)).mono ?_; rintro e w1 ⟨g, c, rfl, hg, hcg, hbt, hbw⟩))
  all_goals
    have hso := Lib.hid (sealed_octs hlt ho1.out)
    have hsl := Lib.hid (sealed_length (kind := kind) (l := bodyOf l) (by rw [hb1.out]; omega))
    have hbw0 : Below w.heap.size w w1 := ((Below.refl _ w).drew).trans hbw
    have c1 := (hbw0.cell (p := ⟨b, off, none⟩) hblt).trans c0
    have q1 := run_string (cap := c) hsl.out hso.out hbt
    have q2 := run_string (cap := cap) hl'.out ho'.out (hx'.out.on hbw0 (Nat.le_refl _))
    have hbw' := Lib.hid hbw0
    clear hbt hbw hbw0
    by_cases he : sealed kind (bodyOf l) = l
    · have hif := Lib.hid (hk1'.out (hsb'.out.1 he))
      rw [he] at q1
      have hs0 : ((strOf l).toList == (strOf l).toList) = true := by simp
      clear he
      go_wp2_with fail
      go_ret
      exact ⟨ret_int (by rw [hif.out]), hbw'.out⟩
    · have hif := Lib.hid (hk2'.out (fun h => he (hsb'.out.2 h)))
      have hs0 := strOf_ne hso.out ho'.out he
      clear he
      go_wp2_with fail
      go_ret
      exact ⟨ret_int (by rw [hif.out]; rfl), hbw'.out⟩

theorem refKind_zero (b off cap : Nat) (l : List Nat) (w : World) (hl : l.length = 128) (_ : 128 ≤ cap) (h0 : bz l 0 = 0) (hx : BAt w (some ⟨b, off, none⟩) l) :
    Calls Try.prog 38 #[.slice (some ⟨b, off, none⟩) 128 cap] w fun e w' => e = .returned (.int .u8 0) ∧ w = w' := by
  have c0 := hx.cell (k := 0) (by omega)
  rw [Nat.add_zero, h0] at c0
  clear hx h0 hl
  go_enter Try.func38, Try.ntmps38
  go_wp2_with fail
  go_ret
  exact ⟨rfl, rfl⟩
theorem refKind_other (a : Option Addr) (cap n : Nat) (w : World) (hn : n ≠ 128) :
    Calls Try.prog 38 #[.slice a n cap] w fun e w' => e = .returned (.int .u8 0) ∧ w = w' := by
  have t1 : ((n : Int) != 128) = true := by rw [bne_iff_ne]; omega
  go_enter Try.func38, Try.ntmps38
  go_wp2_with fail
  go_ret
  exact ⟨rfl, rfl⟩
theorem refKind_is {k n : Nat} (a : Option Addr) (cap : Nat) (l : List Nat) (w : World) (hk : kindOf l = k) (hn : l.length = n) (ho : Octs l) (hc : n ≤ cap) (hx : BAt w a l) :
    Calls Try.prog 38 #[.slice a n cap] w fun e w' => e = .returned (.int .u8 (k : Int)) ∧ Below w.heap.size w w' := by
  subst hk
  by_cases h : n = 128
  · subst h
    obtain ⟨b, off, rfl⟩ := hx.addr (by omega)
    by_cases h0 : bz l 0 = 0
    · have e : kindOf l = 0 := by unfold kindOf; split; exact h0; rfl
      rw [e]
      exact (refKind_zero b off cap l w hn hc h0 hx).mono fun _ _ ⟨he, hw⟩ => ⟨he, hw ▸ Below.refl _ _⟩
    · exact refKind_128 b off cap l w ho hn hc h0 hx
  · have e : kindOf l = 0 := by unfold kindOf; rw [if_neg (by omega)]
    rw [e]
    exact (refKind_other a cap n w h).mono fun _ _ ⟨he, hw⟩ => ⟨he, hw ▸ Below.refl _ _⟩

end Go.Proofs.Ytbeaodmjobdiaaa
