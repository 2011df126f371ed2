/-
  What the document's own Kind and Open tell.
-/
import Derived.Test.YtfnhngnbaigccaaYl
import Derived.Test.YtfnhngnbaigccaaZx
import Derived.Test.YtfnhngnbaigccaaZo
import Derived.Laws.IdiomStrings
import Derived.Lib.BufferRead
import Derived.Deep.RegionWith
namespace Go.Proofs.Ytfnhngnbaigccaa
open Go.RowKit BigFrame

/-- bytes as a string -/
def strOf (l : List Nat) : ByteArray := ⟨(l.map UInt8.ofNat).toArray⟩
theorem strOf_toList (l : List Nat) : (strOf l).toList = l.map UInt8.ofNat := by
  unfold strOf
  rw [ByteArray.toList_mk]
theorem strOf_inj {l m : List Nat} (hl : Octs l) (hm : Octs m) (h : (strOf l).toList = (strOf m).toList) : l = m := by
  rw [strOf_toList, strOf_toList] at h
  have hlen : l.length = m.length := by simpa using congrArg List.length h
  refine bz_ext hlen fun k hk => ?_
  have h1 := hl k hk
  have h2 := hm k (by omega)
  have h3 := congrArg (fun x => x[k]?) h
  simp only [List.getElem?_map, List.getElem?_eq_getElem hk, List.getElem?_eq_getElem (show k < m.length by omega), Option.map_some, Option.some.injEq] at h3
  rw [← bz_get hk, ← bz_get (show k < m.length by omega)] at h3
  have h4 := congrArg UInt8.toNat h3
  simp only [UInt8.toNat_ofNat'] at h4
  omega
theorem strOf_ne {l m : List Nat} (hl : Octs l) (hm : Octs m) (h : l ≠ m) : ((strOf l).toList == (strOf m).toList) = false := by
  rw [beq_eq_false_iff_ne]
  exact fun e => h (strOf_inj hl hm e)

theorem run_string {w : World} {a : Option Addr} {n cap : Nat} {l : List Nat} (hn : l.length = n) (ho : Octs l) (hx : BAt w a l) :
    (convert 26 9 (.slice a n cap)).run Try.prog w = .ok (.string (strOf l)) w := by
  subst hn
  cases a with
  | none =>
    have h0 : l = [] := by
      rcases hx with h | ⟨_, _, e, _⟩
      · exact List.eq_nil_of_length_eq_zero h
      · cases e
    subst h0
    exact Lib.run_convert_nil_bytes w _ _ _ cap Try.underlying26 Try.underlying5 Try.underlying9
  | some ad =>
    have h := run_convert_bytes_back (P := Try.prog) w 26 9 5 ad cap (l.map UInt8.ofNat) Try.underlying26 Try.underlying5 Try.underlying9 (by
      intro j hj
      rw [List.length_map] at hj
      obtain ⟨b, off, e⟩ := hx.addr (by omega)
      obtain rfl := Option.some.inj e
      have h1 := ho j hj
      rw [addr_add, hx.cell hj, List.getElem_map, ← bz_get hj]
      congr 2
      simp only [UInt8.toNat_ofNat']
      omega)
    rw [List.length_map] at h
    exact h

set_option maxHeartbeats 400000 in
theorem refKind_128 (b off cap : Nat) (l : List Nat) (w : World) (ho : Octs l) (hl : l.length = 128) (hc : 128 ≤ cap) (h0 : bz l 0 ≠ 0) (hx : BAt w (some ⟨b, off, none⟩) l) :
    Calls Try.prog 45 #[.slice (some ⟨b, off, none⟩) 128 cap] w fun e w' => e = .returned (.int .u8 ((kindOf l : Nat) : Int)) ∧ Below w.heap.size w w' := by
  have c0 := hx.cell (k := 0) (by omega)
  rw [Nat.add_zero] at c0
  have hsb := sealed_body ho hl
  have hk1 : fitsB l = true → kindOf l = bz l 0 := fun h => by unfold kindOf; rw [if_pos ⟨hl, h⟩]
  have hk2 : ¬ fitsB l = true → kindOf l = 0 := fun h => by unfold kindOf; rw [if_neg (fun h' => h h'.2)]
  obtain ⟨kind, hkd⟩ : ∃ kind, kind = bz l 0 := ⟨_, rfl⟩
  rw [← hkd] at c0 h0 hsb hk1
  have hsb' := Lib.hid hsb
  have hk1' := Lib.hid hk1
  have hk2' := Lib.hid hk2
  clear hsb hk1 hk2
  have hlt : kind < 256 := by rw [hkd]; exact ho 0 (by omega)
  have hblt : b < w.heap.size := World.block_lt_of_cell? w _ c0
  have t0 : ((kind : Int) == 0) = false := by rw [beq_eq_false_iff_ne]; omega
  have hx1 := Lib.hid (show BAt w (some ⟨b, off + 1, none⟩) (bodyOf l) from hx.sub 1 123)
  have ho1 := Lib.hid (show Octs (bodyOf l) from (ho.drop 1).take 123)
  have hb1 := Lib.hid (bodyOf_length hl)
  have hx' := Lib.hid hx
  have ho' := Lib.hid ho
  have hl' := Lib.hid hl
  clear hx ho hl hkd
  go_enter Try.func45, Try.ntmps45
  go_wp2_with fail
  go_region_with ((go_at_call 27; refine (refSeal_any kind _ _ 123 (bodyOf l) _ hb1.out (by omega) hlt ho1.out (by omega) (BAt.drew1 hx1.out) (fun h => by cases h)).mono ?_; rintro e w1 ⟨g, c, rfl, hg, hcg, hbt, hbw⟩))
  all_goals
    have hso := Lib.hid (sealed_octs hlt ho1.out)
    have hsl := Lib.hid (sealed_length (kind := kind) (l := bodyOf l) (by rw [hb1.out]; omega))
    have hbw0 : Below w.heap.size w w1 := ((Below.refl _ w).drew).trans hbw
    have c1 := (hbw0.cell (p := ⟨b, off, none⟩) hblt).trans c0
    have q1 := run_string (cap := c) hsl.out hso.out hbt
    have q2 := run_string (cap := cap) hl'.out ho'.out (hx'.out.on hbw0 (Nat.le_refl _))
    have hbw' := Lib.hid hbw0
    clear hbt hbw hbw0
    by_cases he : sealed kind (bodyOf l) = l
    · have hif := Lib.hid (hk1'.out (hsb'.out.1 he))
      rw [he] at q1
      have hs0 : ((strOf l).toList == (strOf l).toList) = true := by simp
      clear he
      go_wp2_with fail
      go_ret
      exact ⟨ret_int (by rw [hif.out]), hbw'.out⟩
    · have hif := Lib.hid (hk2'.out (fun h => he (hsb'.out.2 h)))
      have hs0 := strOf_ne hso.out ho'.out he
      clear he
      go_wp2_with fail
      go_ret
      exact ⟨ret_int (by rw [hif.out]; rfl), hbw'.out⟩

theorem refKind_zero (b off cap : Nat) (l : List Nat) (w : World) (hl : l.length = 128) (_ : 128 ≤ cap) (h0 : bz l 0 = 0) (hx : BAt w (some ⟨b, off, none⟩) l) :
    Calls Try.prog 45 #[.slice (some ⟨b, off, none⟩) 128 cap] w fun e w' => e = .returned (.int .u8 0) ∧ w = w' := by
  have c0 := hx.cell (k := 0) (by omega)
  rw [Nat.add_zero, h0] at c0
  clear hx h0 hl
  go_enter Try.func45, Try.ntmps45
  go_wp2_with fail
  go_ret
  exact ⟨rfl, rfl⟩
theorem refKind_other (a : Option Addr) (cap n : Nat) (w : World) (hn : n ≠ 128) :
    Calls Try.prog 45 #[.slice a n cap] w fun e w' => e = .returned (.int .u8 0) ∧ w = w' := by
  have t1 : ((n : Int) != 128) = true := by rw [bne_iff_ne]; omega
  go_enter Try.func45, Try.ntmps45
  go_wp2_with fail
  go_ret
  exact ⟨rfl, rfl⟩
theorem refKind_is {k n : Nat} (a : Option Addr) (cap : Nat) (l : List Nat) (w : World) (hk : kindOf l = k) (hn : l.length = n) (ho : Octs l) (hc : n ≤ cap) (hx : BAt w a l) :
    Calls Try.prog 45 #[.slice a n cap] w fun e w' => e = .returned (.int .u8 (k : Int)) ∧ Below w.heap.size w w' := by
  subst hk
  by_cases h : n = 128
  · subst h
    obtain ⟨b, off, rfl⟩ := hx.addr (by omega)
    by_cases h0 : bz l 0 = 0
    · have e : kindOf l = 0 := by unfold kindOf; split; exact h0; rfl
      rw [e]
      exact (refKind_zero b off cap l w hn hc h0 hx).mono fun _ _ ⟨he, hw⟩ => ⟨he, hw ▸ Below.refl _ _⟩
    · exact refKind_128 b off cap l w ho hn hc h0 hx
  · have e : kindOf l = 0 := by unfold kindOf; rw [if_neg (by omega)]
    rw [e]
    exact (refKind_other a cap n w h).mono fun _ _ ⟨he, hw⟩ => ⟨he, hw ▸ Below.refl _ _⟩

end Go.Proofs.Ytfnhngnbaigccaa
