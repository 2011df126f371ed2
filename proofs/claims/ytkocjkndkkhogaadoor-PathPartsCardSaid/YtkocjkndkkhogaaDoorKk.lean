/-
  The document's own: Join, Clean, Last, Target.
-/
import Derived.Test.YtkocjkndkkhogaaDoorKj
import Derived.Deep.RegionHeld3
namespace Go.Proofs.YtkocjkndkkhogaaDoor
open Go.RowKit BigFrame

theorem strOf_append (a b : List Nat) : strOf (a ++ b) = strOf a ++ strOf b := by
  unfold strOf
  apply ByteArray.ext
  simp
/-- the parts, each behind a slash -/
def flatL (ps : List (List Nat)) : List Nat := ps.flatMap (fun p => 47 :: p)
theorem flatL_take {L : List (List Nat)} {k : Nat} (h : k < L.length) : flatL (L.take (k + 1)) = flatL (L.take k) ++ 47 :: tz L k := by
  unfold flatL
  rw [List.take_succ_eq_append_getElem h, List.flatMap_append, tz_get h]
  simp
theorem flat_step {L : List (List Nat)} {k : Nat} (h : k < L.length) : strOf (flatL (L.take k)) ++ ⟨#[47]⟩ ++ strOf (tz L k) = strOf (flatL (L.take (k + 1))) := by
  rw [flatL_take h, show flatL (L.take k) ++ 47 :: tz L k = (flatL (L.take k) ++ [47]) ++ tz L k by simp, strOf_append, strOf_append]
  rfl
def JoRel (L : List (List Nat)) (v i : Value) : Prop := ∃ k : Nat, k ≤ L.length ∧ i = .int .i64 k ∧ v = .string (strOf (flatL (L.take k)))
theorem refJoin_any (a : Option Addr) (n c : Nat) (L : List (List Nat)) (w : World) (hn : n = L.length) (hl : n ≤ 100000) (hx : TAt w a L) (hz : sizeL L ≤ 100000) :
    Calls Tryd.prog 27 #[.slice a n c] w fun e w' => e = .returned (.string (strOf (joinL L))) ∧ w = w' := by
  have hx' := Lib.hid hx
  have hn' := Lib.hid hn
  clear hx hn
  go_enter Tryd.func27, Tryd.ntmps27
  go_wp2_with fail
  go_loop [3, 4] (fun v i => JoRel L v i) (fun _ i => n - (intOf i).toNat)
  case atStart => exact ⟨0, by omega, rfl, rfl⟩
  case round =>
    obtain ⟨k, hk, rfl, rfl⟩ := hrel
    rw [← hn'.out] at hk
    by_cases hlt : k < n
    · have hkL := Lib.hid (show k < L.length by rw [← hn'.out]; exact hlt)
      obtain ⟨b, off, rfl⟩ := hx'.out.addr (by have := hkL.out; omega)
      have c1 := hx'.out.cell hkL.out
      have hst := Lib.hid (flat_step hkL.out)
      have s1 : (strOf (flatL (L.take k))).size ≤ 100000 := by
        rw [strOf_size]
        unfold flatL
        rw [flat_length]
        exact Nat.le_trans (sizeL_sub (List.take_sublist k L)) hz
      have s2 : (strOf (tz L k)).size ≤ 100000 := by
        rw [strOf_size]
        have h1 : (tz L k).length + 1 ≤ sizeL L := by
          have h2 := sizeL_sub (List.singleton_sublist.2 (tz_mem hkL.out))
          simpa [sizeL] using h2
        omega
      obtain ⟨x, hx⟩ : ∃ x, strOf (tz L k) = x := ⟨_, rfl⟩
      obtain ⟨y, hy⟩ : ∃ y, strOf (flatL (L.take k)) = y := ⟨_, rfl⟩
      rw [hx] at c1 hst s2
      rw [hy] at hst s1
      have hy' := Lib.hid hy
      rw [hy]
      clear hx hy
      go_wp2_with fail
      exact ⟨⟨k + 1, by rw [← hn'.out]; omega, by go_num, by rw [← hst.out]⟩, by simp [intOf]; omega⟩
    · have hkn : k = n := by omega
      have htk := Lib.hid (show L.take k = L by rw [hkn, hn'.out, List.take_length])
      rw [htk.out]
      have he := empty_str (flatL L)
      by_cases h0 : n = 0
      · have hL : L = [] := List.eq_nil_of_length_eq_zero (by rw [← hn'.out]; exact h0)
        have e1 : (strOf (flatL L)).toList = [] := List.isEmpty_iff.1 (by rw [empty_str, hL]; rfl)
        have hj := Lib.hid (show joinL L = [47] from if_pos hL)
        clear he hL
        go_wp2_with fail
        go_ret
        exact ⟨by rw [hj.out]; rfl, rfl⟩
      · have hL : ¬ L = [] := fun h => h0 (by rw [hn'.out, h]; rfl)
        have hfl : ¬ flatL L = [] := by
          intro h
          have h2 := flat_length L
          have h3 := sizeL_len L
          unfold flatL at h
          rw [h] at h2
          have := hn'.out
          simp at h2
          omega
        rw [decide_eq_false hfl] at he
        have hj := Lib.hid (show joinL L = flatL L from if_neg hL)
        clear hfl hL
        go_wp2_with fail
        go_ret
        exact ⟨by rw [hj.out]; rfl, rfl⟩
end Go.Proofs.YtkocjkndkkhogaaDoor
