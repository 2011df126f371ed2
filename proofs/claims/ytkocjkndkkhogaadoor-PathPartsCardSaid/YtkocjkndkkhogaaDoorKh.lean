/-
  The document's own: is there a 0 byte, a part that is too long, or too many; the parts.
-/
import Derived.Test.YtkocjkndkkhogaaDoorKf
import Derived.Deep.DeepCutAuto
namespace Go.Proofs.YtkocjkndkkhogaaDoor
open Go.RowKit BigFrame

theorem nb_at2 {s : ByteArray} {k : Nat} (h : k < s.size) : (s[k]'h).toNat = bz (nb s) k := by
  have h2 : k < (nb s).length := by rw [nb_length]; exact h
  rw [bz_get h2]
  simp only [nb, List.getElem_map, Array.getElem_toList]
  rfl
theorem bz_mem {l : List Nat} {k : Nat} (h : k < l.length) : bz l k ∈ l := by rw [bz_get h]; exact List.getElem_mem h
theorem mem_bz2 {l : List Nat} {c : Nat} (h : c ∈ l) : ∃ j, j < l.length ∧ bz l j = c := by
  obtain ⟨j, hj, e⟩ := List.mem_iff_getElem.1 h
  exact ⟨j, hj, by rw [bz_get hj]; exact e⟩
def ZeRel (s : ByteArray) (i : Value) : Prop := ∃ k : Nat, k ≤ s.size ∧ i = .int .i64 k ∧ ∀ j, j < k → bz (nb s) j ≠ 0
theorem refZero_any (s : ByteArray) (w : World) (hs : s.size ≤ 1000000) (r : Bool) (hr : decide (0 ∈ nb s) = r) :
    Calls Tryd.prog 23 #[.string s] w fun e w' => e = .returned (.bool r) ∧ w = w' := by
  have hnl := Lib.hid (nb_length s)
  have hr' := Lib.hid hr
  clear hr
  go_enter Tryd.func23, Tryd.ntmps23
  go_wp2_with fail
  go_loop [3] (fun i => ZeRel s i) (fun i => s.size - (intOf i).toNat)
  case atStart => exact ⟨0, by omega, rfl, fun j h => by omega⟩
  case round =>
    obtain ⟨k, hk, rfl, hq⟩ := hrel
    have hq' := Lib.hid hq
    clear hq
    by_cases hlt : k < s.size
    · have hat := nb_at2 hlt
      by_cases h1 : bz (nb s) k = 0
      · have hv := Lib.hid (show r = true by rw [← hr'.out, decide_eq_true_eq, ← h1]; exact bz_mem (by rw [hnl.out]; exact hlt))
        rw [h1] at hat
        have t1 : (((s[k]'hlt).toNat : Int) == 0) = true := by rw [hat]; rfl
        clear h1 hat
        go_wp2_with fail
        go_ret
        exact ⟨by rw [hv.out]; rfl, rfl⟩
      · have t1 : (((s[k]'hlt).toNat : Int) == 0) = false := by rw [beq_eq_false_iff_ne, hat]; omega
        have h1' := Lib.hid h1
        clear h1 hat
        go_wp2_with fail
        exact ⟨⟨k + 1, by omega, by go_num, fun j hj => by
          by_cases e : j = k
          · rw [e]; exact h1'.out
          · exact hq'.out j (by omega)⟩, by simp [intOf]; omega⟩
    · obtain rfl : k = s.size := by omega
      have hv := Lib.hid (show r = false by
        rw [← hr'.out, decide_eq_false_iff_not]
        intro h
        obtain ⟨j, hj, e⟩ := mem_bz2 h
        exact hq'.out j (by rw [← hnl.out]; exact hj) e)
      go_wp2_with fail
      go_ret
      exact ⟨by rw [hv.out]; rfl, rfl⟩
def LoRel (L : List (List Nat)) (i : Value) : Prop := ∃ k : Nat, k ≤ L.length ∧ i = .int .i64 k ∧ ∀ j, j < k → (tz L j).length ≤ 24
theorem refLong_any (a : Option Addr) (n c : Nat) (L : List (List Nat)) (w : World) (r : Bool) (hr : longL L = r) (hn : n = L.length) (hl : n ≤ 100000) (hx : TAt w a L) (_hz : sizeL L ≤ 100000) :
    Calls Tryd.prog 24 #[.slice a n c] w fun e w' => e = .returned (.bool r) ∧ w = w' := by
  have hx' := Lib.hid hx
  have hn' := Lib.hid hn
  have hr' := Lib.hid hr
  clear hx hn hr
  go_enter Tryd.func24, Tryd.ntmps24
  go_wp2_with fail
  go_loop [3] (fun i => LoRel L i) (fun i => n - (intOf i).toNat)
  case atStart => exact ⟨0, by omega, rfl, fun j h => by omega⟩
  case round =>
    obtain ⟨k, hk, rfl, hq⟩ := hrel
    rw [← hn'.out] at hk
    have hq' := Lib.hid hq
    clear hq
    by_cases hlt : k < n
    · obtain ⟨b, off, rfl⟩ := hx'.out.addr (by rw [← hn'.out]; omega)
      have c1 := hx'.out.cell (k := k) (by rw [← hn'.out]; exact hlt)
      have hsz := strOf_size (tz L k)
      have hm := Lib.hid (tz_mem (show k < L.length by rw [← hn'.out]; exact hlt))
      obtain ⟨x, hx⟩ : ∃ x, strOf (tz L k) = x := ⟨_, rfl⟩
      rw [hx] at c1 hsz
      have hsz' := Lib.hid hsz
      clear hx hsz
      by_cases h1 : 24 < x.size
      · have hv := Lib.hid (show r = true by
          cases h : r
          · have h2 := (longL_no.1 (hr'.out.trans h)).1 _ hm.out
            rw [← hsz'.out] at h2
            omega
          · rfl)
        go_wp2_with fail
        go_ret
        exact ⟨by rw [hv.out]; rfl, rfl⟩
      · have h1' := Lib.hid h1
        go_wp2_with fail
        exact ⟨⟨k + 1, by rw [← hn'.out]; omega, by go_num, fun j hj => by
          by_cases e : j = k
          · rw [e, ← hsz'.out]; have := h1'.out; omega
          · exact hq'.out j (by omega)⟩, by simp [intOf]; omega⟩
    · obtain rfl : k = n := by omega
      have hv := Lib.hid (show r = decide (20 < k) by
        rw [← hr'.out, hn'.out]
        unfold longL
        rw [show L.any (fun p => decide (24 < p.length)) = false by
          rw [List.any_eq_false]
          intro p hp
          obtain ⟨j, hj, e⟩ := List.mem_iff_getElem.1 hp
          have h2 := hq'.out j (by rw [hn'.out]; exact hj)
          rw [tz_get hj, e] at h2
          simp
          omega, Bool.false_or])
      go_wp2_with fail
      go_ret
      refine ⟨?_, rfl⟩
      rw [hv.out]
      show Ending.returned (Value.bool (decide ((20 : Int) < ((k : Nat) : Int)))) = _
      congr 2
      rw [decide_eq_decide]
      omega
end Go.Proofs.YtkocjkndkkhogaaDoor
