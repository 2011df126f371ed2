/-
  The document's own: the first slot of an entry of a name, and the first free one.
-/
import Derived.Test.YtpogaognobgfhaaEf
import Derived.Test.YtpogaognobgfhaaEv
namespace Go.Proofs.Ytpogaognobgfhaa
open Go.RowKit BigFrame

theorem fc_cells : ∀ {L : List Slt} {k : Nat}, k < L.length → (fc L)[k * 3]? = some (.int .i64 (sl L k).ino) ∧ (fc L)[k * 3 + 1]? = some (.int .i64 (sl L k).kind) ∧ (fc L)[k * 3 + 2]? = some (.string (sl L k).name)
  | [], _, h => by simp at h
  | s :: r, 0, _ => ⟨rfl, rfl, rfl⟩
  | s :: r, k + 1, h => by
    have ih := fc_cells (L := r) (k := k) (by simpa using h)
    rw [sl_cons_succ, show (k + 1) * 3 = k * 3 + 1 + 1 + 1 by omega]
    exact ih
def RfRel (L : List Slt) (p : Slt → Bool) (i : Value) : Prop := ∃ k : Nat, k ≤ 4 ∧ i = .int .i64 k ∧ ∀ j, j < k → p (sl L j) = false
set_option maxHeartbeats 1000000 in
theorem refFind_any (L : List Slt) (nm : ByteArray) (w : World) (hL : L.length = 4) : Calls Try.prog 20 #[fv L, .string nm] w (Tells (.int .i64 (findS L nm)) w) := by
  have hL' := Lib.hid hL
  have hV := Lib.hid (Vw.alloc w (fc L) 24)
  have hb0 := Lib.hid ((Below.refl w.heap.size w).alloc (Nat.le_refl _) (.cells (fc L).toArray 24))
  unfold fv
  clear hL
  go_enter Try.func20, Try.ntmps20
  go_wp2_with fail
  go_loop [5] (fun i => RfRel L (hasS nm) i) (fun i => 4 - (intOf i).toNat)
  case atStart => exact ⟨0, by omega, rfl, fun k hk => by omega⟩
  case round =>
    obtain ⟨k, hk, rfl, hno0⟩ := hrel
    have hno := Lib.hid hno0
    clear hno0
    by_cases hlt : k < 4
    · have hc := fc_cells (L := L) (k := k) (by rw [hL'.out]; exact hlt)
      obtain ⟨s, hs⟩ : ∃ s, sl L k = s := ⟨_, rfl⟩
      rw [hs] at hc
      have hs' := Lib.hid hs
      clear hs
      have c0 := hV.out.cell hc.1
      have c2 := hV.out.cell hc.2.2
      clear hc
      have k0 : (0 : Int) ≤ (k : Int) := by omega
      have k4 : (k : Int) < 4 := by omega
      by_cases ht0 : s.ino = 0
      · have hp := Lib.hid (hasS_no (nm := nm) (s := s) (decide_eq_false (fun h => h ht0)))
        have t0 : (s.ino != 0) = false := by rw [ht0]; rfl
        clear ht0
        go_wp2_with fail
        exact ⟨⟨k + 1, by omega, by go_num, fun j hj => by
          by_cases e : j = k
          · subst e; rw [hs'.out]; exact hp.out
          · exact hno.out j (by omega)⟩, by simp [intOf]; omega⟩
      · have t0 : (s.ino != 0) = true := by rw [bne_iff_ne]; exact ht0
        have hp := hasS_name (nm := nm) (s := s) (decide_eq_true ht0)
        have hq := toList_nb s.name nm
        clear ht0
        cases hr0 : decide (s.name = nm)
        · rw [hr0] at hq hp
          have hp' := Lib.hid hp
          clear hr0 hp
          go_wp2_with fail
          exact ⟨⟨k + 1, by omega, by go_num, fun j hj => by
            by_cases e : j = k
            · subst e; rw [hs'.out]; exact hp'.out
            · exact hno.out j (by omega)⟩, by simp [intOf]; omega⟩
        · rw [hr0] at hq hp
          have hend := Lib.hid (show findS L nm = (k : Int) from firstS_at (by rw [hL'.out]; exact hlt) hno.out (by rw [hs'.out]; exact hp))
          clear hr0 hp
          go_wp2_with fail
          go_ret
          exact ⟨by rw [hend.out]; rfl, hb0.out⟩
    · obtain rfl : k = 4 := by omega
      have hend := Lib.hid (show findS L nm = -1 from firstS_none (by rw [hL'.out]; exact hno.out))
      go_wp2_with fail
      go_ret
      exact ⟨by rw [hend.out]; rfl, hb0.out⟩
theorem refFind_is (L : List Slt) (nm : ByteArray) (z : Int) (w : World) (hL : L.length = 4) (hz : findS L nm = z) : Calls Try.prog 20 #[fv L, .string nm] w (Tells (.int .i64 z) w) := by
  subst hz; exact refFind_any L nm w hL
set_option maxHeartbeats 1000000 in
theorem refFree_any (L : List Slt) (w : World) (hL : L.length = 4) : Calls Try.prog 22 #[fv L] w (Tells (.int .i64 (freeS L)) w) := by
  have hL' := Lib.hid hL
  have hV := Lib.hid (Vw.alloc w (fc L) 24)
  have hb0 := Lib.hid ((Below.refl w.heap.size w).alloc (Nat.le_refl _) (.cells (fc L).toArray 24))
  unfold fv
  clear hL
  go_enter Try.func22, Try.ntmps22
  go_wp2_with fail
  go_loop [3] (fun i => RfRel L (fun s => decide (s.ino = 0)) i) (fun i => 4 - (intOf i).toNat)
  case atStart => exact ⟨0, by omega, rfl, fun k hk => by omega⟩
  case round =>
    obtain ⟨k, hk, rfl, hno0⟩ := hrel
    have hno := Lib.hid hno0
    clear hno0
    by_cases hlt : k < 4
    · have hc := fc_cells (L := L) (k := k) (by rw [hL'.out]; exact hlt)
      obtain ⟨s, hs⟩ : ∃ s, sl L k = s := ⟨_, rfl⟩
      rw [hs] at hc
      have hs' := Lib.hid hs
      clear hs
      have c0 := hV.out.cell hc.1
      clear hc
      have k0 : (0 : Int) ≤ (k : Int) := by omega
      have k4 : (k : Int) < 4 := by omega
      by_cases ht0 : s.ino = 0
      · have hend := Lib.hid (show freeS L = (k : Int) from firstS_at (by rw [hL'.out]; exact hlt) hno.out (by rw [hs'.out]; exact decide_eq_true ht0))
        have t0 : (s.ino == 0) = true := by rw [ht0]; rfl
        clear ht0
        go_wp2_with fail
        go_ret
        exact ⟨by rw [hend.out]; rfl, hb0.out⟩
      · have hp := Lib.hid (show decide (s.ino = 0) = false from decide_eq_false ht0)
        have t0 : (s.ino == 0) = false := by rw [beq_eq_false_iff_ne]; exact ht0
        clear ht0
        go_wp2_with fail
        exact ⟨⟨k + 1, by omega, by go_num, fun j hj => by
          by_cases e : j = k
          · subst e; rw [hs'.out]; exact hp.out
          · exact hno.out j (by omega)⟩, by simp [intOf]; omega⟩
    · obtain rfl : k = 4 := by omega
      have hend := Lib.hid (show freeS L = -1 from firstS_none (by rw [hL'.out]; exact hno.out))
      go_wp2_with fail
      go_ret
      exact ⟨by rw [hend.out]; rfl, hb0.out⟩
theorem refFree_is (L : List Slt) (z : Int) (w : World) (hL : L.length = 4) (hz : freeS L = z) : Calls Try.prog 22 #[fv L] w (Tells (.int .i64 z) w) := by
  subst hz; exact refFree_any L w hL
end Go.Proofs.Ytpogaognobgfhaa
