/-
  The document's own: may a slot be? The document's own: the first slot of an entry of a name, and the first free one.
-/
import Derived.Test.YtpogaognobgfhaaEl
import Derived.Test.YtpogaognobgfhaaEc
import Derived.Test.YtpogaognobgfhaaEg
namespace Go.Proofs.Ytpogaognobgfhaa
open Go.RowKit BigFrame

attribute [local go_sem ↓] ldL_of bdL_of eqL_of
set_option maxHeartbeats 1000000 in
theorem refMay_any (s : Slt) (w : World) : Calls Try.prog 18 #[sv s] w (Tells (.bool (mayS s)) w) := by
  have hV := Lib.hid (Vw.alloc w (sc s) 23)
  have hb := Lib.hid ((Below.refl w.heap.size w).alloc (Nat.le_refl _) (.cells (sc s).toArray 23))
  have c0 := hV.out.cell (k := 0) rfl
  have c1 := hV.out.cell (k := 1) rfl
  have c2 := hV.out.cell (k := 2) rfl
  have hld := run_ldL hV.out.whole
  have hbd := run_bd0L
  have heq := fun w => run_eqL s s0 w
  have hgd := Try.eqGuardL
  by_cases h0 : s = s0
  · have hm := Lib.hid (show mayS s = true by unfold mayS; rw [decide_eq_true h0]; rfl)
    rw [decide_eq_true h0] at heq
    unfold sv at hld hbd heq ⊢
    clear h0
    go_enter Try.func18, Try.ntmps18
    go_wp2_with fail
    go_ret
    exact ⟨by rw [hm.out]; rfl, hb.out⟩
  · have hm := Lib.hid (show mayS s = (decide (0 < s.ino) && (fitsN s.ino 2 && (decide (1 ≤ s.kind ∧ s.kind ≤ 3) && nameB (nb s.name)))) by unfold mayS; rw [decide_eq_false h0, Bool.false_or])
    rw [decide_eq_false h0] at heq
    unfold sv at hld hbd heq ⊢
    clear h0
    obtain ⟨i, hi⟩ : ∃ i, s.ino = i := ⟨_, rfl⟩
    obtain ⟨k, hk⟩ : ∃ k, s.kind = k := ⟨_, rfl⟩
    obtain ⟨n, hn⟩ : ∃ n, s.name = n := ⟨_, rfl⟩
    rw [hi, hk, hn] at hm
    rw [hi] at c0
    rw [hk] at c1
    rw [hn] at c2
    clear hi hk hn
    by_cases h1 : 1 ≤ i
    · by_cases h2 : i ≤ 65535
      · have hf : fitsN i 2 = true := by unfold fitsN; exact decide_eq_true ⟨by omega, by show i < 65536; omega⟩
        rw [decide_eq_true (show 0 < i by omega), hf, Bool.true_and, Bool.true_and] at hm
        clear hf
        by_cases h3 : 1 ≤ k
        · by_cases h4 : k ≤ 3
          · rw [decide_eq_true (And.intro h3 h4), Bool.true_and] at hm
            go_enter Try.func18, Try.ntmps18
            go_wp2_with (go_at_call 16; refine (refName_is n _ _ rfl).mono ?_; rw [← hm.out]; rintro e w1 ⟨rfl, rfl⟩)
            go_ret
            exact ⟨rfl, hb.out⟩
          · rw [decide_eq_false (fun h => h4 h.2)] at hm
            go_enter Try.func18, Try.ntmps18
            go_wp2_with fail
            go_ret
            exact ⟨by rw [hm.out]; rfl, hb.out⟩
        · rw [decide_eq_false (fun h => h3 h.1)] at hm
          go_enter Try.func18, Try.ntmps18
          go_wp2_with fail
          go_ret
          exact ⟨by rw [hm.out]; rfl, hb.out⟩
      · have hf : fitsN i 2 = false := by unfold fitsN; exact decide_eq_false (fun h => by have := h.2; have e : (256 ^ 2 : Nat) = 65536 := rfl; omega)
        rw [hf] at hm
        have hv := Lib.hid (hm.out.trans (by simp : _ = false))
        clear hf
        go_enter Try.func18, Try.ntmps18
        go_wp2_with fail
        go_ret
        exact ⟨by rw [hv.out]; rfl, hb.out⟩
    · rw [decide_eq_false (show ¬ 0 < i by omega)] at hm
      go_enter Try.func18, Try.ntmps18
      go_wp2_with fail
      go_ret
      exact ⟨by rw [hm.out]; rfl, hb.out⟩
theorem refMay_is (s : Slt) (r : Bool) (w : World) (hr : mayS s = r) : Calls Try.prog 18 #[sv s] w (Tells (.bool r) w) := by
  subst hr; exact refMay_any s w
end Go.Proofs.Ytpogaognobgfhaa
namespace Go.Proofs.Ytpogaognobgfhaa
open Go.RowKit BigFrame

theorem fc_cells : ∀ {L : List Slt} {k : Nat}, k < L.length → (fc L)[k * 3]? = some (.int .i64 (sl L k).ino) ∧ (fc L)[k * 3 + 1]? = some (.int .i64 (sl L k).kind) ∧ (fc L)[k * 3 + 2]? = some (.string (sl L k).name)
  | [], _, h => by simp at h
  | s :: r, 0, _ => ⟨rfl, rfl, rfl⟩
  | s :: r, k + 1, h => by
    have ih := fc_cells (L := r) (k := k) (by simpa using h)
    rw [sl_cons_succ, show (k + 1) * 3 = k * 3 + 1 + 1 + 1 by omega]
    exact ih
def RfRel (L : List Slt) (p : Slt → Bool) (i : Value) : Prop := ∃ k : Nat, k ≤ 4 ∧ i = .int .i64 k ∧ ∀ j, j < k → p (sl L j) = false
set_option maxHeartbeats 1000000 in
theorem refFind_any (L : List Slt) (nm : ByteArray) (w : World) (hL : L.length = 4) : Calls Try.prog 20 #[fv L, .string nm] w (Tells (.int .i64 (findS L nm)) w) := by
  have hL' := Lib.hid hL
  have hV := Lib.hid (Vw.alloc w (fc L) 24)
  have hb0 := Lib.hid ((Below.refl w.heap.size w).alloc (Nat.le_refl _) (.cells (fc L).toArray 24))
  unfold fv
  clear hL
  go_enter Try.func20, Try.ntmps20
  go_wp2_with fail
  go_loop [5] (fun i => RfRel L (hasS nm) i) (fun i => 4 - (intOf i).toNat)
  case atStart => exact ⟨0, by omega, rfl, fun k hk => by omega⟩
  case round =>
    obtain ⟨k, hk, rfl, hno0⟩ := hrel
    have hno := Lib.hid hno0
    clear hno0
    by_cases hlt : k < 4
    · have hc := fc_cells (L := L) (k := k) (by rw [hL'.out]; exact hlt)
      obtain ⟨s, hs⟩ : ∃ s, sl L k = s := ⟨_, rfl⟩
      rw [hs] at hc
      have hs' := Lib.hid hs
      clear hs
      have c0 := hV.out.cell hc.1
      have c2 := hV.out.cell hc.2.2
      clear hc
      have k0 : (0 : Int) ≤ (k : Int) := by omega
      have k4 : (k : Int) < 4 := by omega
      by_cases ht0 : s.ino = 0
      · have hp := Lib.hid (hasS_no (nm := nm) (s := s) (decide_eq_false (fun h => h ht0)))
        have t0 : (s.ino != 0) = false := by rw [ht0]; rfl
        clear ht0
        go_wp2_with fail
        exact ⟨⟨k + 1, by omega, by go_num, fun j hj => by
          by_cases e : j = k
          · subst e; rw [hs'.out]; exact hp.out
          · exact hno.out j (by omega)⟩, by simp [intOf]; omega⟩
      · have t0 : (s.ino != 0) = true := by rw [bne_iff_ne]; exact ht0
        have hp := hasS_name (nm := nm) (s := s) (decide_eq_true ht0)
        have hq := toList_nb s.name nm
        clear ht0
        cases hr0 : decide (s.name = nm)
        · rw [hr0] at hq hp
          have hp' := Lib.hid hp
          clear hr0 hp
          go_wp2_with fail
          exact ⟨⟨k + 1, by omega, by go_num, fun j hj => by
            by_cases e : j = k
            · subst e; rw [hs'.out]; exact hp'.out
            · exact hno.out j (by omega)⟩, by simp [intOf]; omega⟩
        · rw [hr0] at hq hp
          have hend := Lib.hid (show findS L nm = (k : Int) from firstS_at (by rw [hL'.out]; exact hlt) hno.out (by rw [hs'.out]; exact hp))
          clear hr0 hp
          go_wp2_with fail
          go_ret
          exact ⟨by rw [hend.out]; rfl, hb0.out⟩
    · obtain rfl : k = 4 := by omega
      have hend := Lib.hid (show findS L nm = -1 from firstS_none (by rw [hL'.out]; exact hno.out))
      go_wp2_with fail
      go_ret
      exact ⟨by rw [hend.out]; rfl, hb0.out⟩
theorem refFind_is (L : List Slt) (nm : ByteArray) (z : Int) (w : World) (hL : L.length = 4) (hz : findS L nm = z) : Calls Try.prog 20 #[fv L, .string nm] w (Tells (.int .i64 z) w) := by
  subst hz; exact refFind_any L nm w hL
set_option maxHeartbeats 1000000 in
theorem refFree_any (L : List Slt) (w : World) (hL : L.length = 4) : Calls Try.prog 22 #[fv L] w (Tells (.int .i64 (freeS L)) w) := by
  have hL' := Lib.hid hL
  have hV := Lib.hid (Vw.alloc w (fc L) 24)
  have hb0 := Lib.hid ((Below.refl w.heap.size w).alloc (Nat.le_refl _) (.cells (fc L).toArray 24))
  unfold fv
  clear hL
  go_enter Try.func22, Try.ntmps22
  go_wp2_with fail
  go_loop [3] (fun i => RfRel L (fun s => decide (s.ino = 0)) i) (fun i => 4 - (intOf i).toNat)
  case atStart => exact ⟨0, by omega, rfl, fun k hk => by omega⟩
  case round =>
    obtain ⟨k, hk, rfl, hno0⟩ := hrel
    have hno := Lib.hid hno0
    clear hno0
    by_cases hlt : k < 4
    · have hc := fc_cells (L := L) (k := k) (by rw [hL'.out]; exact hlt)
      obtain ⟨s, hs⟩ : ∃ s, sl L k = s := ⟨_, rfl⟩
      rw [hs] at hc
      have hs' := Lib.hid hs
      clear hs
      have c0 := hV.out.cell hc.1
      clear hc
      have k0 : (0 : Int) ≤ (k : Int) := by omega
      have k4 : (k : Int) < 4 := by omega
      by_cases ht0 : s.ino = 0
      · have hend := Lib.hid (show freeS L = (k : Int) from firstS_at (by rw [hL'.out]; exact hlt) hno.out (by rw [hs'.out]; exact decide_eq_true ht0))
        have t0 : (s.ino == 0) = true := by rw [ht0]; rfl
        clear ht0
        go_wp2_with fail
        go_ret
        exact ⟨by rw [hend.out]; rfl, hb0.out⟩
      · have hp := Lib.hid (show decide (s.ino = 0) = false from decide_eq_false ht0)
        have t0 : (s.ino == 0) = false := by rw [beq_eq_false_iff_ne]; exact ht0
        clear ht0
        go_wp2_with fail
        exact ⟨⟨k + 1, by omega, by go_num, fun j hj => by
          by_cases e : j = k
          · subst e; rw [hs'.out]; exact hp.out
          · exact hno.out j (by omega)⟩, by simp [intOf]; omega⟩
    · obtain rfl : k = 4 := by omega
      have hend := Lib.hid (show freeS L = -1 from firstS_none (by rw [hL'.out]; exact hno.out))
      go_wp2_with fail
      go_ret
      exact ⟨by rw [hend.out]; rfl, hb0.out⟩
theorem refFree_is (L : List Slt) (z : Int) (w : World) (hL : L.length = 4) (hz : freeS L = z) : Calls Try.prog 22 #[fv L] w (Tells (.int .i64 z) w) := by
  subst hz; exact refFree_any L w hL
end Go.Proofs.Ytpogaognobgfhaa
