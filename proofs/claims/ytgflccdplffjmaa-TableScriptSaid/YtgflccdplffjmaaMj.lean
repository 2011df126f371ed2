/-
  The document's own: Open, Holds, List.
-/
import Derived.Test.YtgflccdplffjmaaMh
import Derived.Test.YtgflccdplffjmaaMg
namespace Go.Proofs.Ytgflccdplffjmaa
open Go.RowKit BigFrame

def ROpRel (L : List Plc) (w : World) (i : Value) (wr : World) : Prop := ∃ k : Nat, k ≤ 16 ∧ i = .int .i64 k ∧ (∀ j, j < k → (pl L j).on = true) ∧ w = wr
attribute [local go_sem ↓] stQ_of bdQ_of
set_option maxHeartbeats 1000000 in
theorem ropen_some (a q : Nat) (n f : Int) (L : List Plc) (w : World) (h : RefAt w a L) (hq : LeastP L q) (hq16 : q < 16) :
    Calls Try.prog 9 #[.pointer (some ⟨a, 0, none⟩), .int .i64 n, .int .i64 f] w (GivesR (.tuple #[.int .i64 (q : Int), .int .i64 0]) a (openL L q n f) w) := by
  have h' := Lib.hid h
  have hq' := Lib.hid hq
  clear h hq
  go_enter Try.func9, Try.ntmps9
  go_wp2_with fail
  go_loopw [8] (fun i wr => ROpRel L w i wr) (fun i _ => 16 - (intOf i).toNat)
  case atStart => exact ⟨0, by omega, rfl, fun k hk => by omega, rfl⟩
  case round =>
    obtain ⟨k, hk, rfl, hon0, rfl⟩ := hrel
    have hon := Lib.hid hon0
    clear hon0
    have hkq : k ≤ q := by
      refine Nat.le_of_not_lt fun e => ?_
      have h1 := hon.out q e
      rw [hq'.out.free hq16] at h1
      cases h1
    have hlt : k < 16 := by omega
    have k0 : (0 : Int) ≤ (k : Int) := by omega
    have k1 : (k : Int) < 16 := by omega
    have c3 := h'.out.cell (k := k) (j := 3) hlt (by omega) rfl
    by_cases e0 : k = q
    · subst e0
      have ho := hq'.out.free hq16
      rw [ho] at c3
      have hbg := fun w => run_bdQ w n f
      have hst := run_stQ (s := ⟨true, n, 0, f⟩) (h'.out.row.there (o := k * 4) (n := 4) (by rw [uc_length, h'.out.len]; omega))
      unfold qv at hbg hst
      clear ho
      go_wp2_with fail
      go_ret2
      exact ⟨rfl, h'.out.put hlt _, turn_cells _ _ _ _⟩
    · have ho := Lib.hid (hq'.out.on k (by omega))
      rw [ho.out] at c3
      go_wp2_with fail
      exact ⟨⟨k + 1, by omega, by go_num, fun j hj => by
        by_cases e : j = k
        · subst e; exact ho.out
        · exact hon.out j (by omega), rfl⟩, by simp [intOf]; omega⟩
set_option maxHeartbeats 1000000 in
theorem ropen_full (a : Nat) (n f : Int) (L : List Plc) (w : World) (h : RefAt w a L) (hq : LeastP L 16) :
    Calls Try.prog 9 #[.pointer (some ⟨a, 0, none⟩), .int .i64 n, .int .i64 f] w (GivesR (.tuple #[.int .i64 0, .int .i64 14]) a L w) := by
  have h' := Lib.hid h
  have hq' := Lib.hid hq
  clear h hq
  go_enter Try.func9, Try.ntmps9
  go_wp2_with fail
  go_loopw [8] (fun i wr => ROpRel L w i wr) (fun i _ => 16 - (intOf i).toNat)
  case atStart => exact ⟨0, by omega, rfl, fun k hk => by omega, rfl⟩
  case round =>
    obtain ⟨k, hk, rfl, hon0, rfl⟩ := hrel
    have hon := Lib.hid hon0
    clear hon0
    by_cases hlt : k < 16
    · have k0 : (0 : Int) ≤ (k : Int) := by omega
      have k1 : (k : Int) < 16 := by omega
      have c3 := h'.out.cell (k := k) (j := 3) hlt (by omega) rfl
      have ho := Lib.hid (hq'.out.on k (by omega))
      rw [ho.out] at c3
      go_wp2_with fail
      exact ⟨⟨k + 1, by omega, by go_num, fun j hj => by
        by_cases e : j = k
        · subst e; exact ho.out
        · exact hon.out j (by omega), rfl⟩, by simp [intOf]; omega⟩
    · obtain rfl : k = 16 := by omega
      go_wp2_with fail
      go_ret2
      exact ⟨rfl, h'.out, Turn.refl _ _⟩

def RHoRel (L : List Plc) (n : Int) (w : World) (i : Value) (wr : World) : Prop := ∃ k : Nat, k ≤ 16 ∧ i = .int .i64 k ∧ (∀ j, j < k → ((pl L j).on && ((pl L j).nd == n)) = false) ∧ w = wr
set_option maxHeartbeats 1000000 in
theorem rholds_any (a : Nat) (n : Int) (L : List Plc) (w : World) (h : RefAt w a L) :
    Calls Try.prog 20 #[.pointer (some ⟨a, 0, none⟩), .int .i64 n] w fun e w' => e = .returned (.bool (heldB L n 16)) ∧ w = w' := by
  have h' := Lib.hid h
  clear h
  go_enter Try.func20, Try.ntmps20
  go_wp2_with fail
  go_loopw [5] (fun i wr => RHoRel L n w i wr) (fun i _ => 16 - (intOf i).toNat)
  case atStart => exact ⟨0, by omega, rfl, fun k hk => by omega, rfl⟩
  case round =>
    obtain ⟨k, hk, rfl, hno0, rfl⟩ := hrel
    have hno := Lib.hid hno0
    clear hno0
    by_cases hlt : k < 16
    · have k0 : (0 : Int) ≤ (k : Int) := by omega
      have k1 : (k : Int) < 16 := by omega
      have c3 := h'.out.cell (k := k) (j := 3) hlt (by omega) rfl
      have c0 := h'.out.cell (k := k) (j := 0) hlt (by omega) rfl
      rw [Nat.add_zero] at c0
      obtain ⟨s, hs⟩ : ∃ s, pl L k = s := ⟨_, rfl⟩
      rw [hs] at c0 c3
      have hs' := Lib.hid hs
      clear hs
      cases ho0 : s.on
      · have ho := Lib.hid ho0
        rw [ho0] at c3
        clear ho0 c0
        go_wp2_with fail
        exact ⟨⟨k + 1, by omega, by go_num, fun j hj => by
          by_cases e : j = k
          · subst e; rw [hs'.out, ho.out]; rfl
          · exact hno.out j (by omega), rfl⟩, by simp [intOf]; omega⟩
      · have ho := Lib.hid ho0
        rw [ho0] at c3
        clear ho0
        obtain ⟨z, hz⟩ : ∃ z, s.nd = z := ⟨_, rfl⟩
        rw [hz] at c0
        have hz' := Lib.hid hz
        clear hz
        cases hn0 : (z == n)
        · go_wp2_with fail
          exact ⟨⟨k + 1, by omega, by go_num, fun j hj => by
            by_cases e : j = k
            · subst e; rw [hs'.out, ho.out, hz'.out, hn0]; rfl
            · exact hno.out j (by omega), rfl⟩, by simp [intOf]; omega⟩
        · have hend := Lib.hid (held_yes (L := L) (n := n) (m := 16) hlt (by rw [hs'.out]; exact ho.out) (by rw [hs'.out, hz'.out]; exact hn0))
          go_wp2_with fail
          go_ret
          exact ⟨by rw [hend.out]; rfl, rfl⟩
    · obtain rfl : k = 16 := by omega
      have hend := Lib.hid (held_no hno.out)
      go_wp2_with fail
      go_ret
      exact ⟨by rw [hend.out]; rfl, rfl⟩

set_option maxHeartbeats 1000000 in
theorem rlist_any (a : Nat) (L : List Plc) (w : World) (h : RefAt w a L) :
    Calls Try.prog 18 #[.pointer (some ⟨a, 0, none⟩)] w (ListPost L w) := by
  have h' := Lib.hid h
  clear h
  go_enter Try.func18, Try.ntmps18
  go_wp2_with fail
  go_loopw [3, 4] (fun s i wr => LiRel L w s i wr) (fun _ i _ => 16 - (intOf i).toNat)
  case atStart => exact ⟨0, by omega, rfl, OwnI.nil _ _ _, Below.refl _ _⟩
  case round =>
    obtain ⟨k, hk, rfl, hO0, hbel⟩ := hrel
    have hO := Lib.hid hO0
    have hB := Lib.hid hbel
    have hle := openC_le L k
    clear hO0 hbel
    by_cases hlt : k < 16
    · have k0 : (0 : Int) ≤ (k : Int) := by omega
      have k1 : (k : Int) < 16 := by omega
      have c3 := (h'.out.on' hB.out).cell (k := k) (j := 3) hlt (by omega) rfl
      cases ho0 : (pl L k).on
      · have ho := Lib.hid ho0
        rw [ho0] at c3
        clear ho0
        go_wp2_with fail
        exact ⟨⟨k + 1, by omega, by go_num, own_no hO.out ho.out, hB.out⟩, by simp [intOf]; omega⟩
      · have ho := Lib.hid ho0
        rw [ho0] at c3
        clear ho0
        go_wp2_with (at_builtin; refine wpList_append_ints rfl (.tmp 16) (.tmp 18) rfl w.heap.size (openC L k) _ (zn (openN L k)) rfl (hO.out.alloc _) _ 1 1 (fun _ => (k : Int)) rfl (int_new _ (k : Int) 3) (fun h => by cases h) (by omega) (hB.out.alloc hB.out.size _).size ?_; intro v3 w3 ho3 hg3 hb3; have B3 := Lib.hid ((hB.out.alloc hB.out.size _).trans hb3))
        exact ⟨⟨k + 1, by omega, by go_num, own_yes ho3.out ho.out, B3.out⟩, by simp [intOf]; omega⟩
    · obtain rfl : k = 16 := by omega
      go_wp2_with fail
      go_ret
      exact ⟨_, rfl, hO.out, hB.out⟩
end Go.Proofs.Ytgflccdplffjmaa
