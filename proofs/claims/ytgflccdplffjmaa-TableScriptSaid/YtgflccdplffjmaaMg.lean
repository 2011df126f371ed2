/-
  Holds, List.
-/
import Derived.Test.YtgflccdplffjmaaMf
import Derived.Test.YtgflccdplffjmaaIt
namespace Go.Proofs.Ytgflccdplffjmaa
open Go.RowKit BigFrame

theorem holds_nil (n : Int) (w : World) : Calls Try.prog 19 #[.pointer none, .int .i64 n] w fun e w' => e = .returned (.bool false) ∧ w = w' := by
  go_enter Try.func19, Try.ntmps19
  go_wp2_with fail
  go_ret
  exact ⟨rfl, rfl⟩
theorem list_nil (w : World) : Calls Try.prog 16 #[.pointer none] w fun e w' => e = .returned (.slice none 0 0) ∧ w = w' := by
  go_enter Try.func16, Try.ntmps16
  go_wp2_with fail
  go_ret
  exact ⟨rfl, rfl⟩

def HoRel (L : List Plc) (n : Int) (w : World) (i : Value) (wr : World) : Prop := ∃ k : Nat, k ≤ 16 ∧ i = .int .i64 k ∧ (∀ j, j < k → ((pl L j).on && ((pl L j).nd == n)) = false) ∧ Below w.heap.size w wr
attribute [local go_sem ↓] ldT_of ixT_of stP_of
set_option maxHeartbeats 1000000 in
theorem holds_any (a : Nat) (n : Int) (L : List Plc) (w : World) (h : TabAt w a L) :
    Calls Try.prog 19 #[.pointer (some ⟨a, 0, none⟩), .int .i64 n] w (Tells (.bool (heldB L n 16)) w) := by
  have hld := run_ldT h.row.whole h.len
  have h' := Lib.hid h
  unfold tv at hld
  clear h
  go_enter Try.func19, Try.ntmps19
  go_wp2_with fail
  clear hld
  go_loopw [13] (fun i wr => HoRel L n w i wr) (fun i _ => 16 - (intOf i).toNat)
  case atStart => exact ⟨0, by omega, rfl, fun k hk => by omega, Below.refl _ _⟩
  case round =>
    obtain ⟨k, hk, rfl, hno0, hbel⟩ := hrel
    have hno := Lib.hid hno0
    have hB := Lib.hid hbel
    clear hno0 hbel
    by_cases hlt : k < 16
    · have k0 : (0 : Int) ≤ (k : Int) := by omega
      have k1 : (k : Int) < 16 := by omega
      have hix := fun w => run_ixT w L k hlt h'.out.len
      obtain ⟨s, hs⟩ : ∃ s, pl L k = s := ⟨_, rfl⟩
      rw [hs] at hix
      have hs' := Lib.hid hs
      clear hs
      unfold tv pv at hix
      cases ho0 : s.on
      · have ho := Lib.hid ho0
        clear ho0
        go_wp2_with (refine wpList_alloc_place rfl rfl ?_; intro g2 w2 hv2 hg2 hb2; have hst := run_stP (s := s) (hv2.out.there (o := 0) (n := 4) (by simp [pc])); have V2 := Lib.hid (hv2.out.over (m := pc s) rfl); have c0 := V2.out.cell (k := 0) rfl; rw [ho.out] at c0; have B2 := Lib.hid (below_setCells (below_two hB.out hb2) (Nat.le_trans hB.out.size hg2) 0 (pc s)); unfold pv at hst; clear hb2)
        exact ⟨⟨k + 1, by omega, by go_num, fun j hj => by
          by_cases e : j = k
          · subst e; rw [hs'.out, ho.out]; rfl
          · exact hno.out j (by omega), B2.out⟩, by simp [intOf]; omega⟩
      · have ho := Lib.hid ho0
        clear ho0
        obtain ⟨z, hz⟩ : ∃ z, s.nd = z := ⟨_, rfl⟩
        have hz' := Lib.hid hz
        clear hz
        cases hn0 : (z == n)
        · go_wp2_with (refine wpList_alloc_place rfl rfl ?_; intro g2 w2 hv2 hg2 hb2; have hst := run_stP (s := s) (hv2.out.there (o := 0) (n := 4) (by simp [pc])); have V2 := Lib.hid (hv2.out.over (m := pc s) rfl); have c0 := V2.out.cell (k := 0) rfl; have c1 := V2.out.cell (k := 1) rfl; rw [ho.out] at c0; rw [hz'.out] at c1; have B2 := Lib.hid (below_setCells (below_two hB.out hb2) (Nat.le_trans hB.out.size hg2) 0 (pc s)); unfold pv at hst; clear hb2)
          exact ⟨⟨k + 1, by omega, by go_num, fun j hj => by
            by_cases e : j = k
            · subst e; rw [hs'.out, ho.out, hz'.out, hn0]; rfl
            · exact hno.out j (by omega), B2.out⟩, by simp [intOf]; omega⟩
        · have hend := Lib.hid (held_yes (L := L) (n := n) (m := 16) hlt (by rw [hs'.out]; exact ho.out) (by rw [hs'.out, hz'.out]; exact hn0))
          go_wp2_with (refine wpList_alloc_place rfl rfl ?_; intro g2 w2 hv2 hg2 hb2; have hst := run_stP (s := s) (hv2.out.there (o := 0) (n := 4) (by simp [pc])); have V2 := Lib.hid (hv2.out.over (m := pc s) rfl); have c0 := V2.out.cell (k := 0) rfl; have c1 := V2.out.cell (k := 1) rfl; rw [ho.out] at c0; rw [hz'.out] at c1; have B2 := Lib.hid (below_setCells (below_two hB.out hb2) (Nat.le_trans hB.out.size hg2) 0 (pc s)); unfold pv at hst; clear hb2)
          go_ret
          exact ⟨by rw [hend.out]; rfl, B2.out⟩
    · obtain rfl : k = 16 := by omega
      have hend := Lib.hid (held_no hno.out)
      go_wp2_with fail
      go_ret
      exact ⟨by rw [hend.out]; rfl, hB.out⟩

theorem OwnI.on {w w' : World} {base n : Nat} {v : Value} {D : Nat → Int} (h : OwnI w base v n D) (hb : Below w.heap.size w w') : OwnI w' base v n D :=
  World.ownsRow.kept h (row := none) ⟨hb.os, hb.tape, hb.output, hb.size, fun k hk _ => hb.block k hk⟩ (by cases v.ownBlock with
    | none => exact .inl rfl
    | some k => exact .inr (fun h => by cases h))
theorem own_no {w : World} {base : Nat} {v : Value} {L : List Plc} {k : Nat} (h : OwnI w base v (openC L k) (zn (openN L k))) (ho : (pl L k).on = false) : OwnI w base v (openC L (k + 1)) (zn (openN L (k + 1))) := by
  unfold openC at *
  rw [openN_no ho]; exact h
theorem own_yes {w : World} {base : Nat} {v : Value} {L : List Plc} {k : Nat} (h : OwnI w base v (openC L k + 1) (joinI (zn (openN L k)) (openC L k) (fun _ => (k : Int)))) (ho : (pl L k).on = true) : OwnI w base v (openC L (k + 1)) (zn (openN L (k + 1))) := by
  unfold openC at *
  rw [openN_yes ho, List.length_append]
  refine h.congr fun p hp => ?_
  unfold joinI
  by_cases e : p < (openN L k).length
  · rw [if_pos e, zn_left e]
  · rw [if_neg e, zn_one (by omega)]
def LiRel (L : List Plc) (w : World) (s i : Value) (wr : World) : Prop :=
  ∃ k : Nat, k ≤ 16 ∧ i = .int .i64 k ∧ OwnI wr w.heap.size s (openC L k) (zn (openN L k)) ∧ Below w.heap.size w wr
/-- those that are open, rising, in a slice of the call's own -/
def ListPost (L : List Plc) (w : World) (e : Ending) (w' : World) : Prop :=
  ∃ v, e = .returned v ∧ OwnI w' w.heap.size v (openC L 16) (zn (openN L 16)) ∧ Below w.heap.size w w'
set_option maxHeartbeats 1000000 in
theorem list_any (a : Nat) (L : List Plc) (w : World) (h : TabAt w a L) :
    Calls Try.prog 16 #[.pointer (some ⟨a, 0, none⟩)] w (ListPost L w) := by
  have hld := run_ldT h.row.whole h.len
  have h' := Lib.hid h
  unfold tv at hld
  clear h
  go_enter Try.func16, Try.ntmps16
  go_wp2_with fail
  clear hld
  go_loopw [3, 12] (fun s i wr => LiRel L w s i wr) (fun _ i _ => 16 - (intOf i).toNat)
  case atStart => exact ⟨0, by omega, rfl, OwnI.nil _ _ _, Below.refl _ _⟩
  case round =>
    obtain ⟨k, hk, rfl, hO0, hbel⟩ := hrel
    have hO := Lib.hid hO0
    have hB := Lib.hid hbel
    have hle := openC_le L k
    clear hO0 hbel
    by_cases hlt : k < 16
    · have k0 : (0 : Int) ≤ (k : Int) := by omega
      have k1 : (k : Int) < 16 := by omega
      have hix := fun w => run_ixT w L k hlt h'.out.len
      obtain ⟨s, hs⟩ : ∃ s, pl L k = s := ⟨_, rfl⟩
      rw [hs] at hix
      have hs' := Lib.hid hs
      clear hs
      unfold tv pv at hix
      have tk0 : True := trivial
      cases ho0 : s.on
      · have ho := Lib.hid ho0
        clear ho0
        go_wp2_with (clear tk0; refine wpList_alloc_place rfl rfl ?_; intro g2 w2 hv2 hg2 hb2; have hst := run_stP (s := s) (hv2.out.there (o := 0) (n := 4) (by simp [pc])); have V2 := Lib.hid (hv2.out.over (m := pc s) rfl); have c0 := V2.out.cell (k := 0) rfl; rw [ho.out] at c0; have B2 := Lib.hid (below_setCells (below_two hB.out hb2) (Nat.le_trans hB.out.size hg2) 0 (pc s)); have O2 := Lib.hid (hO.out.on (below_setCells hb2 hg2 0 (pc s))); unfold pv at hst; clear hb2)
        exact ⟨⟨k + 1, by omega, by go_num, own_no O2.out (by rw [hs'.out]; exact ho.out), B2.out⟩, by simp [intOf]; omega⟩
      · have ho := Lib.hid ho0
        clear ho0
        go_wp2_with (first
          | (clear tk0; refine wpList_alloc_place rfl rfl ?_; intro g2 w2 hv2 hg2 hb2; have hst := run_stP (s := s) (hv2.out.there (o := 0) (n := 4) (by simp [pc])); have V2 := Lib.hid (hv2.out.over (m := pc s) rfl); have c0 := V2.out.cell (k := 0) rfl; rw [ho.out] at c0; have B2 := Lib.hid (below_setCells (below_two hB.out hb2) (Nat.le_trans hB.out.size hg2) 0 (pc s)); have O2 := Lib.hid (hO.out.on (below_setCells hb2 hg2 0 (pc s))); unfold pv at hst; clear hb2)
          | (at_builtin; refine wpList_append_ints rfl (.tmp 18) (.tmp 20) rfl w.heap.size (openC L k) _ (zn (openN L k)) rfl (O2.out.alloc _) _ 1 1 (fun _ => (k : Int)) rfl (int_new _ (k : Int) 3) (fun h => by cases h) (by omega) (B2.out.alloc B2.out.size _).size ?_; intro v3 w3 ho3 hg3 hb3; have B3 := Lib.hid ((B2.out.alloc B2.out.size _).trans hb3)))
        exact ⟨⟨k + 1, by omega, by go_num, own_yes ho3.out (by rw [hs'.out]; exact ho.out), B3.out⟩, by simp [intOf]; omega⟩
    · obtain rfl : k = 16 := by omega
      go_wp2_with fail
      go_ret
      exact ⟨_, rfl, hO.out, hB.out⟩
end Go.Proofs.Ytgflccdplffjmaa
