/-
  DiskLoads, walked.
-/
import Derived.Test.YtabjhjipnpfnbaaLd
import Derived.Test.YtabjhjipnpfnbaaNil
import Derived.Test.YtabjhjipnpfnbaaPx
namespace Go.Proofs.Ytabjhjipnpfnbaa
open Go.RowKit BigFrame

theorem goodL_succ (n : Nat) (X : Nat → List Nat) (k : Nat) : goodL n X (k + 1) = (goodL n X k && ((X k).length == 128)) := by
  simp [goodL, List.range_succ, Bool.and_assoc]
theorem Pieces.on {w w' : World} {a : Option Addr} {n : Nat} {X : Nat → List Nat} (h : Pieces w a n X) (hb : Below w.heap.size w w') : Pieces w' a n X := by
  rcases h with h | ⟨b, off, rfl, h⟩
  · exact .inl h
  · refine .inr ⟨b, off, rfl, fun i hi => ?_⟩
    obtain ⟨v, hv, hx⟩ := h i hi
    exact ⟨v, by rw [hb.cell (p := ⟨b, off + i, none⟩) (World.block_lt_of_cell? w _ hv)]; exact hv, hx.on hb⟩
theorem Pieces.parts {w : World} {a : Option Addr} {n : Nat} {X : Nat → List Nat} (h : Pieces w a n X) (hl : ∀ i, i < n → (X i).length ≤ 100000) : Parts w a n X := by
  rcases h with h | ⟨b, off, rfl, h⟩
  · exact .inl h
  · refine .inr ⟨b, off, rfl, fun i hi => ?_⟩
    obtain ⟨v, hv, hx⟩ := h i hi
    exact ⟨v, hv, hx, hl i hi⟩
def LsRel (n : Nat) (X : Nat → List Nat) (w : World) (g : Nat) (gd i : Value) (wr : World) : Prop :=
  ∃ k : Nat, k + g = n ∧ gd = .bool (goodL n X k) ∧ i = .int .i64 k ∧ w = wr ∧ ∀ j, j < k → (X j).length ≤ 200
theorem goodL_len {n : Nat} {X : Nat → List Nat} (h : goodL n X n = true) : 0 < n ∧ ∀ i, i < n → (X i).length = 128 := by
  unfold goodL at h
  rw [Bool.and_eq_true, List.all_eq_true] at h
  exact ⟨by simpa using h.1, fun i hi => by simpa using h.2 i (List.mem_range.2 hi)⟩
theorem load_any (a : Option Addr) (n cap : Nat) (X : Nat → List Nat) (w : World) (hn : n ≤ 2048) (hx : Pieces w a n X) : Calls Try.prog 23 #[.slice a n cap] w (LoadPost n X w) := by
  by_cases h : n = 0
  · subst h; exact load_none a cap X w
  · exact load_some a n cap X w (by omega) hn hx
theorem load_good (a : Option Addr) (n cap : Nat) (X : Nat → List Nat) (w : World) (hn : n ≤ 2048) (hx : Pieces w a n X) (hg : goodL n X n = true) : Calls Try.prog 23 #[.slice a n cap] w (GivesD (.fresh n (imgX X n)) w) :=
  (load_any a n cap X w hn hx).mono fun e w' h => by
    rcases h with h | h
    · exact h.2
    · rw [hg] at h; cases h.1
theorem load_bad (a : Option Addr) (n cap : Nat) (X : Nat → List Nat) (w : World) (hn : n ≤ 2048) (hx : Pieces w a n X) (hg : goodL n X n = false) : Calls Try.prog 23 #[.slice a n cap] w fun e w' => e = .returned (.pointer none) ∧ Below w.heap.size w w' :=
  (load_any a n cap X w hn hx).mono fun e w' h => by
    rcases h with h | h
    · rw [hg] at h; cases h.1
    · exact h.2

set_option maxRecDepth 100000 in
set_option maxHeartbeats 4000000 in
theorem loads_in (a : Option Addr) (cap n : Nat) (X : Nat → List Nat) (w : World) (hn : n ≤ 20) (hx : Pieces w a n X) :
    Calls Try.prog 4 #[.slice a n cap] w (Woke w) := by
  have hx' := Lib.hid hx
  clear hx
  have t0 : decide (20 < (n : Int)) = false := by simp; omega
  go_enter Try.func4, Try.ntmps4
  go_wp2_with fail
  go_loopg [3, 4] n (fun g gd i wr => LsRel n X w g gd i wr)
  case atStart => exact ⟨0, by omega, by simp [goodL], rfl, rfl, fun j h => by omega⟩
  case round =>
    obtain ⟨k, hk, rfl, rfl, rfl, hX⟩ := hrel
    have XX := Lib.hid hX
    have hgs := Lib.hid (goodL_succ n X k)
    clear hX
    by_cases hlt : k < n
    · obtain ⟨g, rfl⟩ : ∃ g, gk = g + 1 := ⟨gk - 1, by omega⟩
      obtain ⟨b, off, rfl, v, hv, hbv⟩ : ∃ b off, a = some ⟨b, off, none⟩ ∧ ∃ v, w.cell? ⟨b, off + k, none⟩ = some v ∧ BV w v (X k) := by
        rcases hx'.out with h | ⟨b, off, e, h⟩
        · omega
        · exact ⟨b, off, e, h k hlt⟩
      obtain ⟨ba, bn, bc, rfl, hbn, _⟩ := hbv
      obtain ⟨gd, hgd⟩ : ∃ gd, goodL n X k = gd := ⟨_, rfl⟩
      rw [hgd] at hgs ⊢
      have hbn' := Lib.hid hbn
      clear hbn hgd
      by_cases h200 : bn ≤ 200
      · have hnext := Lib.hid (show ∀ j, j < k + 1 → (X j).length ≤ 200 from fun j hj => by
          by_cases e : j = k
          · subst e; rw [hbn'.out]; exact h200
          · exact XX.out j (by omega))
        cases gd
        · go_wp2_with fail
          go_roundg g
          case measure => omega
          case rel => exact ⟨k + 1, by omega, by rw [hgs.out, Bool.false_and], by go_num, rfl, hnext.out⟩
        · by_cases h128 : bn = 128
          · have t : ((bn : Int) == 128) = true := by rw [beq_iff_eq]; omega
            have hv' := Lib.hid (show goodL n X (k + 1) = true by rw [hgs.out, hbn'.out, h128]; rfl)
            go_wp2_with fail
            go_roundg g
            case measure => omega
            case rel => exact ⟨k + 1, by omega, by rw [hv'.out], by go_num, rfl, hnext.out⟩
          · have t : ((bn : Int) == 128) = false := by rw [beq_eq_false_iff_ne]; omega
            have hv' := Lib.hid (show goodL n X (k + 1) = false by rw [hgs.out, hbn'.out, Bool.true_and]; simpa using h128)
            go_wp2_with fail
            go_roundg g
            case measure => omega
            case rel => exact ⟨k + 1, by omega, by rw [hv'.out], by go_num, rfl, hnext.out⟩
      · go_wp2_with (go_at_call 8; refine (awake_any _).mono ?_; rintro e w14 ⟨rfl, hb14⟩; have B14 := Lib.hid hb14; clear hb14)
        go_ret
        exact ⟨rfl, B14.out⟩
    · obtain rfl : k = n := by omega
      have hX := Lib.hid (show ∀ i, i < k → (X i).length ≤ 100000 from fun i hi => by have := XX.out i hi; omega)
      obtain ⟨gd, hgd⟩ : ∃ gd, goodL k X k = gd := ⟨_, rfl⟩
      rw [hgd]
      have hgd' := Lib.hid hgd
      clear hgd hgs
      cases gd
      · go_wp2_with (first
          | (go_at_call 23; refine (load_bad _ k _ X _ (by omega) hx'.out hgd'.out).mono ?_; rintro e w1 ⟨rfl, hb1⟩; have B1 := Lib.hid hb1; clear hb1)
          | (go_at_call 24; refine (read_nil _ _).mono ?_; rintro e w2 ⟨rfl, rfl⟩)
          | (go_at_call 25; refine (write_nil _ _ _).mono ?_; rintro e w2 ⟨rfl, rfl⟩)
          | (go_at_call 26; refine (flush_nil _).mono ?_; rintro e w2 ⟨rfl, rfl⟩)
          | (go_at_call 19; refine (on_nil _).mono ?_; rintro e w2 ⟨rfl, rfl⟩)
          | (go_at_call 12; refine (image_nil _).mono ?_; rintro e w2 ⟨rfl, rfl⟩)
          | (go_at_call 22; refine (sectors_nil _).mono ?_; rintro e w2 ⟨rfl, rfl⟩)
          | (go_at_call 8; refine (awake_any _).mono ?_; rintro e w14 ⟨rfl, hb14⟩; have B14 := Lib.hid (B1.out.trans (hb14.mono B1.out.size)); clear hb14))
        go_ret
        exact ⟨rfl, B14.out⟩
      · obtain ⟨hk0, hlen⟩ := goodL_len hgd'.out
        have hlen' := Lib.hid hlen
        clear hlen
        obtain ⟨d0, hd0⟩ : ∃ d0, Dk.fresh k (imgX X k) = d0 := ⟨_, rfl⟩
        obtain ⟨l, hl0⟩ : ∃ l, fillN 1 128 = l := ⟨_, rfl⟩
        obtain ⟨d1, hd1⟩ : ∃ d1, d0.wrote 0 l = d1 := ⟨_, rfl⟩
        obtain ⟨d2, hd2⟩ : ∃ d2, d1.crashed [] = d2 := ⟨_, rfl⟩
        have h0 := Lib.hid (show d0.on = true ∧ d0.set = false ∧ d0.n = k ∧ d0.waits.length = 0 ∧ d0.log.length = 0 ∧ ∀ i, i < k → d0.firm i = X i by
          rw [← hd0]
          exact ⟨rfl, rfl, rfl, rfl, rfl, fun i hi => by show imgX X k i = X i; rw [imgX, if_pos hi]⟩)
        have h2 := Lib.hid (show d2.on = false ∧ d2.n = k ∧ ∀ i, i < k → d2.firm i = X i by
          rw [← hd2, ← hd1]
          refine ⟨rfl, h0.out.2.2.1, fun i hi => ?_⟩
          show appl d0.firm (keptN [] _ _) i = X i
          rw [keptN_nil]; exact h0.out.2.2.2.2.2 i hi)
        have hl := Lib.hid (show l.length = 128 by rw [← hl0]; exact fillN_length _ _)
        have e0 := Lib.hid hd0
        have e1 := Lib.hid hd1
        have e2 := Lib.hid hd2
        have el := Lib.hid hl0
        have tok1 : True := trivial
        have tok2 : True := trivial
        have tok3 : True := trivial
        clear hd0 hd1 hd2 hl0
        go_wp2_with (first
          | (go_at_call 23; refine (load_good _ k _ X _ (by omega) hx'.out hgd'.out).mono ?_; rw [e0.out]; rintro e w1 ⟨G, A1, rfl, hD1, hb1⟩; have L1 := Lib.hid (Live.new (Below.refl _ _) hD1 hb1); clear hD1 hb1)
          | (have _t := tok1; go_at_call 24; refine (read_nil _ _).mono ?_; rintro e w2 ⟨rfl, rfl⟩; clear tok1 _t)
          | (have _t := tok2; go_at_call 25; refine (write_nil _ _ _).mono ?_; rintro e w2 ⟨rfl, rfl⟩; clear tok2 _t)
          | (go_at_call 26; refine (flush_nil _).mono ?_; rintro e w2 ⟨rfl, rfl⟩)
          | (go_at_call 19; refine (on_nil _).mono ?_; rintro e w2 ⟨rfl, rfl⟩)
          | (have _t := tok3; go_at_call 12; refine (image_nil _).mono ?_; rintro e w2 ⟨rfl, rfl⟩; clear tok3 _t)
          | (go_at_call 22; refine (sectors_nil _).mono ?_; rintro e w2 ⟨rfl, rfl⟩))
        have tok1 : True := trivial
        have tok2 : True := trivial
        have PX1 := Lib.hid (hx'.out.on L1.out.below)
        go_wp2_with (first
          | (have _t := tok1; go_at_call 12; refine (image_n _ _ G A1 d0 k X L1.out.disk h0.out.2.2.1 h0.out.2.2.2.2.2).mono ?_; rintro e w3 ⟨g3, V3, bk3, rfl, hI3, hb3⟩; have L3 := Lib.hid (L1.out.read hb3); have I3 := Lib.hid (hI3.parts hX.out); have P3 := Lib.hid ((PX1.out.on hb3).parts hX.out); clear hI3 hb3 tok1 _t)
          | (have _t := tok2; go_at_call 15; refine (parts_same _ _ _ _ k X X _ (by omega) I3.out P3.out (fun _ _ => rfl)).mono ?_; rintro e w4 ⟨rfl, q4, rfl⟩; have L4 := Lib.hid (L3.out.drewN (m := q4)); clear tok2 _t)
          | (go_at_call 27; refine (fill_c 1 _ 128 _ rfl (by omega)).mono ?_; rw [el.out]; rintro e w5 ⟨v5, rfl, ho5, hb5⟩; obtain ⟨g5, cap5, rfl, hc5, hg5, hlt5⟩ := ho5.at hl.out (by omega); have L5 := Lib.hid (L4.out.read hb5); have O5 := Lib.hid ho5; have Q5 := Lib.hid (L4.out.fresh hg5 hlt5); clear ho5 hb5)
          | (go_at_call 25; refine (write_ns _ _ G A1 d0 _ 0 g5 0 128 cap5 l rfl rfl L5.out.disk h0.out.1 h0.out.2.1 (by rw [h0.out.2.2.1]; exact hk0) hl.out hc5 O5.out.bat Q5.out (by rw [h0.out.2.2.2.1]; omega) (by rw [h0.out.2.2.2.2.1]; omega)).mono ?_; rw [e1.out]; rintro e w6 ⟨rfl, A6, hD6, hS6⟩; have L6 := Lib.hid (L5.out.call hD6 hS6); clear hD6 hS6)
          | (go_at_call 28; refine (crash_nil _ _ G A6 d1 L6.out.disk).mono ?_; rw [e2.out]; rintro e w7 ⟨rfl, A7, hD7, hS7⟩; have L7 := Lib.hid (L6.out.call hD7 hS7); have PX7 := Lib.hid (hx'.out.on L7.out.below); clear hD7 hS7)
          | (go_at_call 12; refine (image_n _ _ G A7 d2 k X L7.out.disk h2.out.2.1 h2.out.2.2).mono ?_; rintro e w8 ⟨g8, V8, bk8, rfl, hI8, hb8⟩; have L8 := Lib.hid (L7.out.read hb8); have I8 := Lib.hid (hI8.parts hX.out); have P8 := Lib.hid ((PX7.out.on hb8).parts hX.out); clear hI8 hb8)
          | (go_at_call 15; refine (parts_same _ _ _ _ k X X _ (by omega) I8.out P8.out (fun _ _ => rfl)).mono ?_; rintro e w9 ⟨rfl, q9, rfl⟩; have L9 := Lib.hid (L8.out.drewN (m := q9)))
          | (go_at_call 29; refine (boot_off _ _ G A7 d2 L9.out.disk h2.out.1).mono ?_; rintro e w10 ⟨rfl, A10, hD10, hS10⟩; have L10 := Lib.hid (L9.out.call hD10 hS10); clear hD10 hS10)
          | (go_at_call 8; refine (awake_any _).mono ?_; rintro e w14 ⟨rfl, hb14⟩; have L14 := Lib.hid (L10.out.read hb14); clear hb14))
        go_ret
        exact ⟨rfl, L14.out.below⟩
theorem loads_long (a : Option Addr) (cap n : Nat) (w : World) (hn : 20 < n) :
    Calls Try.prog 4 #[.slice a n cap] w (Woke w) := by
  go_enter Try.func4, Try.ntmps4
  go_wp2_with (go_at_call 8; refine (awake_any _).mono ?_; rintro e w1 ⟨rfl, hb⟩)
  go_ret
  exact ⟨rfl, by assumption⟩
theorem loads_law (a : Option Addr) (cap n : Nat) (X : Nat → List Nat) (w : World) (hx : Pieces w a n X) :
    Calls Try.prog 4 #[.slice a n cap] w (Woke w) := by
  by_cases h : n ≤ 20
  · exact loads_in a cap n X w h hx
  · exact loads_long a cap n w (by omega)
end Go.Proofs.Ytabjhjipnpfnbaa
