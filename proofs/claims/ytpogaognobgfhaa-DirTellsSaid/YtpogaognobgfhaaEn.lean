/-
  What the document's own Lay makes.
-/
import Derived.Test.YtpogaognobgfhaaEm
import Derived.Test.YtpogaognobgfhaaEi
import Derived.Test.YtpogaognobgfhaaSt
import Derived.Test.YtpogaognobgfhaaYl
import Derived.Deep.RegionHeld3
namespace Go.Proofs.Ytpogaognobgfhaa
open Go.RowKit BigFrame

/-- the bytes so far, as a slice of the call's own; the four in their block -/
def DmAt (L : List Slt) (B : Nat) (w : World) (v : Value) (P : List Nat) (wr : World) : Prop :=
  OwnB wr w.heap.size v P ∧ Vw wr 24 B (fc L) ∧ Below w.heap.size w wr
theorem DmAt.drew {L : List Slt} {B : Nat} {w wr : World} {v : Value} {P : List Nat} (h : DmAt L B w v P wr) : DmAt L B w v P wr.drew := ⟨h.1, h.2.1, h.2.2.drew⟩
theorem DmAt.on {L : List Slt} {B : Nat} {w wr wx : World} {v : Value} {P : List Nat} (h : DmAt L B w v P wr) (hb : Below wr.heap.size wr wx) : DmAt L B w v P wx :=
  ⟨h.1.on hb (Nat.le_refl _), h.2.1.on' hb, below_two h.2.2 hb⟩
theorem DmAt.grown {L : List Slt} {B : Nat} {w wr wx : World} {v v' : Value} {P P' : List Nat} (h : DmAt L B w v P wr) (ho : OwnB wx w.heap.size v' P') (hg : wr.grownBy wx v.ownBlock) : DmAt L B w v' P' wx :=
  ⟨ho, h.2.1.grown hg (own_apart h.1 h.2.1 (by decide)), h.2.2.trans (h.1.grown hg h.2.2.size)⟩
def DmRel (L : List Slt) (B : Nat) (w : World) (v i : Value) (wr : World) : Prop := ∃ k : Nat, k ≤ 4 ∧ i = .int .i64 k ∧ standP L k ∧ DmAt L B w v (spD L k) wr

attribute [local go_sem ↓] ldL_of ldLs_of stL_of
def RefDlPost (L : List Slt) (w : World) (e : Ending) (w' : World) : Prop := (stand4 L = true ∧ RefSealPost 68 (spD L 4) w e w') ∨ (stand4 L = false ∧ e = .returned noDir ∧ Below w.heap.size w w')
theorem ino_test {s : Slt} {r : Bool} (h : decide (s.ino ≠ 0) = r) : (s.ino != 0) = r := by
  rw [← h]
  by_cases e : s.ino = 0
  · rw [e]; rfl
  · rw [decide_eq_true e]; exact bne_iff_ne.2 e
set_option maxHeartbeats 4000000 in
theorem refDirLay_any (L : List Slt) (w : World) (hL : L.length = 4) :
    Calls Try.prog 11 #[fv L] w (RefDlPost L w) := by
  have hL' := Lib.hid hL
  have hV := Vw.alloc w (fc L) 24
  have hb0 := (Below.refl w.heap.size w).alloc (Nat.le_refl _) (.cells (fc L).toArray 24)
  have h0 := Lib.hid (show DmRel L w.heap.size w (.slice none 0 0) (.int .i64 0) (w.alloc (.cells (fc L).toArray 24)) from ⟨0, by omega, rfl, fun k hk => by omega, OwnB.nil _ _, hV, hb0⟩)
  clear hV hL hb0
  unfold fv
  go_enter Try.func11, Try.ntmps11
  go_wp2_with fail
  go_loopw [4, 5] (fun v i wr => DmRel L w.heap.size w v i wr) (fun _ i _ => 4 - (intOf i).toNat)
  case atStart => exact h0.out
  case round =>
    obtain ⟨k, hk, rfl, hst0, hS⟩ := hrel
    have hP := Lib.hid hst0
    have S1 := Lib.hid hS
    clear hst0 hS
    by_cases hlt : k < 4
    · have k0 : (0 : Int) ≤ (k : Int) := by omega
      have k4 : (k : Int) < 4 := by omega
      obtain ⟨s, hs⟩ : ∃ s, sl L k = s := ⟨_, rfl⟩
      have hld := run_ldL (show wr.rangeAt w.heap.size (k * 3) (sc s) by rw [← hs, ← fc_at (by rw [hL'.out]; exact hlt)]; exact S1.out.2.1.range (k * 3) 3)
      have hs' := Lib.hid hs
      clear hs
      have tk0 : True := trivial
      unfold sv at hld
      cases hm0 : mayS s
      · have hm := Lib.hid hm0
        have hno := Lib.hid (stand4_no hlt (okAt_no hs'.out hm0))
        clear hm0
        go_wp2_with (first
          | (go_at_call 18; refine (refMay_is s false _ hm.out).mono ?_; rintro e w3 ⟨rfl, hb3⟩; have S3 := Lib.hid (S2.out.on hb3); clear hb3)
          | (clear tk0; refine wpList_alloc_slot rfl rfl ?_; intro g2 w2 hv2 hg2 hb2; have hst := run_stL (s := s) (hv2.out.there (o := 0) (n := 3) (by rw [sc_length]; omega)); have V2 := Lib.hid (hv2.out.over (m := sc s) rfl); have hld := run_ldL V2.out.whole; have S2 := Lib.hid (S1.out.on ((Below.refl _ _).trans (below_setCells hb2 hg2 0 (sc s)))); unfold sv at hst hld; clear hb2))
        go_ret2
        exact .inr ⟨hno.out, rfl, S3.out.2.2⟩
      · have hm := Lib.hid hm0
        cases ht0 : decide (s.ino ≠ 0)
        · have t0 := ino_test ht0
          have hok := Lib.hid (okAt_free hs'.out hm0 ht0)
          clear hm0 ht0
          go_wp2_with (first
            | (go_at_call 18; refine (refMay_is s true _ hm.out).mono ?_; rintro e w3 ⟨rfl, hb3⟩; have V3 := Lib.hid (V2.out.on' hb3); have S3 := Lib.hid (S2.out.on hb3); have c0 := V3.out.cell (k := 0) rfl; clear hb3)
            | (clear tk0; refine wpList_alloc_slot rfl rfl ?_; intro g2 w2 hv2 hg2 hb2; have hst := run_stL (s := s) (hv2.out.there (o := 0) (n := 3) (by rw [sc_length]; omega)); have V2 := Lib.hid (hv2.out.over (m := sc s) rfl); have hld := run_ldL V2.out.whole; have S2 := Lib.hid (S1.out.on ((Below.refl _ _).trans (below_setCells hb2 hg2 0 (sc s)))); unfold sv at hst hld; clear hb2))
          have hmi := mayS_ino hm.out
          have hmk := mayS_kind hm.out
          have hml := Lib.hid (mayS_len hm.out)
          obtain ⟨a, ha⟩ : ∃ a, s.ino.toNat = a := ⟨_, rfl⟩
          obtain ⟨b, hb⟩ : ∃ b, s.kind.toNat = b := ⟨_, rfl⟩
          have ha2 : s.ino = (a : Int) := by omega
          have hb2 : s.kind = (b : Int) := by omega
          have la : a < 65536 := by omega
          have lb : b < 256 := by omega
          obtain ⟨n, hnm⟩ : ∃ n, s.name = n := ⟨_, rfl⟩
          obtain ⟨m, hmn⟩ : ∃ m, n.size = m := ⟨_, rfl⟩
          have lm : m ≤ 24 := by have := hml.out; rw [hnm, nb_length, hmn] at this; exact this
          obtain ⟨x, hx⟩ : ∃ x, a / 256 = x := ⟨_, rfl⟩
          obtain ⟨y, hy⟩ : ∃ y, a % 256 = y := ⟨_, rfl⟩
          obtain ⟨z, hz⟩ : ∃ z, 24 - m = z := ⟨_, rfl⟩
          have hsp := Lib.hid (show spD L (k + 1) = spD L k ++ [x, y, b, m] ++ nb n ++ zs z by
            have e1 : be 1 b = [b] := by simp [be]; omega
            have e2 : be 2 a = [x, y] := by rw [be_two, hx, hy, Nat.mod_eq_of_lt (show x < 256 by omega)]
            have e3 : (nb n).length = m := by rw [nb_length, hmn]
            rw [spD, hs'.out, spS, ha, hb, hnm, e1, e2]
            unfold spT
            rw [e3, hz]
            simp [List.append_assoc])
          have hnl := Lib.hid (show (nb n).length = m by rw [nb_length, hmn])
          have lx : x < 256 := by omega
          have ly : y < 256 := by omega
          have ex : (a : Int) / 256 = (x : Int) := by omega
          have wx : IntKind.u8.wrap (x : Int) = (x : Int) := by rw [IntKind.wrap_u8]; omega
          have wa : IntKind.u8.wrap (a : Int) = (y : Int) := by rw [IntKind.wrap_u8]; omega
          have wb : IntKind.u8.wrap (b : Int) = (b : Int) := by rw [IntKind.wrap_u8]; omega
          have wm : IntKind.u8.wrap (m : Int) = (m : Int) := by rw [IntKind.wrap_u8]; omega
          have ez : 24 - (m : Int) = (z : Int) := by omega
          have hzl := Lib.hid (show z ≤ 24 by omega)
          have hlk := Lib.hid (show (spD L k).length ≤ 112 by rw [spD_length (standP_may hP.out)]; omega)
          have hcS := Lib.hid (fun (w' : World) (h : Vw w' 23 g2 (sc s)) => (show w'.cell? ⟨g2, 0, none⟩ = some (.int .i64 (a : Int)) ∧ w'.cell? ⟨g2, 1, none⟩ = some (.int .i64 (b : Int)) ∧ w'.cell? ⟨g2, 2, none⟩ = some (.string n) from ⟨by rw [← ha2]; exact h.cell (k := 0) rfl, by rw [← hb2]; exact h.cell (k := 1) rfl, by rw [← hnm]; exact h.cell (k := 2) rfl⟩))
          obtain ⟨k00, k01, k02⟩ := hcS.out w3.drew V3.out.drew1
          have hbA := (Below.refl w3.heap.size w3).alloc (Nat.le_refl _) (.cells (bv [x, y, b, m]).toArray 5)
          have hr1 := Lib.hid (show BAt (w3.alloc (.cells (bv [x, y, b, m]).toArray 5)).drew (some ⟨w3.heap.size, 0, none⟩) [x, y, b, m] from (row_alloc w3 [x, y, b, m]).bat)
          have SB := Lib.hid (S3.out.on hbA).drew
          have VB := Lib.hid (V3.out.on' hbA).drew1
          obtain ⟨k10, k11, k12⟩ := hcS.out _ VB.out
          clear c0 hmi hmk ha hb ha2 hb2 hx hy hz hst hld hbA hnm
          have tk1 : True := trivial
          go_region_held3 (fun w' => w'.cell? ⟨g2, 0, none⟩ = some (.int .i64 (a : Int)) ∧ w'.cell? ⟨g2, 1, none⟩ = some (.int .i64 (b : Int)) ∧ w'.cell? ⟨g2, 2, none⟩ = some (.string n)) (first | exact ⟨k00, k01, k02⟩ | exact ⟨k10, k11, k12⟩ | exact ⟨q40, q41, q42⟩ | exact ⟨q50, q51, q52⟩) (first
            | (clear tk1; refine step_append_bytes (by rfl) (.tmp 30) (.tmp 45) (by rfl) w.heap.size _ (spD L k) (by rfl) SB.out.1 ⟨w3.heap.size, 0, none⟩ 4 4 [x, y, b, m] (by rfl) rfl hr1.out (by have := hlk.out; omega) SB.out.2.2.size ?_; intro v4 w4 hv4 hg4; have S4 := Lib.hid (SB.out.grown hv4 hg4); have V4 := Lib.hid (VB.out.grown hg4 (own_apart SB.out.1 VB.out (by decide))); obtain ⟨q40, q41, q42⟩ := hcS.out _ V4.out; clear hv4 hg4)
            | (refine step_append_text (by rfl) (.tmp 46) (.tmp 48) (by rfl) w.heap.size _ (spD L k ++ [x, y, b, m]) (by rfl) S4.out.1 n (by rfl) (by have := hlk.out; have := hnl.out; rw [List.length_append]; simp; omega) S4.out.2.2.size ?_; intro v5 w5 hv5 hg5; have S5 := Lib.hid (S4.out.grown hv5 hg5); have V5 := Lib.hid (V4.out.grown hg5 (own_apart S4.out.1 V4.out (by decide))); obtain ⟨q50, q51, q52⟩ := hcS.out _ V5.out; clear hv5 hg5))
          clear k00 k01 k02 k10 k11 k12 q40 q41 q42 q50 q51
          go_wp2_with (refine wpList_append_zeros_any rfl (.tmp 50) (.tmp 54) rfl w.heap.size z _ _ rfl S5.out.1 rfl (by have := hlk.out; have := hnl.out; have := hzl.out; rw [List.length_append, List.length_append]; simp; omega) S5.out.2.2.size ?_; intro v6 w6 hv6 hg6 hb6; have S6 := Lib.hid (S5.out.grown hv6.out hg6); clear hg6 hb6)
          exact ⟨⟨k + 1, by omega, by go_num, standP_succ hP.out hok.out, by rw [hsp.out]; exact S6.out⟩, by simp [intOf]; omega⟩
        · have t0 := ino_test ht0
          have hok0 := okAt_taken hs'.out hm0 ht0
          obtain ⟨zf, hz0⟩ : ∃ zf, findS L s.name = zf := ⟨_, rfl⟩
          rw [hz0] at hok0
          have hzf := Lib.hid hz0
          clear ht0 hm0 hz0
          by_cases hzk : zf = (k : Int)
          · rw [decide_eq_true hzk] at hok0
            have hok := Lib.hid hok0
            have t1 : (zf != (k : Int)) = false := by rw [hzk]; simp
            clear hok0 hzk
            go_wp2_with (first
              | (go_at_call 18; refine (refMay_is s true _ hm.out).mono ?_; rintro e w3 ⟨rfl, hb3⟩; have V3 := Lib.hid (V2.out.on' hb3); have S3 := Lib.hid (S2.out.on hb3); have c0 := V3.out.cell (k := 0) rfl; have c2 := V3.out.cell (k := 2) rfl; have hld2 := run_ldLs S3.out.2.1.whole hL'.out; unfold fv at hld2; clear hb3)
              | (go_at_call 20; refine (refFind_is L s.name zf _ hL'.out hzf.out).mono ?_; rintro e w4 ⟨rfl, hb4⟩; clear c0 c2 hld2; have V4' := Lib.hid (V3.out.on' hb4); have S4' := Lib.hid (S3.out.on hb4); have c0 := V4'.out.cell (k := 0) rfl; clear hb4)
              | (clear tk0; refine wpList_alloc_slot rfl rfl ?_; intro g2 w2 hv2 hg2 hb2; have hst := run_stL (s := s) (hv2.out.there (o := 0) (n := 3) (by rw [sc_length]; omega)); have V2 := Lib.hid (hv2.out.over (m := sc s) rfl); have hld := run_ldL V2.out.whole; have S2 := Lib.hid (S1.out.on ((Below.refl _ _).trans (below_setCells hb2 hg2 0 (sc s)))); unfold sv at hst hld; clear hb2))
            clear t1
            have hmi := mayS_ino hm.out
            have hmk := mayS_kind hm.out
            have hml := Lib.hid (mayS_len hm.out)
            obtain ⟨a, ha⟩ : ∃ a, s.ino.toNat = a := ⟨_, rfl⟩
            obtain ⟨b, hb⟩ : ∃ b, s.kind.toNat = b := ⟨_, rfl⟩
            have ha2 : s.ino = (a : Int) := by omega
            have hb2 : s.kind = (b : Int) := by omega
            have la : a < 65536 := by omega
            have lb : b < 256 := by omega
            obtain ⟨n, hnm⟩ : ∃ n, s.name = n := ⟨_, rfl⟩
            obtain ⟨m, hmn⟩ : ∃ m, n.size = m := ⟨_, rfl⟩
            have lm : m ≤ 24 := by have := hml.out; rw [hnm, nb_length, hmn] at this; exact this
            obtain ⟨x, hx⟩ : ∃ x, a / 256 = x := ⟨_, rfl⟩
            obtain ⟨y, hy⟩ : ∃ y, a % 256 = y := ⟨_, rfl⟩
            obtain ⟨z, hz⟩ : ∃ z, 24 - m = z := ⟨_, rfl⟩
            have hsp := Lib.hid (show spD L (k + 1) = spD L k ++ [x, y, b, m] ++ nb n ++ zs z by
              have e1 : be 1 b = [b] := by simp [be]; omega
              have e2 : be 2 a = [x, y] := by rw [be_two, hx, hy, Nat.mod_eq_of_lt (show x < 256 by omega)]
              have e3 : (nb n).length = m := by rw [nb_length, hmn]
              rw [spD, hs'.out, spS, ha, hb, hnm, e1, e2]
              unfold spT
              rw [e3, hz]
              simp [List.append_assoc])
            have hnl := Lib.hid (show (nb n).length = m by rw [nb_length, hmn])
            have lx : x < 256 := by omega
            have ly : y < 256 := by omega
            have ex : (a : Int) / 256 = (x : Int) := by omega
            have wx : IntKind.u8.wrap (x : Int) = (x : Int) := by rw [IntKind.wrap_u8]; omega
            have wa : IntKind.u8.wrap (a : Int) = (y : Int) := by rw [IntKind.wrap_u8]; omega
            have wb : IntKind.u8.wrap (b : Int) = (b : Int) := by rw [IntKind.wrap_u8]; omega
            have wm : IntKind.u8.wrap (m : Int) = (m : Int) := by rw [IntKind.wrap_u8]; omega
            have ez : 24 - (m : Int) = (z : Int) := by omega
            have hzl := Lib.hid (show z ≤ 24 by omega)
            have hlk := Lib.hid (show (spD L k).length ≤ 112 by rw [spD_length (standP_may hP.out)]; omega)
            have hcS := Lib.hid (fun (w' : World) (h : Vw w' 23 g2 (sc s)) => (show w'.cell? ⟨g2, 0, none⟩ = some (.int .i64 (a : Int)) ∧ w'.cell? ⟨g2, 1, none⟩ = some (.int .i64 (b : Int)) ∧ w'.cell? ⟨g2, 2, none⟩ = some (.string n) from ⟨by rw [← ha2]; exact h.cell (k := 0) rfl, by rw [← hb2]; exact h.cell (k := 1) rfl, by rw [← hnm]; exact h.cell (k := 2) rfl⟩))
            obtain ⟨k00, k01, k02⟩ := hcS.out w4.drew V4'.out.drew1
            have hbA := (Below.refl w4.heap.size w4).alloc (Nat.le_refl _) (.cells (bv [x, y, b, m]).toArray 5)
            have hr1 := Lib.hid (show BAt (w4.alloc (.cells (bv [x, y, b, m]).toArray 5)).drew (some ⟨w4.heap.size, 0, none⟩) [x, y, b, m] from (row_alloc w4 [x, y, b, m]).bat)
            have SB := Lib.hid (S4'.out.on hbA).drew
            have VB := Lib.hid (V4'.out.on' hbA).drew1
            obtain ⟨k10, k11, k12⟩ := hcS.out _ VB.out
            clear c0 hmi hmk ha hb ha2 hb2 hx hy hz hst hld hbA hnm
            have tk1 : True := trivial
            go_region_held3 (fun w' => w'.cell? ⟨g2, 0, none⟩ = some (.int .i64 (a : Int)) ∧ w'.cell? ⟨g2, 1, none⟩ = some (.int .i64 (b : Int)) ∧ w'.cell? ⟨g2, 2, none⟩ = some (.string n)) (first | exact ⟨k00, k01, k02⟩ | exact ⟨k10, k11, k12⟩ | exact ⟨q40, q41, q42⟩ | exact ⟨q50, q51, q52⟩) (first
              | (clear tk1; refine step_append_bytes (by rfl) (.tmp 30) (.tmp 45) (by rfl) w.heap.size _ (spD L k) (by rfl) SB.out.1 ⟨w4.heap.size, 0, none⟩ 4 4 [x, y, b, m] (by rfl) rfl hr1.out (by have := hlk.out; omega) SB.out.2.2.size ?_; intro v4 w7 hv4 hg4; have S4 := Lib.hid (SB.out.grown hv4 hg4); have V4 := Lib.hid (VB.out.grown hg4 (own_apart SB.out.1 VB.out (by decide))); obtain ⟨q40, q41, q42⟩ := hcS.out _ V4.out; clear hv4 hg4)
              | (refine step_append_text (by rfl) (.tmp 46) (.tmp 48) (by rfl) w.heap.size _ (spD L k ++ [x, y, b, m]) (by rfl) S4.out.1 n (by rfl) (by have := hlk.out; have := hnl.out; rw [List.length_append]; simp; omega) S4.out.2.2.size ?_; intro v5 w5 hv5 hg5; have S5 := Lib.hid (S4.out.grown hv5 hg5); have V5 := Lib.hid (V4.out.grown hg5 (own_apart S4.out.1 V4.out (by decide))); obtain ⟨q50, q51, q52⟩ := hcS.out _ V5.out; clear hv5 hg5))
            clear k00 k01 k02 k10 k11 k12 q40 q41 q42 q50 q51
            go_wp2_with (refine wpList_append_zeros_any rfl (.tmp 50) (.tmp 54) rfl w.heap.size z _ _ rfl S5.out.1 rfl (by have := hlk.out; have := hnl.out; have := hzl.out; rw [List.length_append, List.length_append]; simp; omega) S5.out.2.2.size ?_; intro v6 w6 hv6 hg6 hb6; have S6 := Lib.hid (S5.out.grown hv6.out hg6); clear hg6 hb6)
            exact ⟨⟨k + 1, by omega, by go_num, standP_succ hP.out hok.out, by rw [hsp.out]; exact S6.out⟩, by simp [intOf]; omega⟩
          · rw [decide_eq_false hzk] at hok0
            have hno := Lib.hid (stand4_no hlt hok0)
            have t1 : (zf != (k : Int)) = true := by rw [bne_iff_ne]; exact hzk
            clear hok0 hzk
            go_wp2_with (first
              | (go_at_call 18; refine (refMay_is s true _ hm.out).mono ?_; rintro e w3 ⟨rfl, hb3⟩; have V3 := Lib.hid (V2.out.on' hb3); have S3 := Lib.hid (S2.out.on hb3); have c0 := V3.out.cell (k := 0) rfl; have c2 := V3.out.cell (k := 2) rfl; have hld2 := run_ldLs S3.out.2.1.whole hL'.out; unfold fv at hld2; clear hb3)
              | (go_at_call 20; refine (refFind_is L s.name zf _ hL'.out hzf.out).mono ?_; rintro e w4 ⟨rfl, hb4⟩; have S4' := Lib.hid (S3.out.on hb4); clear hb4)
              | (clear tk0; refine wpList_alloc_slot rfl rfl ?_; intro g2 w2 hv2 hg2 hb2; have hst := run_stL (s := s) (hv2.out.there (o := 0) (n := 3) (by rw [sc_length]; omega)); have V2 := Lib.hid (hv2.out.over (m := sc s) rfl); have hld := run_ldL V2.out.whole; have S2 := Lib.hid (S1.out.on ((Below.refl _ _).trans (below_setCells hb2 hg2 0 (sc s)))); unfold sv at hst hld; clear hb2))
            go_ret2
            exact .inr ⟨hno.out, rfl, S4'.out.2.2⟩
    · obtain rfl : k = 4 := by omega
      obtain ⟨sa, scp, rfl, hbt, hnil, hcap⟩ := S1.out.1.slice
      have hlen := Lib.hid (spD_length (standP_may hP.out))
      have hbt' := Lib.hid hbt
      have hnil' := Lib.hid hnil
      clear hbt hnil hcap
      go_wp2_with (go_at_call 30; refine (refSeal_any 68 _ _ _ (spD L 4) _ rfl (by decide) (by decide) (spD_octs (standP_may hP.out)) (by rw [hlen.out]; omega) hbt'.out hnil'.out).mono ?_; rintro e w5 ⟨g5, c5, rfl, hg5, hc5, hr5, hb5⟩; have hend := Lib.hid (show RefSealPost 68 (spD L 4) w _ w5 from ⟨g5, c5, rfl, Nat.le_trans S1.out.2.2.size hg5, hc5, hr5, below_two S1.out.2.2 hb5⟩); clear hr5 hb5)
      go_ret2
      exact .inl ⟨stand4_iff.2 hP.out, hend.out⟩
theorem refDirLay_no (L : List Slt) (w : World) (hL : L.length = 4) (h : stand4 L = false) : Calls Try.prog 11 #[fv L] w (Tells noDir w) :=
  (refDirLay_any L w hL).mono fun _ _ h2 => h2.elim (fun h3 => absurd (h3.1.symm.trans h) (by decide)) (fun h3 => h3.2)
theorem refDirLay_ok (L : List Slt) (w : World) (hL : L.length = 4) (h : stand4 L = true) : Calls Try.prog 11 #[fv L] w (RefSealPost 68 (spD L 4) w) :=
  (refDirLay_any L w hL).mono fun _ _ h2 => h2.elim (fun h3 => h3.2) (fun h3 => absurd (h3.1.symm.trans h) (by decide))
end Go.Proofs.Ytpogaognobgfhaa
