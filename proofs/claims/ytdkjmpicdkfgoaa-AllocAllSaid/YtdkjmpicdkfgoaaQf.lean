/-
  free, firm: of a pool.
-/
import Derived.Test.YtdkjmpicdkfgoaaQe
import Derived.Test.YtdkjmpicdkfgoaaAll
import Derived.Test.YtdkjmpicdkfgoaaOf
import Derived.Deep.LoopGhost
import Derived.Deep.RegionHeld3

namespace Go.Proofs.Ytdkjmpicdkfgoaa
open Go.RowKit BigFrame Fl
variable {w w' : World} {F : List Nat} {s g i b : Nat} {X : Nat → List Nat} {o e : Nat}

def FreeRel (w : World) (X : Nat → List Nat) (o e g : Nat) (gk : Nat) (C I : Value) (wr : World) : Prop :=
  ∃ j q : Nat, j + gk = g ∧ I = .int .i64 (j : Int) ∧ C = .int .i64 ((freeTo X o e j : Nat) : Int) ∧ wr = w.drewN q
set_option maxHeartbeats 400000 in
theorem free_c (h : PolAt w F s g i b X o e) (r : Int) (hr : r = ((freeTo X o e g : Nat) : Int)) :
    Calls Try.prog 39 #[.pointer (some ⟨s, o, none⟩)] w (Told (.int .i64 r) w) := by
  have c1 := h.sp.cn h.pol
  have he := h.e96
  have hg := h.g8
  have h' := Lib.hid h
  subst hr
  clear h
  go_enter Try.func39, Try.ntmps39
  go_wp2_with fail
  go_loopg [3, 9] g (fun gk C I wr => FreeRel w X o e g gk C I wr)
  case atStart => exact ⟨0, 0, by omega, rfl, rfl, rfl⟩
  case round =>
    obtain ⟨j, q, hj, rfl, rfl, rfl⟩ := hrel
    by_cases hlt : j < g
    · obtain ⟨gn, rfl⟩ : ∃ n, gk = n + 1 := ⟨gk - 1, by omega⟩
      obtain ⟨f, hf⟩ : ∃ f, freeN X o e j = f := ⟨_, rfl⟩
      have hfe := freeN_le X o e j
      have hto := freeTo_le X o e j
      have hje := Nat.mul_le_mul (Nat.le_of_lt hlt) (Nat.le_refl e)
      have hge := Nat.mul_le_mul hg he
      have hst : Hid (freeTo X o e (j + 1) = freeTo X o e j + f) := Lib.hid (by rw [← hf]; rfl)
      have hf' := Lib.hid (show ((f : Nat) : Int) = ((freeN X o e j : Nat) : Int) by rw [hf])
      rw [hf] at hfe
      clear hf
      go_wp2_with (go_at_call 60; refine (freeIn_c j (h'.out.drew q) hlt _ hf'.out).mono ?_; rintro e w1 ⟨rfl, m1, rfl⟩)
      go_roundg gn
      case measure => omega
      case rel => exact ⟨j + 1, _, by omega, by go_num, by rw [hst.out]; go_num, rfl⟩
    · obtain rfl : gk = 0 := by omega
      obtain rfl : j = g := by omega
      go_wp2_with fail
      go_ret
      exact ⟨rfl, _, rfl⟩

theorem IntsAt.turnF {F : List Nat} {w w' : World} {a : Option Addr} {n : Nat} {D : Nat → Int} (h : IntsAt w a n D) (hT : TurnF F w w') (hn : ∀ ad, a = some ad → ad.block ∉ F) : IntsAt w' a n D := by
  rcases h with h | ⟨b, off, rfl, hx⟩
  · exact .inl h
  · by_cases h0 : 0 < n
    · have hlt : b < w.heap.size := World.block_lt_of_cell? w _ (hx 0 h0)
      have hb := hT.block b hlt (hn _ rfl)
      exact .inr ⟨b, off, rfl, fun k hk => by rw [World.cell?_of_block (w := w) (w' := w') (a := ⟨b, off + k, none⟩) hb]; exact hx k hk⟩
    · exact .inl (by omega)
theorem take_succ_al {l : List Nat} {k : Nat} (h : k < l.length) : l.take (k + 1) = l.take k ++ [bz l k] := take_succ_bz h
theorem allN_lt {l : List Nat} {n k : Nat} (h : k < countN l n) : bz (allN l n) k < n ∧ hasN l (bz (allN l n) k) = true := by
  have hk : k < (allN l n).length := h
  rw [bz_get hk]
  have hm := List.getElem_mem hk
  unfold allN at hm
  rw [List.mem_filter, List.mem_range] at hm
  exact hm
/-- within a group: p of what is deferred are taken away -/
def FirmIn (w : World) (F : List Nat) (s g i b : Nat) (Y : Nat → List Nat) (c nn c0 : Nat) (a : Option Addr) (T al : List Nat) (gk : Nat) (C I : Value) (wr : World) : Prop :=
  ∃ p : Nat, p + gk = nn ∧ I = .int .i64 (p : Int) ∧ C = .int .i64 ((c0 + p : Nat) : Int) ∧ Sp wr F s g i b (updX Y c (takeOut T (al.take p))) ∧ TurnF [s] w wr ∧ IntsAt wr a nn (zl al)
def FirmRel (w : World) (F : List Nat) (s g i b : Nat) (X : Nat → List Nat) (o e : Nat) (gk : Nat) (C I : Value) (wr : World) : Prop :=
  ∃ j : Nat, j + gk = g ∧ I = .int .i64 (j : Int) ∧ C = .int .i64 ((defTo X o e j : Nat) : Int) ∧ Sp wr F s g i b (firmX X o e j) ∧ TurnF [s] w wr
theorem updX_same (X : Nat → List Nat) (c : Nat) : updX X c (X c) = X := by
  funext j
  by_cases e : j = c
  · subst e; rw [updX_at]
  · rw [updX_off _ _ e]
theorem updX_upd (X : Nat → List Nat) (c : Nat) (l m : List Nat) : updX (updX X c l) c m = updX X c m := by
  funext j
  by_cases e : j = c
  · subst e; rw [updX_at, updX_at]
  · rw [updX_off _ _ e, updX_off _ _ e, updX_off _ _ e]

set_option maxHeartbeats 2000000 in
theorem firm_c (h : PolAt w F s g i b X o e) (r : Int) (hr : r = ((defTo X o e g : Nat) : Int)) :
    Calls Try.prog 53 #[.pointer (some ⟨s, o, none⟩)] w (GivesS F s g i b (firmX X o e g) (.int .i64 r) w) := by
  have c1 := h.sp.cn h.pol
  have he := h.e96
  have he4 := h.e1
  have hg := h.g8
  have h' := Lib.hid h
  have hp' := Lib.hid h.pol
  subst hr
  clear h
  go_enter Try.func53, Try.ntmps53
  go_wp2_with fail
  go_loopg [3, 12] g (fun gk C I wr => FirmRel w F s g i b X o e gk C I wr)
  case atStart => exact ⟨0, by omega, rfl, rfl, h'.out.sp, TurnF.refl _ _⟩
  case round =>
    obtain ⟨j, hj, rfl, rfl, hS, hT⟩ := hrel
    by_cases hlt : j < g
    · obtain ⟨gn, rfl⟩ : ∃ n, gk = n + 1 := ⟨gk - 1, by omega⟩
      have hP : PolAt wr F s g i b (firmX X o e j) o e := ⟨hS, hp'.out, h'.out.g1, hg, he4, he⟩
      obtain ⟨q1, cap1, m1, d1, hl1, hm1, _, _, _, hb1, ho1⟩ := hP.set (d := 1) hlt (by omega)
      obtain ⟨q0, cap0, m0, d0, hl0, hm0, _, _, _, hb0, ho0⟩ := hP.set (d := 0) hlt (by omega)
      rw [Nat.add_zero] at d0 hl0 hb0 ho0
      have e1 : firmX X o e j (o + 2 + 2 * j + 1) = X (o + 2 + 2 * j + 1) := firmX_off X o e j _ (by omega)
      have e0 : firmX X o e j (o + 2 + 2 * j) = X (o + 2 + 2 * j) := firmX_off X o e j _ (by omega)
      rw [e1] at hl1 hb1 ho1
      rw [e0] at hl0 hb0 ho0
      have c2 := hS.ce hp'.out
      have hs0 := Lib.hid (show Slot g (o + 2 + 2 * j) from hp'.out.slot (g := g) (d := 0) hlt (by omega))
      have hs1 := Lib.hid (hp'.out.slot (g := g) (d := 1) hlt (by omega))
      have S0 := Lib.hid hS
      have T0 := Lib.hid hT
      have ho1' := Lib.hid ho1
      have hl1' := Lib.hid hl1
      have hb1' := Lib.hid hb1
      have ho0' := Lib.hid ho0
      have hl0' := Lib.hid hl0
      have hm0' := Lib.hid hm0
      have hm2 : m1 ≤ 1000 := by omega
      have hm02 : m0 ≤ 1000 := by omega
      have hm00 : 0 < m0 := by omega
      have j0 : (0 : Int) ≤ (j : Int) := by omega
      have j8 : (j : Int) < 8 := by omega
      have e0' := Lib.hid e0
      have e1' := Lib.hid e1
      have ea : Hid (o + 2 + j * 2 = o + 2 + 2 * j) := Lib.hid (by omega)
      have hde := Lib.hid (show defTo X o e (j + 1) = defTo X o e j + countN (X (o + 2 + 2 * j + 1)) e from rfl)
      clear hS hT hP hl1 hm1 hb1 ho1 hl0 hm0 hb0 ho0 e0 e1
      go_wp2_with fail
      rw [ea.out]
      go_region_held3 (fun w' => w'.cell? ⟨s, o + 2 + 2 * j + 1, none⟩ = some (.slice (some ⟨q1, 0, none⟩) m1 cap1) ∧ w'.cell? ⟨s, o + 1, none⟩ = some (.int .i64 (e : Int))) (first | exact ⟨d1, c2⟩) (first | (go_at_call 72; refine (all_c _ _ m1 e _ _ _ rfl ho1'.out hl1'.out (by omega) hb1'.out.drew1 (by omega)).mono ?_; rintro e2 w2 ⟨v2, rfl, hO2, hb2⟩; obtain ⟨a2, cap2, rfl, hx2, _, _, _, hblk⟩ := hO2.slice; have I2 := Lib.hid hx2; have K2 := Lib.hid (show ∀ ad, a2 = some ad → wr.heap.size ≤ ad.block from fun ad he => by obtain ⟨bb, rfl⟩ := hblk ad he; subst he; exact (World.ownsRow.lt hO2 bb rfl).1); have B2 := Lib.hid hb2; have d1n := hb2.cell (p := ⟨s, o + 2 + 2 * j + 1, none⟩) S0.out.ltS; have c2n := hb2.cell (p := ⟨s, o + 1, none⟩) S0.out.ltS; rw [show wr.drew.cell? ⟨s, o + 2 + 2 * j + 1, none⟩ = _ from d1] at d1n; rw [show wr.drew.cell? ⟨s, o + 1, none⟩ = _ from c2] at c2n; clear d1 c2; have d1 := d1n; have c2 := c2n; clear d1n c2n hO2 hx2 hblk hb2))
      obtain ⟨D, hD⟩ : ∃ D, X (o + 2 + 2 * j + 1) = D := ⟨_, rfl⟩
      obtain ⟨T, hTk⟩ : ∃ T, X (o + 2 + 2 * j) = T := ⟨_, rfl⟩
      obtain ⟨al, hal⟩ : ∃ al, allN D e = al := ⟨_, rfl⟩
      obtain ⟨nn, hnn⟩ : ∃ nn, countN D e = nn := ⟨_, rfl⟩
      have hle := countN_le D e
      have hlen : al.length = nn := by rw [← hal, ← hnn]; rfl
      have hlt2 : ∀ p, p < nn → bz al p < e ∧ hasN D (bz al p) = true := fun p hp => by rw [← hal]; exact allN_lt (by rw [hnn]; exact hp)
      rw [hD, hal, hnn] at I2
      rw [hD, hnn] at hde
      rw [hTk] at ho0' hl0' e0'
      rw [hnn] at hle
      rw [hD, hnn]
      have hlen' := Lib.hid hlen
      have hlt2' := Lib.hid hlt2
      have hD' := Lib.hid hD
      have hT' := Lib.hid hTk
      have hal' := Lib.hid hal
      have B3 := Lib.hid (show Below wr.heap.size wr w2 from ⟨B2.out.os, B2.out.tape, B2.out.output, B2.out.size, B2.out.block⟩)
      have hdj := defTo_le X o e j
      have hje := Nat.mul_le_mul (Nat.le_of_lt hlt) (Nat.le_refl e)
      have hge := Nat.mul_le_mul hg he
      obtain ⟨c0, hc0⟩ : ∃ c0, defTo X o e j = c0 := ⟨_, rfl⟩
      rw [hc0] at hde hdj ⊢
      have hc0' := Lib.hid hc0
      have hcb : c0 ≤ 768 := by omega
      clear hlen hlt2 hD hTk hal hnn hdj hje hge hc0 d1 c2 B2
      go_wp2_with fail
      obtain ⟨wo, rfl⟩ : ∃ wo, wo = wr := ⟨_, rfl⟩
      obtain ⟨gn1, hgn1⟩ : ∃ n, n = gn := ⟨_, rfl⟩
      go_loopg [3, 30] nn (fun gk C I wx => FirmIn wo F s g i b (firmX X o e j) (o + 2 + 2 * j) nn c0 a2 T al gk C I wx)
      case atStart => exact ⟨0, by omega, rfl, rfl, by rw [show takeOut T (al.take 0) = T from rfl, show T = firmX X o e j (o + 2 + 2 * j) from e0'.out.symm, updX_same]; exact S0.out.below B3.out, TurnF.of_below _ B3.out, I2.out⟩
      case round =>
        obtain ⟨p, hp, rfl, rfl, hS, hT, hI⟩ := hrel
        have hw0 := hp'.out.wid (d := 0) (k := j) hg hlt (by omega)
        rw [Nat.add_zero] at hw0
        obtain ⟨qt, capt, t1, _, _, _, hbt⟩ := hS.slot (c := o + 2 + 2 * j) hs0.out
        rw [updX_at, takeOut_length, hl0'.out] at t1
        rw [updX_at] at hbt
        have hbt' := Lib.hid hbt
        have hot := Lib.hid (takeOut_octs (al.take p) T ho0'.out)
        have hlt3 := Lib.hid (show (takeOut T (al.take p)).length = m0 by rw [takeOut_length, hl0'.out])
        have hSx := Lib.hid hS
        have hTx := Lib.hid hT
        have frT := hS.fro (o + 2 + 2 * j)
        by_cases hpn : p < nn
        · obtain ⟨gm, rfl⟩ : ∃ n, gk = n + 1 := ⟨gk - 1, by omega⟩
          obtain ⟨x, hx⟩ : ∃ x, bz al p = x := ⟨_, rfl⟩
          obtain ⟨hxe, _⟩ := hlt2'.out p hpn
          rw [hx] at hxe
          rcases hI with h0 | ⟨bb, off, ha2, hel⟩
          · omega
          subst ha2
          have ce := hel p hpn
          rw [show zl al p = (x : Int) by unfold zl; rw [hx]] at ce
          have hI' := Lib.hid (show IntsAt wr (some ⟨bb, off, none⟩) nn (zl al) from .inr ⟨bb, off, rfl, hel⟩)
          have hbb : Hid (wo.heap.size ≤ bb) := Lib.hid (K2.out _ rfl)
          have lt1 : (p : Int) < (nn : Int) := by omega
          have lt0 : (0 : Int) ≤ (p : Int) := by omega
          have hx' := Lib.hid hx
          clear hel hS hT hbt hx hw0
          go_wp2_with (first
            | (go_at_call 71; refine (with_any _ _ _ x false _ _ hot.out hlt3.out (by omega) hbt'.out (fun h => by cases h)).mono ?_; rintro e2 w5 ⟨v2, rfl, ho2, hb2⟩; obtain ⟨q2, cap2, rfl, _, _, _, _⟩ := ho2.form (by rw [putN_length, hlt3.out]; omega); have T5 := Lib.hid (hSx.out.turn hg hs0.out hb2 ho2 (Nat.le_refl _) (by rw [putN_length, hlt3.out]; omega) (putN_octs hot.out _ _) (by rw [putN_length, updX_at])); have fr2 := (hSx.out.below hb2).fro (o + 2 + 2 * j); have c4 := hb2.cell (p := ⟨s, o + 2 + 2 * j, none⟩) hSx.out.ltS))
          go_roundg gm
          case measure => omega
          case rel => exact ⟨p + 1, by omega, by go_num, by go_num, by rw [take_succ_al (by rw [hlen'.out]; exact hpn), takeOut_snoc, hx'.out]; have := T5.out.1; rw [updX_upd] at this; exact this, hTx.out.trans T5.out.2, hI'.out.turnF T5.out.2 (fun ad he => by cases he; have := hbb.out; have := S0.out.ltS; simp; omega)⟩
        · obtain rfl : gk = 0 := by omega
          obtain rfl : p = nn := by omega
          have c2 := hSx.out.ce hp'.out
          have frD := hSx.out.fro (o + 2 + 2 * j + 1)
          obtain ⟨qd, capd, td, _, _, _, _⟩ := hSx.out.slot hs1.out
          go_wp2_with (first
            | (go_at_call 57; refine (of_is none 0 e 0 ((e + 7) / 8) _ (fun _ => 0) _ _ rfl rfl (by omega) rfl (by omega) (.inl rfl)).mono ?_; rintro e2 w5 ⟨q5, rfl, hq5, hr5, hb5⟩; have R5 := Lib.hid hr5; have B5 := Lib.hid hb5; have frd := (hSx.out.below hb5).fro (o + 2 + 2 * j + 1); have c4 := hb5.cell (p := ⟨s, o + 2 + 2 * j + 1, none⟩) hSx.out.ltS; rw [td] at c4))
          have hLd := hSx.out.siz hs1.out
          rw [hp'.out.wid (d := 1) hg hlt (by omega)] at hLd
          have P5 := (hSx.out.below B5.out).put hg hs1.out (RdF.row (n := (e + 7) / 8) R5.out (zs_length _) hq5 hSx.out.ltF) (Octs.rep _ 0 (by decide)) (by rw [hLd]; exact zs_length _)
          have hfin : updX (updX (firmX X o e j) (o + 2 + 2 * j) (takeOut T (al.take p))) (o + 2 + 2 * j + 1) (setsN e (fun _ => 0) 0) = firmX X o e (j + 1) := by
            rw [List.take_of_length_le (by rw [hlen'.out]; exact Nat.le_refl _), ← hal'.out, ← hD'.out, ← hT'.out]
            rfl
          rw [hfin] at P5
          have P6 := Lib.hid P5
          have T6 := Lib.hid ((T0.out.trans (hTx.out.trans (TurnF.of_below [s] B5.out))).trans (TurnF.set [s] w5 (s := s) (by simp) (o + 2 + 2 * j + 1) (.slice (some ⟨q5, 0, none⟩) ((e + 7) / 8) ((e + 7) / 8))))
          clear P5 hfin hLd
          go_roundg gn
          case measure => omega
          case rel => exact ⟨j + 1, by omega, by go_num, by rw [hde.out]; go_num, P6.out, T6.out⟩
    · obtain rfl : gk = 0 := by omega
      obtain rfl : j = g := by omega
      go_wp2_with fail
      go_ret
      exact ⟨rfl, hS, hT⟩
end Go.Proofs.Ytdkjmpicdkfgoaa
