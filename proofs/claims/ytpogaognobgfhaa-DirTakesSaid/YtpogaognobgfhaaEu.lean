/-
  A slot that is freed is the first free one, or one ahead of it was; its name is found no more, the others are where they were; laid and read it is so: the walk.
-/
import Derived.Test.YtpogaognobgfhaaEs
import Derived.Test.YtpogaognobgfhaaLo
import Derived.Test.YtpogaognobgfhaaIt
import Derived.BigRegion
import Derived.Deep.RegionHeld3
namespace Go.Proofs.Ytpogaognobgfhaa
open Go.RowKit BigFrame

/-- the slot that the law lays at place j -/
def TkS (j : Nat) (s : Slt) : Prop := ∃ a b c : Nat, a < 60000 ∧ b < 3 ∧ c < 26 ∧ s = ⟨((1 + a : Nat) : Int), ((1 + b : Nat) : Int), strOf [97 + j, 97 + c]⟩
def AllT (L : List Slt) : Prop := L.length = 4 ∧ ∀ j, j < 4 → sl L j = s0 ∨ TkS j (sl L j)
theorem two_octs {j c : Nat} (hj : j < 4) (hc : c < 26) : Octs [97 + j, 97 + c] := .cons (by omega) (.cons (by omega) .nil)
theorem TkS.may {j : Nat} {s : Slt} (hj : j < 4) (h : TkS j s) : mayS s = true ∧ s.ino ≠ 0 := by
  obtain ⟨a, b, c, ha, hb, hc, rfl⟩ := h
  have hn := nb_strOf (two_octs hj hc)
  refine ⟨?_, by show ((1 + a : Nat) : Int) ≠ 0; omega⟩
  unfold mayS
  have h1 : decide (0 < ((1 + a : Nat) : Int)) = true := decide_eq_true (by omega)
  have h2 : fitsN ((1 + a : Nat) : Int) 2 = true := by unfold fitsN; exact decide_eq_true ⟨by omega, by have e : (256 ^ 2 : Nat) = 65536 := rfl; omega⟩
  have h3 : decide (1 ≤ ((1 + b : Nat) : Int) ∧ ((1 + b : Nat) : Int) ≤ 3) = true := decide_eq_true ⟨by omega, by omega⟩
  have h4 : nameB (nb (strOf [97 + j, 97 + c])) = true := by
    rw [hn]
    unfold nameB
    simp only [Bool.and_eq_true, decide_eq_true_eq, List.mem_cons, List.not_mem_nil, or_false, List.length_cons, List.length_nil, ne_eq, List.cons.injEq, not_or, and_true]
    omega
  show (_ || (decide (0 < ((1 + a : Nat) : Int)) && (fitsN ((1 + a : Nat) : Int) 2 && (decide (1 ≤ ((1 + b : Nat) : Int) ∧ ((1 + b : Nat) : Int) ≤ 3) && nameB (nb (strOf [97 + j, 97 + c])))))) = true
  rw [h1, h2, h3, h4]
  simp
theorem TkS.ne {j k : Nat} {s t : Slt} (hj : j < 4) (hk : k < 4) (h : TkS j s) (h2 : TkS k t) (hne : j ≠ k) : s.name ≠ t.name := by
  obtain ⟨a, b, c, _, _, hc, rfl⟩ := h
  obtain ⟨a2, b2, c2, _, _, hc2, rfl⟩ := h2
  intro e
  have e1 := congrArg nb e
  simp only [nb_strOf (two_octs hj hc), nb_strOf (two_octs hk hc2), List.cons.injEq] at e1
  omega
theorem TkS.zzz {j : Nat} {s : Slt} (hj : j < 4) (h : TkS j s) : s.name ≠ ⟨#[122, 122, 122]⟩ := by
  obtain ⟨a, b, c, _, _, hc, rfl⟩ := h
  intro e
  have e1 := congrArg (fun x => (nb x).length) e
  simp only [nb_strOf (two_octs hj hc)] at e1
  exact absurd (show (2 : Nat) = 3 from e1) (by decide)
theorem AllT.set {L : List Slt} (h : AllT L) {k : Nat} (hk : k < 4) {s : Slt} (hs : s = s0 ∨ TkS k s) : AllT (L.set k s) := by
  refine ⟨by rw [List.length_set]; exact h.1, fun j hj => ?_⟩
  rw [sl_set (by rw [h.1]; exact hk)]
  split
  · rename_i e; subst e; exact hs
  · exact h.2 j hj
theorem AllT.stand {L : List Slt} (h : AllT L) : stand4 L = true := by
  refine (good_stand h.1).1 fun k hk => ⟨?_, fun j hj => ?_⟩
  · rcases h.2 k hk with e | e
    · rw [e]; decide
    · exact (e.may hk).1
  · rcases h.2 k hk with e | e
    · exact .inl (by rw [e]; rfl)
    · rcases h.2 j (by omega) with e2 | e2
      · exact .inr (.inl (by rw [e2]; rfl))
      · exact .inr (.inr (e2.ne (by omega) hk e (by omega)))
theorem AllT.find {L M : List Slt} (h : AllT L) {t k : Nat} (ht : t < 4) (hM : L.set t s0 = M) (hk : k < 4) (h0 : (sl L k).ino ≠ 0) : findS M (sl L k).name = if k = t then -1 else (k : Int) := by
  subst hM
  have hM := h.set ht (.inl rfl : s0 = s0 ∨ TkS t s0)
  have hg : ∀ j, sl (L.set t s0) j = if j = t then s0 else sl L j := fun j => sl_set (by rw [h.1]; exact ht)
  split
  · rename_i e
    subst e
    refine firstS_none fun j hj => ?_
    rw [hM.1] at hj
    rw [hg]
    split
    · exact hasS_no (by decide)
    · rename_i hne
      unfold hasS
      rcases h.2 j hj with e2 | e2
      · rw [e2, decide_eq_false (by decide)]; rfl
      · rcases h.2 k hk with e3 | e3
        · rw [e3] at h0; exact absurd rfl h0
        · rw [decide_eq_false (e2.ne hj hk e3 hne), Bool.and_false]
  · rename_i hne
    have e := hg k
    rw [if_neg hne] at e
    have := stand_find hM.stand (k := k) hk (by rw [e]; exact h0)
    rwa [e] at this
theorem AllT.zzz {M : List Slt} (h : AllT M) : findS M ⟨#[122, 122, 122]⟩ = -1 := by
  refine firstS_none fun j hj => ?_
  rw [h.1] at hj
  unfold hasS
  rcases h.2 j hj with e | e
  · rw [e, decide_eq_false (by decide)]; rfl
  · rw [decide_eq_false (e.zzz hj), Bool.and_false]
theorem AllT.free {L M : List Slt} (h : AllT L) {t : Nat} (ht : t < 4) (hM : L.set t s0 = M) : ∃ f : Nat, freeS M = (f : Int) ∧ f ≤ t := by
  subst hM
  have e : sl (L.set t s0) t = s0 := by rw [sl_set (by rw [h.1]; exact ht), if_pos rfl]
  rcases firstS_is (fun s => decide (s.ino = 0)) (L.set t s0) with ⟨_, h2⟩ | ⟨f, hf, h1, _, h2⟩
  · have := h2 t (by rw [List.length_set, h.1]; exact ht)
    rw [e] at this; exact absurd this (by decide)
  · refine ⟨f, h1, ?_⟩
    rcases Nat.lt_or_ge t f with hlt | hge
    · have := h2 t hlt
      rw [e] at this; exact absurd this (by decide)
    · exact hge
theorem AllT.zero : AllT z4 := ⟨rfl, fun j _ => .inl (sl_rep 4 j)⟩
theorem low_is (x C : Int) (n : Nat) (k : Nat) (w : World) (hC : C = (n : Int)) (h1 : 0 < n) (h2 : n ≤ 1000000) (hv : lowN x (n : Int) = (k : Int)) :
    Calls Try.prog 25 #[.int .i64 x, .int .i64 C] w fun e w' => e = .returned (.int .i64 (k : Int)) ∧ w = w' := by
  subst hC
  refine (low_any x n w (by omega) (by omega)).mono fun e w' ⟨he, hw⟩ => ⟨by rw [he, hv], hw⟩
theorem low_ex (x : Int) (n : Nat) (h : 0 < n) : ∃ k : Nat, lowN x (n : Int) = (k : Int) ∧ k < n := by
  have hb := lowN_bd x (n := (n : Int)) (by omega)
  exact ⟨(lowN x n).toNat, by omega, by omega⟩

def TkRel (G : Nat) (w : World) (i : Value) (wr : World) : Prop := ∃ k : Nat, k ≤ 4 ∧ i = .int .i64 k ∧ ∃ L, AllT L ∧ Vw wr 24 G (fc L) ∧ Below w.heap.size w wr
def TkAt (L M : List Slt) (G G2 : Nat) (w wr : World) : Prop := Vw wr 24 G (fc L) ∧ Vw wr 24 G2 (fc M) ∧ Below w.heap.size w wr
theorem TkAt.on {L M : List Slt} {G G2 : Nat} {w wr wx : World} (h : TkAt L M G G2 w wr) (hb : Below wr.heap.size wr wx) : TkAt L M G G2 w wx := ⟨h.1.on' hb, h.2.1.on' hb, below_two h.2.2 hb⟩

attribute [local go_sem ↓] ldL_of ldLs_of stL_of stLs_of bdL_of bdLs_of eqLs_of
set_option maxRecDepth 100000 in
set_option maxHeartbeats 4000000 in
theorem dirTakes_any (a : Option Addr) (cap m : Nat) (R : Nat → Int) (z : Int) (w : World) (hx : IntsAt w a m R) :
    Calls Try.prog 6 #[.slice a m cap, .int .i64 z] w (Tells (.bool true) w) := by
  have hx' := Lib.hid hx
  obtain ⟨t, ht0, ht4⟩ := low_ex z 4 (by omega)
  have hlw := Lib.hid (fun w => low_is z 4 4 t w rfl (by omega) (by omega) ht0)
  have hbd := run_bd0L
  have hbs := fun (w : World) (i k : Int) (n : ByteArray) => run_bdL w i k n
  have hgd := Try.eqGuardLs
  unfold sv at hbd hbs
  clear hx ht0
  have tk0 : True := trivial
  go_enter Try.func6, Try.ntmps6
  go_wp2_with (clear tk0; refine wpList_alloc_slots rfl rfl ?_; intro G w1 hv1 hG1 hb1; have V1 := Lib.hid hv1.out; have B1 := Lib.hid hb1; have hGw := Lib.hid hG1; clear hb1)
  go_loopw [6] (fun i wr => TkRel G w i wr) (fun i _ => 4 - (intOf i).toNat)
  case atStart => exact ⟨0, by omega, rfl, z4, AllT.zero, V1.out, B1.out⟩
  case round =>
    obtain ⟨k, hk, rfl, L, hA0, hV0, hB0⟩ := hrel
    have hA := Lib.hid hA0
    have V := Lib.hid hV0
    have B := Lib.hid hB0
    clear hA0 hV0 hB0
    have k0 : (0 : Int) ≤ (k : Int) := by omega
    by_cases hlt : k < 4
    · have k4 : (k : Int) < 4 := by omega
      by_cases hkm : k < m
      · obtain ⟨b, off, rfl, hcell⟩ : ∃ b off, a = some ⟨b, off, none⟩ ∧ ∀ k, k < m → wr.cell? ⟨b, off + k, none⟩ = some (.int .i64 (R k)) := by
          rcases hx'.out.on B.out rfl with h | h
          · omega
          · exact h
        have c0 := hcell k hkm
        have hbw := Lib.hid (show b < w.heap.size by
          rcases hx'.out with h | ⟨b2, o2, e, h⟩
          · omega
          · obtain ⟨rfl, rfl⟩ : b = b2 ∧ off = o2 := by simpa using e
            exact World.block_lt_of_cell? w _ (h k hkm))
        obtain ⟨x, hxx⟩ : ∃ x, R k = x := ⟨_, rfl⟩
        rw [hxx] at c0
        obtain ⟨p, hp, hp2⟩ := low_ex x 60000 (by omega)
        obtain ⟨q, hq, hq2⟩ := low_ex x 3 (by omega)
        obtain ⟨r, hr, hr2⟩ := low_ex x 26 (by omega)
        have f1 := Lib.hid (fun w => low_is x 60000 60000 p w rfl (by omega) (by omega) hp)
        have f2 := Lib.hid (fun w => low_is x 3 3 q w rfl (by omega) (by omega) hq)
        have f3 := Lib.hid (fun w => low_is x 26 26 r w rfl (by omega) (by omega) hr)
        obtain ⟨P, hP⟩ : ∃ P, 1 + p = P := ⟨_, rfl⟩
        obtain ⟨Q, hQ⟩ : ∃ Q, 1 + q = Q := ⟨_, rfl⟩
        obtain ⟨K, hK⟩ : ∃ K, 97 + k = K := ⟨_, rfl⟩
        obtain ⟨U, hU⟩ : ∃ U, 97 + r = U := ⟨_, rfl⟩
        have eP : 1 + (p : Int) = (P : Int) := by omega
        have eQ : 1 + (q : Int) = (Q : Int) := by omega
        have eK : 97 + (k : Int) = (K : Int) := by omega
        have eU : 97 + (r : Int) = (U : Int) := by omega
        have wP : IntKind.i64.wrap (P : Int) = (P : Int) := wrap_in (by omega)
        have wQ : IntKind.i64.wrap (Q : Int) = (Q : Int) := wrap_in (by omega)
        have wK : IntKind.i64.wrap (K : Int) = (K : Int) := wrap_in (by omega)
        have wU : IntKind.i64.wrap (U : Int) = (U : Int) := wrap_in (by omega)
        have vK : IntKind.u8.wrap (K : Int) = (K : Int) := by rw [IntKind.wrap_u8]; omega
        have vU : IntKind.u8.wrap (U : Int) = (U : Int) := by rw [IntKind.wrap_u8]; omega
        obtain ⟨T, hT⟩ : ∃ T, strOf [K, U] = T := ⟨_, rfl⟩
        have hs := Lib.hid (show TkS k ⟨(P : Int), (Q : Int), T⟩ from ⟨p, q, r, hp2, hq2, hr2, by rw [hP, hQ, hK, hU, hT]⟩)
        have hoK := Lib.hid (show Octs [K, U] from .cons (by omega) (.cons (by omega) .nil))
        have hbA := (Below.refl wr.heap.size wr).alloc (Nat.le_refl _) (.cells (bv [K, U]).toArray 5)
        have hr1 := run_string (w := (wr.alloc (.cells (bv [K, U]).toArray 5)).drew) (a := some ⟨wr.heap.size, 0, none⟩) (n := 2) (cap := 2) (l := [K, U]) rfl hoK.out (row_alloc wr [K, U]).bat
        rw [hT] at hr1
        have e0 : (bv [K, U]).toArray = #[Value.int .u8 (K : Int), .int .u8 (U : Int)] := rfl
        have VA := Lib.hid (V.out.on' hbA).drew1
        have hst := run_stL (w := (wr.alloc (.cells (bv [K, U]).toArray 5)).drew) (s := ⟨(P : Int), (Q : Int), T⟩) (VA.out.there (o := k * 3) (n := 3) (by rw [fc_length, hA.out.1]; omega))
        unfold sv at hst
        have c0' : wr.drew.cell? ⟨b, off + k, none⟩ = some (.int .i64 x) := c0
        have c1 : (wr.alloc (.cells (bv [K, U]).toArray 5)).drew.cell? ⟨b, off + k, none⟩ = some (.int .i64 x) := ((hbA.drew.cell (p := ⟨b, off + k, none⟩) (World.block_lt_of_cell? wr _ c0)).trans c0)
        have c2 : ((wr.alloc (.cells (bv [K, U]).toArray 5)).drew.setCells G (k * 3) (sc ⟨(P : Int), (Q : Int), T⟩)).cell? ⟨b, off + k, none⟩ = some (.int .i64 x) :=
          ((Oth.setCells (Oth.refl G (wr.alloc (.cells (bv [K, U]).toArray 5)).drew) (k * 3) (sc ⟨(P : Int), (Q : Int), T⟩)).cell (a := ⟨b, off + k, none⟩) (by show b ≠ G; have := hbw.out; have := hGw.out; omega)).trans c1
        have hbA' := Lib.hid hbA
        rw [e0] at hr1 VA hst c1 c2 hbA'
        have ta : True := trivial
        have tb : True := trivial
        clear e0 hcell hxx hp hq hr hP hQ hK hU hT hbA hp2 hq2 hr2
        go_wp2_with fail
        have hput := VA.out.put (sc ⟨(P : Int), (Q : Int), T⟩) (k * 3) (by rw [fc_length, hA.out.1, sc_length]; omega)
        rw [fc_put _ (by rw [hA.out.1]; exact hlt)] at hput
        have V5 := Lib.hid hput
        have B5 := Lib.hid (below_setCells (below_two B.out hbA'.out.drew) hGw.out (k * 3) (sc ⟨(P : Int), (Q : Int), T⟩))
        have hend := Lib.hid (hA.out.set hlt (.inr hs.out))
        clear hput c0' c1 c2 V B hbA' hoK VA hlw hbd hgd V1 B1 hx' hv1 hGw hbw hs hA
        go_region_with ((go_at_call 25; first
            | (clear ta; refine (f1.out _).mono ?_; rintro e w3 ⟨rfl, rfl⟩)
            | (clear tb; refine (f2.out _).mono ?_; rintro e w3 ⟨rfl, rfl⟩)
            | (refine (f3.out _).mono ?_; rintro e w3 ⟨rfl, rfl⟩)))
        all_goals
          go_wp2_with fail
          exact ⟨⟨k + 1, by omega, by go_num, _, hend.out, V5.out, B5.out⟩, by simp [intOf]; omega⟩
      · have hkm' : ¬ (k : Int) < (m : Int) := by omega
        obtain ⟨M, hM⟩ : ∃ M, L.set t s0 = M := ⟨_, rfl⟩
        have hL4 := Lib.hid hA.out.1
        have hMl := Lib.hid (show M.length = 4 by rw [← hM, List.length_set]; exact hA.out.1)
        have hAM := Lib.hid (show AllT M by rw [← hM]; exact hA.out.set ht4 (.inl rfl))
        have hMs := Lib.hid hAM.out.stand
        obtain ⟨f, hf, hft⟩ := hA.out.free ht4 hM
        have hfd := Lib.hid (fun (k : Nat) (hk : k < 4) (h0 : (sl L k).ino ≠ 0) => hA.out.find ht4 hM hk h0)
        have hM' := Lib.hid hM
        have hLay := Lib.hid (fun w => dirLay_ok M w hMl.out hMs.out)
        have hFr := Lib.hid (fun w => dirFree_is M (f : Int) w hMl.out hf)
        have hZz := Lib.hid (fun w => dirFind_is M ⟨#[122, 122, 122]⟩ (-1) w hMl.out hAM.out.zzz)
        have hsl := Lib.hid (secD_length (standP_may (stand4_iff.1 hMs.out)))
        have hso := Lib.hid (secD_octs (standP_may (stand4_iff.1 hMs.out)))
        have hrd := Lib.hid (readDV_sec hMl.out hMs.out)
        have heq := fun w => run_eqLs M M w hMl.out hMl.out
        rw [show decide (M = M) = true from decide_eq_true rfl] at heq
        have hld := run_ldLs V.out.whole hL4.out
        unfold fv at hLay hFr hZz heq hld
        have t0 : (0 : Int) ≤ (t : Int) := by omega
        have t4 : (t : Int) < 4 := by omega
        have ff : decide ((f : Int) < 0) = false := decide_eq_false (by omega)
        have fg : decide (t < f) = false := decide_eq_false (by omega)
        clear hM hf hft
        have tk1 : True := trivial
        have tk2 : True := trivial
        go_wp2_with (first
          | (go_at_call 25; refine (hlw.out _).mono ?_; rintro e w2 ⟨rfl, rfl⟩)
          | (go_at_call 10; refine (hLay.out _).mono ?_; rintro e w4 ⟨g1, rfl, hg1, hr1, hb4⟩; have K4 := Lib.hid (K3.out.on hb4); have R4 := Lib.hid (show Row w4 g1 (secD M) from hr1); clear hb4 hr1)
          | (go_at_call 12; refine (dirRead_any _ _ 128 (secD M) _ hsl.out hso.out (by omega) R4.out.bat).mono ?_; rw [hrd.out]; unfold fv; rintro e w5 ⟨rfl, hb5⟩; have K5 := Lib.hid (K4.out.on hb5); clear hb5)
          | (go_at_call 21; refine (hFr.out _).mono ?_; rintro e w7 ⟨rfl, hb7⟩; have K7 := Lib.hid (KF.out.on hb7); clear KF; have KF := Lib.hid K7.out; clear K7 hldF; have hldF := run_ldLs KF.out.2.1.whole hMl.out; unfold fv at hldF; clear hb7)
          | (clear tk1; refine wpList_alloc_slots rfl rfl ?_; intro G2 w3 hv3 hG3 hb3; have hst3 := run_stLs (w := w3) hL4.out (hv3.out.there (o := 0) (n := 12) (by rw [fc_z4]; omega)); have W3 := hv3.out.over (m := fc L) (by rw [fc_length, hL4.out, fc_z4]); have hst4 := run_stL (w := w3.setCells G2 0 (fc L)) (s := s0) (W3.there (o := t * 3) (n := 3) (by rw [fc_length, hL4.out]; omega)); have W4 := W3.put (sc s0) (t * 3) (by rw [fc_length, hL4.out, sc_length]; omega); rw [fc_put _ (by rw [hL4.out]; exact ht4), hM'.out] at W4; have Lb := below_setCells (below_setCells ((Below.refl wr.heap.size wr).trans hb3) hG3 0 (fc L)) hG3 (t * 3) (sc s0); have K3 := Lib.hid (show TkAt L M G G2 w ((w3.setCells G2 0 (fc L)).setCells G2 (t * 3) (sc s0)) from ⟨V.out.on' Lb, W4, below_two B.out Lb⟩); have hld3 := run_ldLs K3.out.2.1.whole hMl.out; unfold fv at hst3 hld3; unfold sv at hst4; clear hb3 W3 W4 Lb)
          | (clear tk2; refine wpList_alloc_slots rfl rfl ?_; intro G3 w6 hv6 hG6 hb6; have hst6 := run_stLs (w := w6) hMl.out (hv6.out.there (o := 0) (n := 12) (by rw [fc_z4]; omega)); have hbb := below_setCells ((Below.refl w5.heap.size w5).trans hb6) hG6 0 (fc M); have KF := Lib.hid (K5.out.on hbb); have hldX := run_ldLs (hv6.out.over (m := fc M) (by rw [fc_length, hMl.out, fc_z4])).whole hMl.out; have hldF := run_ldLs KF.out.2.1.whole hMl.out; unfold fv at hst6 hldX hldF; clear hb6 hbb))
        go_loopw [12] (fun i wr => ∃ k : Nat, k ≤ 4 ∧ i = .int .i64 k ∧ TkAt L M G G2 w wr) (fun i _ => 4 - (intOf i).toNat)
        case atStart => exact ⟨0, by omega, rfl, KF.out⟩
        case round =>
          obtain ⟨j, hj, rfl, hK⟩ := hrel
          have KJ := Lib.hid hK
          clear hK hldF
          by_cases hj4 : j < 4
          · have hc := fc_cells (L := L) (k := j) (by rw [hL4.out]; exact hj4)
            have hfi := Lib.hid (fun h0 => hfd.out j hj4 h0)
            have hin := hA.out.2 j hj4
            obtain ⟨s, hs⟩ : ∃ s, sl L j = s := ⟨_, rfl⟩
            rw [hs] at hc hfi hin
            have hc' := Lib.hid hc
            clear hs hc
            have j0 : (0 : Int) ≤ (j : Int) := by omega
            have j4 : (j : Int) < 4 := by omega
            have c0 := KJ.out.1.cell hc'.out.1
            rcases hin with e | e
            · have i0 : s.ino = 0 := by rw [e]; rfl
              rw [i0] at c0
              clear hfi e i0
              by_cases hjt : j = t
              · have e1 : ((j : Int) == (t : Int)) = true := by rw [hjt]; simp
                clear hjt
                go_wp2_with fail
                go_region
                go_wp2_with fail
                exact ⟨⟨j + 1, by omega, by go_num, KJ.out.on ((Below.refl _ _).drew)⟩, by simp [intOf]; omega⟩
              · have e1 : ((j : Int) == (t : Int)) = false := by rw [beq_eq_false_iff_ne]; omega
                clear hjt
                go_wp2_with fail
                go_region
                go_wp2_with fail
                exact ⟨⟨j + 1, by omega, by go_num, KJ.out.on ((Below.refl _ _).drew)⟩, by simp [intOf]; omega⟩
            · obtain ⟨h1, h0⟩ := e.may hj4
              have i1 : 0 < s.ino := by have := mayS_ino h1; omega
              have hfz := hfi.out h0
              have hS := Lib.hid (fun (w' : World) (h : TkAt L M G G2 w w') => (show w'.cell? ⟨G, j * 3, none⟩ = some (.int .i64 s.ino) ∧ w'.cell? ⟨G, j * 3 + 2, none⟩ = some (.string s.name) ∧ (ldA 24 (.pointer (some ⟨G2, 0, none⟩))).run Try.prog w' = .ok (.agg (fc M).toArray) w' from ⟨h.1.cell hc'.out.1, h.1.cell hc'.out.2.2, run_ldLs h.2.1.whole hMl.out⟩))
              obtain ⟨e0, e1, e2⟩ := hS.out _ (KJ.out.on ((Below.refl _ _).drew))
              clear hfi e h1 h0 c0
              by_cases hjt : j = t
              · rw [if_pos hjt] at hfz
                have hF := Lib.hid (fun w => dirFind_is M s.name (-1) w hMl.out hfz)
                unfold fv at hF
                have e3 : ((j : Int) == (t : Int)) = true := by rw [hjt]; simp
                clear hjt hfz
                go_wp2_with fail
                go_region_held3 (fun w' => w'.cell? ⟨G, j * 3, none⟩ = some (.int .i64 s.ino) ∧ w'.cell? ⟨G, j * 3 + 2, none⟩ = some (.string s.name) ∧ (ldA 24 (.pointer (some ⟨G2, 0, none⟩))).run Try.prog w' = .ok (.agg (fc M).toArray) w') (first | exact ⟨e0, e1, e2⟩ | exact ⟨f0, f1, f2⟩) (first
                  | (go_at_call 19; refine (hF.out _).mono ?_; rintro e w8 ⟨rfl, hb8⟩; have K8 := Lib.hid (KJ.out.on ((Below.refl _ _).drew.trans hb8)); obtain ⟨f0, f1, f2⟩ := hS.out _ K8.out; clear hb8))
                go_wp2_with fail
                exact ⟨⟨j + 1, by omega, by go_num, K8.out⟩, by simp [intOf]; omega⟩
              · rw [if_neg hjt] at hfz
                have hF := Lib.hid (fun w => dirFind_is M s.name (j : Int) w hMl.out hfz)
                unfold fv at hF
                have e3 : ((j : Int) == (t : Int)) = false := by rw [beq_eq_false_iff_ne]; omega
                clear hjt hfz
                go_wp2_with fail
                go_region_held3 (fun w' => w'.cell? ⟨G, j * 3, none⟩ = some (.int .i64 s.ino) ∧ w'.cell? ⟨G, j * 3 + 2, none⟩ = some (.string s.name) ∧ (ldA 24 (.pointer (some ⟨G2, 0, none⟩))).run Try.prog w' = .ok (.agg (fc M).toArray) w') (first | exact ⟨e0, e1, e2⟩ | exact ⟨f0, f1, f2⟩) (first
                  | (go_at_call 19; refine (hF.out _).mono ?_; rintro e w8 ⟨rfl, hb8⟩; have K8 := Lib.hid (KJ.out.on ((Below.refl _ _).drew.trans hb8)); obtain ⟨f0, f1, f2⟩ := hS.out _ K8.out; clear hb8))
                go_wp2_with fail
                exact ⟨⟨j + 1, by omega, by go_num, K8.out⟩, by simp [intOf]; omega⟩
          · have hldE := run_ldLs KJ.out.2.1.whole hMl.out
            unfold fv at hldE
            go_wp2_with (first
              | (go_at_call 19; refine (hZz.out _).mono ?_; rintro e w9 ⟨rfl, hb9⟩; have B9 := Lib.hid (below_two KJ.out.2.2 hb9); clear hb9)
              | (go_at_call 8; refine (dirAwake_any _).mono ?_; rintro e w10 ⟨rfl, hb10⟩; have B10 := Lib.hid (below_two B9.out hb10); clear hb10))
            go_ret
            exact ⟨rfl, B10.out⟩
    · have hk4' : ¬ (k : Int) < 4 := by omega
      obtain ⟨M, hM⟩ : ∃ M, L.set t s0 = M := ⟨_, rfl⟩
      have hL4 := Lib.hid hA.out.1
      have hMl := Lib.hid (show M.length = 4 by rw [← hM, List.length_set]; exact hA.out.1)
      have hAM := Lib.hid (show AllT M by rw [← hM]; exact hA.out.set ht4 (.inl rfl))
      have hMs := Lib.hid hAM.out.stand
      obtain ⟨f, hf, hft⟩ := hA.out.free ht4 hM
      have hfd := Lib.hid (fun (k : Nat) (hk : k < 4) (h0 : (sl L k).ino ≠ 0) => hA.out.find ht4 hM hk h0)
      have hM' := Lib.hid hM
      have hLay := Lib.hid (fun w => dirLay_ok M w hMl.out hMs.out)
      have hFr := Lib.hid (fun w => dirFree_is M (f : Int) w hMl.out hf)
      have hZz := Lib.hid (fun w => dirFind_is M ⟨#[122, 122, 122]⟩ (-1) w hMl.out hAM.out.zzz)
      have hsl := Lib.hid (secD_length (standP_may (stand4_iff.1 hMs.out)))
      have hso := Lib.hid (secD_octs (standP_may (stand4_iff.1 hMs.out)))
      have hrd := Lib.hid (readDV_sec hMl.out hMs.out)
      have heq := fun w => run_eqLs M M w hMl.out hMl.out
      rw [show decide (M = M) = true from decide_eq_true rfl] at heq
      have hld := run_ldLs V.out.whole hL4.out
      unfold fv at hLay hFr hZz heq hld
      have t0 : (0 : Int) ≤ (t : Int) := by omega
      have t4 : (t : Int) < 4 := by omega
      have ff : decide ((f : Int) < 0) = false := decide_eq_false (by omega)
      have fg : decide (t < f) = false := decide_eq_false (by omega)
      clear hM hf hft
      have tk1 : True := trivial
      have tk2 : True := trivial
      go_wp2_with (first
        | (go_at_call 25; refine (hlw.out _).mono ?_; rintro e w2 ⟨rfl, rfl⟩)
        | (go_at_call 10; refine (hLay.out _).mono ?_; rintro e w4 ⟨g1, rfl, hg1, hr1, hb4⟩; have K4 := Lib.hid (K3.out.on hb4); have R4 := Lib.hid (show Row w4 g1 (secD M) from hr1); clear hb4 hr1)
        | (go_at_call 12; refine (dirRead_any _ _ 128 (secD M) _ hsl.out hso.out (by omega) R4.out.bat).mono ?_; rw [hrd.out]; unfold fv; rintro e w5 ⟨rfl, hb5⟩; have K5 := Lib.hid (K4.out.on hb5); clear hb5)
        | (go_at_call 21; refine (hFr.out _).mono ?_; rintro e w7 ⟨rfl, hb7⟩; have K7 := Lib.hid (KF.out.on hb7); clear KF; have KF := Lib.hid K7.out; clear K7 hldF; have hldF := run_ldLs KF.out.2.1.whole hMl.out; unfold fv at hldF; clear hb7)
        | (clear tk1; refine wpList_alloc_slots rfl rfl ?_; intro G2 w3 hv3 hG3 hb3; have hst3 := run_stLs (w := w3) hL4.out (hv3.out.there (o := 0) (n := 12) (by rw [fc_z4]; omega)); have W3 := hv3.out.over (m := fc L) (by rw [fc_length, hL4.out, fc_z4]); have hst4 := run_stL (w := w3.setCells G2 0 (fc L)) (s := s0) (W3.there (o := t * 3) (n := 3) (by rw [fc_length, hL4.out]; omega)); have W4 := W3.put (sc s0) (t * 3) (by rw [fc_length, hL4.out, sc_length]; omega); rw [fc_put _ (by rw [hL4.out]; exact ht4), hM'.out] at W4; have Lb := below_setCells (below_setCells ((Below.refl wr.heap.size wr).trans hb3) hG3 0 (fc L)) hG3 (t * 3) (sc s0); have K3 := Lib.hid (show TkAt L M G G2 w ((w3.setCells G2 0 (fc L)).setCells G2 (t * 3) (sc s0)) from ⟨V.out.on' Lb, W4, below_two B.out Lb⟩); have hld3 := run_ldLs K3.out.2.1.whole hMl.out; unfold fv at hst3 hld3; unfold sv at hst4; clear hb3 W3 W4 Lb)
        | (clear tk2; refine wpList_alloc_slots rfl rfl ?_; intro G3 w6 hv6 hG6 hb6; have hst6 := run_stLs (w := w6) hMl.out (hv6.out.there (o := 0) (n := 12) (by rw [fc_z4]; omega)); have hbb := below_setCells ((Below.refl w5.heap.size w5).trans hb6) hG6 0 (fc M); have KF := Lib.hid (K5.out.on hbb); have hldX := run_ldLs (hv6.out.over (m := fc M) (by rw [fc_length, hMl.out, fc_z4])).whole hMl.out; have hldF := run_ldLs KF.out.2.1.whole hMl.out; unfold fv at hst6 hldX hldF; clear hb6 hbb))
      go_loopw [12] (fun i wr => ∃ k : Nat, k ≤ 4 ∧ i = .int .i64 k ∧ TkAt L M G G2 w wr) (fun i _ => 4 - (intOf i).toNat)
      case atStart => exact ⟨0, by omega, rfl, KF.out⟩
      case round =>
        obtain ⟨j, hj, rfl, hK⟩ := hrel
        have KJ := Lib.hid hK
        clear hK hldF
        by_cases hj4 : j < 4
        · have hc := fc_cells (L := L) (k := j) (by rw [hL4.out]; exact hj4)
          have hfi := Lib.hid (fun h0 => hfd.out j hj4 h0)
          have hin := hA.out.2 j hj4
          obtain ⟨s, hs⟩ : ∃ s, sl L j = s := ⟨_, rfl⟩
          rw [hs] at hc hfi hin
          have hc' := Lib.hid hc
          clear hs hc
          have j0 : (0 : Int) ≤ (j : Int) := by omega
          have j4 : (j : Int) < 4 := by omega
          have c0 := KJ.out.1.cell hc'.out.1
          rcases hin with e | e
          · have i0 : s.ino = 0 := by rw [e]; rfl
            rw [i0] at c0
            clear hfi e i0
            by_cases hjt : j = t
            · have e1 : ((j : Int) == (t : Int)) = true := by rw [hjt]; simp
              clear hjt
              go_wp2_with fail
              go_region
              go_wp2_with fail
              exact ⟨⟨j + 1, by omega, by go_num, KJ.out.on ((Below.refl _ _).drew)⟩, by simp [intOf]; omega⟩
            · have e1 : ((j : Int) == (t : Int)) = false := by rw [beq_eq_false_iff_ne]; omega
              clear hjt
              go_wp2_with fail
              go_region
              go_wp2_with fail
              exact ⟨⟨j + 1, by omega, by go_num, KJ.out.on ((Below.refl _ _).drew)⟩, by simp [intOf]; omega⟩
          · obtain ⟨h1, h0⟩ := e.may hj4
            have i1 : 0 < s.ino := by have := mayS_ino h1; omega
            have hfz := hfi.out h0
            have hS := Lib.hid (fun (w' : World) (h : TkAt L M G G2 w w') => (show w'.cell? ⟨G, j * 3, none⟩ = some (.int .i64 s.ino) ∧ w'.cell? ⟨G, j * 3 + 2, none⟩ = some (.string s.name) ∧ (ldA 24 (.pointer (some ⟨G2, 0, none⟩))).run Try.prog w' = .ok (.agg (fc M).toArray) w' from ⟨h.1.cell hc'.out.1, h.1.cell hc'.out.2.2, run_ldLs h.2.1.whole hMl.out⟩))
            obtain ⟨e0, e1, e2⟩ := hS.out _ (KJ.out.on ((Below.refl _ _).drew))
            clear hfi e h1 h0 c0
            by_cases hjt : j = t
            · rw [if_pos hjt] at hfz
              have hF := Lib.hid (fun w => dirFind_is M s.name (-1) w hMl.out hfz)
              unfold fv at hF
              have e3 : ((j : Int) == (t : Int)) = true := by rw [hjt]; simp
              clear hjt hfz
              go_wp2_with fail
              go_region_held3 (fun w' => w'.cell? ⟨G, j * 3, none⟩ = some (.int .i64 s.ino) ∧ w'.cell? ⟨G, j * 3 + 2, none⟩ = some (.string s.name) ∧ (ldA 24 (.pointer (some ⟨G2, 0, none⟩))).run Try.prog w' = .ok (.agg (fc M).toArray) w') (first | exact ⟨e0, e1, e2⟩ | exact ⟨f0, f1, f2⟩) (first
                | (go_at_call 19; refine (hF.out _).mono ?_; rintro e w8 ⟨rfl, hb8⟩; have K8 := Lib.hid (KJ.out.on ((Below.refl _ _).drew.trans hb8)); obtain ⟨f0, f1, f2⟩ := hS.out _ K8.out; clear hb8))
              go_wp2_with fail
              exact ⟨⟨j + 1, by omega, by go_num, K8.out⟩, by simp [intOf]; omega⟩
            · rw [if_neg hjt] at hfz
              have hF := Lib.hid (fun w => dirFind_is M s.name (j : Int) w hMl.out hfz)
              unfold fv at hF
              have e3 : ((j : Int) == (t : Int)) = false := by rw [beq_eq_false_iff_ne]; omega
              clear hjt hfz
              go_wp2_with fail
              go_region_held3 (fun w' => w'.cell? ⟨G, j * 3, none⟩ = some (.int .i64 s.ino) ∧ w'.cell? ⟨G, j * 3 + 2, none⟩ = some (.string s.name) ∧ (ldA 24 (.pointer (some ⟨G2, 0, none⟩))).run Try.prog w' = .ok (.agg (fc M).toArray) w') (first | exact ⟨e0, e1, e2⟩ | exact ⟨f0, f1, f2⟩) (first
                | (go_at_call 19; refine (hF.out _).mono ?_; rintro e w8 ⟨rfl, hb8⟩; have K8 := Lib.hid (KJ.out.on ((Below.refl _ _).drew.trans hb8)); obtain ⟨f0, f1, f2⟩ := hS.out _ K8.out; clear hb8))
              go_wp2_with fail
              exact ⟨⟨j + 1, by omega, by go_num, K8.out⟩, by simp [intOf]; omega⟩
        · have hldE := run_ldLs KJ.out.2.1.whole hMl.out
          unfold fv at hldE
          go_wp2_with (first
            | (go_at_call 19; refine (hZz.out _).mono ?_; rintro e w9 ⟨rfl, hb9⟩; have B9 := Lib.hid (below_two KJ.out.2.2 hb9); clear hb9)
            | (go_at_call 8; refine (dirAwake_any _).mono ?_; rintro e w10 ⟨rfl, hb10⟩; have B10 := Lib.hid (below_two B9.out hb10); clear hb10))
          go_ret
          exact ⟨rfl, B10.out⟩
end Go.Proofs.Ytpogaognobgfhaa
