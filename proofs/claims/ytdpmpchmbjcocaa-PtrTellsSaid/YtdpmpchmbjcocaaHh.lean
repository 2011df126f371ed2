/-
  What the document's own Read tells.
-/
import Derived.Test.YtdpmpchmbjcocaaHe
import Derived.Test.YtdpmpchmbjcocaaHg
import Derived.Test.YtdpmpchmbjcocaaYo
namespace Go.Proofs.Ytdpmpchmbjcocaa
open Go.RowKit BigFrame

attribute [local go_sem ↓] ldT_of stT_of bdT_of
set_option maxRecDepth 100000 in
set_option maxHeartbeats 1000000 in
theorem refPtrRead_bad (a : Option Addr) (cap n : Nat) (l : List Nat) (w : World) (hn : l.length = n) (hk : kindOf l ≠ 80) (ho : Octs l) (hc : n ≤ cap) (hx : BAt w a l) :
    Calls Try.prog 10 #[.slice a n cap] w (Tells (readPV l) w) := by
  have hv := Lib.hid (show readPV l = .tuple #[av (zz 12), .int .i64 3] by unfold readPV; rw [readP_no (fineP_kind hk)])
  have hx' := Lib.hid hx
  have ho' := Lib.hid ho
  have hn' := Lib.hid hn
  have hk' := Lib.hid hk
  obtain ⟨Z, hZ⟩ : ∃ Z, zz 12 = Z := ⟨_, rfl⟩
  have hZl := Lib.hid (show Z.length = 12 by rw [← hZ]; rfl)
  rw [hZ] at hv
  have hZ' := Lib.hid hZ
  clear hx ho hn hk hZ
  go_enter Try.func10, Try.ntmps10
  have tk0 : True := trivial
  go_wp2_with (first
    | (clear tk0; refine wpList_alloc_tw rfl rfl ?_; intro g1 w1 hv1 hg1 hb1; rw [hZ'.out] at hv1; have hB1 := Lib.hid hb1; have hx1 := Lib.hid (hx'.out.on hb1 (Nat.le_refl _)); clear hb1)
    | (refine wpList_alloc_tw rfl rfl ?_; intro g4 w2 hv4 hg4 hb2; rw [hZ'.out] at hv4; have hv1b := Lib.hid (hv1.out.on' hb2); have hB2 := Lib.hid (below_two hB1.out hb2); have hx2 := Lib.hid (hx1.out.on hb2 (Nat.le_refl _)); clear hb2)
    | (go_at_call 24; refine (refOpen_bad 80 (kindOf l) _ _ n l _ hn'.out rfl (.inr hk'.out) ho'.out hc hx2.out).mono ?_; rintro e w3 ⟨rfl, hb3⟩; have hv5 := Lib.hid (hv1b.out.on' hb3); have hv6 := Lib.hid (hv4.out.on' hb3); have hB3 := Lib.hid (below_two hB2.out hb3); have hld := run_ldT hv6.out.whole hZl.out; have hst := run_stT (w := w3) hZl.out (hv5.out.there (o := 0) (n := 12) (by rw [hZl.out]; omega)); unfold av at hst hld; clear hb3))
  refine bodyPost_ret (tw_ret rfl rfl (hv5.out.over (m := Z) rfl) hZl.out) rfl ⟨by rw [hv.out]; rfl, below_setCells hB3.out hg1 0 _⟩

/-- what is told so far, in block G; the result's block; the body's bytes -/
def RsAt (m : List Nat) (k G g2 g1 : Nat) (w wr : World) : Prop :=
  Vi wr 22 G (tlP m k ++ zz (12 - k)) ∧ Vi wr 22 g2 (zz 12) ∧ BAt wr (some ⟨g1, 0, none⟩) m ∧ Below w.heap.size w wr ∧ g2 < G ∧ G < g1 ∧ w.heap.size ≤ g2
theorem RsAt.on {m : List Nat} {k G g2 g1 : Nat} {w wr wx : World} (h : RsAt m k G g2 g1 w wr) (hb : Below wr.heap.size wr wx) : RsAt m k G g2 g1 w wx := by
  obtain ⟨h1, h2, h3, h4, h5⟩ := h
  exact ⟨h1.on' hb, h2.on' hb, h3.on hb (Nat.le_refl _), below_two h4 hb, h5⟩
theorem RsAt.put {m : List Nat} {k G g2 g1 : Nat} {w wr : World} (h : RsAt m k G g2 g1 w wr) (hk : k < 12) (x : Int) (hx : pt m k = x) : RsAt m (k + 1) G g2 g1 w (wr.setCell ⟨G, k, none⟩ (.int .i64 x)) := by
  obtain ⟨h1, h2, h3, h4, h5, h6, h7⟩ := h
  have ho := (Oth.refl G wr).setCell (p := k) (.int .i64 x)
  have hp := Vi.set h1 k x
  rw [tlP_set m hk x hx] at hp
  exact ⟨hp, h2.oth ho (by omega), h3.oth ho (by omega), below_set h4 (by omega) _ _, h5, h6, h7⟩
def RsRel (m : List Nat) (G g2 g1 : Nat) (w : World) (i : Value) (wr : World) : Prop := ∃ k : Nat, k ≤ 12 ∧ i = .int .i64 k ∧ RsAt m k G g2 g1 w wr
theorem pt_two {m : List Nat} {k : Nat} (h : k * 2 + 1 < m.length) : pt m k = ((bz m (k * 2) * 256 + bz m (k * 2 + 1) : Nat) : Int) := by
  unfold pt
  have e : (m.drop (k * 2)).take 2 = [bz m (k * 2), bz m (k * 2 + 1)] := by
    rw [List.drop_eq_getElem_cons (by omega), List.drop_eq_getElem_cons h, bz_get (by omega), bz_get h]
    rfl
  rw [e]
  simp [rdN]

set_option maxRecDepth 100000 in
set_option maxHeartbeats 2000000 in
theorem refPtrRead_good (a : Option Addr) (cap n : Nat) (l : List Nat) (w : World) (hn : l.length = n) (hk : kindOf l = 80) (ho : Octs l) (hc : n ≤ cap) (hx : BAt w a l) :
    Calls Try.prog 10 #[.slice a n cap] w (Tells (readPV l) w) := by
  have hfs := Lib.hid (blank_sector ho hk)
  obtain ⟨m, hme⟩ : ∃ m, m = bodyOf l := ⟨_, rfl⟩
  have hml := Lib.hid (show m.length = 123 by rw [hme]; exact bodyOf_length (kindOf_len (by omega)))
  have hmo := Lib.hid (show Octs m by rw [hme]; exact (ho.drop 1).take 123)
  obtain ⟨Z, hZ⟩ : ∃ Z, zz 12 = Z := ⟨_, rfl⟩
  have hZl := Lib.hid (show Z.length = 12 by rw [← hZ]; rfl)
  have hno := Lib.hid (show ¬ blanked (m.drop 24) = true → readPV l = .tuple #[av Z, .int .i64 3] from fun h => by unfold readPV; rw [readP_no (by rw [fineP_blank hk, ← hme]; simpa using h), hZ])
  have hyes := Lib.hid (show blanked (m.drop 24) = true → readPV l = .tuple #[av (tlP m 12), .int .i64 0] from fun h => by unfold readPV; rw [readP_yes (by rw [fineP_blank hk, ← hme]; exact h), ← hme])
  rw [← hme] at hfs
  have hme' := Lib.hid hme
  have hx' := Lib.hid hx
  have ho' := Lib.hid ho
  have hn' := Lib.hid hn
  have hk' := Lib.hid hk
  have hZ' := Lib.hid hZ
  have hbz := run_bd0T
  rw [hZ] at hbz
  unfold av at hbz
  obtain ⟨V, hV⟩ : ∃ V, readPV l = V := ⟨_, rfl⟩
  rw [hV] at hno hyes ⊢
  clear hx ho hn hk hZ hme hV
  go_enter Try.func10, Try.ntmps10
  have tk0 : True := trivial
  go_wp2_with (first
    | (clear tk0; refine wpList_alloc_tw rfl rfl ?_; intro g2 w1 hv1 hg2 hb1; have hB1 := Lib.hid hb1; have hx1 := Lib.hid (hx'.out.on hb1 (Nat.le_refl _)); clear hb1)
    | (refine wpList_alloc_tw rfl rfl ?_; intro G w2 hv4 hg4 hb2; have hv1b := Lib.hid (hv1.out.on' hb2); have hB2 := Lib.hid (below_two hB1.out hb2); have hx2 := Lib.hid (hx1.out.on hb2 (Nat.le_refl _)); have h2G := Lib.hid (Nat.lt_of_lt_of_le hv1.out.lt hg4); clear hb2)
    | (go_at_call 24; refine (refOpen_good 80 _ _ n l _ hn'.out (by decide) hk'.out ho'.out hc hx2.out).mono ?_; rintro e w3 ⟨g1, cp1, rfl, hg1, hr1, hb3⟩; rw [← hme'.out] at hr1; have S0 := Lib.hid (show RsAt m 0 G g2 g1 w w3 from ⟨hv4.out.on' hb3, hv1b.out.on' hb3, hr1, below_two hB2.out hb3, h2G.out, Nat.lt_of_lt_of_le hv4.out.lt hg1, hg2⟩); clear hb3 hr1))
  go_loopw [7] (fun i wr => RsRel m G g2 g1 w i wr) (fun i _ => 12 - (intOf i).toNat)
  case atStart => exact ⟨0, by omega, rfl, S0.out⟩
  case round =>
    obtain ⟨k, hk4, rfl, hS0⟩ := hrel
    have S := Lib.hid hS0
    clear hS0
    by_cases hlt : k < 12
    · obtain ⟨q, hq⟩ : ∃ q, k * 2 = q := ⟨_, rfl⟩
      obtain ⟨r, hr⟩ : ∃ r, q + 1 = r := ⟨_, rfl⟩
      have m1 : (2 : Int) * (k : Int) = (q : Int) := by omega
      have m2 : (q : Int) + 1 = (r : Int) := by omega
      have m3 : IntKind.i64.wrap (q : Int) = (q : Int) := wrap_in (by omega)
      have m4 : IntKind.i64.wrap (r : Int) = (r : Int) := wrap_in (by omega)
      have p1 : (0 : Int) ≤ (q : Int) := by omega
      have p2 : (q : Int) < (123 : Int) := by omega
      have p3 : (0 : Int) ≤ (r : Int) := by omega
      have p4 : (r : Int) < (123 : Int) := by omega
      have k0 : (0 : Int) ≤ (k : Int) := by omega
      have k12 : (k : Int) < 12 := by omega
      have b0 := S.out.2.2.1.cell (k := q) (by rw [hml.out]; omega)
      have b1 := S.out.2.2.1.cell (k := r) (by rw [hml.out]; omega)
      have h0 := hmo.out q (by rw [hml.out]; omega)
      have h1 := hmo.out r (by rw [hml.out]; omega)
      have hv := Lib.hid (pt_two (m := m) (k := k) (by rw [hml.out]; omega))
      rw [hq, hr] at hv
      obtain ⟨x, hxx⟩ : ∃ x, bz m q = x := ⟨_, rfl⟩
      obtain ⟨y, hyy⟩ : ∃ y, bz m r = y := ⟨_, rfl⟩
      rw [hxx, hyy] at hv
      rw [Nat.zero_add, hxx] at b0
      rw [Nat.zero_add, hyy] at b1
      rw [hxx] at h0
      rw [hyy] at h1
      have hj := Lib.hid (i64_join 8 (x * 256) y (by omega) (by omega) (by omega) (by omega))
      have hend := Lib.hid (fun z hz => S.out.put hlt z hz)
      have c0 := S.out.1.cell (k := k) (by rw [tlP_len12 m hk4]; omega)
      have f0 := S.out.1.frozen k
      have hqr := Lib.hid hq
      clear hq hr hxx hyy
      go_wp2_with fail
      go_region
      have e8 : bits .or .i64 ((x : Int) * 256) (y : Int) = pt m k := by rw [hv.out, ← hj.out, show ((x * 256 : Nat) : Int) = (x : Int) * 256 by omega]
      have S5 := Lib.hid (hend.out (bits .or .i64 ((x : Int) * 256) (y : Int)) e8.symm)
      clear b0 b1 c0 f0 e8
      go_wp2_with fail
      exact ⟨⟨k + 1, by omega, by go_num, S5.out.on ((Below.refl _ _).drew)⟩, by simp [intOf]; omega⟩
    · obtain rfl : k = 12 := by omega
      obtain ⟨F, hF⟩ : ∃ F, tlP m 12 = F := ⟨_, rfl⟩
      have hFl := Lib.hid (show F.length = 12 by rw [← hF]; exact tlP_length m 12)
      have hFm := Lib.hid (show may12 F = true by rw [← hF]; exact may12_iff.2 (mayP_tl hmo.out 12))
      have hSV := S.out.1
      have e4 : tlP m 12 ++ zz (12 - 12) = F := by rw [← hF]; exact List.append_nil _
      rw [e4] at hSV
      have hSF := Lib.hid hSV
      rw [hF] at hfs hyes
      clear hF hSV e4
      have hld := run_ldT hSF.out.whole hFl.out
      have hQ := Lib.hid (fun w => refPtrLay_ok F w hFl.out hFm.out)
      unfold av at hld hQ
      have hsl := Lib.hid (sec12_length F)
      have hso := Lib.hid (sec12_octs F)
      by_cases he : sec12 F = l
      · have hv := Lib.hid (hyes.out (hfs.out.2 he))
        have he' := Lib.hid he
        clear he
        go_wp2_with (go_at_call 8; refine (hQ.out _).mono ?_; rintro e w10 ⟨g5, cp5, rfl, hg5, hcp5, hr5, hb⟩; have S6 := Lib.hid (S.out.on hb); have F6 := Lib.hid (hSF.out.on' hb); have hst := run_stT (w := w10) hFl.out (S6.out.2.1.there (o := 0) (n := 12) (by rw [zz_length]; omega)); have hld2 := run_ldT F6.out.whole hFl.out; unfold av at hst hld2; have q1 := run_string (cap := cp5) hsl.out hso.out hr5; have q2 := run_string (cap := cap) hn'.out ho'.out (hx'.out.on S6.out.2.2.2.1 (Nat.le_refl _)); rw [he'.out] at q1; have hs0 : ((strOf l).toList == (strOf l).toList) = true := (beq_self_eq_true _); clear hb hr5)
        refine bodyPost_ret (tw_ret rfl rfl (S6.out.2.1.over (m := F) (by rw [hFl.out, zz_length])) hFl.out) rfl ⟨by rw [hv.out]; rfl, below_setCells S6.out.2.2.2.1 S6.out.2.2.2.2.2.2 0 _⟩
      · have hv := Lib.hid (hno.out (fun h => he (hfs.out.1 h)))
        have hs0 := strOf_ne hso.out ho'.out he
        clear he
        go_wp2_with (go_at_call 8; refine (hQ.out _).mono ?_; rintro e w10 ⟨g5, cp5, rfl, hg5, hcp5, hr5, hb⟩; have S6 := Lib.hid (S.out.on hb); have hst := run_stT (w := w10) hZl.out (S6.out.2.1.there (o := 0) (n := 12) (by rw [zz_length]; omega)); unfold av at hst; have q1 := run_string (cap := cp5) hsl.out hso.out hr5; have q2 := run_string (cap := cap) hn'.out ho'.out (hx'.out.on S6.out.2.2.2.1 (Nat.le_refl _)); clear hb hr5)
        refine bodyPost_ret (tw_ret rfl rfl (S6.out.2.1.over (m := Z) (by rw [hZl.out, zz_length])) hZl.out) rfl ⟨by rw [hv.out]; rfl, below_setCells S6.out.2.2.2.1 S6.out.2.2.2.2.2.2 0 _⟩
theorem refPtrRead_any (a : Option Addr) (cap n : Nat) (l : List Nat) (w : World) (hn : l.length = n) (ho : Octs l) (hc : n ≤ cap) (hx : BAt w a l) :
    Calls Try.prog 10 #[.slice a n cap] w (Tells (readPV l) w) := by
  by_cases hk : kindOf l = 80
  · exact refPtrRead_good a cap n l w hn hk ho hc hx
  · exact refPtrRead_bad a cap n l w hn hk ho hc hx
end Go.Proofs.Ytdpmpchmbjcocaa
