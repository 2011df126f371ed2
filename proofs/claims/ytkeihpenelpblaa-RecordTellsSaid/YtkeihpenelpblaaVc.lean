/-
  May a record be? Where a number's bytes stand in a body.
-/
import Derived.Test.YtkeihpenelpblaaVb
import Derived.Test.YtkeihpenelpblaaEb
import Derived.Test.YtkeihpenelpblaaPn
import Derived.Deep.RegionHeld3
import Derived.Deep.LoopGhost
namespace Go.Proofs.Ytkeihpenelpblaa
open Go.RowKit BigFrame

theorem number_any (g off n cap k : Nat) (w : World) (hk : k * 2 + 3 ≤ cap) (hk2 : k ≤ 1000) :
    Calls Try.prog 19 #[.slice (some ⟨g, off, none⟩) n cap, .int .i64 (k : Int)] w fun e w' => (∃ c, 2 ≤ c ∧ e = .returned (.slice (some ⟨g, off + (1 + k * 2), none⟩) 2 c)) ∧ w = w' := by
  obtain ⟨p, hp⟩ : ∃ p, k * 2 = p := ⟨_, rfl⟩
  have e0 : (k : Int) * 2 = (p : Int) := by omega
  obtain ⟨q, hq⟩ : ∃ q, 1 + p = q := ⟨_, rfl⟩
  have e1 : 1 + (p : Int) = (q : Int) := by omega
  have hne : ¬ cap = q := by omega
  have p1 : (0 : Int) ≤ (q : Int) := by omega
  obtain ⟨r, hr⟩ : ∃ r, q + 2 = r := ⟨_, rfl⟩
  have e2 : (q : Int) + 2 = (r : Int) := by omega
  have p2 : (q : Int) ≤ (r : Int) := by omega
  have p3 : (r : Int) ≤ (cap : Int) := by omega
  have hp8 : p ≤ 2000 := by omega
  have hq8 : q ≤ 2001 := by omega
  have hr' := Lib.hid hr
  rw [hp, hq]
  have hcap : q + 2 ≤ cap := by omega
  have hq' := Lib.hid hq
  have hp' := Lib.hid hp
  clear hq hr hk hp
  go_enter Try.func19, Try.ntmps19
  go_wp2_with fail
  go_ret
  exact ⟨⟨cap - q, by omega, by show Ending.returned (.slice (some ⟨g, off + q, none⟩) (r - q) (cap - q)) = _; rw [← hr'.out, Nat.add_sub_cancel_left]⟩, rfl⟩

attribute [local go_sem ↓] ldR_of ldN_of stN_of bdN_of ixN_of stR_of bdR_of eqR_of
/-- its numbers -/
theorem numbers_any (r : Rcd) (w : World) :
    Calls Try.prog 17 #[rv r] w fun e w' => e = .returned (av (numR r)) ∧ Below w.heap.size w w' := by
  have hV := Lib.hid (Vw.alloc w (rc r) 23)
  have hb0 := Lib.hid ((Below.refl w.heap.size w).alloc (Nat.le_refl _) (.cells (rc r).toArray 23))
  obtain ⟨L, hL⟩ : ∃ L, numR r = L := ⟨_, rfl⟩
  have hl4 : L.length = 4 := by rw [← hL]; rfl
  have hbd := fun (w : World) => run_bdN w r.fr r.tt r.io r.od
  rw [show [r.fr, r.tt, r.io, r.od] = L from hL] at hbd
  rw [hL]
  obtain ⟨a, ha⟩ : ∃ a, r.fr = a := ⟨_, rfl⟩
  obtain ⟨b, hb⟩ : ∃ b, r.tt = b := ⟨_, rfl⟩
  obtain ⟨c, hc⟩ : ∃ c, r.io = c := ⟨_, rfl⟩
  obtain ⟨d, hd⟩ : ∃ d, r.od = d := ⟨_, rfl⟩
  rw [ha, hb, hc, hd] at hbd
  unfold av at hbd
  have hC := Lib.hid (fun (w' : World) (h : Vw w' 23 w.heap.size (rc r)) => (show w'.cell? ⟨w.heap.size, 1, none⟩ = some (.int .i64 a) ∧ w'.cell? ⟨w.heap.size, 2, none⟩ = some (.int .i64 b) ∧ w'.cell? ⟨w.heap.size, 3, none⟩ = some (.int .i64 c) ∧ w'.cell? ⟨w.heap.size, 4, none⟩ = some (.int .i64 d) from ⟨by rw [← ha]; exact h.cell (k := 1) rfl, by rw [← hb]; exact h.cell (k := 2) rfl, by rw [← hc]; exact h.cell (k := 3) rfl, by rw [← hd]; exact h.cell (k := 4) rfl⟩))
  clear hL ha hb hc hd
  unfold rv
  go_enter Try.func17, Try.ntmps17
  go_wp2_with (refine wpList_alloc_num rfl rfl ?_; intro g1 w1 hv1 hg1 hb1; obtain ⟨c1, c2, c3, c4⟩ := hC.out w1 (hV.out.on' hb1); have hst := run_stN (w := w1) hl4 (hv1.out.there (o := 0) (n := 4) (by rw [zz_length]; omega)); unfold av at hst; have hB1 := Lib.hid (below_setCells (below_two hb0.out hb1) (Nat.le_trans hb0.out.size hg1) 0 (iv L)); have hv2 := Lib.hid (hv1.out.over (m := L) (by rw [zz_length]; exact hl4)); clear hb1)
  refine bodyPost_ret (num_ret rfl rfl hv2.out hl4) rfl ⟨rfl, hB1.out⟩
/-- may they be? -/
def NmR (L : List Int) (w0 : World) (i : Value) (wr : World) : Prop := ∃ k : Nat, k ≤ 4 ∧ i = .int .i64 k ∧ okN L k ∧ wr = w0
theorem okN_succ {L : List Int} {k : Nat} (h : okN L k) (h1 : fitsN (zi L k) 2 = true ∧ (zi L k = 0 → k = 3)) : okN L (k + 1) := fun j hj => by
  by_cases e : j = k
  · subst e; exact h1
  · exact h j (by omega)
set_option maxHeartbeats 1000000 in
theorem numMay_any (L : List Int) (w : World) (hL : L.length = 4) :
    Calls Try.prog 27 #[av L] w fun e w' => e = .returned (.bool (numB L)) ∧ Below w.heap.size w w' := by
  have hL' := Lib.hid hL
  have hV := Lib.hid (Vi.alloc w L 39)
  have hb0 := Lib.hid ((Below.refl w.heap.size w).alloc (Nat.le_refl _) (.cells (iv L).toArray 39))
  have hld := run_ldN hV.out.whole hL
  unfold av at hld ⊢
  clear hL
  go_enter Try.func27, Try.ntmps27
  go_wp2_with fail
  obtain ⟨w0, hw0⟩ : ∃ w0, w0 = w.alloc (.cells (iv L).toArray 39) := ⟨_, rfl⟩
  rw [← hw0] at hV hb0 hld ⊢
  clear hw0
  go_loopw [6] (fun i wr => NmR L w0 i wr) (fun i _ => 4 - (intOf i).toNat)
  case atStart => exact ⟨0, by omega, rfl, fun k hk => by omega, rfl⟩
  case round =>
    obtain ⟨k, hk, rfl, hok, rfl⟩ := hrel
    have hM := Lib.hid hok
    clear hok
    by_cases hlt : k < 4
    · have hix := fun w => run_ixN w L k hlt hL'.out
      obtain ⟨x, hx⟩ : ∃ x, zi L k = x := ⟨_, rfl⟩
      rw [hx] at hix
      have hx' := Lib.hid hx
      clear hx
      unfold av at hix
      cases hm0 : fitsN x 2
      · have hno := Lib.hid (numB_no hlt (L := L) (fun h => by rw [hx'.out, hm0] at h; exact absurd h.1 (by decide)))
        have hm := Lib.hid hm0
        clear hm0
        go_wp2_with (go_at_call 38; refine (fits_is x 2 2 false _ rfl (by omega) hm.out).mono ?_; rintro e w3 ⟨rfl, rfl⟩)
        go_ret
        exact ⟨by rw [hno.out] <;> rfl, hb0.out⟩
      · have hm := Lib.hid hm0
        clear hm0
        by_cases hx0 : x = 0
        · have t1 : (x == 0) = true := by rw [beq_iff_eq]; exact hx0
          by_cases hk3 : k = 3
          · have t2 : ((k : Int) != 3) = false := by rw [hk3]; rfl
            have hs := Lib.hid (okN_succ hM.out (show fitsN (zi L k) 2 = true ∧ (zi L k = 0 → k = 3) from ⟨by rw [hx'.out]; exact hm.out, fun _ => hk3⟩))
            clear hx0 hk3
            go_wp2_with (go_at_call 38; refine (fits_is x 2 2 true _ rfl (by omega) hm.out).mono ?_; rintro e w3 ⟨rfl, rfl⟩)
            exact ⟨⟨k + 1, by omega, by go_num, hs.out, rfl⟩, by simp [intOf]; omega⟩
          · have t2 : ((k : Int) != 3) = true := by rw [bne_iff_ne]; omega
            have hno := Lib.hid (numB_no hlt (L := L) (fun h => hk3 (h.2 (by rw [hx'.out]; exact hx0))))
            clear hx0 hk3
            go_wp2_with (go_at_call 38; refine (fits_is x 2 2 true _ rfl (by omega) hm.out).mono ?_; rintro e w3 ⟨rfl, rfl⟩)
            go_ret
            exact ⟨by rw [hno.out] <;> rfl, hb0.out⟩
        · have t1 : (x == 0) = false := by rw [beq_eq_false_iff_ne]; exact hx0
          have hs := Lib.hid (okN_succ hM.out (show fitsN (zi L k) 2 = true ∧ (zi L k = 0 → k = 3) from ⟨by rw [hx'.out]; exact hm.out, fun e => absurd (hx'.out ▸ e) hx0⟩))
          clear hx0
          go_wp2_with (go_at_call 38; refine (fits_is x 2 2 true _ rfl (by omega) hm.out).mono ?_; rintro e w3 ⟨rfl, rfl⟩)
          exact ⟨⟨k + 1, by omega, by go_num, hs.out, rfl⟩, by simp [intOf]; omega⟩
    · obtain rfl : k = 4 := by omega
      have hv := Lib.hid (numB_yes hM.out)
      have c3 := hV.out.cell (k := 3) (by rw [hL'.out]; omega)
      have c2 := hV.out.cell (k := 2) (by rw [hL'.out]; omega)
      obtain ⟨x, hx⟩ : ∃ x, zi L 3 = x := ⟨_, rfl⟩
      obtain ⟨y, hy⟩ : ∃ y, zi L 2 = y := ⟨_, rfl⟩
      rw [hx] at c3
      rw [hy] at c2
      have hv2 := Lib.hid (show numB L = (x != y) by
        rw [hv.out, hx, hy]
        by_cases e : x = y
        · subst e; simp
        · rw [decide_eq_true e, bne_iff_ne.2 e])
      clear hx hy
      go_wp2_with fail
      go_ret
      exact ⟨by rw [hv2.out] <;> rfl, hb0.out⟩
set_option maxHeartbeats 1000000 in
theorem recMay_any (r : Rcd) (w : World) :
    Calls Try.prog 12 #[rv r] w fun e w' => e = .returned (.bool (mayR r)) ∧ Below w.heap.size w w' := by
  have hV := Lib.hid (Vw.alloc w (rc r) 23)
  have hb0 := Lib.hid ((Below.refl w.heap.size w).alloc (Nat.le_refl _) (.cells (rc r).toArray 23))
  have hld := run_ldR hV.out.whole
  have hbd := run_bd0R
  have heq := fun w => run_eqR r r0 w
  obtain ⟨Z, hZ⟩ : ∃ Z, r0 = Z := ⟨_, rfl⟩
  rw [hZ] at hbd heq
  have hZ' := Lib.hid hZ
  clear hZ
  obtain ⟨w0, hw0⟩ : ∃ w0, w0 = w.alloc (.cells (rc r).toArray 23) := ⟨_, rfl⟩
  by_cases hz : r = Z
  · have hv := Lib.hid (show mayR r = true by rw [hz, ← hZ'.out]; exact mayR_zero)
    rw [decide_eq_true hz] at heq
    unfold rv at hld hbd heq ⊢
    clear hz
    go_enter Try.func12, Try.ntmps12
    go_wp2_with fail
    go_ret
    exact ⟨by rw [hv.out] <;> rfl, hb0.out⟩
  rw [decide_eq_false hz] at heq
  have hnz := Lib.hid (mayR_not (r := r) (by rw [hZ'.out]; exact hz))
  clear hz
  have c0 := hV.out.cell (k := 0) (v := .bool r.on) rfl
  obtain ⟨a, ha⟩ : ∃ a, r.fn = a := ⟨_, rfl⟩
  obtain ⟨b, hb⟩ : ∃ b, r.tn = b := ⟨_, rfl⟩
  have hca := Lib.hid (fun (w' : World) (h : Vw w' 23 w.heap.size (rc r)) => (show w'.cell? ⟨w.heap.size, 5, none⟩ = some (.string a) ∧ w'.cell? ⟨w.heap.size, 6, none⟩ = some (.string b) from ⟨by rw [← ha]; exact h.cell (k := 5) rfl, by rw [← hb]; exact h.cell (k := 6) rfl⟩))
  rw [ha, hb] at hnz
  clear ha hb
  cases ho : r.on
  · have hv := Lib.hid (show mayR r = false by rw [hnz.out, ho]; rfl)
    rw [ho] at c0
    unfold rv at hld hbd heq ⊢
    clear ho hnz
    go_enter Try.func12, Try.ntmps12
    go_wp2_with fail
    go_ret
    exact ⟨by rw [hv.out] <;> rfl, hb0.out⟩
  rw [ho] at c0 hnz
  have hN := Lib.hid (fun w => numbers_any r w)
  obtain ⟨L, hL⟩ : ∃ L, numR r = L := ⟨_, rfl⟩
  have hL4 := Lib.hid (show L.length = 4 by rw [← hL]; rfl)
  rw [hL] at hN hnz
  have hM := Lib.hid (fun w => numMay_any L w hL4.out)
  clear ho hL
  obtain ⟨x, hx⟩ : ∃ x, numB L = x := ⟨_, rfl⟩
  rw [hx] at hM hnz
  obtain ⟨y, hy⟩ : ∃ y, nameB (nb a) = y := ⟨_, rfl⟩
  obtain ⟨z, hz⟩ : ∃ z, nameB (nb b) = z := ⟨_, rfl⟩
  rw [hy, hz] at hnz
  obtain ⟨V, hV0⟩ : ∃ V, mayR r = V := ⟨_, rfl⟩
  rw [hV0] at hnz ⊢
  have hy' := Lib.hid hy
  have hz' := Lib.hid hz
  clear hx hy hz hV0
  unfold rv at hld hbd heq hN ⊢
  unfold av at hN hM
  cases x
  · have tk0 : True := trivial
    go_enter Try.func12, Try.ntmps12
    go_wp2_with (first
      | (go_at_call 17; refine (hN.out _).mono ?_; rintro e w1 ⟨rfl, hb1⟩; have hB1 := Lib.hid (below_two hb0.out hb1); clear hb1)
      | (go_at_call 27; refine (hM.out _).mono ?_; rintro e w2 ⟨rfl, hb2⟩; have hB2 := Lib.hid (below_two hB1.out hb2); clear hb2))
    go_ret
    exact ⟨by rw [hnz.out] <;> rfl, hB2.out⟩
  have tk0 : True := trivial
  cases y
  · go_enter Try.func12, Try.ntmps12
    go_wp2_with (first
      | (go_at_call 17; refine (hN.out _).mono ?_; rintro e w1 ⟨rfl, hb1⟩; have hB1 := Lib.hid (below_two hb0.out hb1); have hV1 := Lib.hid (hV.out.on' hb1); clear hb1)
      | (go_at_call 27; refine (hM.out _).mono ?_; rintro e w2 ⟨rfl, hb2⟩; have hB2 := Lib.hid (below_two hB1.out hb2); obtain ⟨c5, c6⟩ := hca.out _ (hV1.out.on' hb2); clear hb2)
      | (go_at_call 28; refine (name_is a false _ hy'.out).mono ?_; rintro e w3 ⟨rfl, rfl⟩))
    go_ret
    exact ⟨by rw [hnz.out] <;> rfl, hB2.out⟩
  · go_enter Try.func12, Try.ntmps12
    go_wp2_with (first
      | (go_at_call 17; refine (hN.out _).mono ?_; rintro e w1 ⟨rfl, hb1⟩; have hB1 := Lib.hid (below_two hb0.out hb1); have hV1 := Lib.hid (hV.out.on' hb1); clear hb1)
      | (go_at_call 27; refine (hM.out _).mono ?_; rintro e w2 ⟨rfl, hb2⟩; have hB2 := Lib.hid (below_two hB1.out hb2); obtain ⟨c5, c6⟩ := hca.out _ (hV1.out.on' hb2); clear hb2)
      | (go_at_call 28; clear tk0; refine (name_is a true _ hy'.out).mono ?_; rintro e w3 ⟨rfl, rfl⟩)
      | (go_at_call 28; refine (name_is b z _ hz'.out).mono ?_; rintro e w3 ⟨rfl, rfl⟩))
    go_ret
    exact ⟨by rw [hnz.out] <;> rfl, hB2.out⟩
theorem recMay_is (r : Rcd) (b : Bool) (w : World) (h : mayR r = b) :
    Calls Try.prog 12 #[rv r] w fun e w' => e = .returned (.bool b) ∧ Below w.heap.size w w' := by
  subst h; exact recMay_any r w
end Go.Proofs.Ytkeihpenelpblaa
