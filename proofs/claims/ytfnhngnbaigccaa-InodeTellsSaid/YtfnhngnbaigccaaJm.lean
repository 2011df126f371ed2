/-
  What the document's own Lay makes.
-/
import Derived.Test.YtfnhngnbaigccaaJk
import Derived.Test.YtfnhngnbaigccaaJg
import Derived.Test.YtfnhngnbaigccaaJl
import Derived.Test.YtfnhngnbaigccaaYl
import Derived.Deep.RegionHeld3
import Derived.Deep.LoopGhost
namespace Go.Proofs.Ytfnhngnbaigccaa
open Go.RowKit BigFrame

/-- the bytes so far, as a slice of the call's own; the inode in its block; the four in theirs -/
def RlAt (L : List Int) (I : List Int) (B g6 : Nat) (w : World) (v : Value) (P : List Nat) (wr : World) : Prop :=
  OwnB wr w.heap.size v P ∧ Vi wr 24 g6 I ∧ Vi wr 25 B L ∧ Below w.heap.size w wr
theorem RlAt.drew {L I : List Int} {B g6 : Nat} {w wr : World} {v : Value} {P : List Nat} (h : RlAt L I B g6 w v P wr) : RlAt L I B g6 w v P wr.drew := ⟨h.1, h.2.1, h.2.2.1, h.2.2.2.drew⟩
theorem RlAt.grown {L I : List Int} {B g6 : Nat} {w wr wx : World} {v v' : Value} {P P' : List Nat} (h : RlAt L I B g6 w v P wr) (ho : OwnB wx w.heap.size v' P') (hg : wr.grownBy wx v.ownBlock) : RlAt L I B g6 w v' P' wx :=
  ⟨ho, h.2.1.grown hg (own_apart h.1 h.2.1 (by decide)), h.2.2.1.grown hg (own_apart h.1 h.2.2.1 (by decide)), h.2.2.2.trans (h.1.grown hg h.2.2.2.size)⟩
theorem RlAt.two {L I : List Int} {B g6 : Nat} {w wr : World} {v : Value} {P : List Nat} (h : RlAt L I B g6 w v P wr) (n : Nat) (C : Int) (hC : C = (n : Int)) (hn : n < 4294967296) (hP : P.length ≤ 1000) :
    Calls Try.prog 26 #[v, .int .i64 C] wr fun e w' => ∃ v', e = .returned v' ∧ RlAt L I B g6 w v' (P ++ be 2 n) w' := by
  subst hC
  exact (two_any w.heap.size v P n wr h.1 (by omega) hP h.2.2.2.size).mono fun e w' ⟨v', he, ho, hg⟩ => ⟨v', he, h.grown ho hg⟩
theorem be_four {s : Nat} : be 2 (s / 65536) ++ be 2 (s % 65536) = be 4 s := by
  simp only [be, List.nil_append, List.cons_append]
  have e1 : s / 65536 / 256 % 256 = s / 256 / 256 / 256 % 256 := by omega
  have e2 : s / 65536 % 256 = s / 256 / 256 % 256 := by omega
  have e3 : s % 65536 / 256 % 256 = s / 256 % 256 := by omega
  have e4 : s % 65536 % 256 = s % 256 := by omega
  rw [e1, e2, e3, e4]
theorem RlAt.cell {L I : List Int} {B g6 : Nat} {w wr : World} {v : Value} {P : List Nat} (h : RlAt L I B g6 w v P wr) {k : Nat} (hk : k < I.length) : wr.cell? ⟨g6, k, none⟩ = some (.int .i64 (zi I k)) := h.2.1.cell hk

theorem OwnB.beside {w w' : World} {base g : Nat} {v : Value} {l : List Nat} (h : OwnB w base v l) (ho : Oth g w w') (hv : some g ≠ v.ownBlock) : OwnB w' base v l :=
  World.ownsRow.kept h (row := some g) ⟨ho.os, ho.tape, ho.output, by rw [ho.size]; exact Nat.le_refl _, fun k _ hk => ho.block k (fun e => hk (by rw [e]))⟩ (.inr (fun e => hv e.symm))
/-- the inode is laid into a variable of its own -/
theorem RlAt.start {L I : List Int} {B g6 : Nat} {w wr w2 : World} {v : Value} {P : List Nat} (ho : OwnB wr w.heap.size v P) (hV : Vi wr 25 B L) (hb : Below w.heap.size w wr) (hb2 : Below wr.heap.size wr w2) (hg : wr.heap.size ≤ g6) (h6 : Vi w2 24 g6 (zz 11)) (hI : I.length = 11) :
    RlAt L I B g6 w v P (w2.setCells g6 0 (iv I)) := by
  have hO := Oth.setCells (Oth.refl g6 w2) 0 (iv I)
  have ho2 := ho.on hb2 (Nat.le_refl _)
  have := hV.lt
  exact ⟨ho2.beside hO (own_apart ho2 h6 (by decide)), h6.over (by rw [hI, zz_length]), (hV.on' hb2).oth hO (by omega), below_setCells (below_two hb hb2) (Nat.le_trans hb.size hg) 0 _⟩
theorem RlAt.on {L I : List Int} {B g6 : Nat} {w wr wx : World} {v : Value} {P : List Nat} (h : RlAt L I B g6 w v P wr) (hb : Below wr.heap.size wr wx) : RlAt L I B g6 w v P wx :=
  ⟨h.1.on hb (Nat.le_refl _), h.2.1.on' hb, h.2.2.1.on' hb, below_two h.2.2.2 hb⟩
def RlRel (L : List Int) (B : Nat) (w : World) (v i : Value) (wr : World) : Prop := ∃ k : Nat, k ≤ 4 ∧ i = .int .i64 k ∧ mayN L k ∧ OwnB wr w.heap.size v (spellN L k) ∧ Vi wr 25 B L ∧ Below w.heap.size w wr
def RlIn (L I : List Int) (B g6 : Nat) (w : World) (P : List Nat) (v i : Value) (wr : World) : Prop := ∃ j : Nat, j ≤ 6 ∧ i = .int .i64 j ∧ ∃ Q, preD I j = Q ∧ RlAt L I B g6 w v (P ++ Q) wr
def RefLaPost (L : List Int) (w : World) (e : Ending) (w' : World) : Prop := (may4 L = true ∧ RefSealPost 73 (spellN L 4) w e w') ∨ (may4 L = false ∧ e = .returned laidNo ∧ Below w.heap.size w w')

attribute [local go_sem ↓] ldI_of ldF_of stI_of
set_option maxHeartbeats 2000000 in
theorem refInoLay_any (L : List Int) (w : World) (hL : L.length = 44) :
    Calls Try.prog 11 #[av L] w (RefLaPost L w) := by
  have hL' := Lib.hid hL
  have hV := Vi.alloc w L 25
  have hb0 := (Below.refl w.heap.size w).alloc (Nat.le_refl _) (.cells (iv L).toArray 25)
  have h0 := Lib.hid (show RlRel L w.heap.size w (.slice none 0 0) (.int .i64 0) (w.alloc (.cells (iv L).toArray 25)) from ⟨0, by omega, rfl, fun k hk => by omega, OwnB.nil _ _, hV, hb0⟩)
  clear hV hL hb0
  unfold av
  go_enter Try.func11, Try.ntmps11
  go_wp2_with fail
  go_loopw [4, 5] (fun v i wr => RlRel L w.heap.size w v i wr) (fun _ i _ => 4 - (intOf i).toNat)
  case atStart => exact h0.out
  case round =>
    obtain ⟨k, hk, rfl, hmay, hown, hVr, hbel⟩ := hrel
    have hM := Lib.hid hmay
    have O1 := Lib.hid hown
    have V1 := Lib.hid hVr
    have B1 := Lib.hid hbel
    clear hmay hown hVr hbel
    by_cases hlt : k < 4
    · obtain ⟨I, hI⟩ : ∃ I, inoAt L k = I := ⟨_, rfl⟩
      have hIl := Lib.hid (show I.length = 11 by rw [← hI]; exact inoAt_length hL'.out hlt)
      have hI' := Lib.hid hI
      have hld := run_ldI (V1.out.range (k * 11) 11) (by have := hL'.out; rw [List.length_take, List.length_drop]; omega)
      change (ldA 24 (.pointer (some ⟨w.heap.size, k * 11, none⟩))).run Try.prog wr = .ok (av (inoAt L k)) wr at hld
      rw [hI] at hld
      clear hI
      unfold av at hld
      cases hm0 : mayI I
      · have hm := Lib.hid hm0
        have hno := Lib.hid (may4_no hlt (by rw [hI'.out]; exact hm0))
        clear hm0
        go_wp2_with (first
          | (refine wpList_alloc_ino rfl rfl ?_; intro g2 w2 hv2 hg2 hb2; have hst := run_stI hIl.out (hv2.out.there (o := 0) (n := 11) (by rw [zz_length]; omega)); have hld2 := run_ldI (hv2.out.over (by rw [hIl.out, zz_length])).whole hIl.out; unfold av at hst hld2; have hB2 := Lib.hid (below_setCells (below_two B1.out hb2) (Nat.le_trans B1.out.size hg2) 0 (iv I)); clear hb2)
          | (go_at_call 20; refine (refInoMay_is I false _ hIl.out hm.out).mono ?_; rintro e w3 ⟨rfl, hb3⟩; have hB3 := Lib.hid (below_two hB2.out hb3); clear hb3))
        go_ret2
        exact .inr ⟨hno.out, rfl, hB3.out⟩
      · have hm := Lib.hid hm0
        clear hm0
        obtain ⟨a, ha⟩ : ∃ a, pn I 0 = a := ⟨_, rfl⟩
        obtain ⟨n, hn⟩ : ∃ n, pn I 1 = n := ⟨_, rfl⟩
        have hpn := Lib.hid (fits_pn hIl.out (mayI_fits hIl.out hm.out))
        have ea := (hpn.out 0 (by omega)).1
        have en := (hpn.out 1 (by omega)).1
        rw [ha] at ea
        rw [hn] at en
        have ea' := Lib.hid ea
        have en' := Lib.hid en
        have la : a < 4294967296 := by have := (hpn.out 0 (by omega)).2; omega
        have ln : n < 4294967296 := by have := (hpn.out 1 (by omega)).2; omega
        have ha' := Lib.hid ha
        have hn' := Lib.hid hn
        have hPl := Lib.hid (show (spellN L k).length ≤ 92 by rw [spellN_length hL'.out k hk]; omega)
        clear ea en ha hn
        go_wp2_with (first
          | (refine wpList_alloc_ino rfl rfl ?_; intro g2 w2 hv2 hg2 hb2; have hst := run_stI hIl.out (hv2.out.there (o := 0) (n := 11) (by rw [zz_length]; omega)); have hld2 := run_ldI (hv2.out.over (by rw [hIl.out, zz_length])).whole hIl.out; unfold av at hst hld2; have S2 := Lib.hid (RlAt.start O1.out V1.out B1.out hb2 hg2 hv2.out hIl.out); clear hb2)
          | (go_at_call 20; refine (refInoMay_is I true _ hIl.out hm.out).mono ?_; rintro e w3 ⟨rfl, hb3⟩; have S3 := Lib.hid (S2.out.on hb3); clear hb3))
        clear hst hld2 hld
        have c0 := S3.out.cell (k := 0) (by rw [hIl.out]; omega)
        have c1 := S3.out.cell (k := 1) (by rw [hIl.out]; omega)
        rw [ea'.out] at c0
        rw [en'.out] at c1
        have e0 : (bv (be 1 a)).toArray = #[Value.int .u8 ((a : Int) % 256)] := by simp [bv, be]
        have hbA := (Below.refl w3.heap.size w3).alloc (Nat.le_refl _) (.cells (bv (be 1 a)).toArray 5)
        have hr0 := (row_alloc w3 (be 1 a)).bat
        have SA := S3.out.on hbA
        rw [e0] at hr0 SA
        have hr1 := Lib.hid (show BAt (w3.alloc (.cells #[.int .u8 ((a : Int) % 256)] 5)).drew (some ⟨w3.heap.size, 0, none⟩) (be 1 a) from hr0)
        have SB := Lib.hid SA.drew
        have k0 := SA.drew.cell (k := 0) (by rw [hIl.out]; omega)
        have k1 := SA.drew.cell (k := 1) (by rw [hIl.out]; omega)
        rw [ea'.out] at k0
        rw [en'.out] at k1
        clear e0 hbA hr0 SA
        go_region_held3 (fun w' => w'.cell? ⟨g2, 0, none⟩ = some (.int .i64 (a : Int)) ∧ w'.cell? ⟨g2, 1, none⟩ = some (.int .i64 (n : Int))) (first | exact ⟨c0, c1⟩ | exact ⟨k0, k1⟩ | exact ⟨q0, q1⟩ | exact ⟨r0, r1⟩) (first
          | (refine step_append_bytes (by rfl) (.tmp 18) (.tmp 22) (by rfl) w.heap.size _ (spellN L k) (by rfl) SB.out.1 ⟨w3.heap.size, 0, none⟩ 1 1 (be 1 a) (by rfl) (be_length 1 a) hr1.out (by have := hPl.out; omega) SB.out.2.2.2.size ?_; intro v4 w4 hv4 hg4; have S4 := Lib.hid (SB.out.grown hv4 hg4); have q0 := S4.out.cell (k := 0) (by rw [hIl.out]; omega); have q1 := S4.out.cell (k := 1) (by rw [hIl.out]; omega); rw [ea'.out] at q0; rw [en'.out] at q1; clear hv4 hg4)
          | (go_at_call 26; refine (S4.out.two n _ rfl ln (by have := hPl.out; rw [List.length_append, be_length]; omega)).mono ?_; rintro e w5 ⟨v5, rfl, hS5⟩; have S5 := Lib.hid hS5; have r0 := hS5.cell (k := 0) (by rw [hIl.out]; omega); have r1 := hS5.cell (k := 1) (by rw [hIl.out]; omega); rw [ea'.out] at r0; rw [en'.out] at r1; clear hS5))
        clear c0 c1 k0 k1 q0 q1 r0 r1 SB S3 hr1
        obtain ⟨s, hs⟩ : ∃ s, pn I 2 = s := ⟨_, rfl⟩
        have es := (hpn.out 2 (by omega)).1
        rw [hs] at es
        have es' := Lib.hid es
        have ls : s < 4294967296 := by have := (hpn.out 2 (by omega)).2; omega
        have hs' := Lib.hid hs
        have hmask := Lib.hid (show bits .and .i64 (s : Int) 65535 = ((s % 65536 : Nat) : Int) from by
          have := i64_mask 16 (by omega) (s : Int)
          rw [show ((2 ^ 16 - 1 : Nat) : Int) = 65535 from rfl, show ((2 ^ 16 : Nat) : Int) = 65536 from rfl] at this
          rw [this]; omega)
        clear es hs
        have c2 := S5.out.drew.cell (k := 2) (by rw [hIl.out]; omega)
        rw [es'.out] at c2
        have tk0 : True := trivial
        go_wp2_with fail
        go_region_held3 (fun w' => w'.cell? ⟨g2, 2, none⟩ = some (.int .i64 (s : Int))) (first | exact c2 | exact q2 | exact r2) (first
          | (go_at_call 26; clear tk0; refine (S5.out.drew.two (s / 65536) _ (by omega) (by omega) (by have := hPl.out; rw [List.length_append, List.length_append, be_length, be_length]; omega)).mono ?_; rintro e w6 ⟨v6, rfl, hS6⟩; have S6 := Lib.hid hS6; have q2 := hS6.cell (k := 2) (by rw [hIl.out]; omega); rw [es'.out] at q2; clear hS6)
          | (go_at_call 26; refine (S6.out.two (s % 65536) _ hmask.out (by omega) (by have := hPl.out; rw [List.length_append, List.length_append, List.length_append, be_length, be_length, be_length]; omega)).mono ?_; rintro e w7 ⟨v7, rfl, hS7⟩; have S7 := Lib.hid hS7; have r2 := hS7.cell (k := 2) (by rw [hIl.out]; omega); rw [es'.out] at r2; clear hS7))
        clear c2 q2 r2 S6 S5 S4 S2
        have S8 := Lib.hid (show RlAt L I w.heap.size g2 w v7 (spellN L k ++ preD I 0) w7 by
          have := S7.out
          rw [List.append_assoc _ (be 2 (s / 65536)), be_four, List.append_assoc, List.append_assoc] at this
          rw [preD, ha'.out, hn'.out, hs'.out, List.append_assoc]
          exact this)
        clear S7
        go_wp2_with fail
        go_loopw [4, 7] (fun v j wx => RlIn L I w.heap.size g2 w (spellN L k) v j wx) (fun _ j _ => 6 - (intOf j).toNat)
        case atStart => exact ⟨0, by omega, rfl, _, rfl, S8.out⟩
        case round =>
          obtain ⟨j, hj, rfl, Q, hQ0, hS⟩ := hrel
          have hQ := Lib.hid hQ0
          have S9 := Lib.hid hS
          have hQl := Lib.hid (show Q.length = 7 + 2 * j by rw [← hQ0]; exact preD_length I j)
          clear hQ0 hS
          by_cases hj6 : j < 6
          · obtain ⟨p, hp⟩ : ∃ p, pn I (3 + j) = p := ⟨_, rfl⟩
            have c3 := S9.out.cell (k := 3 + j) (by rw [hIl.out]; omega)
            rw [(hpn.out (3 + j) (by omega)).1, hp] at c3
            have lp : p < 4294967296 := by have := (hpn.out (3 + j) (by omega)).2; omega
            have hp' := Lib.hid hp
            clear hp
            go_wp2_with (go_at_call 26; refine (S9.out.two p _ rfl lp (by have := hPl.out; rw [List.length_append, hQl.out]; omega)).mono ?_; rintro e w10 ⟨v10, rfl, hS10⟩; have S10 := Lib.hid hS10; clear hS10)
            exact ⟨⟨j + 1, by omega, by go_num, _, rfl, by
              have := S10.out
              rw [List.append_assoc] at this
              rw [preD, hQ.out, hp'.out]
              exact this⟩, by simp [intOf]; omega⟩
          · obtain rfl : j = 6 := by omega
            obtain ⟨x, hx⟩ : ∃ x, pn I 9 = x := ⟨_, rfl⟩
            obtain ⟨y, hy⟩ : ∃ y, pn I 10 = y := ⟨_, rfl⟩
            have ex := (hpn.out 9 (by omega)).1
            have ey := (hpn.out 10 (by omega)).1
            rw [hx] at ex
            rw [hy] at ey
            have ex' := Lib.hid ex
            have ey' := Lib.hid ey
            have lx : x < 4294967296 := by have := (hpn.out 9 (by omega)).2; omega
            have ly : y < 4294967296 := by have := (hpn.out 10 (by omega)).2; omega
            have hsp := Lib.hid (spellI_is hIl.out)
            rw [hQ.out, hx, hy] at hsp
            clear ex ey hx hy
            have c9 := S9.out.drew.cell (k := 9) (by rw [hIl.out]; omega)
            have c10 := S9.out.drew.cell (k := 10) (by rw [hIl.out]; omega)
            rw [ex'.out] at c9
            rw [ey'.out] at c10
            have tk1 : True := trivial
            go_wp2_with fail
            go_region_held3 (fun w' => w'.cell? ⟨g2, 9, none⟩ = some (.int .i64 (x : Int)) ∧ w'.cell? ⟨g2, 10, none⟩ = some (.int .i64 (y : Int))) (first | exact ⟨c9, c10⟩ | exact ⟨q9, q10⟩ | exact ⟨r9, r10⟩) (first
              | (go_at_call 26; clear tk1; refine (S9.out.drew.two x _ rfl lx (by have := hPl.out; rw [List.length_append, hQl.out]; omega)).mono ?_; rintro e w11 ⟨v11, rfl, hS11⟩; have S11 := Lib.hid hS11; have q9 := hS11.cell (k := 9) (by rw [hIl.out]; omega); have q10 := hS11.cell (k := 10) (by rw [hIl.out]; omega); rw [ex'.out] at q9; rw [ey'.out] at q10; clear hS11)
              | (go_at_call 26; refine (S11.out.two y _ rfl ly (by have := hPl.out; rw [List.length_append, List.length_append, be_length, hQl.out]; omega)).mono ?_; rintro e w12 ⟨v12, rfl, hS12⟩; have S12 := Lib.hid hS12; have r9 := hS12.cell (k := 9) (by rw [hIl.out]; omega); have r10 := hS12.cell (k := 10) (by rw [hIl.out]; omega); rw [ex'.out] at r9; rw [ey'.out] at r10; clear hS12))
            go_wp2_with fail
            exact ⟨⟨k + 1, by omega, by go_num, fun j hj => by
              by_cases e : j = k
              · subst e; rw [hI'.out]; exact hm.out
              · exact hM.out j (by omega), by
                have := S12.out.1
                rw [List.append_assoc, List.append_assoc, ← List.append_assoc Q, ← hsp.out] at this
                rw [spellN, hI'.out]
                exact this, S12.out.2.2.1, S12.out.2.2.2⟩, by simp [intOf]; omega⟩
    · obtain rfl : k = 4 := by omega
      obtain ⟨sa, sc, rfl, hbt, hnil, hcap⟩ := O1.out.slice
      have hlen := Lib.hid (spellN_length hL'.out 4 (by omega))
      have hbt' := Lib.hid hbt
      have hnil' := Lib.hid hnil
      clear hbt hnil hcap
      go_wp2_with (go_at_call 27; refine (refSeal_any 73 _ _ _ (spellN L 4) _ rfl (by decide) (by decide) (spellN_octs L 4) (by rw [hlen.out]; omega) hbt'.out hnil'.out).mono ?_; rintro e w5 ⟨g5, c5, rfl, hg5, hc5, hr5, hb5⟩; have hend := Lib.hid (show RefSealPost 73 (spellN L 4) w _ w5 from ⟨g5, c5, rfl, Nat.le_trans B1.out.size hg5, hc5, hr5, below_two B1.out hb5⟩); clear hr5 hb5)
      go_ret2
      exact .inl ⟨may4_iff.2 hM.out, hend.out⟩
theorem refInoLay_no (L : List Int) (w : World) (hL : L.length = 44) (h : may4 L = false) : Calls Try.prog 11 #[av L] w (Tells laidNo w) :=
  (refInoLay_any L w hL).mono fun _ _ h2 => h2.elim (fun h3 => absurd (h3.1.symm.trans h) (by decide)) (fun h3 => h3.2)
theorem refInoLay_ok (L : List Int) (w : World) (hL : L.length = 44) (h : may4 L = true) : Calls Try.prog 11 #[av L] w (RefSealPost 73 (spellN L 4) w) :=
  (refInoLay_any L w hL).mono fun _ _ h2 => h2.elim (fun h3 => h3.2) (fun h3 => absurd (h3.1.symm.trans h) (by decide))
end Go.Proofs.Ytfnhngnbaigccaa
