/-
  What a slot's bytes tell. What Read tells.
-/
import Derived.Test.YtpogaognobgfhaaEc
import Derived.Test.YtpogaognobgfhaaPy
import Derived.Test.YtpogaognobgfhaaPg
import Derived.Test.YtpogaognobgfhaaAv
import Derived.Deep.RegionHeld3
import Derived.Test.YtpogaognobgfhaaEg
import Derived.Test.YtpogaognobgfhaaEi
import Derived.Test.YtpogaognobgfhaaZo
namespace Go.Proofs.Ytpogaognobgfhaa
open Go.RowKit BigFrame

theorem okT_is (b : List Nat) : gtOk 25 (b.drop 3) = okT b := by
  unfold gtOk okT
  rw [bz_drop, List.drop_drop]
  have e : (3 + (1 + bz b (3 + 0))) = 4 + bz b 3 := by rw [Nat.add_zero]; omega
  rw [e]
  congr 1
  rw [Nat.add_zero]
  by_cases h : bz b 3 ≤ 24
  · rw [decide_eq_true h, decide_eq_true (by omega)]
  · rw [decide_eq_false h, decide_eq_false (by omega)]
/-- the slot that is told, and whether it could be -/
def tlX (b : List Nat) : Slt := ⟨((rdN (b.take 2) : Nat) : Int), ((rdN ((b.drop 2).take 1) : Nat) : Int), gtS 25 (b.drop 3)⟩
theorem tlX_ok {b : List Nat} (h : okT b = true) : tlX b = tlS b := by
  unfold tlX tlS gtS nmOf
  rw [okT_is, h, if_pos rfl, List.drop_drop, bz_drop]
def toldSV (b : List Nat) : Value := .tuple #[sv (tlX b), .bool (okT b)]

def gd (b : List Nat) (o n : Nat) : Int := ((rdN ((b.drop o).take n) : Nat) : Int)
theorem get_in {w : World} {g off : Nat} {b : List Nat} (hb : b.length = 28) (ho : Octs b) (hx : BAt w (some ⟨g, off, none⟩) b) (o n c O : Nat) (hO : O = off + o) (h : o + n ≤ 28) (hn : n ≤ 7) :
    Calls Try.prog 46 #[.slice (some ⟨g, O, none⟩) n c] w fun e w' => e = .returned (.int .i64 (gd b o n)) ∧ w = w' := by
  subst hO
  exact get_any _ c n ((b.drop o).take n) w (by rw [List.length_take, List.length_drop]; omega) ((ho.drop o).take n) hn (hx.sub o n)

attribute [local go_sem ↓] ldL_of stL_of bdL_of
set_option maxHeartbeats 1000000 in
theorem slotTold_any (g off cap : Nat) (b : List Nat) (w : World) (hb : b.length = 28) (ho : Octs b) (hc : 28 ≤ cap) (hx : BAt w (some ⟨g, off, none⟩) b) :
    Calls Try.prog 32 #[.slice (some ⟨g, off, none⟩) 28 cap] w (Tells (toldSV b) w) := by
  have hgt := Lib.hid (show gtV 25 (b.drop 3) = .tuple #[.string (gtS 25 (b.drop 3)), .bool (okT b)] by unfold gtV; rw [okT_is])
  have hV := Lib.hid (show toldSV b = .tuple #[sv (tlX b), .bool (okT b)] from rfl)
  have htx := Lib.hid (show tlX b = ⟨gd b 0 2, gd b 2 1, gtS 25 (b.drop 3)⟩ from rfl)
  obtain ⟨T, hT⟩ : ∃ T, tlX b = T := ⟨_, rfl⟩
  obtain ⟨n, hn⟩ : ∃ n, gtS 25 (b.drop 3) = n := ⟨_, rfl⟩
  obtain ⟨O, hO⟩ : ∃ O, okT b = O := ⟨_, rfl⟩
  obtain ⟨i, hi⟩ : ∃ i, gd b 0 2 = i := ⟨_, rfl⟩
  obtain ⟨k, hk⟩ : ∃ k, gd b 2 1 = k := ⟨_, rfl⟩
  rw [hT, hO] at hV
  rw [hT, hi, hk, hn] at htx
  rw [hn, hO] at hgt
  have hi' := Lib.hid hi
  have hk' := Lib.hid hk
  have hb' := Lib.hid hb
  have ho' := Lib.hid ho
  have hx' := Lib.hid hx
  have b2 : (2 : Int) ≤ (cap : Int) := by omega
  have b3 : (3 : Int) ≤ (cap : Int) := by omega
  have n0 : ¬ cap = 0 := by omega
  have n2 : ¬ cap = 2 := by omega
  have n3 : ¬ cap = 3 := by omega
  have hgw := Lib.hid (show g < w.heap.size from World.block_lt_of_cell? w _ (hx.cell (k := 0) (by omega)))
  have hbd := fun w => run_bdL w i k n
  rw [hV.out]
  unfold sv at hbd
  clear hT hn hO hi hk hb ho hx
  have tk0 : True := trivial
  go_enter Try.func32, Try.ntmps32
  go_wp2_with (first
    | (go_at_call 45; refine (getText_any g (off + 3) 25 _ (b.drop 3) _ (by rw [List.length_drop, hb'.out]) (ho'.out.drop 3) (by omega) (by omega) (by omega) (by have := hx1.out.sub 3 25; rwa [List.take_of_length_le (by rw [List.length_drop, hb'.out]; omega)] at this)).mono ?_; rw [hgt.out]; rintro e w2 ⟨rfl, rfl⟩)
    | (clear tk0; refine wpList_alloc_slot rfl rfl ?_; intro g1 w1 hv1 hg1 hb1; have hB1 := Lib.hid hb1; have hx1 := Lib.hid (hx'.out.on hb1 (Nat.le_refl _)); clear hb1))
  have hx2 := hx1.out.drew1
  have hst := run_stL (s := ⟨i, k, n⟩) (w := w1.drew) (hv1.out.drew1.there (o := 0) (n := 3) (by rw [sc_length]; omega))
  unfold sv at hst
  have hx5 := hx2.oth (Oth.setCells (Oth.refl g1 w1.drew) 0 (sc ⟨i, k, n⟩)) (by have := hgw.out; omega)
  have tk1 : True := trivial
  go_region_held3 (fun w' => BAt w' (some ⟨g, off, none⟩) b) (first | exact hx2 | exact hx5) (first
    | (go_at_call 46; first
        | (clear tk1; refine (get_in hb'.out ho'.out (by assumption) 0 2 _ off (by simp) (by omega) (by omega)).mono ?_; rw [hi'.out]; rintro e w2 ⟨rfl, rfl⟩)
        | (refine (get_in hb'.out ho'.out (by assumption) 2 1 _ _ rfl (by omega) (by omega)).mono ?_; rw [hk'.out]; rintro e w2 ⟨rfl, rfl⟩)))
  go_wp2_with fail
  refine bodyPost_ret (slot_ret rfl rfl (hv1.out.drew1.over (m := sc ⟨i, k, n⟩) rfl)) rfl ⟨by rw [htx.out]; rfl, below_setCells hB1.out.drew hg1 0 _⟩
end Go.Proofs.Ytpogaognobgfhaa
namespace Go.Proofs.Ytpogaognobgfhaa
open Go.RowKit BigFrame

theorem fc_put : ∀ {L : List Slt} {k : Nat} (s : Slt), k < L.length → splice (fc L) (k * 3) (sc s) = fc (L.set k s)
  | [], _, _, h => by simp at h
  | _ :: r, 0, s, _ => by simp [splice, sc, fc]
  | a :: r, k + 1, s, h => by
    have ih := fc_put (L := r) (k := k) s (by simpa using h)
    rw [show (k + 1) * 3 = k * 3 + 1 + 1 + 1 by omega]
    unfold splice at ih ⊢
    simp only [fc, List.set_cons_succ, List.take_succ_cons, List.cons_append, sc_length] at ih ⊢
    rw [← ih]
    simp only [show k * 3 + 1 + 1 + 1 + 3 = k * 3 + 3 + 1 + 1 + 1 by omega, List.drop_succ_cons]
def readDV (l : List Nat) : Value := .tuple #[fv (readD l).1, .int .i64 (readD l).2]
/-- what the loop has told so far: k slots, in block G; the result's block, the body's row -/
def DrAt (m : List Nat) (k G g2 g1 : Nat) (w wr : World) : Prop :=
  Vw wr 24 G (fc (tlD tlS m k ++ List.replicate (4 - k) s0)) ∧ Vw wr 24 g2 (fc z4) ∧ Row wr g1 m ∧ Below w.heap.size w wr ∧ g2 < g1 ∧ g1 < G ∧ w.heap.size ≤ g2
def DrRel (m : List Nat) (G g2 g1 : Nat) (w : World) (i : Value) (wr : World) : Prop := ∃ k : Nat, k ≤ 4 ∧ i = .int .i64 k ∧ (∀ j, j < k → okT (pc m j) = true) ∧ DrAt m k G g2 g1 w wr
theorem DrAt.on {m : List Nat} {k G g2 g1 : Nat} {w wr wx : World} (h : DrAt m k G g2 g1 w wr) (hb : Below wr.heap.size wr wx) : DrAt m k G g2 g1 w wx := by
  obtain ⟨h1, h2, h3, h4, h5⟩ := h
  exact ⟨h1.on' hb, h2.on' hb, h3.on hb h3.lt, below_two h4 hb, h5⟩
theorem tlD_set (f : List Nat → Slt) (m : List Nat) {k : Nat} (hk : k < 4) (x : Slt) (hx : f (pc m k) = x) : (tlD f m k ++ List.replicate (4 - k) s0).set k x = tlD f m (k + 1) ++ List.replicate (4 - (k + 1)) s0 := by
  have hl := tlD_length f m k
  rw [List.set_append_right _ _ (by omega), hl, Nat.sub_self, tlD, hx, List.append_assoc]
  congr 1
  obtain ⟨j, hj⟩ : ∃ j, 4 - k = j + 1 := ⟨3 - k, by omega⟩
  rw [hj, show 4 - (k + 1) = j by omega]
  rfl
theorem tlD_len4 (f : List Nat → Slt) (m : List Nat) {k : Nat} (hk : k ≤ 4) : (tlD f m k ++ List.replicate (4 - k) s0).length = 4 := by rw [List.length_append, tlD_length, List.length_replicate]; omega
theorem DrAt.put {m : List Nat} {k G g2 g1 : Nat} {w wr : World} (h : DrAt m k G g2 g1 w wr) (hk : k < 4) (x : Slt) (hx : tlS (pc m k) = x) : DrAt m (k + 1) G g2 g1 w (wr.setCells G (k * 3) (sc x)) := by
  obtain ⟨h1, h2, h3, h4, h5, h6, h7⟩ := h
  have ho := Oth.setCells (Oth.refl G wr) (k * 3) (sc x)
  have hl := tlD_len4 tlS m (Nat.le_of_lt hk)
  have hp := Vw.put (sc x) (k * 3) h1 (by rw [fc_length, hl, sc_length]; omega)
  rw [fc_put x (by omega), tlD_set tlS m hk x hx] at hp
  exact ⟨hp, h2.oth ho (by omega), h3.oth ho (by omega), below_setCells h4 (by omega) _ _, h5, h6, h7⟩
theorem fineD_no {m : List Nat} (h : okD m = false) : ¬ fineD m = true := by unfold fineD; rw [h]; simp
theorem fineD_yes {m : List Nat} (h : okD m = true) : fineD m = (blanked (m.drop 112) && stand4 (tlD tlS m 4)) := by unfold fineD; rw [h, Bool.true_and]
theorem fc_z4 : (fc z4).length = 12 := rfl

attribute [local go_sem ↓] ldL_of ldLs_of stL_of stLs_of bdLs_of
set_option maxRecDepth 100000 in
set_option maxHeartbeats 1000000 in
theorem dirRead_bad (a : Option Addr) (cap n : Nat) (l : List Nat) (w : World) (hn : l.length = n) (hk : kindOf l ≠ 68) (ho : Octs l) (hc : n ≤ cap) (hx : BAt w a l) :
    Calls Try.prog 12 #[.slice a n cap] w (Tells (readDV l) w) := by
  have hv := Lib.hid (show readDV l = .tuple #[fv z4, .int .i64 3] by unfold readDV; rw [readD_no (l := l) (fun h => hk h.1)]; rfl)
  have hx' := Lib.hid hx
  have ho' := Lib.hid ho
  have hn' := Lib.hid hn
  have hk' := Lib.hid hk
  have hbd := run_bd0Ls
  obtain ⟨Z, hZ⟩ : ∃ Z, z4 = Z := ⟨_, rfl⟩
  have hZl := Lib.hid (show Z.length = 4 by rw [← hZ]; rfl)
  rw [hZ] at hbd hv
  have hZ' := Lib.hid hZ
  unfold fv at hbd
  clear hx ho hn hk hZ
  have tk0 : True := trivial
  go_enter Try.func12, Try.ntmps12
  go_wp2_with (first
    | (go_at_call 31; refine (open_bad 68 (kindOf l) _ _ n l _ hn'.out rfl (.inr hk'.out) ho'.out hc hx1.out).mono ?_; rintro e w2 ⟨rfl, m, rfl⟩; have hst := run_stLs (w := w1.drewN m) hZl.out (hv1.out.drew.there (o := 0) (n := 12) (by rw [fc_length, hZl.out]; omega)); unfold fv at hst)
    | (clear tk0; refine wpList_alloc_slots rfl rfl ?_; intro g1 w1 hv1 hg1 hb1; rw [hZ'.out] at hv1; have hB1 := Lib.hid hb1; have hx1 := Lib.hid (hx'.out.on hb1 (Nat.le_refl _)); clear hb1))
  refine bodyPost_ret (slots_ret rfl rfl ((hv1.out.drew (m := m)).over (m := fc Z) rfl) hZl.out) rfl ⟨by rw [hv.out]; rfl, below_setCells (below_two hB1.out (below_drewN w1 m)) hg1 0 _⟩
set_option maxRecDepth 100000 in
set_option maxHeartbeats 2000000 in
theorem dirRead_good (a : Option Addr) (cap n : Nat) (l : List Nat) (w : World) (hn : l.length = n) (hk : kindOf l = 68) (ho : Octs l) (hc : n ≤ cap) (hx : BAt w a l) :
    Calls Try.prog 12 #[.slice a n cap] w (Tells (readDV l) w) := by
  obtain ⟨m, hme⟩ : ∃ m, m = bodyOf l := ⟨_, rfl⟩
  have hml := Lib.hid (show m.length = 123 by rw [hme]; exact bodyOf_length (kindOf_len (by omega)))
  have hmo := Lib.hid (show Octs m by rw [hme]; exact (ho.drop 1).take 123)
  obtain ⟨Z, hZ⟩ : ∃ Z, z4 = Z := ⟨_, rfl⟩
  have hZl := Lib.hid (show Z.length = 4 by rw [← hZ]; rfl)
  have hno := Lib.hid (show ¬ fineD m = true → readDV l = .tuple #[fv Z, .int .i64 3] from fun h => by unfold readDV; rw [readD_no (l := l) (fun h2 => h (by rw [hme]; exact h2.2)), ← hZ]; rfl)
  have hyes := Lib.hid (show fineD m = true → readDV l = .tuple #[fv (tlD tlS m 4), .int .i64 0] from fun h => by unfold readDV; rw [readD_yes (l := l) hk (by rw [← hme]; exact h), ← hme])
  have hme' := Lib.hid hme
  have hx' := Lib.hid hx
  have ho' := Lib.hid ho
  have hn' := Lib.hid hn
  have hk' := Lib.hid hk
  have hZ' := Lib.hid hZ
  have hbd := run_bd0Ls
  rw [hZ] at hbd
  unfold fv at hbd
  obtain ⟨V, hV⟩ : ∃ V, readDV l = V := ⟨_, rfl⟩
  rw [hV] at hno hyes ⊢
  clear hx ho hn hk hZ hme hV
  have tk0 : True := trivial
  have tk1 : True := trivial
  go_enter Try.func12, Try.ntmps12
  go_wp2_with (first
    | (go_at_call 31; refine (open_good 68 _ _ n l _ hn'.out (by decide) hk'.out ho'.out hc hx1.out).mono ?_; rintro e w2 ⟨g1, rfl, hg1, hr1, hb2⟩; rw [← hme'.out] at hr1; have R2 := Lib.hid hr1; have V2 := Lib.hid (hv1.out.on' hb2); have B2 := Lib.hid (below_two hB1.out hb2); have h21 := Lib.hid (Nat.lt_of_lt_of_le hv1.out.lt hg1); clear hb2 hr1)
    | (clear tk0; refine wpList_alloc_slots rfl rfl ?_; intro g2 w1 hv1 hg2 hb1; have hB1 := Lib.hid hb1; have hx1 := Lib.hid (hx'.out.on hb1 (Nat.le_refl _)); clear hb1)
    | (clear tk1; refine wpList_alloc_slots rfl rfl ?_; intro G w3 hv3 hG3 hb3; have S0 := Lib.hid (show DrAt m 0 G g2 g1 w w3 from ⟨hv3.out, V2.out.on' hb3, R2.out.on hb3 R2.out.lt, below_two B2.out hb3, h21.out, Nat.lt_of_lt_of_le R2.out.lt hG3, hg2⟩); clear hb3))
  go_loopw [19] (fun i wr => DrRel m G g2 g1 w i wr) (fun i _ => 4 - (intOf i).toNat)
  case atStart => exact ⟨0, by omega, rfl, fun j hj => by omega, S0.out⟩
  case round =>
    obtain ⟨k, hk4, rfl, hM0, hS0⟩ := hrel
    have hM := Lib.hid hM0
    have S := Lib.hid hS0
    clear hM0 hS0
    by_cases hlt : k < 4
    · have hpl := Lib.hid (pc_length hml.out hlt)
      have hpo := Lib.hid (pc_octs hmo.out k)
      have hpx := Lib.hid (show BAt wr (some ⟨g1, k * 28, none⟩) (pc m k) by have := S.out.2.2.1.bat.sub (k * 28) 28; rwa [Nat.zero_add] at this)
      have htv := Lib.hid (show toldSV (pc m k) = .tuple #[sv (tlX (pc m k)), .bool (okT (pc m k))] from rfl)
      obtain ⟨s, hs⟩ : ∃ s, tlX (pc m k) = s := ⟨_, rfl⟩
      rw [hs] at htv
      have k0 : (0 : Int) ≤ (k : Int) := by omega
      have k4 : (k : Int) < 4 := by omega
      have tk2 : True := trivial
      cases hok0 : okT (pc m k)
      · have hv := Lib.hid (hno.out (fineD_no (okD_no hlt hok0)))
        rw [hok0] at htv
        have hst2 := fun (w' : World) (h : DrAt m k G g2 g1 w w') => run_stLs (w := w') hZl.out (h.2.1.there (o := 0) (n := 12) (by rw [fc_z4]; omega))
        clear hok0 hs
        go_wp2_with (first
          | (go_at_call 28; refine (slotPart_any g1 0 _ _ k _ (by omega) (by omega)).mono ?_; rintro e w4 ⟨⟨c, hc2, rfl⟩, rfl⟩; rw [Nat.zero_add])
          | (go_at_call 32; refine (slotTold_any g1 (k * 28) c (pc m k) _ hpl.out hpo.out hc2 hpx.out).mono ?_; rw [htv.out]; unfold sv; rintro e w5 ⟨rfl, hb5⟩; have S5 := Lib.hid (S.out.on hb5); clear hb5)
          | (clear tk2; refine wpList_alloc_slot rfl rfl ?_; intro g8 w6 hv6 hg6 hb6; have hst := run_stL (s := s) (hv6.out.there (o := 0) (n := 3) (by rw [sc_length]; omega)); have S6 := Lib.hid (S5.out.on ((Below.refl _ _).trans (below_setCells hb6 hg6 0 (sc s)))); have hst3 := hst2 _ S6.out; unfold sv at hst; unfold fv at hst3; clear hb6))
        refine bodyPost_ret (slots_ret rfl rfl (S6.out.2.1.over (m := fc Z) (by rw [fc_z4, fc_length, hZl.out])) hZl.out) rfl ⟨by rw [hv.out]; rfl, below_setCells S6.out.2.2.2.1 S6.out.2.2.2.2.2.2 0 _⟩
      · rw [hok0] at htv
        have hts := Lib.hid (show tlS (pc m k) = s by rw [← hs]; exact (tlX_ok hok0).symm)
        have hok := Lib.hid hok0
        clear hok0 hs
        go_wp2_with (first
          | (go_at_call 28; refine (slotPart_any g1 0 _ _ k _ (by omega) (by omega)).mono ?_; rintro e w4 ⟨⟨c, hc2, rfl⟩, rfl⟩; rw [Nat.zero_add])
          | (go_at_call 32; refine (slotTold_any g1 (k * 28) c (pc m k) _ hpl.out hpo.out hc2 hpx.out).mono ?_; rw [htv.out]; unfold sv; rintro e w5 ⟨rfl, hb5⟩; have S5 := Lib.hid (S.out.on hb5); clear hb5)
          | (clear tk2; refine wpList_alloc_slot rfl rfl ?_; intro g8 w6 hv6 hg6 hb6; have hst := run_stL (s := s) (hv6.out.there (o := 0) (n := 3) (by rw [sc_length]; omega)); have S6 := Lib.hid (S5.out.on ((Below.refl _ _).trans (below_setCells hb6 hg6 0 (sc s)))); have hld := run_ldL (hv6.out.over (m := sc s) rfl).whole; have hst3 := run_stL (s := s) (S6.out.1.there (o := k * 3) (n := 3) (by rw [fc_length, tlD_len4 tlS m (Nat.le_of_lt hlt)]; omega)); unfold sv at hst hld hst3; clear hb6))
        exact ⟨⟨k + 1, by omega, by go_num, fun j hj => by
          by_cases e : j = k
          · subst e; exact hok.out
          · exact hM.out j (by omega), S6.out.put hlt s hts.out⟩, by simp [intOf]; omega⟩
    · obtain rfl : k = 4 := by omega
      have hok := Lib.hid (fineD_yes (okD_iff.2 hM.out))
      have hl112 := Lib.hid (show (m.drop 112).length = 11 by rw [List.length_drop, hml.out])
      have hx112 := Lib.hid (show BAt wr (some ⟨g1, 112, none⟩) (m.drop 112) by
        have := S.out.2.2.1.bat.sub 112 11
        rwa [Nat.zero_add, List.take_of_length_le (by rw [hl112.out]; omega)] at this)
      obtain ⟨F, hF⟩ : ∃ F, tlD tlS m 4 = F := ⟨_, rfl⟩
      have hFl := Lib.hid (show F.length = 4 by rw [← hF]; exact tlD_length _ _ _)
      rw [hF] at hok hyes
      have hSV := S.out.1
      have e4 : tlD tlS m 4 ++ List.replicate (4 - 4) s0 = F := by rw [← hF]; exact List.append_nil _
      rw [e4] at hSV
      have hSF := Lib.hid hSV
      clear hF hSV e4
      have hld2 := run_ldLs hSF.out.whole hFl.out
      unfold fv at hld2
      cases hbl0 : blanked (m.drop 112)
      · have hbl := Lib.hid hbl0
        have hv := Lib.hid (hno.out (by rw [hok.out, hbl0]; simp))
        have hst2 := run_stLs hZl.out (S.out.2.1.there (o := 0) (n := 12) (by rw [fc_z4]; omega))
        unfold fv at hst2
        clear hbl0
        go_wp2_with (go_at_call 33; refine (blank_any _ 11 11 (m.drop 112) _ hl112.out (by decide) hx112.out).mono ?_; rw [hbl.out]; rintro e w5 ⟨rfl, rfl⟩)
        refine bodyPost_ret (slots_ret rfl rfl (S.out.2.1.over (m := fc Z) (by rw [fc_z4, fc_length, hZl.out])) hZl.out) rfl ⟨by rw [hv.out]; rfl, below_setCells S.out.2.2.2.1 S.out.2.2.2.2.2.2 0 _⟩
      · have hbl := Lib.hid hbl0
        cases hm0 : stand4 F
        · have hv := Lib.hid (hno.out (by rw [hok.out, hbl0, hm0]; simp))
          have hM := Lib.hid (fun w => mayStand_is F false w hFl.out hm0)
          unfold fv at hM
          clear hbl0 hm0
          go_wp2_with (first
            | (go_at_call 33; refine (blank_any _ 11 11 (m.drop 112) _ hl112.out (by decide) hx112.out).mono ?_; rw [hbl.out]; rintro e w5 ⟨rfl, rfl⟩)
            | (go_at_call 26; refine (hM.out _).mono ?_; rintro e w6 ⟨rfl, hb6⟩; have S6 := Lib.hid (S.out.on hb6); have hst2 := run_stLs hZl.out (S6.out.2.1.there (o := 0) (n := 12) (by rw [fc_z4]; omega)); unfold fv at hst2; clear hb6))
          refine bodyPost_ret (slots_ret rfl rfl (S6.out.2.1.over (m := fc Z) (by rw [fc_z4, fc_length, hZl.out])) hZl.out) rfl ⟨by rw [hv.out]; rfl, below_setCells S6.out.2.2.2.1 S6.out.2.2.2.2.2.2 0 _⟩
        · have hv := Lib.hid (hyes.out (by rw [hok.out, hbl0, hm0]; rfl))
          have hM := Lib.hid (fun w => mayStand_is F true w hFl.out hm0)
          unfold fv at hM
          clear hbl0 hm0
          go_wp2_with (first
            | (go_at_call 33; refine (blank_any _ 11 11 (m.drop 112) _ hl112.out (by decide) hx112.out).mono ?_; rw [hbl.out]; rintro e w5 ⟨rfl, rfl⟩)
            | (go_at_call 26; refine (hM.out _).mono ?_; rintro e w6 ⟨rfl, hb6⟩; have S6 := Lib.hid (S.out.on hb6); have hld3 := run_ldLs (hSF.out.on' hb6).whole hFl.out; have hst2 := run_stLs hFl.out (S6.out.2.1.there (o := 0) (n := 12) (by rw [fc_z4]; omega)); unfold fv at hst2 hld3; clear hb6))
          refine bodyPost_ret (slots_ret rfl rfl (S6.out.2.1.over (m := fc F) (by rw [fc_z4, fc_length, hFl.out])) hFl.out) rfl ⟨by rw [hv.out]; rfl, below_setCells S6.out.2.2.2.1 S6.out.2.2.2.2.2.2 0 _⟩
theorem dirRead_any (a : Option Addr) (cap n : Nat) (l : List Nat) (w : World) (hn : l.length = n) (ho : Octs l) (hc : n ≤ cap) (hx : BAt w a l) :
    Calls Try.prog 12 #[.slice a n cap] w (Tells (readDV l) w) := by
  by_cases hk : kindOf l = 68
  · exact dirRead_good a cap n l w hn hk ho hc hx
  · exact dirRead_bad a cap n l w hn hk ho hc hx
end Go.Proofs.Ytpogaognobgfhaa
