/-
  What a body tells of a record. What Read tells. What Read tells.
-/
import Derived.Test.YtkeihpenelpblaaVc
import Derived.Test.YtkeihpenelpblaaPg
import Derived.Test.YtkeihpenelpblaaZo
import Derived.BigRegion
import Derived.Deep.DeepCutAuto
namespace Go.Proofs.Ytkeihpenelpblaa
open Go.RowKit BigFrame

/-- what the first n numbers tell -/
def tN (m : List Nat) : Nat → List Int
  | 0 => []
  | n + 1 => tN m n ++ [nmT m n]
theorem tN_length (m : List Nat) : ∀ n, (tN m n).length = n
  | 0 => rfl
  | n + 1 => by rw [tN, List.length_append, tN_length m n]; rfl
theorem tN_four (m : List Nat) : tN m 4 = [nmT m 0, nmT m 1, nmT m 2, nmT m 3] := rfl
theorem tN_set (m : List Nat) {k : Nat} (hk : k < 4) (x : Int) (hx : nmT m k = x) : (tN m k ++ zz (4 - k)).set k x = tN m (k + 1) ++ zz (4 - (k + 1)) := by
  have hl := tN_length m k
  rw [List.set_append_right _ _ (by omega), hl, Nat.sub_self, tN, hx, List.append_assoc]
  congr 1
  obtain ⟨j, hj⟩ : ∃ j, 4 - k = j + 1 := ⟨3 - k, by omega⟩
  rw [hj, show 4 - (k + 1) = j by omega]
  rfl
theorem tN_len4 (m : List Nat) {k : Nat} (hk : k ≤ 4) : (tN m k ++ zz (4 - k)).length = 4 := by rw [List.length_append, tN_length, zz_length]; omega
/-- what the loop has told so far: k numbers, in block G; the result's block; the body's bytes -/
def TdAt (m : List Nat) (k G B g off : Nat) (w wr : World) : Prop :=
  Vi wr 39 G (tN m k ++ zz (4 - k)) ∧ Vw wr 23 B (rc r0) ∧ BAt wr (some ⟨g, off, none⟩) m ∧ Below w.heap.size w wr ∧ g < w.heap.size ∧ w.heap.size ≤ B ∧ B < G
def TdRel (m : List Nat) (G B g off : Nat) (w : World) (i : Value) (wr : World) : Prop := ∃ k : Nat, k ≤ 4 ∧ i = .int .i64 k ∧ TdAt m k G B g off w wr
theorem TdAt.put {m : List Nat} {k G B g off : Nat} {w wr : World} (h : TdAt m k G B g off w wr) (hk : k < 4) (x : Int) (hx : nmT m k = x) : TdAt m (k + 1) G B g off w (wr.setCell ⟨G, k, none⟩ (.int .i64 x)) := by
  obtain ⟨h1, h2, h3, h4, h5, h6, h7⟩ := h
  have ho := (Oth.refl G wr).setCell (p := k) (.int .i64 x)
  have hp := Vi.set h1 k x
  rw [tN_set m hk x hx] at hp
  exact ⟨hp, h2.oth ho (by omega), h3.oth ho (by omega), h4.setCell (p := ⟨G, k, none⟩) (by show w.heap.size ≤ G; omega) _, h5, h6, h7⟩
/-- what is told, and whether it is spelled so -/
def toldRV (m : List Nat) : Value := .tuple #[rv (if okM m = true then tlM m else r0), .bool (okM m)]
theorem toldRV_no {m : List Nat} (h : okM m = false) : toldRV m = .tuple #[rv r0, .bool false] := by unfold toldRV; rw [h]; rfl
theorem toldRV_yes {m : List Nat} (h : okM m = true) : toldRV m = .tuple #[rv (tlM m), .bool true] := by unfold toldRV; rw [h]; rfl

attribute [local go_sem ↓] ldR_of stR_of bdR_of
set_option maxHeartbeats 2000000 in
theorem told_any (g off cap : Nat) (m : List Nat) (w : World) (hm : m.length = 123) (ho : Octs m) (hc : 123 ≤ cap) (hx : BAt w (some ⟨g, off, none⟩) m) :
    Calls Try.prog 25 #[.slice (some ⟨g, off, none⟩) 123 cap] w (Tells (toldRV m) w) := by
  have hok := Lib.hid (show okM m = (decide (bz m 0 ≤ 1) && (gtOk 25 (nf m) && (gtOk 25 (nt m) && blanked (m.drop 59)))) from rfl)
  have hno := Lib.hid (toldRV_no (m := m))
  have hyes := Lib.hid (toldRV_yes (m := m))
  obtain ⟨V, hV⟩ : ∃ V, toldRV m = V := ⟨_, rfl⟩
  rw [hV] at hno hyes ⊢
  have hx' := Lib.hid hx
  have hm' := Lib.hid hm
  have ho' := Lib.hid ho
  have hbd := run_bd0R
  have hgw := Lib.hid (show g < w.heap.size from World.block_lt_of_cell? w _ (hx.cell (k := 0) (by omega)))
  obtain ⟨Z, hZ⟩ : ∃ Z, r0 = Z := ⟨_, rfl⟩
  rw [hZ] at hbd hno
  obtain ⟨Cz, hCz0⟩ : ∃ Cz, rc Z = Cz := ⟨_, rfl⟩
  have hCz := Lib.hid hCz0
  have b9 : (9 : Int) ≤ (cap : Int) := by omega
  have b34 : (34 : Int) ≤ (cap : Int) := by omega
  have b59 : (59 : Int) ≤ (cap : Int) := by omega
  have n9 : ¬ cap = 9 := by omega
  have n34 : ¬ cap = 34 := by omega
  have n59 : ¬ cap = 59 := by omega
  have hgf := Lib.hid (show gtV 25 (nf m) = .tuple #[.string (gtS 25 (nf m)), .bool (gtOk 25 (nf m))] from rfl)
  have hgt := Lib.hid (show gtV 25 (nt m) = .tuple #[.string (gtS 25 (nt m)), .bool (gtOk 25 (nt m))] from rfl)
  have htl := Lib.hid (show tlM m = ⟨decide (bz m 0 = 1), nmT m 0, nmT m 1, nmT m 2, nmT m 3, gtS 25 (nf m), gtS 25 (nt m)⟩ from rfl)
  obtain ⟨a, ha⟩ : ∃ a, gtS 25 (nf m) = a := ⟨_, rfl⟩
  obtain ⟨b, hb⟩ : ∃ b, gtS 25 (nt m) = b := ⟨_, rfl⟩
  obtain ⟨p, hp⟩ : ∃ p, gtOk 25 (nf m) = p := ⟨_, rfl⟩
  obtain ⟨q, hq⟩ : ∃ q, gtOk 25 (nt m) = q := ⟨_, rfl⟩
  obtain ⟨c, hcb⟩ : ∃ c, blanked (m.drop 59) = c := ⟨_, rfl⟩
  rw [hp, hq, hcb] at hok
  rw [ha, hp] at hgf
  rw [hb, hq] at hgt
  rw [ha, hb] at htl
  have hcb' := Lib.hid hcb
  unfold rv at hbd
  rw [hCz0] at hbd
  clear hx hm ho hV hZ hCz0 ha hb hp hq hcb
  have tk0 : True := trivial
  go_enter Try.func25, Try.ntmps25
  go_wp2_with (first
    | (clear tk0; refine wpList_alloc_rec rfl rfl ?_; intro B w1 hv1 hB1 hb1; have hW1 := Lib.hid hb1; have hx1 := Lib.hid (hx'.out.on hb1 (Nat.le_refl _)); clear hb1)
    | (refine wpList_alloc_num rfl rfl ?_; intro G w2 hv2 hG2 hb2; have S0 := Lib.hid (show TdAt m 0 G B g off w w2 from ⟨hv2.out, hv1.out.on' hb2, hx1.out.on hb2 (Nat.le_refl _), below_two hW1.out hb2, hgw.out, hB1, Nat.lt_of_lt_of_le hv1.out.lt hG2⟩); clear hb2))
  go_loopw [10] (fun i wr => TdRel m G B g off w i wr) (fun i _ => 4 - (intOf i).toNat)
  case atStart => exact ⟨0, by omega, rfl, S0.out⟩
  case round =>
    obtain ⟨k, hk, rfl, hS0⟩ := hrel
    have S := Lib.hid hS0
    clear hS0
    by_cases hlt : k < 4
    · have c1 := S.out.1.cell (k := k) (by rw [tN_len4 m hk]; omega)
      have f1 := S.out.1.frozen k
      have k0 : (0 : Int) ≤ (k : Int) := by omega
      have k4 : (k : Int) < 4 := by omega
      have hput := Lib.hid (S.out.put hlt _ rfl)
      go_wp2_with (first
        | (go_at_call 19; refine (number_any g off _ _ k _ (by omega) (by omega)).mono ?_; rintro e w4 ⟨⟨c, hc, rfl⟩, rfl⟩)
        | (go_at_call 34; refine (get_any _ _ 2 ((m.drop (1 + k * 2)).take 2) _ (by rw [List.length_take, List.length_drop, hm'.out]; omega) ((ho'.out.drop _).take _) (by omega) (S.out.2.2.1.sub (1 + k * 2) 2)).mono ?_; rintro e w5 ⟨rfl, rfl⟩))
      exact ⟨⟨k + 1, by omega, by go_num, hput.out⟩, by simp [intOf]; omega⟩
    · obtain rfl : k = 4 := by omega
      have b0 := S.out.2.2.1.cell (k := 0) (by rw [hm'.out]; omega)
      have hx8 := ho'.out 0 (by rw [hm'.out]; omega)
      have hbl := Lib.hid (show BAt wr (some ⟨g, off + 59, none⟩) (m.drop 59) by
        have := S.out.2.2.1.sub 59 64
        rwa [List.take_of_length_le (by rw [List.length_drop, hm'.out]; omega)] at this)
      rw [Nat.add_zero] at b0
      obtain ⟨x, hxe⟩ : ∃ x, bz m 0 = x := ⟨_, rfl⟩
      rw [hxe] at b0 hx8 hok htl
      have tk2 : True := trivial
      have hst := run_stR (w := wr) (r := Z) (S.out.2.1.there (o := 0) (n := 7) (by rw [rc_length]; omega))
      have hzo := Lib.hid (S.out.2.1.over (m := rc Z) rfl)
      unfold rv at hst
      rw [hCz.out] at hst hzo
      clear hxe
      by_cases hx1 : x ≤ 1
      · rw [decide_eq_true hx1, Bool.true_and] at hok
        cases p
        · have hv := Lib.hid (hno.out (by rw [hok.out]; rfl))
          have t1 : (x : Int) ≤ 1 := by omega
          clear hx1
          go_wp2_with (first
        | (go_at_call 35; clear tk2; refine (getText_any g (off + 9) 25 _ (nf m) _ (nf_length hm'.out) (nf_octs ho'.out) (by omega) (by omega) (by omega) (S.out.2.2.1.sub 9 25)).mono ?_; rw [hgf.out]; rintro e w5 ⟨rfl, rfl⟩)
        | (go_at_call 35; refine (getText_any g (off + 34) 25 _ (nt m) _ (nt_length hm'.out) (nt_octs ho'.out) (by omega) (by omega) (by omega) (S.out.2.2.1.sub 34 25)).mono ?_; rw [hgt.out]; rintro e w5 ⟨rfl, rfl⟩))
          refine bodyPost_ret (rec_ret rfl rfl (r := Z) (by rw [hCz.out]; exact hzo.out)) rfl ⟨by rw [hv.out]; rfl, below_setCells S.out.2.2.2.1 S.out.2.2.2.2.2.1 0 _⟩
        · rw [Bool.true_and] at hok
          cases q
          · have hv := Lib.hid (hno.out (by rw [hok.out]; rfl))
            have t1 : (x : Int) ≤ 1 := by omega
            clear hx1
            go_wp2_with (first
        | (go_at_call 35; clear tk2; refine (getText_any g (off + 9) 25 _ (nf m) _ (nf_length hm'.out) (nf_octs ho'.out) (by omega) (by omega) (by omega) (S.out.2.2.1.sub 9 25)).mono ?_; rw [hgf.out]; rintro e w5 ⟨rfl, rfl⟩)
        | (go_at_call 35; refine (getText_any g (off + 34) 25 _ (nt m) _ (nt_length hm'.out) (nt_octs ho'.out) (by omega) (by omega) (by omega) (S.out.2.2.1.sub 34 25)).mono ?_; rw [hgt.out]; rintro e w5 ⟨rfl, rfl⟩))
            refine bodyPost_ret (rec_ret rfl rfl (r := Z) (by rw [hCz.out]; exact hzo.out)) rfl ⟨by rw [hv.out]; rfl, below_setCells S.out.2.2.2.1 S.out.2.2.2.2.2.1 0 _⟩
          · rw [Bool.true_and] at hok
            cases c
            · have hv := Lib.hid (hno.out hok.out)
              have t1 : (x : Int) ≤ 1 := by omega
              clear hx1
              go_wp2_with (first
        | (go_at_call 35; clear tk2; refine (getText_any g (off + 9) 25 _ (nf m) _ (nf_length hm'.out) (nf_octs ho'.out) (by omega) (by omega) (by omega) (S.out.2.2.1.sub 9 25)).mono ?_; rw [hgf.out]; rintro e w5 ⟨rfl, rfl⟩)
        | (go_at_call 35; refine (getText_any g (off + 34) 25 _ (nt m) _ (nt_length hm'.out) (nt_octs ho'.out) (by omega) (by omega) (by omega) (S.out.2.2.1.sub 34 25)).mono ?_; rw [hgt.out]; rintro e w5 ⟨rfl, rfl⟩)
        | (go_at_call 36; refine (blank_any _ _ 64 (m.drop 59) _ (by rw [List.length_drop, hm'.out]) (by decide) hbl.out).mono ?_; rw [hcb'.out]; rintro e w5 ⟨rfl, rfl⟩))
              refine bodyPost_ret (rec_ret rfl rfl (r := Z) (by rw [hCz.out]; exact hzo.out)) rfl ⟨by rw [hv.out]; rfl, below_setCells S.out.2.2.2.1 S.out.2.2.2.2.2.1 0 _⟩
            · have hv := Lib.hid (hyes.out hok.out)
              clear hst hbd
              obtain ⟨O, hO⟩ : ∃ O, decide (x = 1) = O := ⟨_, rfl⟩
              rw [hO] at htl
              have t0 : ((x : Int) == 1) = O := by rw [← hO]; by_cases e : x = 1 <;> simp [e]; omega
              have t1 : (x : Int) ≤ 1 := by omega
              obtain ⟨n0, h0⟩ : ∃ z, nmT m 0 = z := ⟨_, rfl⟩
              obtain ⟨n1, h1⟩ : ∃ z, nmT m 1 = z := ⟨_, rfl⟩
              obtain ⟨n2, h2⟩ : ∃ z, nmT m 2 = z := ⟨_, rfl⟩
              obtain ⟨n3, h3⟩ : ∃ z, nmT m 3 = z := ⟨_, rfl⟩
              rw [h0, h1, h2, h3] at htl
              have hSV := S.out.1
              rw [show tN m 4 ++ zz (4 - 4) = [n0, n1, n2, n3] by rw [tN_four, h0, h1, h2, h3]; rfl] at hSV
              have c0 := hSV.cell (k := 0) (by simp)
              have c1 := hSV.cell (k := 1) (by simp)
              have c2 := hSV.cell (k := 2) (by simp)
              have c3 := hSV.cell (k := 3) (by simp)
              rw [show zi [n0, n1, n2, n3] 0 = n0 from rfl] at c0
              rw [show zi [n0, n1, n2, n3] 1 = n1 from rfl] at c1
              rw [show zi [n0, n1, n2, n3] 2 = n2 from rfl] at c2
              rw [show zi [n0, n1, n2, n3] 3 = n3 from rfl] at c3
              have hbd := fun w => run_bd7R w O n0 n1 n2 n3 a b
              have hst := run_stR (w := wr.drew) (r := ⟨O, n0, n1, n2, n3, a, b⟩) (S.out.2.1.drew1.there (o := 0) (n := 7) (by rw [rc_length]; omega))
              have hend := Lib.hid (S.out.2.1.drew1.over (m := rc ⟨O, n0, n1, n2, n3, a, b⟩) rfl)
              unfold rv at hbd hst
              obtain ⟨Y, hY0⟩ : ∃ Y, (⟨O, n0, n1, n2, n3, a, b⟩ : Rcd) = Y := ⟨_, rfl⟩
              rw [hY0] at hbd hst hend
              obtain ⟨Cy, hCy0⟩ : ∃ Cy, rc Y = Cy := ⟨_, rfl⟩
              rw [hCy0] at hbd hst hend
              have hY := Lib.hid hY0
              have hCy := Lib.hid hCy0
              clear hY0 hCy0 hSV hx1 hO h0 h1 h2 h3
              go_wp2_with (first
        | (go_at_call 35; clear tk2; refine (getText_any g (off + 9) 25 _ (nf m) _ (nf_length hm'.out) (nf_octs ho'.out) (by omega) (by omega) (by omega) (S.out.2.2.1.sub 9 25)).mono ?_; rw [hgf.out]; rintro e w5 ⟨rfl, rfl⟩)
        | (go_at_call 35; refine (getText_any g (off + 34) 25 _ (nt m) _ (nt_length hm'.out) (nt_octs ho'.out) (by omega) (by omega) (by omega) (S.out.2.2.1.sub 34 25)).mono ?_; rw [hgt.out]; rintro e w5 ⟨rfl, rfl⟩)
        | (go_at_call 36; refine (blank_any _ _ 64 (m.drop 59) _ (by rw [List.length_drop, hm'.out]) (by decide) hbl.out).mono ?_; rw [hcb'.out]; rintro e w5 ⟨rfl, rfl⟩))
              go_region
              go_wp2_with fail
              refine bodyPost_ret (rec_ret rfl rfl (r := Y) (by rw [hCy.out]; exact hend.out)) rfl ⟨by rw [hv.out, htl.out, hY.out]; rfl, below_setCells S.out.2.2.2.1.drew S.out.2.2.2.2.2.1 0 _⟩
      · rw [decide_eq_false hx1, Bool.false_and] at hok
        have hv := Lib.hid (hno.out hok.out)
        have t1 : 1 < (x : Int) := by omega
        clear hx1
        go_wp2_with (first
        | (go_at_call 35; clear tk2; refine (getText_any g (off + 9) 25 _ (nf m) _ (nf_length hm'.out) (nf_octs ho'.out) (by omega) (by omega) (by omega) (S.out.2.2.1.sub 9 25)).mono ?_; rw [hgf.out]; rintro e w5 ⟨rfl, rfl⟩)
        | (go_at_call 35; refine (getText_any g (off + 34) 25 _ (nt m) _ (nt_length hm'.out) (nt_octs ho'.out) (by omega) (by omega) (by omega) (S.out.2.2.1.sub 34 25)).mono ?_; rw [hgt.out]; rintro e w5 ⟨rfl, rfl⟩))
        refine bodyPost_ret (rec_ret rfl rfl (r := Z) (by rw [hCz.out]; exact hzo.out)) rfl ⟨by rw [hv.out]; rfl, below_setCells S.out.2.2.2.1 S.out.2.2.2.2.2.1 0 _⟩
end Go.Proofs.Ytkeihpenelpblaa
namespace Go.Proofs.Ytkeihpenelpblaa
open Go.RowKit BigFrame

/-- the result's block -/
def RbAt (B : Nat) (w wr : World) : Prop := Vw wr 23 B (rc r0) ∧ Below w.heap.size w wr ∧ w.heap.size ≤ B
theorem RbAt.on {B : Nat} {w wr wx : World} (h : RbAt B w wr) (hb : Below wr.heap.size wr wx) : RbAt B w wx := ⟨h.1.on' hb, below_two h.2.1 hb, h.2.2⟩
theorem fineR_no {m : List Nat} (h : okM m = false) : ¬ fineR m = true := by unfold fineR; rw [h]; simp
theorem fineR_yes {m : List Nat} (h : okM m = true) : fineR m = mayR (tlM m) := by unfold fineR; rw [h, Bool.true_and]

attribute [local go_sem ↓] ldR_of stR_of bdR_of
set_option maxHeartbeats 1000000 in
theorem recRead_bad (a : Option Addr) (cap n : Nat) (l : List Nat) (w : World) (hn : l.length = n) (hk : kindOf l ≠ 82) (ho : Octs l) (hc : n ≤ cap) (hx : BAt w a l) :
    Calls Try.prog 9 #[.slice a n cap] w (Tells (readRV l) w) := by
  have hv := Lib.hid (show readRV l = .tuple #[rv r0, .int .i64 3] by unfold readRV; rw [readR_no (l := l) (fun h => hk h.1)])
  have hx' := Lib.hid hx
  have ho' := Lib.hid ho
  have hn' := Lib.hid hn
  have hk' := Lib.hid hk
  have hbd := run_bd0R
  obtain ⟨Z, hZ⟩ : ∃ Z, r0 = Z := ⟨_, rfl⟩
  rw [hZ] at hbd hv
  have hZ' := Lib.hid hZ
  obtain ⟨Cz, hCz0⟩ : ∃ Cz, rc Z = Cz := ⟨_, rfl⟩
  have hCz := Lib.hid hCz0
  unfold rv at hbd
  rw [hCz0] at hbd
  clear hx ho hn hk hZ hCz0
  have tk0 : True := trivial
  go_enter Try.func9, Try.ntmps9
  go_wp2_with (first
    | (clear tk0; refine wpList_alloc_rec rfl rfl ?_; intro B w1 hv1 hg1 hb1; have S1 := Lib.hid (show RbAt B w w1 from ⟨hv1.out, hb1, hg1⟩); have hx1 := Lib.hid (hx'.out.on hb1 (Nat.le_refl _)); clear hb1)
    | (go_at_call 24; refine (open_bad 82 (kindOf l) _ _ n l _ hn'.out rfl (.inr hk'.out) ho'.out hc hx1.out).mono ?_; rintro e w2 ⟨rfl, m, rfl⟩; have S2 := Lib.hid (S1.out.on (below_drewN w1 m)); have hst := run_stR (w := w1.drewN m) (r := Z) (S2.out.1.there (o := 0) (n := 7) (by rw [rc_length]; omega)); have hend := Lib.hid (S2.out.1.over (m := rc Z) rfl); unfold rv at hst; rw [hCz.out] at hst hend))
  refine bodyPost_ret (rec_ret rfl rfl (r := Z) (by rw [hCz.out]; exact hend.out)) rfl ⟨by rw [hv.out]; rfl, below_setCells S2.out.2.1 S2.out.2.2 0 _⟩
set_option maxHeartbeats 2000000 in
theorem recRead_good (a : Option Addr) (cap n : Nat) (l : List Nat) (w : World) (hn : l.length = n) (hk : kindOf l = 82) (ho : Octs l) (hc : n ≤ cap) (hx : BAt w a l) :
    Calls Try.prog 9 #[.slice a n cap] w (Tells (readRV l) w) := by
  obtain ⟨m, hme⟩ : ∃ m, m = bodyOf l := ⟨_, rfl⟩
  have hml := Lib.hid (show m.length = 123 by rw [hme]; exact bodyOf_length (kindOf_len (by omega)))
  have hmo := Lib.hid (show Octs m by rw [hme]; exact (ho.drop 1).take 123)
  have hno := Lib.hid (show ¬ fineR m = true → readRV l = .tuple #[rv r0, .int .i64 3] from fun h => by unfold readRV; rw [readR_no (l := l) (fun h2 => h (by rw [hme]; exact h2.2))])
  have hyes := Lib.hid (show fineR m = true → readRV l = .tuple #[rv (tlM m), .int .i64 0] from fun h => by unfold readRV; rw [readR_yes (l := l) hk (by rw [← hme]; exact h), ← hme])
  have hme' := Lib.hid hme
  have hx' := Lib.hid hx
  have ho' := Lib.hid ho
  have hn' := Lib.hid hn
  have hk' := Lib.hid hk
  have hbd := run_bd0R
  obtain ⟨Z, hZ⟩ : ∃ Z, r0 = Z := ⟨_, rfl⟩
  rw [hZ] at hbd hno
  have hZ' := Lib.hid hZ
  obtain ⟨Cz, hCz0⟩ : ∃ Cz, rc Z = Cz := ⟨_, rfl⟩
  have hCz := Lib.hid hCz0
  unfold rv at hbd
  rw [hCz0] at hbd
  obtain ⟨V, hV⟩ : ∃ V, readRV l = V := ⟨_, rfl⟩
  rw [hV] at hno hyes ⊢
  clear hx ho hn hk hZ hCz0 hme hV
  have tk0 : True := trivial
  have tk1 : True := trivial
  cases hok0 : okM m
  · have hv := Lib.hid (hno.out (fineR_no hok0))
    have htv := Lib.hid (toldRV_no hok0)
    rw [hZ'.out] at htv
    have htv2 := htv.out
    unfold rv at htv2
    rw [hCz.out] at htv2
    have htd := Lib.hid htv2
    clear hok0 htv htv2
    go_enter Try.func9, Try.ntmps9
    go_wp2_with (first
      | (clear tk0; refine wpList_alloc_rec rfl rfl ?_; intro B w1 hv1 hg1 hb1; have S1 := Lib.hid (show RbAt B w w1 from ⟨hv1.out, hb1, hg1⟩); have hx1 := Lib.hid (hx'.out.on hb1 (Nat.le_refl _)); clear hb1)
      | (go_at_call 24; refine (open_good 82 _ _ n l _ hn'.out (by decide) hk'.out ho'.out hc hx1.out).mono ?_; rintro e w2 ⟨g1, rfl, hg1, hr1, hb2⟩; rw [← hme'.out] at hr1; have R2 := Lib.hid hr1; have S2 := Lib.hid (S1.out.on hb2); clear hb2 hr1)
      | (go_at_call 25; refine (told_any g1 0 123 m _ hml.out hmo.out (by omega) R2.out.bat).mono ?_; rw [htd.out]; rintro e w3 ⟨rfl, hb3⟩; have S3 := Lib.hid (S2.out.on hb3); clear hb3)
      | (clear tk1; refine wpList_alloc_rec rfl rfl ?_; intro D w4 hv4 hg4 hb4; have S4 := Lib.hid (S3.out.on ((Below.refl _ _).trans (below_setCells hb4 hg4 0 Cz))); have hst0 := run_stR (r := Z) (hv4.out.there (o := 0) (n := 7) (by rw [rc_length]; omega)); have hst := run_stR (w := w4.setCells D 0 Cz) (r := Z) (S4.out.1.there (o := 0) (n := 7) (by rw [rc_length]; omega)); have hend := Lib.hid (S4.out.1.over (m := rc Z) rfl); unfold rv at hst hst0; rw [hCz.out] at hst hst0 hend; clear hb4))
    refine bodyPost_ret (rec_ret rfl rfl (r := Z) (by rw [hCz.out]; exact hend.out)) rfl ⟨by rw [hv.out]; rfl, below_setCells S4.out.2.1 S4.out.2.2 0 _⟩
  · have hfy := Lib.hid (fineR_yes hok0)
    have htv := Lib.hid (toldRV_yes hok0)
    obtain ⟨Y, hY0⟩ : ∃ Y, tlM m = Y := ⟨_, rfl⟩
    rw [hY0] at hyes hfy htv
    obtain ⟨Cy, hCy0⟩ : ∃ Cy, rc Y = Cy := ⟨_, rfl⟩
    have hCy := Lib.hid hCy0
    have htv2 := htv.out
    unfold rv at htv2
    rw [hCy0] at htv2
    have htd := Lib.hid htv2
    clear hok0 htv htv2 hY0 hCy0
    cases hm0 : mayR Y
    · have hv := Lib.hid (hno.out (by rw [hfy.out, hm0]; simp))
      have hM := Lib.hid (fun w => recMay_is Y false w hm0)
      unfold rv at hM
      rw [hCy.out] at hM
      clear hm0
      go_enter Try.func9, Try.ntmps9
      go_wp2_with (first
        | (clear tk0; refine wpList_alloc_rec rfl rfl ?_; intro B w1 hv1 hg1 hb1; have S1 := Lib.hid (show RbAt B w w1 from ⟨hv1.out, hb1, hg1⟩); have hx1 := Lib.hid (hx'.out.on hb1 (Nat.le_refl _)); clear hb1)
        | (go_at_call 24; refine (open_good 82 _ _ n l _ hn'.out (by decide) hk'.out ho'.out hc hx1.out).mono ?_; rintro e w2 ⟨g1, rfl, hg1, hr1, hb2⟩; rw [← hme'.out] at hr1; have R2 := Lib.hid hr1; have S2 := Lib.hid (S1.out.on hb2); clear hb2 hr1)
        | (go_at_call 25; refine (told_any g1 0 123 m _ hml.out hmo.out (by omega) R2.out.bat).mono ?_; rw [htd.out]; rintro e w3 ⟨rfl, hb3⟩; have S3 := Lib.hid (S2.out.on hb3); clear hb3)
        | (go_at_call 12; refine (hM.out _).mono ?_; rintro e w5 ⟨rfl, hb5⟩; have S5 := Lib.hid (S4.out.on hb5); have hst := run_stR (r := Z) (S5.out.1.there (o := 0) (n := 7) (by rw [rc_length]; omega)); have hend := Lib.hid (S5.out.1.over (m := rc Z) rfl); unfold rv at hst; rw [hCz.out] at hst hend; clear hb5)
        | (clear tk1; refine wpList_alloc_rec rfl rfl ?_; intro D w4 hv4 hg4 hb4; have S4 := Lib.hid (S3.out.on ((Below.refl _ _).trans (below_setCells hb4 hg4 0 Cy))); have hst0 := run_stR (r := Y) (hv4.out.there (o := 0) (n := 7) (by rw [rc_length]; omega)); have D4 := Lib.hid (hv4.out.over (m := rc Y) rfl); have hld := run_ldR D4.out.whole; unfold rv at hst0 hld; rw [hCy.out] at hst0 hld D4; clear hb4))
      refine bodyPost_ret (rec_ret rfl rfl (r := Z) (by rw [hCz.out]; exact hend.out)) rfl ⟨by rw [hv.out]; rfl, below_setCells S5.out.2.1 S5.out.2.2 0 _⟩
    · have hv := Lib.hid (hyes.out (by rw [hfy.out, hm0]))
      have hM := Lib.hid (fun w => recMay_is Y true w hm0)
      unfold rv at hM
      rw [hCy.out] at hM
      clear hm0
      go_enter Try.func9, Try.ntmps9
      go_wp2_with (first
        | (clear tk0; refine wpList_alloc_rec rfl rfl ?_; intro B w1 hv1 hg1 hb1; have S1 := Lib.hid (show RbAt B w w1 from ⟨hv1.out, hb1, hg1⟩); have hx1 := Lib.hid (hx'.out.on hb1 (Nat.le_refl _)); clear hb1)
        | (go_at_call 24; refine (open_good 82 _ _ n l _ hn'.out (by decide) hk'.out ho'.out hc hx1.out).mono ?_; rintro e w2 ⟨g1, rfl, hg1, hr1, hb2⟩; rw [← hme'.out] at hr1; have R2 := Lib.hid hr1; have S2 := Lib.hid (S1.out.on hb2); clear hb2 hr1)
        | (go_at_call 25; refine (told_any g1 0 123 m _ hml.out hmo.out (by omega) R2.out.bat).mono ?_; rw [htd.out]; rintro e w3 ⟨rfl, hb3⟩; have S3 := Lib.hid (S2.out.on hb3); clear hb3)
        | (go_at_call 12; refine (hM.out _).mono ?_; rintro e w5 ⟨rfl, hb5⟩; have S5 := Lib.hid (S4.out.on hb5); have hD5 := D4.out.on' hb5; have hld5 := run_ldR (r := Y) (by rw [hCy.out]; exact hD5.whole); have hst := run_stR (r := Y) (S5.out.1.there (o := 0) (n := 7) (by rw [rc_length]; omega)); have hend := Lib.hid (S5.out.1.over (m := rc Y) rfl); unfold rv at hst hld5; rw [hCy.out] at hst hend hld5; clear hb5 hD5)
        | (clear tk1; refine wpList_alloc_rec rfl rfl ?_; intro D w4 hv4 hg4 hb4; have S4 := Lib.hid (S3.out.on ((Below.refl _ _).trans (below_setCells hb4 hg4 0 Cy))); have hst0 := run_stR (r := Y) (hv4.out.there (o := 0) (n := 7) (by rw [rc_length]; omega)); have D4 := Lib.hid (hv4.out.over (m := rc Y) rfl); have hld := run_ldR D4.out.whole; unfold rv at hst0 hld; rw [hCy.out] at hst0 hld D4; clear hb4))
      refine bodyPost_ret (rec_ret rfl rfl (r := Y) (by rw [hCy.out]; exact hend.out)) rfl ⟨by rw [hv.out]; rfl, below_setCells S5.out.2.1 S5.out.2.2 0 _⟩
theorem recRead_any (a : Option Addr) (cap n : Nat) (l : List Nat) (w : World) (hn : l.length = n) (ho : Octs l) (hc : n ≤ cap) (hx : BAt w a l) :
    Calls Try.prog 9 #[.slice a n cap] w (Tells (readRV l) w) := by
  by_cases hk : kindOf l = 82
  · exact recRead_good a cap n l w hn hk ho hc hx
  · exact recRead_bad a cap n l w hn hk ho hc hx
end Go.Proofs.Ytkeihpenelpblaa
