/-
  What Lay makes of a record.
-/
import Derived.Test.YtkeihpenelpblaaVc
import Derived.Test.YtkeihpenelpblaaPt
import Derived.Test.YtkeihpenelpblaaZl
import Derived.Deep.RegionHeld3
namespace Go.Proofs.Ytkeihpenelpblaa
open Go.RowKit BigFrame

theorem Try.infoRow : (Try.prog.info? 38).map (fun i => (i.zero, i.size)) = some (some (.agg (bv (zs 59)).toArray), 59) := by kernel_rfl
/-- the bytes of the first n numbers -/
def spN (L : List Int) : Nat → List Nat
  | 0 => []
  | n + 1 => spN L n ++ be 2 (zi L n).toNat
theorem spN_length (L : List Int) : ∀ n, (spN L n).length = 2 * n
  | 0 => rfl
  | n + 1 => by rw [spN, List.length_append, spN_length L n, be_length]; omega
theorem spN_four (r : Rcd) : onN r :: spN (numR r) 4 = spA r := by
  unfold spA
  simp only [spN, List.nil_append, List.append_assoc]
  rfl
/-- what is spelled so far over block g; the record's own block -/
def LyAt (r : Rcd) (P : List Nat) (g : Nat) (w wr : World) : Prop :=
  RowT wr 38 g (splice (zs 59) 0 P) ∧ Vw wr 23 w.heap.size (rc r) ∧ Below w.heap.size w wr ∧ w.heap.size < g
theorem LyAt.drew {r : Rcd} {P : List Nat} {g : Nat} {w wr : World} (h : LyAt r P g w wr) : LyAt r P g w wr.drew := ⟨h.1.drew1, h.2.1.drew1, h.2.2.1.drew, h.2.2.2⟩
theorem LyAt.on {r : Rcd} {P : List Nat} {g : Nat} {w wr wx : World} (h : LyAt r P g w wr) (hb : Below wr.heap.size wr wx) : LyAt r P g w wx :=
  ⟨h.1.on hb h.1.lt, h.2.1.on' hb, below_two h.2.2.1 hb, h.2.2.2⟩
theorem LyAt.put {r : Rcd} {P : List Nat} {g : Nat} {w wr : World} (h : LyAt r P g w wr) {C : Int} {s cap o : Nat} (ho : o = P.length) (hC : C = (s : Int)) (hs : s < 65536) (hl : P.length + 2 ≤ 59) :
    Calls Try.prog 18 #[.slice (some ⟨g, o, none⟩) 2 cap, .int .i64 C] wr fun e w' => e = .returned (.tuple #[]) ∧ LyAt r (P ++ be 2 s) g w w' := by
  subst ho
  refine (put_tc 38 g P.length 2 cap (splice (zs 59) 0 P) C s wr hC (by omega) (by omega) h.1 (by rw [length_splice _ _ _ (by rw [zs_length]; omega), zs_length]; omega)).mono fun e w' ⟨h1, h2, h3⟩ => ⟨h1, ?_, h.2.1.oth h3 (by have := h.2.2.2; omega), below_oth h.2.2.1 h3 (by have := h.2.2.2; omega), h.2.2.2⟩
  have := splice_splice (zs 59) P (be 2 s) 0 (by rw [zs_length]; omega)
  rw [Nat.zero_add] at this
  rwa [this] at h2
theorem LyAt.text {r : Rcd} {P : List Nat} {g : Nat} {w wr : World} (h : LyAt r P g w wr) {s : ByteArray} {cap o : Nat} (ho : o = P.length) (hs : (nb s).length ≤ 24) (hc : 25 ≤ cap) (hl : P.length + 25 ≤ 59) :
    Calls Try.prog 20 #[.slice (some ⟨g, o, none⟩) 25 cap, .string s] wr fun e w' => e = .returned (.tuple #[]) ∧ LyAt r (P ++ spT (nb s)) g w w' := by
  subst ho
  refine (putText_t 38 g P.length 25 cap (splice (zs 59) 0 P) s wr h.1 (by rw [length_splice _ _ _ (by rw [zs_length]; omega), zs_length]; omega) (by omega) (by omega) (by omega) hc).mono fun e w' ⟨h1, h2, h3⟩ => ⟨h1, ?_, h.2.1.oth h3 (by have := h.2.2.2; omega), below_oth h.2.2.1 h3 (by have := h.2.2.2; omega), h.2.2.2⟩
  have := splice_splice (zs 59) P (txt 25 (nb s)) 0 (by rw [zs_length]; omega)
  rw [Nat.zero_add] at this
  rw [this] at h2
  exact h2
def LyRel (r : Rcd) (L : List Int) (g : Nat) (w : World) (i : Value) (wr : World) : Prop := ∃ k : Nat, k ≤ 4 ∧ i = .int .i64 k ∧ LyAt r (onN r :: spN L k) g w wr

attribute [local go_sem ↓] ldR_of ixN_of
theorem recLay_no (r : Rcd) (w : World) (hs : mayR r = false) : Calls Try.prog 7 #[rv r] w (Tells noRec w) := by
  have hV := Lib.hid (Vw.alloc w (rc r) 23)
  have hb0 := Lib.hid ((Below.refl w.heap.size w).alloc (Nat.le_refl _) (.cells (rc r).toArray 23))
  have hld := run_ldR hV.out.whole
  have hM := Lib.hid (fun w => recMay_is r false w hs)
  unfold rv at hld hM ⊢
  clear hs
  go_enter Try.func7, Try.ntmps7
  go_wp2_with (go_at_call 12; refine (hM.out _).mono ?_; rintro e w1 ⟨rfl, hb1⟩; have hB1 := Lib.hid (below_two hb0.out hb1); clear hb1)
  go_ret2
  exact ⟨rfl, hB1.out⟩
set_option maxHeartbeats 2000000 in
theorem recLay_ok (r : Rcd) (w : World) (hs : mayR r = true) : Calls Try.prog 7 #[rv r] w (SealPost 82 (spR r) w) := by
  obtain ⟨f1, f2, f3, f4, hl⟩ := mayR_parts hs
  have hfit := Lib.hid (show ∀ k, k < 4 → ∃ s : Nat, zi (numR r) k = (s : Int) ∧ s < 65536 from fun k hk => by
    have hc : k = 0 ∨ k = 1 ∨ k = 2 ∨ k = 3 := by omega
    rcases hc with rfl | rfl | rfl | rfl
    · exact ⟨r.fr.toNat, by show r.fr = _; omega, by omega⟩
    · exact ⟨r.tt.toNat, by show r.tt = _; omega, by omega⟩
    · exact ⟨r.io.toNat, by show r.io = _; omega, by omega⟩
    · exact ⟨r.od.toNat, by show r.od = _; omega, by omega⟩)
  have hfour := Lib.hid (spN_four r)
  have hsp := Lib.hid (show spR r = spA r ++ spT (nb r.fn) ++ spT (nb r.tn) by unfold spR; rw [List.append_assoc])
  have hspl := Lib.hid (spR_length hl)
  have hspo := Lib.hid (spR_octs hl)
  have hl1 := Lib.hid hl.1
  have hl2 := Lib.hid hl.2
  have hal := Lib.hid (spA_length r)
  obtain ⟨a, ha⟩ : ∃ a, r.fn = a := ⟨_, rfl⟩
  obtain ⟨b, hb⟩ : ∃ b, r.tn = b := ⟨_, rfl⟩
  have hca := Lib.hid (fun (w' : World) (h : Vw w' 23 w.heap.size (rc r)) => (show w'.cell? ⟨w.heap.size, 5, none⟩ = some (.string a) ∧ w'.cell? ⟨w.heap.size, 6, none⟩ = some (.string b) from ⟨by rw [← ha]; exact h.cell (k := 5) rfl, by rw [← hb]; exact h.cell (k := 6) rfl⟩))
  rw [ha, hb] at hsp
  rw [ha] at hl1
  rw [hb] at hl2
  have hN := Lib.hid (fun w => numbers_any r w)
  obtain ⟨L, hL⟩ : ∃ L, numR r = L := ⟨_, rfl⟩
  have hL4 := Lib.hid (show L.length = 4 by rw [← hL]; rfl)
  rw [hL] at hN hfit hfour
  have hV := Lib.hid (Vw.alloc w (rc r) 23)
  have hb0 := Lib.hid ((Below.refl w.heap.size w).alloc (Nat.le_refl _) (.cells (rc r).toArray 23))
  have hsz := Lib.hid (show w.heap.size < (w.alloc (.cells (rc r).toArray 23)).heap.size from hV.out.lt)
  have hld := run_ldR hV.out.whole
  have hM := Lib.hid (fun w => recMay_is r true w hs)
  have honN := Lib.hid (show onN r = if r.on then 1 else 0 from rfl)
  have hon := Lib.hid (fun (w' : World) (h : Vw w' 23 w.heap.size (rc r)) => (show w'.cell? ⟨w.heap.size, 0, none⟩ = some (.bool r.on) from h.cell (k := 0) rfl))
  obtain ⟨O, hO⟩ : ∃ O, r.on = O := ⟨_, rfl⟩
  rw [hO] at honN hon
  unfold rv at hld hM hN ⊢
  unfold av at hN
  clear hs ha hb hL f1 f2 f3 f4 hl hO
  cases O
  · go_enter Try.func7, Try.ntmps7
    have tk0 : True := trivial
    go_wp2_with (first
      | (go_at_call 12; refine (hM.out _).mono ?_; rintro e w1 ⟨rfl, hb1⟩; have hV1 := Lib.hid (hV.out.on' hb1); have hB1 := Lib.hid (below_two hb0.out hb1); have hs1 := Lib.hid (Nat.lt_of_lt_of_le hsz.out hb1.size); clear hb1)
      | (clear tk0; refine wpList_alloc_zeros Try.infoRow rfl rfl ?_; intro g1 w2 hr2 hg2 hb2; have S2 := Lib.hid (show LyAt r [onN r] g1 w w2 from ⟨by rw [honN.out]; exact hr2.out, hV1.out.on' hb2, below_two hB1.out hb2, Nat.lt_of_lt_of_le hs1.out hg2⟩); have hld2 := run_ldR S2.out.2.1.whole; unfold rv at hld2; have c0 := hon.out _ S2.out.2.1; clear hb2 hg2)
      | (go_at_call 17; refine (hN.out _).mono ?_; rintro e w3 ⟨rfl, hb3⟩; have S3 := Lib.hid (S2.out.on hb3); clear hb3))
    clear c0
    go_loopw [15] (fun i wr => LyRel r L g1 w i wr) (fun i _ => 4 - (intOf i).toNat)
    case atStart => exact ⟨0, by omega, rfl, S3.out⟩
    case round =>
      obtain ⟨k, hk, rfl, hS0⟩ := hrel
      have S := Lib.hid hS0
      clear hS0
      by_cases hlt : k < 4
      · have hix := fun w => run_ixN w L k hlt hL4.out
        obtain ⟨s, hs, hs2⟩ := hfit.out k hlt
        have hx' := Lib.hid hs
        rw [hs] at hix
        unfold av at hix
        clear hs
        have hpl := Lib.hid (show (onN r :: spN L k).length = 1 + k * 2 by rw [List.length_cons, spN_length]; omega)
        go_wp2_with (first
          | (go_at_call 19; refine (number_any g1 0 _ _ k _ (by omega) (by omega)).mono ?_; rintro e w4 ⟨⟨c, hc, rfl⟩, rfl⟩; rw [Nat.zero_add])
          | (go_at_call 18; refine (S.out.put (s := s) hpl.out.symm rfl hs2 (by rw [hpl.out]; omega)).mono ?_; rintro e w5 ⟨rfl, hS5⟩; have S5 := Lib.hid (show LyAt r (onN r :: spN L (k + 1)) g1 w w5 by rw [spN, hx'.out, Int.toNat_natCast]; exact hS5); clear hS5))
        exact ⟨⟨k + 1, by omega, by go_num, S5.out⟩, by simp [intOf]; omega⟩
      · obtain rfl : k = 4 := by omega
        have hS9 := S.out
        rw [hfour.out] at hS9
        have S9 := Lib.hid hS9
        obtain ⟨ca, cb⟩ := hca.out _ hS9.2.1
        have cb' := Lib.hid cb
        clear hS9 cb
        go_wp2_with fail
        go_region_held3 (fun w' => w'.cell? ⟨w.heap.size, 5, none⟩ = some (.string a)) (first | exact ca | exact qa) (first
          | (go_at_call 20; refine (S9.out.drew.text hal.out.symm hl1.out (by omega) (by rw [hal.out]; omega)).mono ?_; rintro e w6 ⟨rfl, hS⟩; have S10 := Lib.hid hS; obtain ⟨qa, qb⟩ := hca.out _ hS.2.1; clear hS))
        have hal2 := Lib.hid (show (spA r ++ spT (nb a)).length = 34 by rw [List.length_append, hal.out, spT_length hl1.out])
        clear ca qa S9
        go_wp2_with fail
        go_region_held3 (fun w' => w'.cell? ⟨w.heap.size, 6, none⟩ = some (.string b)) (first | exact qb | exact q2) (first
          | (go_at_call 20; refine (S10.out.drew.text hal2.out.symm hl2.out (by omega) (by rw [hal2.out]; omega)).mono ?_; rintro e w7 ⟨rfl, hS⟩; have S11 := Lib.hid hS; obtain ⟨qc, q2⟩ := hca.out _ hS.2.1; clear hS qc))
        have hr11 := S11.out.1
        rw [← hsp.out, show splice (zs 59) 0 (spR r) = spR r by simp [splice, hspl.out, zs]] at hr11
        have R11 := Lib.hid hr11
        clear qb q2 S10 hr11
        go_wp2_with (go_at_call 21; refine (seal_n (n := 59) 82 _ _ (spR r) _ hspl.out (by decide) (by decide) hspo.out (by decide) R11.out.bat).mono ?_; rintro e w8 ⟨g8, rfl, hg8, hr8, hb8⟩; have hend := Lib.hid (show SealPost 82 (spR r) w _ w8 from ⟨g8, rfl, Nat.le_trans S11.out.2.2.1.size hg8, hr8, below_two S11.out.2.2.1 hb8⟩); clear hr8 hb8)
        go_ret2
        exact hend.out
  · go_enter Try.func7, Try.ntmps7
    have tk0 : True := trivial
    go_wp2_with (first
      | (go_at_call 12; refine (hM.out _).mono ?_; rintro e w1 ⟨rfl, hb1⟩; have hV1 := Lib.hid (hV.out.on' hb1); have hB1 := Lib.hid (below_two hb0.out hb1); have hs1 := Lib.hid (Nat.lt_of_lt_of_le hsz.out hb1.size); clear hb1)
      | (clear tk0; refine wpList_alloc_zeros Try.infoRow rfl rfl ?_; intro g1 w2 hr2 hg2 hb2; have c0 := hon.out _ (hV1.out.on' hb2); have c1 := hr2.out.cell (k := 0) (by rw [zs_length]; omega); have f1 := hr2.out.frozen 0; have S2 := Lib.hid (show LyAt r [onN r] g1 w (w2.setCell ⟨g1, 0, none⟩ (.int .u8 1)) from ⟨by rw [honN.out]; exact hr2.out.set 0 1, (hV1.out.on' hb2).oth ((Oth.refl g1 w2).setCell _) (by have := hs1.out; omega), (below_two hB1.out hb2).setCell (p := ⟨g1, 0, none⟩) (by have := hs1.out; show w.heap.size ≤ g1; omega) _, Nat.lt_of_lt_of_le hs1.out hg2⟩); have hld2 := run_ldR S2.out.2.1.whole; unfold rv at hld2; clear hb2 hg2)
      | (go_at_call 17; refine (hN.out _).mono ?_; rintro e w3 ⟨rfl, hb3⟩; have S3 := Lib.hid (S2.out.on hb3); clear hb3))
    clear c0
    go_loopw [15] (fun i wr => LyRel r L g1 w i wr) (fun i _ => 4 - (intOf i).toNat)
    case atStart => exact ⟨0, by omega, rfl, S3.out⟩
    case round =>
      obtain ⟨k, hk, rfl, hS0⟩ := hrel
      have S := Lib.hid hS0
      clear hS0
      by_cases hlt : k < 4
      · have hix := fun w => run_ixN w L k hlt hL4.out
        obtain ⟨s, hs, hs2⟩ := hfit.out k hlt
        have hx' := Lib.hid hs
        rw [hs] at hix
        unfold av at hix
        clear hs
        have hpl := Lib.hid (show (onN r :: spN L k).length = 1 + k * 2 by rw [List.length_cons, spN_length]; omega)
        go_wp2_with (first
          | (go_at_call 19; refine (number_any g1 0 _ _ k _ (by omega) (by omega)).mono ?_; rintro e w4 ⟨⟨c, hc, rfl⟩, rfl⟩; rw [Nat.zero_add])
          | (go_at_call 18; refine (S.out.put (s := s) hpl.out.symm rfl hs2 (by rw [hpl.out]; omega)).mono ?_; rintro e w5 ⟨rfl, hS5⟩; have S5 := Lib.hid (show LyAt r (onN r :: spN L (k + 1)) g1 w w5 by rw [spN, hx'.out, Int.toNat_natCast]; exact hS5); clear hS5))
        exact ⟨⟨k + 1, by omega, by go_num, S5.out⟩, by simp [intOf]; omega⟩
      · obtain rfl : k = 4 := by omega
        have hS9 := S.out
        rw [hfour.out] at hS9
        have S9 := Lib.hid hS9
        obtain ⟨ca, cb⟩ := hca.out _ hS9.2.1
        have cb' := Lib.hid cb
        clear hS9 cb
        go_wp2_with fail
        go_region_held3 (fun w' => w'.cell? ⟨w.heap.size, 5, none⟩ = some (.string a)) (first | exact ca | exact qa) (first
          | (go_at_call 20; refine (S9.out.drew.text hal.out.symm hl1.out (by omega) (by rw [hal.out]; omega)).mono ?_; rintro e w6 ⟨rfl, hS⟩; have S10 := Lib.hid hS; obtain ⟨qa, qb⟩ := hca.out _ hS.2.1; clear hS))
        have hal2 := Lib.hid (show (spA r ++ spT (nb a)).length = 34 by rw [List.length_append, hal.out, spT_length hl1.out])
        clear ca qa S9
        go_wp2_with fail
        go_region_held3 (fun w' => w'.cell? ⟨w.heap.size, 6, none⟩ = some (.string b)) (first | exact qb | exact q2) (first
          | (go_at_call 20; refine (S10.out.drew.text hal2.out.symm hl2.out (by omega) (by rw [hal2.out]; omega)).mono ?_; rintro e w7 ⟨rfl, hS⟩; have S11 := Lib.hid hS; obtain ⟨qc, q2⟩ := hca.out _ hS.2.1; clear hS qc))
        have hr11 := S11.out.1
        rw [← hsp.out, show splice (zs 59) 0 (spR r) = spR r by simp [splice, hspl.out, zs]] at hr11
        have R11 := Lib.hid hr11
        clear qb q2 S10 hr11
        go_wp2_with (go_at_call 21; refine (seal_n (n := 59) 82 _ _ (spR r) _ hspl.out (by decide) (by decide) hspo.out (by decide) R11.out.bat).mono ?_; rintro e w8 ⟨g8, rfl, hg8, hr8, hb8⟩; have hend := Lib.hid (show SealPost 82 (spR r) w _ w8 from ⟨g8, rfl, Nat.le_trans S11.out.2.2.1.size hg8, hr8, below_two S11.out.2.2.1 hb8⟩); clear hr8 hb8)
        go_ret2
        exact hend.out
end Go.Proofs.Ytkeihpenelpblaa
