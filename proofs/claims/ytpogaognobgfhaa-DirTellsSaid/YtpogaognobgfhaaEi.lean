/-
  A slot is spelled over bytes of a variable of the call's own; where its bytes stand. What Lay makes of four slots.
-/
import Derived.Test.YtpogaognobgfhaaEc
import Derived.Test.YtpogaognobgfhaaPt
import Derived.Test.YtpogaognobgfhaaAv
import Derived.Deep.RegionHeld3
import Derived.Test.YtpogaognobgfhaaEg
import Derived.Test.YtpogaognobgfhaaZl
namespace Go.Proofs.Ytpogaognobgfhaa
open Go.RowKit BigFrame

theorem slotPart_any (g off n cap k : Nat) (w : World) (hk : k * 28 + 28 ≤ cap) (hk2 : k ≤ 1000) :
    Calls Try.prog 28 #[.slice (some ⟨g, off, none⟩) n cap, .int .i64 (k : Int)] w fun e w' => (∃ c, 28 ≤ c ∧ e = .returned (.slice (some ⟨g, off + k * 28, none⟩) 28 c)) ∧ w = w' := by
  obtain ⟨q, hq⟩ : ∃ q, k * 28 = q := ⟨_, rfl⟩
  have e1 : (k : Int) * 28 = (q : Int) := by omega
  have hne : ¬ cap = q := by omega
  have p1 : (0 : Int) ≤ (q : Int) := by omega
  obtain ⟨r, hr⟩ : ∃ r, q + 28 = r := ⟨_, rfl⟩
  have e2 : (q : Int) + 28 = (r : Int) := by omega
  have p2 : (q : Int) ≤ (r : Int) := by omega
  have p3 : (r : Int) ≤ (cap : Int) := by omega
  have hq8 : q ≤ 28000 := by omega
  have hr' := Lib.hid hr
  rw [hq]
  have hcap : q + 28 ≤ cap := by omega
  have hq' := Lib.hid hq
  clear hq hr hk
  go_enter Try.func28, Try.ntmps28
  go_wp2_with fail
  go_ret
  exact ⟨⟨cap - q, by omega, by show Ending.returned (.slice (some ⟨g, off + q, none⟩) (r - q) (cap - q)) = _; rw [← hr'.out, Nat.add_sub_cancel_left]⟩, rfl⟩

/-- what is spelled so far over block g, and nothing else turned -/
def StAt (t : TypeId) (g off : Nat) (L : List Nat) (wb : World) (P : List Nat) (wx : World) : Prop := RowT wx t g (splice L off P) ∧ Oth g wb wx
theorem StAt.drew {t : TypeId} {g off : Nat} {L : List Nat} {wb : World} {P : List Nat} {wx : World} (h : StAt t g off L wb P wx) : StAt t g off L wb P wx.drew := ⟨h.1.drew1, h.2.drew⟩
theorem StAt.cell {t : TypeId} {g off : Nat} {L : List Nat} {wb : World} {P : List Nat} {wx : World} (h : StAt t g off L wb P wx) {a : Addr} {v : Value} (hc : wb.cell? a = some v) (ha : ¬ a.block = g) : wx.cell? a = some v := (h.2.cell ha).trans hc
theorem StAt.put {t : TypeId} {g off : Nat} {L : List Nat} {wb : World} {P : List Nat} {wx : World} (h : StAt t g off L wb P wx) {C : Int} {s m cap : Nat} (o : Nat) (ho : o = off + P.length) (hC : C = (s : Int)) (hs : s < 4294967296) (hm : m ≤ 1000) (hl : off + (P.length + m) ≤ L.length) :
    Calls Try.prog 39 #[.slice (some ⟨g, o, none⟩) m cap, .int .i64 C] wx fun e w' => e = .returned (.tuple #[]) ∧ StAt t g off L wb (P ++ be m s) w' := by
  subst ho
  refine (put_tc t g (off + P.length) m cap (splice L off P) C s wx hC (by omega) hm h.1 (by rw [length_splice _ _ _ (by omega)]; omega)).mono fun e w' ⟨h1, h2, h3⟩ => ⟨h1, ?_, h.2.trans h3⟩
  rw [splice_splice _ _ _ _ (by omega)] at h2
  exact h2
theorem StAt.text {t : TypeId} {g off : Nat} {L : List Nat} {wb : World} {P : List Nat} {wx : World} (h : StAt t g off L wb P wx) {s : ByteArray} {n cap : Nat} (o : Nat) (ho : o = off + P.length) (hs : (nb s).length + 1 ≤ n) (h2 : 2 ≤ n) (hn : n ≤ 250) (hc : n ≤ cap) (hl : off + (P.length + n) ≤ L.length) :
    Calls Try.prog 40 #[.slice (some ⟨g, o, none⟩) n cap, .string s] wx fun e w' => e = .returned (.tuple #[]) ∧ StAt t g off L wb (P ++ txt n (nb s)) w' := by
  subst ho
  refine (putText_t t g (off + P.length) n cap (splice L off P) s wx h.1 (by rw [length_splice _ _ _ (by omega)]; omega) hs h2 hn hc).mono fun e w' ⟨h1, h2, h3⟩ => ⟨h1, ?_, h.2.trans h3⟩
  rw [splice_splice _ _ _ _ (by omega)] at h2
  exact h2

set_option maxHeartbeats 1000000 in
theorem slotSpell_any (t : TypeId) (g off cap : Nat) (L : List Nat) (s : Slt) (w : World) (hm : mayS s = true) (hc : 28 ≤ cap) (hrow : RowT w t g L) (hL : off + 28 ≤ L.length) :
    Calls Try.prog 27 #[.slice (some ⟨g, off, none⟩) 28 cap, sv s] w fun e w' => e = .returned (.tuple #[]) ∧ RowT w' t g (splice L off (spS s)) ∧ w.grownBy w' (some g) := by
  have hV := Lib.hid (Vw.alloc w (sc s) 23)
  have hb0 := (Below.refl w.heap.size w).alloc (Nat.le_refl _) (.cells (sc s).toArray 23)
  have hR0 := Lib.hid (hrow.on hb0 hrow.lt)
  have hb0' := Lib.hid hb0
  have hi := mayS_ino hm
  have hk := mayS_kind hm
  have hn := Lib.hid (mayS_len hm)
  obtain ⟨a, ha⟩ : ∃ a, s.ino.toNat = a := ⟨_, rfl⟩
  obtain ⟨b, hb⟩ : ∃ b, s.kind.toNat = b := ⟨_, rfl⟩
  have ha2 : s.ino = (a : Int) := by omega
  have hb2 : s.kind = (b : Int) := by omega
  have la : a < 65536 := by omega
  have lb : b < 256 := by omega
  have hsp := Lib.hid (show spS s = ([] ++ be 2 a ++ be 1 b) ++ txt 25 (nb s.name) by unfold spS; rw [ha, hb, List.nil_append, List.append_assoc]; rfl)
  obtain ⟨n, hnm⟩ : ∃ n, s.name = n := ⟨_, rfl⟩
  rw [hnm] at hsp hn
  have c0 := hV.out.cell (k := 0) (v := .int .i64 (a : Int)) (by rw [← ha2]; rfl)
  have c1 := hV.out.cell (k := 1) (v := .int .i64 (b : Int)) (by rw [← hb2]; rfl)
  have c2 := hV.out.cell (k := 2) (v := .string n) (by rw [← hnm]; rfl)
  have hgv : ¬ w.heap.size = g := fun e => by have := hrow.lt; omega
  have hLL := Lib.hid hL
  have b2 : (2 : Int) ≤ (cap : Int) := by omega
  have b3 : (3 : Int) ≤ (cap : Int) := by omega
  have n2 : ¬ cap = 2 := by omega
  have n3 : ¬ cap = 3 := by omega
  have n0 : ¬ cap = 0 := by omega
  clear hb0 hrow ha hb hL hi hk ha2 hb2 hnm hm
  obtain ⟨wb, hwb⟩ : ∃ wb, wb = w.alloc (.cells (sc s).toArray 23) := ⟨_, rfl⟩
  unfold sv
  go_enter Try.func27, Try.ntmps27
  go_wp2_with fail
  rw [← hwb] at hV hR0 hb0' c0 c1 c2 ⊢
  clear hwb
  have hC1 := Lib.hid c1
  have hC2 := Lib.hid c2
  have S0 := Lib.hid (show StAt t g off L wb [] wb from ⟨by rw [splice_nil]; exact hR0.out, Oth.refl _ _⟩)
  clear hR0 c1 c2
  go_region_held3 (fun w' => w'.cell? ⟨w.heap.size, 0, none⟩ = some (.int .i64 (a : Int))) (first | exact c0 | exact q0) (first
    | (go_at_call 39; refine (S0.out.drew.put off (by simp) rfl (by omega) (by omega) (by have := hLL.out; simp; omega)).mono ?_; rintro e w1 ⟨rfl, hS⟩; have q0 := hS.cell c0 hgv; have S1 := Lib.hid hS; clear hS))
  clear c0 q0
  have c1 := S1.out.cell hC1.out hgv
  clear S0
  go_wp2_with fail
  go_region_held3 (fun w' => w'.cell? ⟨w.heap.size, 1, none⟩ = some (.int .i64 (b : Int))) (first | exact c1 | exact q1) (first
    | (go_at_call 39; refine (S1.out.drew.put (off + 2) (by simp [be_length]) rfl (by omega) (by omega) (by have := hLL.out; simp [be_length]; omega)).mono ?_; rintro e w2 ⟨rfl, hS⟩; have q1 := hS.cell hC1.out hgv; have S2 := Lib.hid hS; clear hS))
  clear c1 q1 S1 hC1
  have c2 := S2.out.cell hC2.out hgv
  go_wp2_with fail
  go_region_held3 (fun w' => w'.cell? ⟨w.heap.size, 2, none⟩ = some (.string n)) (first | exact c2 | exact q2) (first
    | (go_at_call 40; refine (S2.out.drew.text (off + 3) (by simp [be_length]) (by have := hn.out; omega) (by omega) (by omega) (by omega) (by have := hLL.out; simp [be_length]; omega)).mono ?_; rintro e w3 ⟨rfl, hS⟩; have q2 := hS.cell hC2.out hgv; have S3 := Lib.hid hS; clear hS))
  clear c2 q2 S2 hC2
  go_wp2_with fail
  go_end0
  refine ⟨rfl, by rw [hsp.out]; exact S3.out.1, ?_⟩
  have h0 := hb0'.out
  have h1 := S3.out.2
  exact ⟨h1.os.trans h0.os, h1.tape.trans h0.tape, h1.output.trans h0.output, by rw [h1.size]; exact h0.size, fun k hk hn => (h1.block k (fun e => hn (by rw [e]))).trans (h0.block k hk)⟩
end Go.Proofs.Ytpogaognobgfhaa
namespace Go.Proofs.Ytpogaognobgfhaa
open Go.RowKit BigFrame

theorem Try.infoBlk : (Try.prog.info? 44).map (fun i => (i.zero, i.size)) = some (some (.agg (bv (zs 112)).toArray), 112) := by kernel_rfl
def noDir : Value := .tuple #[.slice none 0 0, .int .i64 2]
def DlRel (L : List Slt) (w : World) (g : Nat) (i : Value) (wr : World) : Prop := ∃ k : Nat, k ≤ 4 ∧ i = .int .i64 k ∧ RowT wr 44 g (splice (zs 112) 0 (spD L k)) ∧ Below w.heap.size w wr

attribute [local go_sem ↓] ldL_of ldLs_of stL_of ixLs_of
set_option maxHeartbeats 1000000 in
theorem dirLay_no (L : List Slt) (w : World) (hL : L.length = 4) (hs : stand4 L = false) : Calls Try.prog 10 #[fv L] w (Tells noDir w) := by
  have hV := Lib.hid (Vw.alloc w (fc L) 24)
  have hb0 := Lib.hid ((Below.refl w.heap.size w).alloc (Nat.le_refl _) (.cells (fc L).toArray 24))
  have hld := run_ldLs hV.out.whole hL
  have hM := Lib.hid (fun w => mayStand_is L false w hL hs)
  unfold fv at hld hM ⊢
  clear hL hs
  go_enter Try.func10, Try.ntmps10
  go_wp2_with (go_at_call 26; refine (hM.out _).mono ?_; rintro e w1 ⟨rfl, hb1⟩; have hB1 := Lib.hid (below_two hb0.out hb1); clear hb1)
  go_ret2
  exact ⟨rfl, hB1.out⟩

set_option maxHeartbeats 2000000 in
theorem dirLay_ok (L : List Slt) (w : World) (hL : L.length = 4) (hs : stand4 L = true) : Calls Try.prog 10 #[fv L] w (SealPost 68 (spD L 4) w) := by
  have hL' := Lib.hid hL
  have hmay := Lib.hid (standP_may (stand4_iff.1 hs))
  have hV := Lib.hid (Vw.alloc w (fc L) 24)
  have hb0 := Lib.hid ((Below.refl w.heap.size w).alloc (Nat.le_refl _) (.cells (fc L).toArray 24))
  have hld := run_ldLs hV.out.whole hL
  have hM := Lib.hid (fun w => mayStand_is L true w hL hs)
  unfold fv at hld hM ⊢
  clear hL hs
  have tk0 : True := trivial
  go_enter Try.func10, Try.ntmps10
  go_wp2_with (first
    | (go_at_call 26; refine (hM.out _).mono ?_; rintro e w1 ⟨rfl, hb1⟩; have hB1 := Lib.hid (below_two hb0.out hb1); have hV1 := Lib.hid (hV.out.on' hb1); clear hb1)
    | (clear tk0; refine wpList_alloc_zeros Try.infoBlk rfl rfl ?_; intro g1 w2 hr2 hg2 hb2; have hld2 := run_ldLs (hV1.out.on' hb2).whole hL'.out; unfold fv at hld2; have hB2 := Lib.hid (below_two hB1.out hb2); have hg1' := Lib.hid (Nat.le_trans hB1.out.size hg2); clear hb2 hg2))
  clear hld hld2
  go_loopw [11] (fun i wr => DlRel L w g1 i wr) (fun i _ => 4 - (intOf i).toNat)
  case atStart => exact ⟨0, by omega, rfl, by rw [spD, splice_nil]; exact hr2.out, hB2.out⟩
  case round =>
    obtain ⟨k, hk, rfl, hrow, hbel⟩ := hrel
    have hR := Lib.hid hrow
    have hB := Lib.hid hbel
    have hgw := Lib.hid hrow.lt
    clear hrow hbel
    by_cases hlt : k < 4
    · have hix := fun w => run_ixLs w L k hlt hL'.out
      obtain ⟨s, hs⟩ : ∃ s, sl L k = s := ⟨_, rfl⟩
      have hms := Lib.hid (show mayS s = true by rw [← hs]; exact hmay.out k hlt)
      rw [hs] at hix
      have hs' := Lib.hid hs
      clear hs
      unfold fv sv at hix
      have tk1 : True := trivial
      go_wp2_with (clear tk1; refine wpList_alloc_slot rfl rfl ?_; intro g2 w3 hv3 hg3 hb3; have hst := run_stL (s := s) (hv3.out.there (o := 0) (n := 3) (by rw [sc_length]; omega)); have V3 := Lib.hid (hv3.out.over (m := sc s) rfl); have B3 := Lib.hid (below_setCells (below_two hB.out hb3) (Nat.le_trans hB.out.size hg3) 0 (sc s)); have R3 := Lib.hid ((hR.out.on hb3 hgw.out).oth (Oth.setCells (Oth.refl g2 w3) 0 (sc s)) (by have := hgw.out; omega)); unfold sv at hst; clear hb3)
      clear hst
      have hs1 := run_ldL (w := (w3.setCells g2 0 (sc s)).drew) V3.out.whole
      unfold sv at hs1
      have hLen := Lib.hid (show (splice (zs 112) 0 (spD L k)).length = 112 by rw [length_splice _ _ _ (by rw [spD_length (fun j hj => hmay.out j (by omega)), zs_length]; omega), zs_length])
      have hsplit := Lib.hid (show splice (splice (zs 112) 0 (spD L k)) (k * 28) (spS s) = splice (zs 112) 0 (spD L (k + 1)) by
        have := splice_splice (zs 112) (spD L k) (spS s) 0 (by rw [spD_length (fun j hj => hmay.out j (by omega)), zs_length]; omega)
        rw [spD_length (fun j hj => hmay.out j (by omega)), show 0 + 28 * k = k * 28 by omega] at this
        rw [this, spD, hs'.out])
      have hg12 := Lib.hid (show ¬ g2 = g1 by have := hgw.out; omega)
      go_region_held3 (fun w' => (ldA 23 (.pointer (some ⟨g2, 0, none⟩))).run Try.prog w' = .ok (.agg (sc s).toArray) w') (first | exact hs1 | exact q1) (first
        | (go_at_call 28; refine (slotPart_any g1 0 _ _ k _ (by omega) (by omega)).mono ?_; rintro e w4 ⟨⟨c, hc, rfl⟩, rfl⟩; rw [Nat.zero_add])
        | (go_at_call 27; refine (slotSpell_any 44 g1 (k * 28) _ (splice (zs 112) 0 (spD L k)) s _ hms.out (by assumption) R3.out.drew1 (by rw [hLen.out]; omega)).mono ?_; rintro e w5 ⟨rfl, hr5, hg5⟩; have hV5 := V3.out.drew1.grown hg5 (fun e => hg12.out (Option.some.inj e)); have q1 := run_ldL hV5.whole; unfold sv at q1; have hR5 := Lib.hid (hsplit.out ▸ hr5); have hB5 := Lib.hid (B3.out.drew.grown hg5 B3.out.size (fun k hk => by cases hk; exact hg1'.out)); clear hr5 hg5 hV5))
      go_wp2_with fail
      exact ⟨⟨k + 1, by omega, by go_num, hR5.out, hB5.out⟩, by simp [intOf]; omega⟩
    · obtain rfl : k = 4 := by omega
      have hlen := spD_length hmay.out
      have hsp : splice (zs 112) 0 (spD L 4) = spD L 4 := by simp [splice, hlen, zs]
      have hR4 := hR.out
      rw [hsp] at hR4
      have hR5 := Lib.hid hR4
      have hlen' := Lib.hid hlen
      clear hlen hsp hR4
      go_wp2_with (go_at_call 29; refine (seal_n (n := 112) 68 _ _ (spD L 4) _ hlen'.out (by decide) (by decide) (spD_octs hmay.out) (by decide) hR5.out.bat).mono ?_; rintro e w5 ⟨g5, rfl, hg5, hr5, hb5⟩; have hend := Lib.hid (show SealPost 68 (spD L 4) w _ w5 from ⟨g5, rfl, Nat.le_trans hB.out.size hg5, hr5, below_two hB.out hb5⟩); clear hr5 hb5)
      go_ret2
      exact hend.out
end Go.Proofs.Ytpogaognobgfhaa
