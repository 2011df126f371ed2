/-
  The document's own: may a record be? What the document's own Lay makes.
-/
import Derived.Test.YtkeihpenelpblaaVb
import Derived.Test.YtkeihpenelpblaaEl
import Derived.Test.YtkeihpenelpblaaSt
import Derived.Test.YtkeihpenelpblaaLb
import Derived.Test.YtkeihpenelpblaaYl
import Derived.Deep.RegionHeld3
namespace Go.Proofs.Ytkeihpenelpblaa
open Go.RowKit BigFrame

theorem numB_not {r : Rcd} (h : ¬ ((1 ≤ r.fr ∧ r.fr ≤ 65535) ∧ (1 ≤ r.tt ∧ r.tt ≤ 65535) ∧ (1 ≤ r.io ∧ r.io ≤ 65535) ∧ (0 ≤ r.od ∧ r.od ≤ 65535) ∧ r.od ≠ r.io)) : numB (numR r) = false := by
  cases hb : numB (numR r)
  · rfl
  · exact absurd (numR_two hb) h
attribute [local go_sem ↓] ldR_of bdR_of eqR_of
set_option maxHeartbeats 4000000 in
theorem refRecMay_any (r : Rcd) (w : World) :
    Calls Try.prog 13 #[rv r] w fun e w' => e = .returned (.bool (mayR r)) ∧ Below w.heap.size w w' := by
  have hV := Lib.hid (Vw.alloc w (rc r) 23)
  have hb0 := Lib.hid ((Below.refl w.heap.size w).alloc (Nat.le_refl _) (.cells (rc r).toArray 23))
  have hld := run_ldR hV.out.whole
  have hbd := run_bd0R
  have heq := fun w => run_eqR r r0 w
  obtain ⟨Z, hZ⟩ : ∃ Z, r0 = Z := ⟨_, rfl⟩
  rw [hZ] at hbd heq
  have hZ' := Lib.hid hZ
  clear hZ
  by_cases hz : r = Z
  · have hv := Lib.hid (show mayR r = true by rw [hz, ← hZ'.out]; exact mayR_zero)
    rw [decide_eq_true hz] at heq
    unfold rv at hld hbd heq ⊢
    clear hz
    go_enter Try.func13, Try.ntmps13
    go_wp2_with fail
    go_ret
    exact ⟨by rw [hv.out] <;> rfl, hb0.out⟩
  rw [decide_eq_false hz] at heq
  have hnz := Lib.hid (mayR_not (r := r) (by rw [hZ'.out]; exact hz))
  clear hz
  have c0 := hV.out.cell (k := 0) (v := .bool r.on) rfl
  have c1 := hV.out.cell (k := 1) (v := .int .i64 r.fr) rfl
  have c2 := hV.out.cell (k := 2) (v := .int .i64 r.tt) rfl
  have c3 := hV.out.cell (k := 3) (v := .int .i64 r.io) rfl
  have c4 := hV.out.cell (k := 4) (v := .int .i64 r.od) rfl
  have c5 := hV.out.cell (k := 5) (v := .string r.fn) rfl
  have c6 := hV.out.cell (k := 6) (v := .string r.tn) rfl
  have hno := Lib.hid (numB_not (r := r))
  have hyes := Lib.hid (numR_of (r := r))
  obtain ⟨o, h0⟩ : ∃ o, r.on = o := ⟨_, rfl⟩
  obtain ⟨f, h1⟩ : ∃ f, r.fr = f := ⟨_, rfl⟩
  obtain ⟨t, h2⟩ : ∃ t, r.tt = t := ⟨_, rfl⟩
  obtain ⟨i, h3⟩ : ∃ i, r.io = i := ⟨_, rfl⟩
  obtain ⟨d, h4⟩ : ∃ d, r.od = d := ⟨_, rfl⟩
  obtain ⟨a, h5⟩ : ∃ a, r.fn = a := ⟨_, rfl⟩
  obtain ⟨b, h6⟩ : ∃ b, r.tn = b := ⟨_, rfl⟩
  obtain ⟨N, hN⟩ : ∃ N, numB (numR r) = N := ⟨_, rfl⟩
  obtain ⟨M, hM⟩ : ∃ M, mayR r = M := ⟨_, rfl⟩
  rw [h0] at c0
  rw [h1] at c1
  rw [h2] at c2
  rw [h3] at c3
  rw [h4] at c4
  rw [h5] at c5
  rw [h6] at c6
  rw [h0, h5, h6, hN, hM] at hnz
  rw [h1, h2, h3, h4, hN] at hno hyes
  rw [hM]
  unfold rv at hld hbd heq ⊢
  obtain ⟨C, hC⟩ : ∃ C, rc r = C := ⟨_, rfl⟩
  rw [hC] at hV hb0 hld heq c0 c1 c2 c3 c4 c5 c6 ⊢
  clear h0 h1 h2 h3 h4 h5 h6 hN hM hC
  cases o
  · have hv := Lib.hid (show M = false by rw [hnz.out]; rfl)
    go_enter Try.func13, Try.ntmps13
    go_wp2_with fail
    go_ret
    exact ⟨by rw [hv.out] <;> rfl, hb0.out⟩
  by_cases q0 : f < 1
  · have hv := Lib.hid (show M = false by rw [hnz.out, hno.out (by omega)]; rfl)
    go_enter Try.func13, Try.ntmps13
    go_wp2_with fail
    go_ret
    exact ⟨by rw [hv.out] <;> rfl, hb0.out⟩
  have p0 : 1 ≤ f := by omega
  clear q0
  by_cases q1 : 65535 < f
  · have hv := Lib.hid (show M = false by rw [hnz.out, hno.out (by omega)]; rfl)
    go_enter Try.func13, Try.ntmps13
    go_wp2_with fail
    go_ret
    exact ⟨by rw [hv.out] <;> rfl, hb0.out⟩
  have p1 : f ≤ 65535 := by omega
  clear q1
  by_cases q2 : t < 1
  · have hv := Lib.hid (show M = false by rw [hnz.out, hno.out (by omega)]; rfl)
    go_enter Try.func13, Try.ntmps13
    go_wp2_with fail
    go_ret
    exact ⟨by rw [hv.out] <;> rfl, hb0.out⟩
  have p2 : 1 ≤ t := by omega
  clear q2
  by_cases q3 : 65535 < t
  · have hv := Lib.hid (show M = false by rw [hnz.out, hno.out (by omega)]; rfl)
    go_enter Try.func13, Try.ntmps13
    go_wp2_with fail
    go_ret
    exact ⟨by rw [hv.out] <;> rfl, hb0.out⟩
  have p3 : t ≤ 65535 := by omega
  clear q3
  by_cases q4 : i < 1
  · have hv := Lib.hid (show M = false by rw [hnz.out, hno.out (by omega)]; rfl)
    go_enter Try.func13, Try.ntmps13
    go_wp2_with fail
    go_ret
    exact ⟨by rw [hv.out] <;> rfl, hb0.out⟩
  have p4 : 1 ≤ i := by omega
  clear q4
  by_cases q5 : 65535 < i
  · have hv := Lib.hid (show M = false by rw [hnz.out, hno.out (by omega)]; rfl)
    go_enter Try.func13, Try.ntmps13
    go_wp2_with fail
    go_ret
    exact ⟨by rw [hv.out] <;> rfl, hb0.out⟩
  have p5 : i ≤ 65535 := by omega
  clear q5
  by_cases q6 : d < 0
  · have hv := Lib.hid (show M = false by rw [hnz.out, hno.out (by omega)]; rfl)
    go_enter Try.func13, Try.ntmps13
    go_wp2_with fail
    go_ret
    exact ⟨by rw [hv.out] <;> rfl, hb0.out⟩
  have p6 : 0 ≤ d := by omega
  clear q6
  by_cases q7 : 65535 < d
  · have hv := Lib.hid (show M = false by rw [hnz.out, hno.out (by omega)]; rfl)
    go_enter Try.func13, Try.ntmps13
    go_wp2_with fail
    go_ret
    exact ⟨by rw [hv.out] <;> rfl, hb0.out⟩
  have p7 : d ≤ 65535 := by omega
  clear q7
  by_cases p8 : d = i
  · have q : (d != i) = false := by rw [p8]; simp
    have hv := Lib.hid (show M = false by rw [hnz.out, hno.out (by omega)]; rfl)
    clear p8
    go_enter Try.func13, Try.ntmps13
    go_wp2_with fail
    go_ret
    exact ⟨by rw [hv.out] <;> rfl, hb0.out⟩
  have q : (d != i) = true := bne_iff_ne.2 p8
  have hN := hyes.out ⟨⟨p0, p1⟩, ⟨p2, p3⟩, ⟨p4, p5⟩, ⟨p6, p7⟩, p8⟩
  subst hN
  obtain ⟨y, hy⟩ : ∃ y, nameB (nb a) = y := ⟨_, rfl⟩
  obtain ⟨z, hz⟩ : ∃ z, nameB (nb b) = z := ⟨_, rfl⟩
  rw [hy, hz] at hnz
  have hy' := Lib.hid hy
  have hz' := Lib.hid hz
  clear hy hz p8 hno hyes
  cases y
  · have hv := Lib.hid (show M = false by rw [hnz.out]; rfl)
    go_enter Try.func13, Try.ntmps13
    go_wp2_with (go_at_call 29; refine (refName_is a false _ hy'.out).mono ?_; rintro e w3 ⟨rfl, rfl⟩)
    go_ret
    exact ⟨by rw [hv.out] <;> rfl, hb0.out⟩
  · have hv := Lib.hid (show M = z by rw [hnz.out]; rfl)
    have tk0 : True := trivial
    go_enter Try.func13, Try.ntmps13
    go_wp2_with (first
      | (go_at_call 29; clear tk0; refine (refName_is a true _ hy'.out).mono ?_; rintro e w3 ⟨rfl, rfl⟩)
      | (go_at_call 29; refine (refName_is b z _ hz'.out).mono ?_; rintro e w3 ⟨rfl, rfl⟩))
    go_ret
    exact ⟨by rw [hv.out] <;> rfl, hb0.out⟩
theorem refRecMay_is (r : Rcd) (b : Bool) (w : World) (h : mayR r = b) :
    Calls Try.prog 13 #[rv r] w fun e w' => e = .returned (.bool b) ∧ Below w.heap.size w w' := by
  subst h; exact refRecMay_any r w
end Go.Proofs.Ytkeihpenelpblaa
namespace Go.Proofs.Ytkeihpenelpblaa
open Go.RowKit BigFrame

/-- blocks of other types than bytes are as they were -/
def KeepsT (w w' : World) : Prop := ∀ (g : Nat) (cs : Array Value) (t : TypeId) (fr : Nat × Nat), t ≠ 5 → w.heap[g]? = some (.cells cs t fr) → w'.heap[g]? = some (.cells cs t fr)
theorem KeepsT.trans {a b c : World} (h : KeepsT a b) (k : KeepsT b c) : KeepsT a c := fun g cs t fr ht hg => k g cs t fr ht (h g cs t fr ht hg)
theorem KeepsT.alloc (w : World) (o : Obj) : KeepsT w (w.alloc o) := fun g cs t fr _ hg => by
  have hlt : g < w.heap.size := (Array.getElem?_eq_some_iff.1 hg).1
  rw [heap_alloc_old w o hlt]; exact hg
theorem OwnB.keeps {w w' : World} {base : Nat} {v : Value} {L : List Nat} (h : OwnB w base v L) (hg : w.grownBy w' v.ownBlock) : KeepsT w w' := fun g cs t fr ht hh => by
  have hlt : g < w.heap.size := (Array.getElem?_eq_some_iff.1 hh).1
  rw [hg.block g hlt (own_apart h hh ht)]; exact hh
theorem Vw.keeps {w w' : World} {t : TypeId} {g : Nat} {l : List Value} (h : Vw w t g l) (hk : KeepsT w w') (ht : t ≠ 5) : Vw w' t g l := hk g _ t _ ht h

/-- a name with its length, and zeros -/
def NamedPost (base : Nat) (P : List Nat) (w : World) (e : Ending) (w' : World) : Prop := ∃ v', e = .returned v' ∧ OwnB w' base v' P ∧ Below base w w' ∧ KeepsT w w'
set_option maxHeartbeats 1000000 in
theorem named_any (base : Nat) (v : Value) (P : List Nat) (s : ByteArray) (w : World) (hown : OwnB w base v P) (hbase : base ≤ w.heap.size) (hs : (nb s).length ≤ 24) (hP : P.length ≤ 1000) :
    Calls Try.prog 23 #[v, .string s] w (NamedPost base (P ++ spT (nb s)) w) := by
  obtain ⟨m, hm⟩ : ∃ m, s.size = m := ⟨_, rfl⟩
  have hnl := Lib.hid (show (nb s).length = m by rw [nb_length, hm])
  have lm : m ≤ 24 := by rw [← hnl.out]; exact hs
  obtain ⟨z, hz⟩ : ∃ z, 24 - m = z := ⟨_, rfl⟩
  have ez : 24 - (m : Int) = (z : Int) := by omega
  have lz : z ≤ 24 := by omega
  have hsp := Lib.hid (show P ++ spT (nb s) = P ++ [m] ++ nb s ++ zs z by unfold spT; rw [hnl.out, hz]; simp [List.append_assoc])
  have wm : IntKind.u8.wrap (m : Int) = (m : Int) := by rw [IntKind.wrap_u8]; omega
  have hO := Lib.hid hown
  have hB := Lib.hid hbase
  have hPl := Lib.hid hP
  have hbA := Lib.hid ((Below.refl w.heap.size w).alloc (Nat.le_refl _) (.cells (bv [m]).toArray 5))
  have hr1 := Lib.hid (show BAt (w.alloc (.cells (bv [m]).toArray 5)) (some ⟨w.heap.size, 0, none⟩) [m] from (row_alloc w [m]).bat)
  have hO1 := Lib.hid (hO.out.on hbA.out (Nat.le_refl _))
  have hK1 := Lib.hid (KeepsT.alloc w (.cells (bv [m]).toArray 5))
  have hS1 := Lib.hid (show base ≤ (w.alloc (.cells (bv [m]).toArray 5)).heap.size from Nat.le_trans hB.out hbA.out.size)
  have hW1 := Lib.hid (hbA.out.mono hB.out)
  rw [hsp.out]
  clear hown hbase hs hP hz
  have tk0 : True := trivial
  go_enter Try.func23, Try.ntmps23
  go_wp2_with (first
    | (clear tk0; refine wpList_append_bytes rfl (.tmp 5) (.tmp 9) rfl base v P rfl hO1.out (some ⟨w.heap.size, 0, none⟩) 1 1 [m] rfl rfl hr1.out (by simp) (by have := hPl.out; omega) hS1.out ?_; intro v2 w2 hv2 hg2 hb2; have K2 := Lib.hid (hK1.out.trans (hO1.out.keeps hg2)); have W2 := Lib.hid (hW1.out.trans hb2); clear hg2 hb2)
    | (refine wpList_append_text rfl (.tmp 10) (.tmp 11) rfl base v2 (P ++ [m]) rfl hv2.out s rfl (by have := hPl.out; have := hnl.out; rw [List.length_append]; simp; omega) (Nat.le_trans hB.out W2.out.size) ?_; intro v3 w3 hv3 hg3 hb3; have K3 := Lib.hid (K2.out.trans (hv2.out.keeps hg3)); have W3 := Lib.hid (W2.out.trans hb3); clear hg3 hb3)
    | (refine wpList_append_zeros_any rfl (.tmp 12) (.tmp 15) rfl base z v3 (P ++ [m] ++ nb s) rfl hv3.out rfl (by have := hPl.out; have := hnl.out; rw [List.length_append, List.length_append]; simp; omega) (Nat.le_trans hB.out W3.out.size) ?_; intro v4 w4 hv4 hg4 hb4; have K4 := Lib.hid (K3.out.trans (hv3.out.keeps hg4)); have W4 := Lib.hid (W3.out.trans hb4); clear hg4 hb4))
  go_ret
  exact ⟨v4, rfl, hv4.out, W4.out, K4.out⟩
attribute [local go_sem ↓] ldR_of
theorem refRecLay_no (r : Rcd) (w : World) (hs : mayR r = false) : Calls Try.prog 8 #[rv r] w (Tells noRec w) := by
  have hV := Lib.hid (Vw.alloc w (rc r) 23)
  have hb0 := Lib.hid ((Below.refl w.heap.size w).alloc (Nat.le_refl _) (.cells (rc r).toArray 23))
  have hld := run_ldR hV.out.whole
  have hM := Lib.hid (fun w => refRecMay_is r false w hs)
  unfold rv at hld hM ⊢
  clear hs
  go_enter Try.func8, Try.ntmps8
  go_wp2_with (go_at_call 13; refine (hM.out _).mono ?_; rintro e w1 ⟨rfl, hb1⟩; have hB1 := Lib.hid (below_two hb0.out hb1); clear hb1)
  go_ret2
  exact ⟨rfl, hB1.out⟩
/-- the nine bytes ahead of the names -/
def nine (o x0 y0 x1 y1 x2 y2 x3 y3 : Nat) : List Nat := [o, x0, y0, x1, y1, x2, y2, x3, y3]
theorem spA_nine (r : Rcd) (a0 a1 a2 a3 : Nat) (h0 : r.fr.toNat = a0) (h1 : r.tt.toNat = a1) (h2 : r.io.toNat = a2) (h3 : r.od.toNat = a3) :
    spA r = nine (onN r) (a0 / 256 % 256) (a0 % 256) (a1 / 256 % 256) (a1 % 256) (a2 / 256 % 256) (a2 % 256) (a3 / 256 % 256) (a3 % 256) := by
  unfold spA nine
  rw [h0, h1, h2, h3, be_two, be_two, be_two, be_two]
  rfl
/-- the bytes so far, as a slice of the call's own; the record in its block -/
def RlAt (C : List Value) (w : World) (v : Value) (P : List Nat) (wr : World) : Prop :=
  OwnB wr w.heap.size v P ∧ Vw wr 23 w.heap.size C ∧ Below w.heap.size w wr
theorem RlAt.drew {C : List Value} {w wr : World} {v : Value} {P : List Nat} (h : RlAt C w v P wr) : RlAt C w v P wr.drew := ⟨h.1, h.2.1, h.2.2.drew⟩
theorem RlAt.named {C : List Value} {w wr : World} {v : Value} {P : List Nat} (h : RlAt C w v P wr) {s : ByteArray} (hs : (nb s).length ≤ 24) (hP : P.length ≤ 1000) :
    Calls Try.prog 23 #[v, .string s] wr fun e w' => ∃ v', e = .returned v' ∧ RlAt C w v' (P ++ spT (nb s)) w' :=
  (named_any w.heap.size v P s wr h.1 h.2.2.size hs hP).mono fun _ _ ⟨v', h1, h2, h3, h4⟩ => ⟨v', h1, h2, h.2.1.keeps h4 (by decide), h.2.2.trans h3⟩

set_option maxHeartbeats 4000000 in
theorem refRecLay_ok (r : Rcd) (w : World) (hs : mayR r = true) : Calls Try.prog 8 #[rv r] w (RefSealPost 82 (spR r) w) := by
  obtain ⟨f1, f2, f3, f4, hl⟩ := mayR_parts hs
  have hsp := Lib.hid (show spR r = spA r ++ spT (nb r.fn) ++ spT (nb r.tn) by unfold spR; rw [List.append_assoc])
  have hspl := Lib.hid (spR_length hl)
  have hspo := Lib.hid (spR_octs hl)
  have hl1 := Lib.hid hl.1
  have hl2 := Lib.hid hl.2
  have hal := Lib.hid (spA_length r)
  have hV := Lib.hid (Vw.alloc w (rc r) 23)
  have hb0 := Lib.hid ((Below.refl w.heap.size w).alloc (Nat.le_refl _) (.cells (rc r).toArray 23))
  have hld := run_ldR hV.out.whole
  have hM := Lib.hid (fun w => refRecMay_is r true w hs)
  obtain ⟨a0, ha0⟩ : ∃ a0, r.fr.toNat = a0 := ⟨_, rfl⟩
  have e0 : r.fr = (a0 : Int) := by omega
  have l0 : a0 < 65536 := by omega
  obtain ⟨a1, ha1⟩ : ∃ a1, r.tt.toNat = a1 := ⟨_, rfl⟩
  have e1 : r.tt = (a1 : Int) := by omega
  have l1 : a1 < 65536 := by omega
  obtain ⟨a2, ha2⟩ : ∃ a2, r.io.toNat = a2 := ⟨_, rfl⟩
  have e2 : r.io = (a2 : Int) := by omega
  have l2 : a2 < 65536 := by omega
  obtain ⟨a3, ha3⟩ : ∃ a3, r.od.toNat = a3 := ⟨_, rfl⟩
  have e3 : r.od = (a3 : Int) := by omega
  have l3 : a3 < 65536 := by omega
  have hn9 := Lib.hid (spA_nine r a0 a1 a2 a3 ha0 ha1 ha2 ha3)
  have hon := Lib.hid (show onN r = if r.on then 1 else 0 from rfl)
  obtain ⟨O, hO⟩ : ∃ O, r.on = O := ⟨_, rfl⟩
  rw [hO] at hon
  obtain ⟨a, ha⟩ : ∃ a, r.fn = a := ⟨_, rfl⟩
  obtain ⟨b, hb⟩ : ∃ b, r.tn = b := ⟨_, rfl⟩
  have hca := Lib.hid (fun (w' : World) (h : Vw w' 23 w.heap.size (rc r)) => (show w'.cell? ⟨w.heap.size, 0, none⟩ = some (.bool O) ∧ w'.cell? ⟨w.heap.size, 1, none⟩ = some (.int .i64 (a0 : Int)) ∧ w'.cell? ⟨w.heap.size, 2, none⟩ = some (.int .i64 (a1 : Int)) ∧ w'.cell? ⟨w.heap.size, 3, none⟩ = some (.int .i64 (a2 : Int)) ∧ w'.cell? ⟨w.heap.size, 4, none⟩ = some (.int .i64 (a3 : Int)) from ⟨by rw [← hO]; exact h.cell (k := 0) rfl, by rw [← e0]; exact h.cell (k := 1) rfl, by rw [← e1]; exact h.cell (k := 2) rfl, by rw [← e2]; exact h.cell (k := 3) rfl, by rw [← e3]; exact h.cell (k := 4) rfl⟩))
  have hcn := Lib.hid (fun (w' : World) (h : Vw w' 23 w.heap.size (rc r)) => (show w'.cell? ⟨w.heap.size, 5, none⟩ = some (.string a) ∧ w'.cell? ⟨w.heap.size, 6, none⟩ = some (.string b) from ⟨by rw [← ha]; exact h.cell (k := 5) rfl, by rw [← hb]; exact h.cell (k := 6) rfl⟩))
  rw [ha, hb] at hsp
  rw [ha] at hl1
  rw [hb] at hl2
  unfold rv at hld hM ⊢
  obtain ⟨C, hC⟩ : ∃ C, rc r = C := ⟨_, rfl⟩
  rw [hC] at hV hb0 hld hM hca hcn ⊢
  clear f1 f2 f3 f4 hl hs e0 e1 e2 e3 ha0 ha1 ha2 ha3 hO ha hb hC
  obtain ⟨x0, hx0⟩ : ∃ x0, a0 / 256 = x0 := ⟨_, rfl⟩
  obtain ⟨y0, hy0⟩ : ∃ y0, a0 % 256 = y0 := ⟨_, rfl⟩
  have ex0 : (a0 : Int) / 256 = (x0 : Int) := by omega
  have wx0 : IntKind.u8.wrap (x0 : Int) = (x0 : Int) := by rw [IntKind.wrap_u8]; omega
  have wa0 : IntKind.u8.wrap (a0 : Int) = (y0 : Int) := by rw [IntKind.wrap_u8]; omega
  have lx0 : x0 < 256 := by omega
  obtain ⟨x1, hx1⟩ : ∃ x1, a1 / 256 = x1 := ⟨_, rfl⟩
  obtain ⟨y1, hy1⟩ : ∃ y1, a1 % 256 = y1 := ⟨_, rfl⟩
  have ex1 : (a1 : Int) / 256 = (x1 : Int) := by omega
  have wx1 : IntKind.u8.wrap (x1 : Int) = (x1 : Int) := by rw [IntKind.wrap_u8]; omega
  have wa1 : IntKind.u8.wrap (a1 : Int) = (y1 : Int) := by rw [IntKind.wrap_u8]; omega
  have lx1 : x1 < 256 := by omega
  obtain ⟨x2, hx2⟩ : ∃ x2, a2 / 256 = x2 := ⟨_, rfl⟩
  obtain ⟨y2, hy2⟩ : ∃ y2, a2 % 256 = y2 := ⟨_, rfl⟩
  have ex2 : (a2 : Int) / 256 = (x2 : Int) := by omega
  have wx2 : IntKind.u8.wrap (x2 : Int) = (x2 : Int) := by rw [IntKind.wrap_u8]; omega
  have wa2 : IntKind.u8.wrap (a2 : Int) = (y2 : Int) := by rw [IntKind.wrap_u8]; omega
  have lx2 : x2 < 256 := by omega
  obtain ⟨x3, hx3⟩ : ∃ x3, a3 / 256 = x3 := ⟨_, rfl⟩
  obtain ⟨y3, hy3⟩ : ∃ y3, a3 % 256 = y3 := ⟨_, rfl⟩
  have ex3 : (a3 : Int) / 256 = (x3 : Int) := by omega
  have wx3 : IntKind.u8.wrap (x3 : Int) = (x3 : Int) := by rw [IntKind.wrap_u8]; omega
  have wa3 : IntKind.u8.wrap (a3 : Int) = (y3 : Int) := by rw [IntKind.wrap_u8]; omega
  have lx3 : x3 < 256 := by omega
  have h9 := hn9.out
  rw [hx0, hx1, hx2, hx3, hy0, hy1, hy2, hy3, Nat.mod_eq_of_lt lx0, Nat.mod_eq_of_lt lx1, Nat.mod_eq_of_lt lx2, Nat.mod_eq_of_lt lx3] at h9
  have hnine := Lib.hid h9
  clear hn9 h9 hx0 hx1 hx2 hx3 hy0 hy1 hy2 hy3
  cases O
  · go_enter Try.func8, Try.ntmps8
    go_wp2_with (go_at_call 13; refine (hM.out _).mono ?_; rintro e w1 ⟨rfl, hb1⟩; have hV1 := Lib.hid (hV.out.on' hb1); have hB1 := Lib.hid (below_two hb0.out hb1); obtain ⟨c0, c1, c2, c3, c4⟩ := hca.out _ hV1.out; have hbA := (Below.refl w1.heap.size w1).alloc (Nat.le_refl _) (.cells #[.int .u8 0, .int .u8 (x0 : Int), .int .u8 (y0 : Int), .int .u8 (x1 : Int), .int .u8 (y1 : Int), .int .u8 (x2 : Int), .int .u8 (y2 : Int), .int .u8 (x3 : Int), .int .u8 (y3 : Int)] 5); have hbZ := (Below.refl w1.heap.size w1).alloc (Nat.le_refl _) (.cells #[.int .u8 0, .int .u8 (x0 : Int), .int .u8 (y0 : Int), .int .u8 (x1 : Int), .int .u8 (y1 : Int), .int .u8 (x2 : Int), .int .u8 (y2 : Int), .int .u8 (x3 : Int), .int .u8 (y3 : Int)] 5); obtain ⟨d0, _⟩ := hca.out _ (hV1.out.on' hbZ); have S2 := Lib.hid (show RlAt C w (.slice (some ⟨w1.heap.size, 0, none⟩) 9 9) (spA r) (w1.alloc (.cells #[.int .u8 0, .int .u8 (x0 : Int), .int .u8 (y0 : Int), .int .u8 (x1 : Int), .int .u8 (y1 : Int), .int .u8 (x2 : Int), .int .u8 (y2 : Int), .int .u8 (x3 : Int), .int .u8 (y3 : Int)] 5)) from ⟨by rw [hnine.out, hon.out]; exact OwnB.made w1 (nine 0 x0 y0 x1 y1 x2 y2 x3 y3) w.heap.size hB1.out.size (by show (9 : Nat) ≤ _; omega), hV1.out.on' hbA, below_two hB1.out hbA⟩); obtain ⟨n5, n6⟩ := hcn.out _ S2.out.2.1; clear hb1 hbA hbZ)
    clear c0 c1 c2 c3 c4 d0 hld
    have hal2 := Lib.hid (show (spA r ++ spT (nb a)).length = 34 by rw [List.length_append, hal.out, spT_length hl1.out])
    have tk1 : True := trivial
    go_region_held3 (fun w' => w'.cell? ⟨w.heap.size, 5, none⟩ = some (.string a) ∧ w'.cell? ⟨w.heap.size, 6, none⟩ = some (.string b)) (first | exact ⟨n5, n6⟩ | exact ⟨q5, q6⟩ | exact ⟨p5, p6⟩ | exact ⟨t5, t6⟩) (first
      | (go_at_call 23; clear tk1; refine (S2.out.drew.named hl1.out (by rw [hal.out]; omega)).mono ?_; rintro e w3 ⟨v3, rfl, hS3⟩; have S3 := Lib.hid hS3; obtain ⟨q5, q6⟩ := hcn.out _ hS3.2.1; clear hS3)
      | (go_at_call 23; refine (S3.out.named hl2.out (by rw [hal2.out]; omega)).mono ?_; rintro e w4 ⟨v4, rfl, hS4⟩; have S4 := Lib.hid hS4; obtain ⟨p5, p6⟩ := hcn.out _ hS4.2.1; rw [← hsp.out] at S4; obtain ⟨sa, sc, rfl, hbt, hnil, hcap⟩ := S4.out.1.slice; have hbt' := Lib.hid hbt; have hnil' := Lib.hid hnil; clear hS4 hbt hnil hcap)
      | (go_at_call 22; refine (refSeal_any 82 sa sc _ (spR r) _ rfl (by decide) (by decide) hspo.out (by rw [hspl.out]; omega) hbt'.out hnil'.out).mono ?_; rintro e w5 ⟨g5, c5, rfl, hg5, hc5, hr5, hb5⟩; obtain ⟨t5, t6⟩ := hcn.out _ (S4.out.2.1.on' hb5); have hend := Lib.hid (show RefSealPost 82 (spR r) w _ w5 from ⟨g5, c5, rfl, Nat.le_trans S4.out.2.2.size hg5, hc5, hr5, below_two S4.out.2.2 hb5⟩); clear hr5 hb5))
    go_wp2_with fail
    go_ret2
    exact hend.out
  · go_enter Try.func8, Try.ntmps8
    go_wp2_with (go_at_call 13; refine (hM.out _).mono ?_; rintro e w1 ⟨rfl, hb1⟩; have hV1 := Lib.hid (hV.out.on' hb1); have hB1 := Lib.hid (below_two hb0.out hb1); obtain ⟨c0, c1, c2, c3, c4⟩ := hca.out _ hV1.out; have hbA := (Below.refl w1.heap.size w1).alloc (Nat.le_refl _) (.cells #[.int .u8 1, .int .u8 (x0 : Int), .int .u8 (y0 : Int), .int .u8 (x1 : Int), .int .u8 (y1 : Int), .int .u8 (x2 : Int), .int .u8 (y2 : Int), .int .u8 (x3 : Int), .int .u8 (y3 : Int)] 5); have hbZ := (Below.refl w1.heap.size w1).alloc (Nat.le_refl _) (.cells #[.int .u8 0, .int .u8 (x0 : Int), .int .u8 (y0 : Int), .int .u8 (x1 : Int), .int .u8 (y1 : Int), .int .u8 (x2 : Int), .int .u8 (y2 : Int), .int .u8 (x3 : Int), .int .u8 (y3 : Int)] 5); obtain ⟨d0, _⟩ := hca.out _ (hV1.out.on' hbZ); have S2 := Lib.hid (show RlAt C w (.slice (some ⟨w1.heap.size, 0, none⟩) 9 9) (spA r) (w1.alloc (.cells #[.int .u8 1, .int .u8 (x0 : Int), .int .u8 (y0 : Int), .int .u8 (x1 : Int), .int .u8 (y1 : Int), .int .u8 (x2 : Int), .int .u8 (y2 : Int), .int .u8 (x3 : Int), .int .u8 (y3 : Int)] 5)) from ⟨by rw [hnine.out, hon.out]; exact OwnB.made w1 (nine 1 x0 y0 x1 y1 x2 y2 x3 y3) w.heap.size hB1.out.size (by show (9 : Nat) ≤ _; omega), hV1.out.on' hbA, below_two hB1.out hbA⟩); obtain ⟨n5, n6⟩ := hcn.out _ S2.out.2.1; clear hb1 hbA hbZ)
    clear c0 c1 c2 c3 c4 d0 hld
    have hal2 := Lib.hid (show (spA r ++ spT (nb a)).length = 34 by rw [List.length_append, hal.out, spT_length hl1.out])
    have tk1 : True := trivial
    go_region_held3 (fun w' => w'.cell? ⟨w.heap.size, 5, none⟩ = some (.string a) ∧ w'.cell? ⟨w.heap.size, 6, none⟩ = some (.string b)) (first | exact ⟨n5, n6⟩ | exact ⟨q5, q6⟩ | exact ⟨p5, p6⟩ | exact ⟨t5, t6⟩) (first
      | (go_at_call 23; clear tk1; refine (S2.out.drew.named hl1.out (by rw [hal.out]; omega)).mono ?_; rintro e w3 ⟨v3, rfl, hS3⟩; have S3 := Lib.hid hS3; obtain ⟨q5, q6⟩ := hcn.out _ hS3.2.1; clear hS3)
      | (go_at_call 23; refine (S3.out.named hl2.out (by rw [hal2.out]; omega)).mono ?_; rintro e w4 ⟨v4, rfl, hS4⟩; have S4 := Lib.hid hS4; obtain ⟨p5, p6⟩ := hcn.out _ hS4.2.1; rw [← hsp.out] at S4; obtain ⟨sa, sc, rfl, hbt, hnil, hcap⟩ := S4.out.1.slice; have hbt' := Lib.hid hbt; have hnil' := Lib.hid hnil; clear hS4 hbt hnil hcap)
      | (go_at_call 22; refine (refSeal_any 82 sa sc _ (spR r) _ rfl (by decide) (by decide) hspo.out (by rw [hspl.out]; omega) hbt'.out hnil'.out).mono ?_; rintro e w5 ⟨g5, c5, rfl, hg5, hc5, hr5, hb5⟩; obtain ⟨t5, t6⟩ := hcn.out _ (S4.out.2.1.on' hb5); have hend := Lib.hid (show RefSealPost 82 (spR r) w _ w5 from ⟨g5, c5, rfl, Nat.le_trans S4.out.2.2.size hg5, hc5, hr5, below_two S4.out.2.2 hb5⟩); clear hr5 hb5))
    go_wp2_with fail
    go_ret2
    exact hend.out
end Go.Proofs.Ytkeihpenelpblaa
