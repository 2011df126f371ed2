/-
  Sectors of records that may be are alike just if the records are; with a byte another one there is none: the walk.
-/
import Derived.Test.YtkeihpenelpblaaVj
import Derived.Test.YtkeihpenelpblaaLo
import Derived.Test.YtkeihpenelpblaaQv
import Derived.Deep.QuietTactic
import Derived.Deep.DeepCutAuto
import Derived.BigQuiet
namespace Go.Proofs.Ytkeihpenelpblaa
open Go.RowKit BigFrame

theorem secR_eq {r q : Rcd} (h1 : mayR r = true) (h2 : mayR q = true) : decide (secR r = secR q) = decide (r = q) := by
  by_cases h : r = q
  · rw [h, decide_eq_true rfl, decide_eq_true rfl]
  · rw [decide_eq_false h, decide_eq_false (fun e => h (secR_inj h1 h2 e))]
theorem readR_flip {r : Rcd} (h : mayR r = true) {k d : Nat} (hk : k < 128) (h0 : 0 < d) (h8 : d < 256) : readR ((secR r).set k (bz (secR r) k ^^^ d)) = (r0, 3) := by
  have hl := secR_length (mayR_len h)
  have hf : fitsB (secR r) = true := sealed_fits (by rw [spR_length (mayR_len h)]; omega)
  have hz := kindOf_flip (secR_octs (mayR_len h)) hl hf hk h0 h8
  exact readR_no (fun e => by rw [hz] at e; exact absurd e.1 (by decide))
/-- the same, off -/
def offR (r : Rcd) : Rcd := { r with on := false }
theorem offR_may (r : Rcd) : mayR (offR r) = decide (offR r = r0) := by
  unfold mayR
  rw [show (offR r).on = false from rfl, Bool.false_and, Bool.or_false]

/-- two records and two sectors lie where they lay -/
structure RaC (w : World) (p q : List Value) (X Y : List Nat) (B1 B2 g1 g2 : Nat) (w' : World) : Prop where
  va : Vw w' 23 B1 p
  vb : Vw w' 23 B2 q
  x : Row w' g1 X
  y : Row w' g2 Y
  wb : Below w.heap.size w w'
theorem RaC.on {w : World} {p q : List Value} {X Y : List Nat} {B1 B2 g1 g2 : Nat} {w' w'' : World} (h : RaC w p q X Y B1 B2 g1 g2 w') (hb : Below w'.heap.size w' w'') : RaC w p q X Y B1 B2 g1 g2 w'' :=
  ⟨h.va.on' hb, h.vb.on' hb, h.x.on hb h.x.lt, h.y.on hb h.y.lt, below_two h.wb hb⟩
theorem RaC.told {w : World} {p q : List Value} {X Y : List Nat} {B1 B2 g1 g2 : Nat} {w' : World} {v : Value} {f : FuncId} {args : Array Value} (hc : Calls Try.prog f args w' (fun e w'' => e = .returned v ∧ Below w'.heap.size w' w'')) (h : RaC w p q X Y B1 B2 g1 g2 w') :
    Calls Try.prog f args w' fun e w'' => e = .returned v ∧ RaC w p q X Y B1 B2 g1 g2 w'' := hc.mono fun _ _ ⟨he, hd⟩ => ⟨he, h.on hd⟩
/-- two records lie where they lay -/
structure RbC (w : World) (p q : List Value) (B1 B2 : Nat) (w' : World) : Prop where
  va : Vw w' 23 B1 p
  vb : Vw w' 23 B2 q
  wb : Below w.heap.size w w'
theorem RbC.on {w : World} {p q : List Value} {B1 B2 : Nat} {w' w'' : World} (h : RbC w p q B1 B2 w') (hb : Below w'.heap.size w' w'') : RbC w p q B1 B2 w'' :=
  ⟨h.va.on' hb, h.vb.on' hb, below_two h.wb hb⟩
theorem RbC.told {w : World} {p q : List Value} {B1 B2 : Nat} {w' : World} {v : Value} {f : FuncId} {args : Array Value} (hc : Calls Try.prog f args w' (fun e w'' => e = .returned v ∧ Below w'.heap.size w' w'')) (h : RbC w p q B1 B2 w') :
    Calls Try.prog f args w' fun e w'' => e = .returned v ∧ RbC w p q B1 B2 w'' := hc.mono fun _ _ ⟨he, hd⟩ => ⟨he, h.on hd⟩

attribute [local go_sem ↓] ldR_of stR_of bdR_of eqR_of
set_option maxHeartbeats 2000000 in
theorem recApart_long (r q : Rcd) (z : Int) (d : Nat) (w : World) (h : 100 < r.fn.size ∨ 100 < r.tn.size ∨ 100 < q.fn.size ∨ 100 < q.tn.size) :
    Calls Try.prog 4 #[rv r, rv q, .int .i64 z, .int .u8 (d : Int)] w (Tells (.bool true) w) := by
  have hb1 := (Below.refl w.heap.size w).alloc (Nat.le_refl _) (.cells (rc r).toArray 23)
  have hb2 := (Below.refl (w.alloc (.cells (rc r).toArray 23)).heap.size (w.alloc (.cells (rc r).toArray 23))).alloc (Nat.le_refl _) (.cells (rc q).toArray 23)
  have vA := (Vw.alloc w (rc r) 23).on' hb2
  have vB := Vw.alloc (w.alloc (.cells (rc r).toArray 23)) (rc q) 23
  have hsz : (w.alloc (.cells (rc r).toArray 23)).heap.size = w.heap.size + 1 := by simp
  rw [hsz] at vB
  have B0 := Lib.hid (below_two hb1 hb2)
  have c5 := vA.cell (k := 5) (v := .string r.fn) rfl
  have c6 := vA.cell (k := 6) (v := .string r.tn) rfl
  have d5 := vB.cell (k := 5) (v := .string q.fn) rfl
  have d6 := vB.cell (k := 6) (v := .string q.tn) rfl
  obtain ⟨s5, e5⟩ : ∃ s, r.fn = s := ⟨_, rfl⟩
  obtain ⟨s6, e6⟩ : ∃ s, r.tn = s := ⟨_, rfl⟩
  obtain ⟨u5, x5⟩ : ∃ s, q.fn = s := ⟨_, rfl⟩
  obtain ⟨u6, x6⟩ : ∃ s, q.tn = s := ⟨_, rfl⟩
  rw [e5] at c5
  rw [e6] at c6
  rw [x5] at d5
  rw [x6] at d6
  rw [e5, e6, x5, x6] at h
  unfold rv
  obtain ⟨P, hP⟩ : ∃ P, rc r = P := ⟨_, rfl⟩
  obtain ⟨Q, hQ⟩ : ∃ Q, rc q = Q := ⟨_, rfl⟩
  rw [hP] at B0 c5 c6 d5 d6 ⊢
  rw [hQ] at B0 c5 c6 d5 d6 ⊢
  clear hb1 hb2 vA vB hsz e5 e6 x5 x6 hP hQ
  obtain ⟨n5, m5⟩ : ∃ n, s5.size = n := ⟨_, rfl⟩
  obtain ⟨n6, m6⟩ : ∃ n, s6.size = n := ⟨_, rfl⟩
  obtain ⟨k5, j5⟩ : ∃ n, u5.size = n := ⟨_, rfl⟩
  obtain ⟨k6, j6⟩ : ∃ n, u6.size = n := ⟨_, rfl⟩
  rw [m5, m6, j5, j6] at h
  by_cases hn5 : 100 < n5
  · clear h
    go_enter Try.func4, Try.ntmps4
    go_wp2_with (go_at_call 5; refine (recAwake_any _).mono ?_; rintro e w3 ⟨rfl, hd⟩; have hend := Lib.hid (below_two B0.out hd); clear hd)
    go_ret
    exact ⟨rfl, hend.out⟩
  by_cases hn6 : 100 < n6
  · clear h
    go_enter Try.func4, Try.ntmps4
    go_wp2_with (go_at_call 5; refine (recAwake_any _).mono ?_; rintro e w3 ⟨rfl, hd⟩; have hend := Lib.hid (below_two B0.out hd); clear hd)
    go_ret
    exact ⟨rfl, hend.out⟩
  by_cases hk5 : 100 < k5
  · clear h
    go_enter Try.func4, Try.ntmps4
    go_wp2_with (go_at_call 5; refine (recAwake_any _).mono ?_; rintro e w3 ⟨rfl, hd⟩; have hend := Lib.hid (below_two B0.out hd); clear hd)
    go_ret
    exact ⟨rfl, hend.out⟩
  have hk6 : 100 < k6 := by omega
  clear h
  go_enter Try.func4, Try.ntmps4
  go_wp2_with (go_at_call 5; refine (recAwake_any _).mono ?_; rintro e w3 ⟨rfl, hd⟩; have hend := Lib.hid (below_two B0.out hd); clear hd)
  go_ret
  exact ⟨rfl, hend.out⟩
set_option maxHeartbeats 2000000 in
theorem recApart_ff (r q : Rcd) (z : Int) (d : Nat) (w : World) (h5 : r.fn.size ≤ 100) (h6 : r.tn.size ≤ 100) (g5 : q.fn.size ≤ 100) (g6 : q.tn.size ≤ 100) (h1 : mayR r = false) (h2 : mayR q = false) :
    Calls Try.prog 4 #[rv r, rv q, .int .i64 z, .int .u8 (d : Int)] w (Tells (.bool true) w) := by
  have hb1 := (Below.refl w.heap.size w).alloc (Nat.le_refl _) (.cells (rc r).toArray 23)
  have hb2 := (Below.refl (w.alloc (.cells (rc r).toArray 23)).heap.size (w.alloc (.cells (rc r).toArray 23))).alloc (Nat.le_refl _) (.cells (rc q).toArray 23)
  have vA := (Vw.alloc w (rc r) 23).on' hb2
  have vB := Vw.alloc (w.alloc (.cells (rc r).toArray 23)) (rc q) 23
  have hsz : (w.alloc (.cells (rc r).toArray 23)).heap.size = w.heap.size + 1 := by simp
  rw [hsz] at vB
  have B0 := Lib.hid (below_two hb1 hb2)
  have c5 := vA.cell (k := 5) (v := .string r.fn) rfl
  have c6 := vA.cell (k := 6) (v := .string r.tn) rfl
  have d5 := vB.cell (k := 5) (v := .string q.fn) rfl
  have d6 := vB.cell (k := 6) (v := .string q.tn) rfl
  obtain ⟨s5, e5⟩ : ∃ s, r.fn = s := ⟨_, rfl⟩
  obtain ⟨s6, e6⟩ : ∃ s, r.tn = s := ⟨_, rfl⟩
  obtain ⟨u5, x5⟩ : ∃ s, q.fn = s := ⟨_, rfl⟩
  obtain ⟨u6, x6⟩ : ∃ s, q.tn = s := ⟨_, rfl⟩
  rw [e5] at c5
  rw [e6] at c6
  rw [x5] at d5
  rw [x6] at d6
  rw [e5] at h5
  rw [e6] at h6
  rw [x5] at g5
  rw [x6] at g6
  have VA := Lib.hid vA
  have VB := Lib.hid vB
  have hld1 := run_ldR vA.whole
  have qa := Lib.hid (fun w => recLay_no r w h1)
  have qb := Lib.hid (fun w => recLay_no q w h2)
  have ma := Lib.hid (fun w => recMay_is r false w h1)
  have mb := Lib.hid (fun w => recMay_is q false w h2)
  obtain ⟨P, hP⟩ : ∃ P, rc r = P := ⟨_, rfl⟩
  obtain ⟨Q, hQ⟩ : ∃ Q, rc q = Q := ⟨_, rfl⟩
  unfold rv at hld1 qa qb ma mb ⊢
  have hPr := Lib.hid hP
  have hQr := Lib.hid hQ
  rw [hP] at VA VB hld1 qa ma B0 c5 c6 d5 d6 ⊢
  rw [hQ] at VA VB hld1 qb mb B0 c5 c6 d5 d6 ⊢
  clear hb1 hb2 vA vB hsz e5 e6 x5 x6 hP hQ h1 h2
  obtain ⟨n5, m5⟩ : ∃ n, s5.size = n := ⟨_, rfl⟩
  obtain ⟨n6, m6⟩ : ∃ n, s6.size = n := ⟨_, rfl⟩
  obtain ⟨k5, j5⟩ : ∃ n, u5.size = n := ⟨_, rfl⟩
  obtain ⟨k6, j6⟩ : ∃ n, u6.size = n := ⟨_, rfl⟩
  rw [m5] at h5
  rw [m6] at h6
  rw [j5] at g5
  rw [j6] at g6
  go_enter Try.func4, Try.ntmps4
  have tk0 : True := trivial
  have tk1 : True := trivial
  go_wp2_with (first
    | (go_at_call 7; clear tk0; refine (qa.out _).mono ?_; unfold noRec; rintro e w1 ⟨rfl, hd⟩; have VA1 := Lib.hid (VA.out.on' hd); have VB1 := Lib.hid (VB.out.on' hd); have B1 := Lib.hid (below_two B0.out hd); have hld2 := run_ldR (r := q) (by rw [hQr.out]; exact VB1.out.whole); unfold rv at hld2; rw [hQr.out] at hld2; clear hd)
    | (go_at_call 7; refine (qb.out _).mono ?_; unfold noRec; rintro e w2 ⟨rfl, hd⟩; have VA2 := Lib.hid (VA1.out.on' hd); have VB2 := Lib.hid (VB1.out.on' hd); have B2 := Lib.hid (below_two B1.out hd); have hld3 := run_ldR (r := r) (by rw [hPr.out]; exact VA2.out.whole); unfold rv at hld3; rw [hPr.out] at hld3; clear hd)
    | (go_at_call 12; clear tk1; refine (ma.out _).mono ?_; rintro e w3 ⟨rfl, hd⟩; have VB3 := Lib.hid (VB2.out.on' hd); have B3 := Lib.hid (below_two B2.out hd); have hld4 := run_ldR (r := q) (by rw [hQr.out]; exact VB3.out.whole); unfold rv at hld4; rw [hQr.out] at hld4; clear hd)
    | (go_at_call 12; refine (mb.out _).mono ?_; rintro e w4 ⟨rfl, hd⟩; have B4 := Lib.hid (below_two B3.out hd); clear hd)
    | (go_at_call 5; refine (recAwake_any _).mono ?_; rintro e w5 ⟨rfl, hd⟩; have hend := Lib.hid (below_two B4.out hd); clear hd))
  go_ret
  exact ⟨rfl, hend.out⟩
set_option maxHeartbeats 2000000 in
theorem recApart_ft (r q : Rcd) (z : Int) (d : Nat) (w : World) (h5 : r.fn.size ≤ 100) (h6 : r.tn.size ≤ 100) (g5 : q.fn.size ≤ 100) (g6 : q.tn.size ≤ 100) (h1 : mayR r = false) (h2 : mayR q = true) :
    Calls Try.prog 4 #[rv r, rv q, .int .i64 z, .int .u8 (d : Int)] w (Tells (.bool true) w) := by
  have hb1 := (Below.refl w.heap.size w).alloc (Nat.le_refl _) (.cells (rc r).toArray 23)
  have hb2 := (Below.refl (w.alloc (.cells (rc r).toArray 23)).heap.size (w.alloc (.cells (rc r).toArray 23))).alloc (Nat.le_refl _) (.cells (rc q).toArray 23)
  have vA := (Vw.alloc w (rc r) 23).on' hb2
  have vB := Vw.alloc (w.alloc (.cells (rc r).toArray 23)) (rc q) 23
  have hsz : (w.alloc (.cells (rc r).toArray 23)).heap.size = w.heap.size + 1 := by simp
  rw [hsz] at vB
  have B0 := Lib.hid (below_two hb1 hb2)
  have c5 := vA.cell (k := 5) (v := .string r.fn) rfl
  have c6 := vA.cell (k := 6) (v := .string r.tn) rfl
  have d5 := vB.cell (k := 5) (v := .string q.fn) rfl
  have d6 := vB.cell (k := 6) (v := .string q.tn) rfl
  obtain ⟨s5, e5⟩ : ∃ s, r.fn = s := ⟨_, rfl⟩
  obtain ⟨s6, e6⟩ : ∃ s, r.tn = s := ⟨_, rfl⟩
  obtain ⟨u5, x5⟩ : ∃ s, q.fn = s := ⟨_, rfl⟩
  obtain ⟨u6, x6⟩ : ∃ s, q.tn = s := ⟨_, rfl⟩
  rw [e5] at c5
  rw [e6] at c6
  rw [x5] at d5
  rw [x6] at d6
  rw [e5] at h5
  rw [e6] at h6
  rw [x5] at g5
  rw [x6] at g6
  have VA := Lib.hid vA
  have VB := Lib.hid vB
  have hld1 := run_ldR vA.whole
  have qa := Lib.hid (fun w => recLay_no r w h1)
  have qb := Lib.hid (fun w => recLay_ok q w h2)
  have ma := Lib.hid (fun w => recMay_is r false w h1)
  have mb := Lib.hid (fun w => recMay_is q true w h2)
  obtain ⟨P, hP⟩ : ∃ P, rc r = P := ⟨_, rfl⟩
  obtain ⟨Q, hQ⟩ : ∃ Q, rc q = Q := ⟨_, rfl⟩
  unfold rv at hld1 qa qb ma mb ⊢
  have hPr := Lib.hid hP
  have hQr := Lib.hid hQ
  rw [hP] at VA VB hld1 qa ma B0 c5 c6 d5 d6 ⊢
  rw [hQ] at VA VB hld1 qb mb B0 c5 c6 d5 d6 ⊢
  clear hb1 hb2 vA vB hsz e5 e6 x5 x6 hP hQ h1 h2
  obtain ⟨n5, m5⟩ : ∃ n, s5.size = n := ⟨_, rfl⟩
  obtain ⟨n6, m6⟩ : ∃ n, s6.size = n := ⟨_, rfl⟩
  obtain ⟨k5, j5⟩ : ∃ n, u5.size = n := ⟨_, rfl⟩
  obtain ⟨k6, j6⟩ : ∃ n, u6.size = n := ⟨_, rfl⟩
  rw [m5] at h5
  rw [m6] at h6
  rw [j5] at g5
  rw [j6] at g6
  go_enter Try.func4, Try.ntmps4
  have tk0 : True := trivial
  have tk1 : True := trivial
  go_wp2_with (first
    | (go_at_call 7; clear tk0; refine (qa.out _).mono ?_; unfold noRec; rintro e w1 ⟨rfl, hd⟩; have VA1 := Lib.hid (VA.out.on' hd); have VB1 := Lib.hid (VB.out.on' hd); have B1 := Lib.hid (below_two B0.out hd); have hld2 := run_ldR (r := q) (by rw [hQr.out]; exact VB1.out.whole); unfold rv at hld2; rw [hQr.out] at hld2; clear hd)
    | (go_at_call 7; refine (qb.out _).mono ?_; rintro e w2 ⟨g2, rfl, hg2, hrr, hd⟩; have VA2 := Lib.hid (VA1.out.on' hd); have VB2 := Lib.hid (VB1.out.on' hd); have B2 := Lib.hid (below_two B1.out hd); have hld3 := run_ldR (r := r) (by rw [hPr.out]; exact VA2.out.whole); unfold rv at hld3; rw [hPr.out] at hld3; clear hd)
    | (go_at_call 12; clear tk1; refine (ma.out _).mono ?_; rintro e w3 ⟨rfl, hd⟩; have VB3 := Lib.hid (VB2.out.on' hd); have B3 := Lib.hid (below_two B2.out hd); have hld4 := run_ldR (r := q) (by rw [hQr.out]; exact VB3.out.whole); unfold rv at hld4; rw [hQr.out] at hld4; clear hd)
    | (go_at_call 12; refine (mb.out _).mono ?_; rintro e w4 ⟨rfl, hd⟩; have B4 := Lib.hid (below_two B3.out hd); clear hd)
    | (go_at_call 5; refine (recAwake_any _).mono ?_; rintro e w5 ⟨rfl, hd⟩; have hend := Lib.hid (below_two B4.out hd); clear hd))
  go_ret
  exact ⟨rfl, hend.out⟩
set_option maxHeartbeats 2000000 in
theorem recApart_tf (r q : Rcd) (z : Int) (d : Nat) (w : World) (h5 : r.fn.size ≤ 100) (h6 : r.tn.size ≤ 100) (g5 : q.fn.size ≤ 100) (g6 : q.tn.size ≤ 100) (h1 : mayR r = true) (h2 : mayR q = false) :
    Calls Try.prog 4 #[rv r, rv q, .int .i64 z, .int .u8 (d : Int)] w (Tells (.bool true) w) := by
  have hb1 := (Below.refl w.heap.size w).alloc (Nat.le_refl _) (.cells (rc r).toArray 23)
  have hb2 := (Below.refl (w.alloc (.cells (rc r).toArray 23)).heap.size (w.alloc (.cells (rc r).toArray 23))).alloc (Nat.le_refl _) (.cells (rc q).toArray 23)
  have vA := (Vw.alloc w (rc r) 23).on' hb2
  have vB := Vw.alloc (w.alloc (.cells (rc r).toArray 23)) (rc q) 23
  have hsz : (w.alloc (.cells (rc r).toArray 23)).heap.size = w.heap.size + 1 := by simp
  rw [hsz] at vB
  have B0 := Lib.hid (below_two hb1 hb2)
  have c5 := vA.cell (k := 5) (v := .string r.fn) rfl
  have c6 := vA.cell (k := 6) (v := .string r.tn) rfl
  have d5 := vB.cell (k := 5) (v := .string q.fn) rfl
  have d6 := vB.cell (k := 6) (v := .string q.tn) rfl
  obtain ⟨s5, e5⟩ : ∃ s, r.fn = s := ⟨_, rfl⟩
  obtain ⟨s6, e6⟩ : ∃ s, r.tn = s := ⟨_, rfl⟩
  obtain ⟨u5, x5⟩ : ∃ s, q.fn = s := ⟨_, rfl⟩
  obtain ⟨u6, x6⟩ : ∃ s, q.tn = s := ⟨_, rfl⟩
  rw [e5] at c5
  rw [e6] at c6
  rw [x5] at d5
  rw [x6] at d6
  rw [e5] at h5
  rw [e6] at h6
  rw [x5] at g5
  rw [x6] at g6
  have VA := Lib.hid vA
  have VB := Lib.hid vB
  have hld1 := run_ldR vA.whole
  have qa := Lib.hid (fun w => recLay_ok r w h1)
  have qb := Lib.hid (fun w => recLay_no q w h2)
  have ma := Lib.hid (fun w => recMay_is r true w h1)
  have mb := Lib.hid (fun w => recMay_is q false w h2)
  obtain ⟨P, hP⟩ : ∃ P, rc r = P := ⟨_, rfl⟩
  obtain ⟨Q, hQ⟩ : ∃ Q, rc q = Q := ⟨_, rfl⟩
  unfold rv at hld1 qa qb ma mb ⊢
  have hPr := Lib.hid hP
  have hQr := Lib.hid hQ
  rw [hP] at VA VB hld1 qa ma B0 c5 c6 d5 d6 ⊢
  rw [hQ] at VA VB hld1 qb mb B0 c5 c6 d5 d6 ⊢
  clear hb1 hb2 vA vB hsz e5 e6 x5 x6 hP hQ h1 h2
  obtain ⟨n5, m5⟩ : ∃ n, s5.size = n := ⟨_, rfl⟩
  obtain ⟨n6, m6⟩ : ∃ n, s6.size = n := ⟨_, rfl⟩
  obtain ⟨k5, j5⟩ : ∃ n, u5.size = n := ⟨_, rfl⟩
  obtain ⟨k6, j6⟩ : ∃ n, u6.size = n := ⟨_, rfl⟩
  rw [m5] at h5
  rw [m6] at h6
  rw [j5] at g5
  rw [j6] at g6
  go_enter Try.func4, Try.ntmps4
  have tk0 : True := trivial
  have tk1 : True := trivial
  go_wp2_with (first
    | (go_at_call 7; clear tk0; refine (qa.out _).mono ?_; rintro e w1 ⟨g1, rfl, hg1, hrr, hd⟩; have VA1 := Lib.hid (VA.out.on' hd); have VB1 := Lib.hid (VB.out.on' hd); have B1 := Lib.hid (below_two B0.out hd); have hld2 := run_ldR (r := q) (by rw [hQr.out]; exact VB1.out.whole); unfold rv at hld2; rw [hQr.out] at hld2; clear hd)
    | (go_at_call 7; refine (qb.out _).mono ?_; unfold noRec; rintro e w2 ⟨rfl, hd⟩; have VA2 := Lib.hid (VA1.out.on' hd); have VB2 := Lib.hid (VB1.out.on' hd); have B2 := Lib.hid (below_two B1.out hd); have hld3 := run_ldR (r := r) (by rw [hPr.out]; exact VA2.out.whole); unfold rv at hld3; rw [hPr.out] at hld3; clear hd)
    | (go_at_call 12; clear tk1; refine (ma.out _).mono ?_; rintro e w3 ⟨rfl, hd⟩; have VB3 := Lib.hid (VB2.out.on' hd); have B3 := Lib.hid (below_two B2.out hd); have hld4 := run_ldR (r := q) (by rw [hQr.out]; exact VB3.out.whole); unfold rv at hld4; rw [hQr.out] at hld4; clear hd)
    | (go_at_call 12; refine (mb.out _).mono ?_; rintro e w4 ⟨rfl, hd⟩; have B4 := Lib.hid (below_two B3.out hd); clear hd)
    | (go_at_call 5; refine (recAwake_any _).mono ?_; rintro e w5 ⟨rfl, hd⟩; have hend := Lib.hid (below_two B4.out hd); clear hd))
  go_ret
  exact ⟨rfl, hend.out⟩
set_option maxRecDepth 100000 in
set_option maxHeartbeats 8000000 in
theorem recApart_both (r q : Rcd) (z : Int) (d : Nat) (w : World) (hd8 : d < 256) (h5 : r.fn.size ≤ 100) (h6 : r.tn.size ≤ 100) (g5 : q.fn.size ≤ 100) (g6 : q.tn.size ≤ 100) (h1 : mayR r = true) (h2 : mayR q = true) :
    Calls Try.prog 4 #[rv r, rv q, .int .i64 z, .int .u8 (d : Int)] w (Tells (.bool true) w) := by
  have hb1 := (Below.refl w.heap.size w).alloc (Nat.le_refl _) (.cells (rc r).toArray 23)
  have hb2 := (Below.refl (w.alloc (.cells (rc r).toArray 23)).heap.size (w.alloc (.cells (rc r).toArray 23))).alloc (Nat.le_refl _) (.cells (rc q).toArray 23)
  have vA := (Vw.alloc w (rc r) 23).on' hb2
  have vB := Vw.alloc (w.alloc (.cells (rc r).toArray 23)) (rc q) 23
  have hsz : (w.alloc (.cells (rc r).toArray 23)).heap.size = w.heap.size + 1 := by simp
  rw [hsz] at vB
  have B0 := Lib.hid (below_two hb1 hb2)
  have c5 := vA.cell (k := 5) (v := .string r.fn) rfl
  have c6 := vA.cell (k := 6) (v := .string r.tn) rfl
  have d5 := vB.cell (k := 5) (v := .string q.fn) rfl
  have d6 := vB.cell (k := 6) (v := .string q.tn) rfl
  obtain ⟨s5, e5⟩ : ∃ s, r.fn = s := ⟨_, rfl⟩
  obtain ⟨s6, e6⟩ : ∃ s, r.tn = s := ⟨_, rfl⟩
  obtain ⟨u5, x5⟩ : ∃ s, q.fn = s := ⟨_, rfl⟩
  obtain ⟨u6, x6⟩ : ∃ s, q.tn = s := ⟨_, rfl⟩
  rw [e5] at c5
  rw [e6] at c6
  rw [x5] at d5
  rw [x6] at d6
  rw [e5] at h5
  rw [e6] at h6
  rw [x5] at g5
  rw [x6] at g6
  have VA := Lib.hid vA
  have VB := Lib.hid vB
  have hld1 := run_ldR vA.whole
  have qa := Lib.hid (fun w => recLay_ok r w h1)
  have qb := Lib.hid (fun w => recLay_ok q w h2)
  obtain ⟨b, hb0⟩ : ∃ b, decide (r = q) = b := ⟨_, rfl⟩
  have hr := Lib.hid (show decide (secR r = secR q) = b by rw [secR_eq h1 h2, hb0])
  have hrd := Lib.hid (readRV_sec h1)
  have hrz := Lib.hid (show ∀ k, k < 128 → 0 < d → readRV ((secR r).set k (bz (secR r) k ^^^ d)) = .tuple #[rv r0, .int .i64 3] from fun k hk h0 => by unfold readRV; rw [readR_flip h1 hk h0 hd8])
  have hsp := Lib.hid (secR_length (mayR_len h1))
  have hsq := Lib.hid (secR_length (mayR_len h2))
  have hso := Lib.hid (secR_octs (mayR_len h1))
  have heq := fun w => run_eqR r q w
  rw [hb0] at heq
  have hgd := Try.eqGuardR
  have hbd := run_bd0R
  obtain ⟨f, hf0⟩ : ∃ f, decide (offR r = r0) = f := ⟨_, rfl⟩
  have hMo := Lib.hid (fun w => recMay_is (offR r) f w ((offR_may r).trans hf0))
  have heo := fun w => run_eqR (offR r) r0 w
  rw [hf0] at heo
  obtain ⟨Z, hZ⟩ : ∃ Z, r0 = Z := ⟨_, rfl⟩
  obtain ⟨R, hR⟩ : ∃ R, offR r = R := ⟨_, rfl⟩
  rw [hZ] at hrz hbd heo
  rw [hR] at hMo heo
  have hoff := Lib.hid (show (rc r).set 0 (.bool false) = rc R by rw [← hR]; rfl)
  have hx5 := Lib.hid (show (rc r)[5]? = some (.string s5) by rw [← e5]; rfl)
  have hx3 := Lib.hid (show (rc r)[3]? = some (.int .i64 r.io) from rfl)
  have hy5 := Lib.hid (show (rc R)[5]? = some (.string s5) by rw [← hR, ← e5]; rfl)
  have hy3 := Lib.hid (show (rc R)[3]? = some (.int .i64 r.io) by rw [← hR]; rfl)
  have hx0 := Lib.hid (show (rc r)[0]? = some (.bool r.on) from rfl)
  obtain ⟨i, hi⟩ : ∃ i, r.io = i := ⟨_, rfl⟩
  rw [hi] at hx3 hy3
  unfold rv at hld1 qa qb heq hbd hMo heo hrd hrz ⊢
  obtain ⟨P, hP⟩ : ∃ P, rc r = P := ⟨_, rfl⟩
  obtain ⟨Q, hQ⟩ : ∃ Q, rc q = Q := ⟨_, rfl⟩
  obtain ⟨Cz, hCz⟩ : ∃ C, rc Z = C := ⟨_, rfl⟩
  obtain ⟨Cr, hCr⟩ : ∃ C, rc R = C := ⟨_, rfl⟩
  have hPr := Lib.hid hP
  have hQr := Lib.hid hQ
  have hZr := Lib.hid hCz
  have hRr := Lib.hid hCr
  rw [hP] at VA VB hld1 qa B0 c5 c6 d5 d6 heq hrd hoff hx5 hx3 hx0 ⊢
  rw [hQ] at VA VB hld1 qb B0 c5 c6 d5 d6 heq ⊢
  rw [hCz] at hrz hbd heo
  rw [hCr] at hMo heo hoff hy5 hy3
  have hs55 : (s5.toList == s5.toList) = true := beq_self_eq_true _
  clear hb1 hb2 vA vB hsz e5 e6 x5 x6 hP hQ h1 h2 hb0 hf0 hZ hR hi hCz hCr
  obtain ⟨n5, m5⟩ : ∃ n, s5.size = n := ⟨_, rfl⟩
  obtain ⟨n6, m6⟩ : ∃ n, s6.size = n := ⟨_, rfl⟩
  obtain ⟨k5, j5⟩ : ∃ n, u5.size = n := ⟨_, rfl⟩
  obtain ⟨k6, j6⟩ : ∃ n, u6.size = n := ⟨_, rfl⟩
  rw [m5] at h5
  rw [m6] at h6
  rw [j5] at g5
  rw [j6] at g6
  go_enter Try.func4, Try.ntmps4
  have tk0 : True := trivial
  go_upto_region 7 with (first
    | (go_at_call 7; clear tk0; refine (qa.out _).mono ?_; rintro e w1 ⟨g1, rfl, hg1, hrr, hd⟩; have X1 := Lib.hid (show Row w1 g1 (secR r) from hrr); have VA1 := Lib.hid (VA.out.on' hd); have VB1 := Lib.hid (VB.out.on' hd); have B1 := Lib.hid (below_two B0.out hd); have hg1' := Lib.hid (Nat.le_trans B0.out.size hg1); have hg1b := Lib.hid (Nat.lt_of_lt_of_le VB.out.lt hg1); have hld2 := run_ldR (r := q) (by rw [hQr.out]; exact VB1.out.whole); unfold rv at hld2; rw [hQr.out] at hld2; clear hd hrr)
    | (go_at_call 7; refine (qb.out _).mono ?_; rintro e w2 ⟨g2, rfl, hg2, hrr, hd⟩; have C2 := Lib.hid (show RaC w P Q (secR r) (secR q) w.heap.size (w.heap.size + 1) g1 g2 w2 from ⟨VA1.out.on' hd, VB1.out.on' hd, X1.out.on hd X1.out.lt, hrr, below_two B1.out hd⟩); have hn12 := Lib.hid (Nat.lt_of_lt_of_le X1.out.lt hg2); clear hd hrr))
  obtain ⟨C, hCe⟩ : ∃ C, RaC w P Q (secR r) (secR q) w.heap.size (w.heap.size + 1) g1 g2 = C := ⟨_, rfl⟩
  have hC7 := Lib.hid (show C w2.drew by rw [← hCe]; exact C2.out.on ((Below.refl _ _).drew))
  have hCC := Lib.hid hCe
  clear hCe hld1 hld2 c5 c6 d5 d6
  refine wp_region_at (C := C) (by kernel_rfl) (by kernel_rfl) hC7.out ?_
  rw [← hCC.out]
  go_big_quiet_want; go_big_quiet_op; go_big_quiet_on
  go_big_quiet_want; go_big_quiet_op; go_big_quiet_on
  go_big_quiet_want; refine quiet_val (.bool b) (fun _ hC => by unfold Oper.quietAt Oper.quietUpon; go_simp; exact hC.told (same_r _ _ _ _ 128 _ _ b _ hsp.out hsq.out hr.out (by omega) hC.x.bat hC.y.bat)) ?_; go_simp; try go_big_quiet_on
  go_big_quiet_want; refine quiet_val (.agg P.toArray) (fun _ hC => by have hq := run_ldR (r := r) (by rw [hPr.out]; exact hC.va.whole); unfold rv at hq; rw [hPr.out] at hq; unfold Oper.quietAt Oper.quietUpon; go_simp) ?_; go_simp; try go_big_quiet_on
  go_big_quiet_want; refine quiet_val (.agg Q.toArray) (fun _ hC => by have hq := run_ldR (r := q) (by rw [hQr.out]; exact hC.vb.whole); unfold rv at hq; rw [hQr.out] at hq; unfold Oper.quietAt Oper.quietUpon; go_simp) ?_; go_simp; try go_big_quiet_on
  go_big_quiet_want; refine quiet_val (.bool b) (fun _ _ => by unfold Oper.quietAt Oper.quietUpon; go_simp) ?_; go_simp; try go_big_quiet_on
  go_big_quiet_want; refine quiet_val (.bool true) (fun _ _ => by unfold Oper.quietAt Oper.quietUpon; go_simp) ?_; go_simp; try go_big_quiet_on
  go_big_quiet_want; go_big_quiet_op; go_big_quiet_on
  refine wpQuiet_nil ?_
  intro w3 hC
  have C3 := Lib.hid hC
  clear hC
  have tk1 : True := trivial
  go_upto_region 9 with (go_at_call 16; refine (low_c z _ 128 _ rfl (by omega) (by omega)).mono ?_; rintro e w4 ⟨k, hk, rfl, rfl⟩; obtain ⟨y, hy⟩ : ∃ y, bz (secR r) k = y := ⟨_, rfl⟩; have c0 := C3.out.x.cell (k := k) (by rw [hsp.out]; omega); rw [hy] at c0; have f0 := C3.out.x.frozen k; have k0 : (0 : Int) ≤ (k : Int) := (by omega); have k8 : (k : Int) < 128 := (by omega); have hx8 := Lib.hid (hso.out k (by rw [hsp.out]; omega)); have hkk := Lib.hid hk; have hyy := Lib.hid hy; rw [hy] at hx8; clear hy hk)
  have hxi : bits .xor .u8 (y : Int) (d : Int) = ((y ^^^ d : Nat) : Int) := u8_xor_nat _ _ hx8.out hd8
  have X5 := C3.out.x.set k (y ^^^ d)
  have ho5 := (Oth.refl g1 w3).setCell (p := k) (.int .u8 ((y ^^^ d : Nat) : Int))
  have A5 := C3.out.va.oth ho5 (by have := hg1b.out; omega)
  have B5 := below_oth C3.out.wb ho5 hg1'.out
  have hso5 := hso.out.set (k := k) (x := y ^^^ d) (by have h := Nat.xor_lt_two_pow (n := 8) (x := y) (y := d) (by have := hx8.out; simpa using this) (by simpa using hd8); simpa using h)
  have hln5 : ((secR r).set k (y ^^^ d)).length = 128 := by rw [List.length_set]; exact hsp.out
  rw [← hxi] at X5 A5 B5
  have X5 := Lib.hid X5
  have A5 := Lib.hid A5
  have B5 := Lib.hid B5
  have hso5 := Lib.hid hso5
  have hln5 := Lib.hid hln5
  clear ho5
  by_cases hd0 : d = 0
  · have hset : (secR r).set k (y ^^^ d) = secR r := by
      rw [hd0, Nat.xor_zero, ← hyy.out, bz_get (by rw [hsp.out]; exact hkk.out)]
      exact List.set_getElem_self _
    rw [hset] at X5 hso5 hln5
    have tb : ((d : Int) == 0) = true := by rw [beq_iff_eq]; omega
    clear hset hd0 hxi
    go_upto_region 11 with (first
      | (go_at_call 9; refine (recRead_any _ _ 128 _ _ hln5.out hso5.out (by omega) X5.out.bat).mono ?_; rw [hrd.out]; rintro e w6 ⟨rfl, hb⟩; have A6 := Lib.hid (A5.out.on' hb); have B6 := Lib.hid (below_two B5.out hb); clear hb)
      | (clear tk1; refine wpList_alloc_rec rfl rfl ?_; intro G w7 hv7 hG hb; have hst := run_stR (w := w7) (r := r) (hv7.out.there (o := 0) (n := 7) (by rw [rc_length]; omega)); have hbb := below_setCells ((Below.refl w6.heap.size w6).trans hb) hG 0 (rc r); have x7 := hv7.out.over (m := rc r) rfl; unfold rv at hst; rw [hPr.out] at hst hbb x7; have A7 := Lib.hid (A6.out.on' hbb); have B7 := below_two B6.out hbb; have c0 := A7.out.cell (k := 0) hx0.out; have f0 := A7.out.frozen 0; have hne7 := Lib.hid (Nat.lt_of_lt_of_le A6.out.lt hG); have A8 := A7.out.set 0 (.bool false); rw [hoff.out] at A8; have ho8 := (Oth.refl w.heap.size (w7.setCells G 0 P)).setCell (p := 0) (.bool false); have x8 := x7.oth ho8 (by have := hne7.out; omega); have b8 := B7.setCell (p := ⟨w.heap.size, 0, none⟩) (Nat.le_refl _) (.bool false); have C8 := Lib.hid (show RbC w Cr P w.heap.size G ((w7.setCells G 0 P).setCell ⟨w.heap.size, 0, none⟩ (.bool false)) from ⟨A8, x8, b8⟩); clear hb hbb x7 A8 ho8 x8 b8 B7))
    obtain ⟨C, hCe⟩ : ∃ C, RbC w Cr P w.heap.size G = C := ⟨_, rfl⟩
    have hC8 := Lib.hid (show C ((w7.setCells G 0 P).setCell ⟨w.heap.size, 0, none⟩ (.bool false)).drew by rw [← hCe]; exact C8.out.on ((Below.refl _ _).drew))
    have hCC2 := Lib.hid hCe
    clear hCe hst c0 f0
    refine wp_region_at (C := C) (by kernel_rfl) (by kernel_rfl) hC8.out ?_
    rw [← hCC2.out]
    go_big_quiet_want; go_big_quiet_op; go_big_quiet_on
    go_big_quiet_want; go_big_quiet_op; go_big_quiet_on
    go_big_quiet_want; go_big_quiet_op; go_big_quiet_on
    go_big_quiet_want; refine quiet_val (.bool true) (fun _ _ => by unfold Oper.quietAt Oper.quietUpon; go_simp) ?_; go_simp; try go_big_quiet_on
    go_big_quiet_want; go_big_quiet_op; go_big_quiet_on
    go_big_quiet_want; refine quiet_val (.bool true) (fun _ _ => by unfold Oper.quietAt Oper.quietUpon; go_simp) ?_; go_simp; try go_big_quiet_on
    go_big_quiet_want; refine quiet_val (.bool true) (fun _ _ => by unfold Oper.quietAt Oper.quietUpon; go_simp) ?_; go_simp; try go_big_quiet_on
    go_big_quiet_want; refine quiet_val (.bool true) (fun _ _ => by unfold Oper.quietAt Oper.quietUpon; go_simp) ?_; go_simp; try go_big_quiet_on
    go_big_quiet_want; go_big_quiet_op; go_big_quiet_on
    go_big_quiet_want; go_big_quiet_op; go_big_quiet_on
    go_big_quiet_want; refine quiet_val (.bool false) (fun _ _ => by unfold Oper.quietAt Oper.quietUpon; go_simp) ?_; go_simp; try go_big_quiet_on
    go_big_quiet_want; go_big_quiet_op; go_big_quiet_on
    go_big_quiet_want; refine quiet_val (.pointer (some ⟨G, 5, none⟩)) (fun _ _ => by unfold Oper.quietAt Oper.quietUpon; go_simp) ?_; go_simp; try go_big_quiet_on
    go_big_quiet_want; refine quiet_val (.string s5) (fun _ hC => by have hq := hC.vb.cell (k := 5) hx5.out; unfold Oper.quietAt Oper.quietUpon; go_simp) ?_; go_simp; try go_big_quiet_on
    go_big_quiet_want; refine quiet_val (.pointer (some ⟨w.heap.size, 5, none⟩)) (fun _ _ => by unfold Oper.quietAt Oper.quietUpon; go_simp) ?_; go_simp; try go_big_quiet_on
    go_big_quiet_want; refine quiet_val (.string s5) (fun _ hC => by have hq := hC.va.cell (k := 5) hy5.out; unfold Oper.quietAt Oper.quietUpon; go_simp) ?_; go_simp; try go_big_quiet_on
    go_big_quiet_want; refine quiet_val (.bool true) (fun _ _ => by unfold Oper.quietAt Oper.quietUpon; go_simp) ?_; go_simp; try go_big_quiet_on
    go_big_quiet_want; go_big_quiet_op; go_big_quiet_on
    go_big_quiet_want; refine quiet_val (.pointer (some ⟨G, 3, none⟩)) (fun _ _ => by unfold Oper.quietAt Oper.quietUpon; go_simp) ?_; go_simp; try go_big_quiet_on
    go_big_quiet_want; refine quiet_val (.int .i64 i) (fun _ hC => by have hq := hC.vb.cell (k := 3) hx3.out; unfold Oper.quietAt Oper.quietUpon; go_simp) ?_; go_simp; try go_big_quiet_on
    go_big_quiet_want; refine quiet_val (.pointer (some ⟨w.heap.size, 3, none⟩)) (fun _ _ => by unfold Oper.quietAt Oper.quietUpon; go_simp) ?_; go_simp; try go_big_quiet_on
    go_big_quiet_want; refine quiet_val (.int .i64 i) (fun _ hC => by have hq := hC.va.cell (k := 3) hy3.out; unfold Oper.quietAt Oper.quietUpon; go_simp) ?_; go_simp; try go_big_quiet_on
    go_big_quiet_want; refine quiet_val (.bool true) (fun _ _ => by unfold Oper.quietAt Oper.quietUpon; go_simp) ?_; go_simp; try go_big_quiet_on
    go_big_quiet_want; refine quiet_val (.bool true) (fun _ _ => by unfold Oper.quietAt Oper.quietUpon; go_simp) ?_; go_simp; try go_big_quiet_on
    go_big_quiet_want; refine quiet_val (.bool true) (fun _ _ => by unfold Oper.quietAt Oper.quietUpon; go_simp) ?_; go_simp; try go_big_quiet_on
    go_big_quiet_want; refine quiet_val (.bool true) (fun _ _ => by unfold Oper.quietAt Oper.quietUpon; go_simp) ?_; go_simp; try go_big_quiet_on
    go_big_quiet_want; go_big_quiet_op; go_big_quiet_on
    go_big_quiet_want; refine quiet_val (.agg Cr.toArray) (fun _ hC => by have hq := run_ldR (r := R) (by rw [hRr.out]; exact hC.va.whole); unfold rv at hq; rw [hRr.out] at hq; unfold Oper.quietAt Oper.quietUpon; go_simp) ?_; go_simp; try go_big_quiet_on
    go_big_quiet_want; refine quiet_val (.bool f) (fun _ hC => by unfold Oper.quietAt Oper.quietUpon; go_simp; exact hC.told (hMo.out _)) ?_; go_simp; try go_big_quiet_on
    go_big_quiet_want; refine quiet_val (.agg Cr.toArray) (fun _ hC => by have hq := run_ldR (r := R) (by rw [hRr.out]; exact hC.va.whole); unfold rv at hq; rw [hRr.out] at hq; unfold Oper.quietAt Oper.quietUpon; go_simp) ?_; go_simp; try go_big_quiet_on
    go_big_quiet_want; refine quiet_val (.agg Cz.toArray) (fun _ _ => by unfold Oper.quietAt Oper.quietUpon; go_simp) ?_; go_simp; try go_big_quiet_on
    go_big_quiet_want; refine quiet_val (.bool f) (fun _ _ => by unfold Oper.quietAt Oper.quietUpon; go_simp) ?_; go_simp; try go_big_quiet_on
    go_big_quiet_want; refine quiet_val (.bool true) (fun _ _ => by unfold Oper.quietAt Oper.quietUpon; go_simp) ?_; go_simp; try go_big_quiet_on
    go_big_quiet_want; refine quiet_val (.bool true) (fun _ _ => by unfold Oper.quietAt Oper.quietUpon; go_simp) ?_; go_simp; try go_big_quiet_on
    go_big_quiet_want; go_big_quiet_op; go_big_quiet_on
    go_big_quiet_want; refine quiet_val (.bool true) (fun _ hC => by unfold Oper.quietAt Oper.quietUpon; go_simp; exact hC.told (recAwake_any _)) ?_; go_simp; try go_big_quiet_on
    go_big_quiet_want; refine quiet_val (.bool true) (fun _ _ => by unfold Oper.quietAt Oper.quietUpon; go_simp) ?_; go_simp; try go_big_quiet_on
    go_big_quiet_want; go_big_quiet_op; go_big_quiet_on
    refine wpQuiet_nil ?_
    intro w10 hC
    have hd := hC.wb
    go_wp2_with fail
    go_ret
    exact ⟨rfl, hd⟩
  · have tb : ((d : Int) == 0) = false := by rw [beq_eq_false_iff_ne]; omega
    have hrz5 := Lib.hid (show readRV ((secR r).set k (y ^^^ d)) = .tuple #[.agg Cz.toArray, .int .i64 3] by rw [← hyy.out]; exact hrz.out k hkk.out (by omega))
    clear hd0 hxi
    go_upto_region 11 with (first
      | (go_at_call 9; refine (recRead_any _ _ 128 _ _ hln5.out hso5.out (by omega) X5.out.bat).mono ?_; rw [hrz5.out]; rintro e w6 ⟨rfl, hb⟩; have A6 := Lib.hid (A5.out.on' hb); have B6 := Lib.hid (below_two B5.out hb); clear hb)
      | (clear tk1; refine wpList_alloc_rec rfl rfl ?_; intro G w7 hv7 hG hb; have hst := run_stR (w := w7) (r := Z) (hv7.out.there (o := 0) (n := 7) (by rw [rc_length]; omega)); have hbb := below_setCells ((Below.refl w6.heap.size w6).trans hb) hG 0 (rc Z); have x7 := hv7.out.over (m := rc Z) rfl; unfold rv at hst; rw [hZr.out] at hst hbb x7; have A7 := Lib.hid (A6.out.on' hbb); have B7 := below_two B6.out hbb; have c0 := A7.out.cell (k := 0) hx0.out; have f0 := A7.out.frozen 0; have hne7 := Lib.hid (Nat.lt_of_lt_of_le A6.out.lt hG); have A8 := A7.out.set 0 (.bool false); rw [hoff.out] at A8; have ho8 := (Oth.refl w.heap.size (w7.setCells G 0 Cz)).setCell (p := 0) (.bool false); have x8 := x7.oth ho8 (by have := hne7.out; omega); have b8 := B7.setCell (p := ⟨w.heap.size, 0, none⟩) (Nat.le_refl _) (.bool false); have C8 := Lib.hid (show RbC w Cr Cz w.heap.size G ((w7.setCells G 0 Cz).setCell ⟨w.heap.size, 0, none⟩ (.bool false)) from ⟨A8, x8, b8⟩); clear hb hbb x7 A8 ho8 x8 b8 B7))
    obtain ⟨C, hCe⟩ : ∃ C, RbC w Cr Cz w.heap.size G = C := ⟨_, rfl⟩
    have hC8 := Lib.hid (show C ((w7.setCells G 0 Cz).setCell ⟨w.heap.size, 0, none⟩ (.bool false)).drew by rw [← hCe]; exact C8.out.on ((Below.refl _ _).drew))
    have hCC2 := Lib.hid hCe
    clear hCe hst c0 f0
    refine wp_region_at (C := C) (by kernel_rfl) (by kernel_rfl) hC8.out ?_
    rw [← hCC2.out]
    go_big_quiet_want; go_big_quiet_op; go_big_quiet_on
    go_big_quiet_want; go_big_quiet_op; go_big_quiet_on
    go_big_quiet_want; go_big_quiet_op; go_big_quiet_on
    go_big_quiet_want; refine quiet_val (.bool false) (fun _ _ => by unfold Oper.quietAt Oper.quietUpon; go_simp) ?_; go_simp; try go_big_quiet_on
    go_big_quiet_want; go_big_quiet_op; go_big_quiet_on
    go_big_quiet_want; refine quiet_val (.bool false) (fun _ _ => by unfold Oper.quietAt Oper.quietUpon; go_simp) ?_; go_simp; try go_big_quiet_on
    go_big_quiet_want; refine quiet_val (.bool true) (fun _ _ => by unfold Oper.quietAt Oper.quietUpon; go_simp) ?_; go_simp; try go_big_quiet_on
    go_big_quiet_want; refine quiet_val (.bool true) (fun _ _ => by unfold Oper.quietAt Oper.quietUpon; go_simp) ?_; go_simp; try go_big_quiet_on
    go_big_quiet_want; go_big_quiet_op; go_big_quiet_on
    go_big_quiet_want; go_big_quiet_op; go_big_quiet_on
    go_big_quiet_want; refine quiet_val (.bool true) (fun _ _ => by unfold Oper.quietAt Oper.quietUpon; go_simp) ?_; go_simp; try go_big_quiet_on
    go_big_quiet_want; go_big_quiet_op; go_big_quiet_on
    go_big_quiet_skip
    go_big_quiet_skip
    go_big_quiet_skip
    go_big_quiet_skip
    go_big_quiet_skip
    go_big_quiet_skip
    go_big_quiet_skip
    go_big_quiet_skip
    go_big_quiet_skip
    go_big_quiet_skip
    go_big_quiet_skip
    go_big_quiet_skip
    go_big_quiet_want; refine quiet_val (.bool true) (fun _ _ => by unfold Oper.quietAt Oper.quietUpon; go_simp) ?_; go_simp; try go_big_quiet_on
    go_big_quiet_want; refine quiet_val (.bool true) (fun _ _ => by unfold Oper.quietAt Oper.quietUpon; go_simp) ?_; go_simp; try go_big_quiet_on
    go_big_quiet_want; go_big_quiet_op; go_big_quiet_on
    go_big_quiet_want; refine quiet_val (.agg Cr.toArray) (fun _ hC => by have hq := run_ldR (r := R) (by rw [hRr.out]; exact hC.va.whole); unfold rv at hq; rw [hRr.out] at hq; unfold Oper.quietAt Oper.quietUpon; go_simp) ?_; go_simp; try go_big_quiet_on
    go_big_quiet_want; refine quiet_val (.bool f) (fun _ hC => by unfold Oper.quietAt Oper.quietUpon; go_simp; exact hC.told (hMo.out _)) ?_; go_simp; try go_big_quiet_on
    go_big_quiet_want; refine quiet_val (.agg Cr.toArray) (fun _ hC => by have hq := run_ldR (r := R) (by rw [hRr.out]; exact hC.va.whole); unfold rv at hq; rw [hRr.out] at hq; unfold Oper.quietAt Oper.quietUpon; go_simp) ?_; go_simp; try go_big_quiet_on
    go_big_quiet_want; refine quiet_val (.agg Cz.toArray) (fun _ _ => by unfold Oper.quietAt Oper.quietUpon; go_simp) ?_; go_simp; try go_big_quiet_on
    go_big_quiet_want; refine quiet_val (.bool f) (fun _ _ => by unfold Oper.quietAt Oper.quietUpon; go_simp) ?_; go_simp; try go_big_quiet_on
    go_big_quiet_want; refine quiet_val (.bool true) (fun _ _ => by unfold Oper.quietAt Oper.quietUpon; go_simp) ?_; go_simp; try go_big_quiet_on
    go_big_quiet_want; refine quiet_val (.bool true) (fun _ _ => by unfold Oper.quietAt Oper.quietUpon; go_simp) ?_; go_simp; try go_big_quiet_on
    go_big_quiet_want; go_big_quiet_op; go_big_quiet_on
    go_big_quiet_want; refine quiet_val (.bool true) (fun _ hC => by unfold Oper.quietAt Oper.quietUpon; go_simp; exact hC.told (recAwake_any _)) ?_; go_simp; try go_big_quiet_on
    go_big_quiet_want; refine quiet_val (.bool true) (fun _ _ => by unfold Oper.quietAt Oper.quietUpon; go_simp) ?_; go_simp; try go_big_quiet_on
    go_big_quiet_want; go_big_quiet_op; go_big_quiet_on
    refine wpQuiet_nil ?_
    intro w10 hC
    have hd := hC.wb
    go_wp2_with fail
    go_ret
    exact ⟨rfl, hd⟩
theorem recApart_any (r q : Rcd) (z : Int) (d : Nat) (w : World) (hd8 : d < 256) :
    Calls Try.prog 4 #[rv r, rv q, .int .i64 z, .int .u8 (d : Int)] w (Tells (.bool true) w) := by
  by_cases h : 100 < r.fn.size ∨ 100 < r.tn.size ∨ 100 < q.fn.size ∨ 100 < q.tn.size
  · exact recApart_long r q z d w h
  have h5 : r.fn.size ≤ 100 := by omega
  have h6 : r.tn.size ≤ 100 := by omega
  have g5 : q.fn.size ≤ 100 := by omega
  have g6 : q.tn.size ≤ 100 := by omega
  cases h1 : mayR r
  · cases h2 : mayR q
    · exact recApart_ff r q z d w h5 h6 g5 g6 h1 h2
    · exact recApart_ft r q z d w h5 h6 g5 g6 h1 h2
  · cases h2 : mayR q
    · exact recApart_tf r q z d w h5 h6 g5 g6 h1 h2
    · exact recApart_both r q z d w hd8 h5 h6 g5 g6 h1 h2
end Go.Proofs.Ytkeihpenelpblaa
