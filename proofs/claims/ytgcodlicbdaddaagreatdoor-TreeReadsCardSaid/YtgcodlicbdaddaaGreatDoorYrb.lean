/-
  TreeReads.
-/
import Derived.Test.YtgcodlicbdaddaaGreatDoorYra
import Derived.Test.YtgcodlicbdaddaaGreatDoorB45
import Derived.Test.YtgcodlicbdaddaaGreatDoorSb
import Derived.Test.YtgcodlicbdaddaaGreatDoorB8
import Derived.Deep.RegionHeld3
import Derived.Maps.AppendAt
set_option linter.unusedVariables false
set_option linter.unusedSimpArgs false
namespace Go.Proofs.YtgcodlicbdaddaaGreatDoor
open Go.RowKit BigFrame
set_option maxRecDepth 100000

theorem fld_code (c n k l : Int) (d ns : Value) (w : World) : (Instr.field 38 (ansV c n k l d ns) 0).run Tryz.prog w = .ok (.int .i64 c) w := by kernel_rfl
theorem fld_n (c n k l : Int) (d ns : Value) (w : World) : (Instr.field 38 (ansV c n k l d ns) 1).run Tryz.prog w = .ok (.int .i64 n) w := by kernel_rfl
theorem nbF : nb ⟨#[47, 102]⟩ = [47, 102] := by decide +kernel
theorem TLive.inb {w0 w : World} {ta B b : Nat} {A : Ad} {s : Tr} (h : TLive w0 w ta B b A s) {a : Option Addr} {l : List Nat} (hx : BAt w0 a l) (ho : Octs l) (hlt : ∀ ad, a = some ad → ad.block < w0.heap.size) : InB w A a l :=
  ⟨hx.on h.below (Nat.le_refl _), ho, fun ad e => ⟨Nat.lt_of_lt_of_le (hlt ad e) h.below.size, by
    cases q : A.own ad.block with
    | none => rfl
    | some r => have := (h.tree.hi _ r q).1; have := h.low; have := hlt ad e; omega⟩⟩
theorem TLive.grown {w0 w w' : World} {ta B b : Nat} {A : Ad} {s : Tr} {v : Value} (h : TLive w0 w ta B b A s) (hg : w.grownBy w' v.ownBlock) (hb : Below w0.heap.size w w') (hF : ∀ g, v.ownBlock = some g → A.own g = none) : TLive w0 w' ta B b A s :=
  ⟨h.tree.keep hg.size fun k r e => hg.block k (h.tree.hi k r e).2 (fun q => by rw [hF k q.symm] at e; cases e), h.ok, h.low, Nat.le_trans h.bB hg.size, h.below.trans hb, h.t⟩
theorem wpList_append_bytes_at {w : World} {ops : Array Oper} {rest : List Oper} {o : Oper} {a : Act} {Q : Exit → Act → World → Prop} (hgd : o.guard = none) (s x : Operand)
    (ho : o.op = .call { callee := .builtin .append, args := #[s, x], argTypes := #[31, 31] })
    (base : Nat) (v : Value) (L : List Nat) (hs : a.eval s = v) (hown : OwnB w base v L) (sp : Option Addr) (n sCap : Nat) (m : List Nat) (hx : a.eval x = .slice sp n sCap) (hm : m.length = n) (hsrc : BAt w sp m) (hnil : sp = none → sCap = 0)
    (hlen : L.length + n ≤ 1000000) (hbase : base ≤ w.heap.size)
    (h : ∀ v' w', Hid (OwnB w' base v' (L ++ m)) → w.grownBy w' v.ownBlock → Below base w w' → (∀ g, v'.ownBlock = some g → v.ownBlock = some g ∨ w.heap.size ≤ g) → wpList Tryz.prog ops Q rest (a.put o.dst v') w') : wpList Tryz.prog ops Q (o :: rest) a w := by
  subst hm
  obtain ⟨i, hi, hz0, hz1, hz2⟩ := info_parts Tryz.infoB
  cases sp with
  | none =>
    obtain rfl := hnil rfl
    have hm : m = [] := by
      rcases hsrc with h | ⟨b, off, e, _⟩
      · exact List.eq_nil_of_length_eq_zero h
      · cases e
    subst hm
    refine wpList_append_own_none hgd s x _ ho base 5 i 1 Tryz.underlying31 hi v L.length (bv L) hs hown hx (h _ _ ?_ (World.grownBy.refl _ _) (Below.refl _ _) (fun g e => .inl e))
    show OwnB w base v (L ++ [])
    rw [List.append_nil]; exact hown
  | some ad =>
    refine wpList_append_own_at (P := Tryz.prog) (w := w) hgd s x _ ho base 5 i (.int .u8 0) 1 1 Tryz.underlying31 hi hz0 hz1 hz2 rfl (by decide) v L.length (bv L) hs hown ad m.length sCap (bv m) hx (by rw [bv_length, Nat.mul_one]) ?_ (bv_one m) (by unfold maxLen; omega) (by omega) hbase ?_
    · intro j u hu
      obtain ⟨hj, rfl⟩ := bv_at hu
      obtain ⟨b, off, e⟩ := hsrc.addr (by omega)
      obtain rfl := Option.some.inj e
      rw [addr_add]; exact hsrc.cell hj
    · intro v' w' hv hg _ hob
      refine h v' w' ?_ hg (hown.grown hg hbase) (fun g e => ?_)
      · show OwnB w' base v' (L ++ m)
        unfold OwnB
        rw [List.length_append, bv_append]; exact hv
      · rcases hob with q | q
        · exact .inl (q.symm.trans e)
        · exact .inr (by rw [q] at e; exact Nat.le_of_eq (Option.some.inj e))
theorem take_step (l : List Nat) (q m : Nat) : l.take q ++ (l.drop (min q l.length)).take m = l.take (q + m) ∧ min q l.length + ((l.drop (min q l.length)).take m).length = min (q + m) l.length := by
  by_cases h : q ≤ l.length
  · rw [Nat.min_eq_left h]
    refine ⟨(List.take_add ..).symm, ?_⟩
    rw [List.length_take, List.length_drop]; omega
  · rw [Nat.min_eq_right (by omega), List.drop_length, List.take_of_length_le (by omega), List.take_of_length_le (i := q + m) (by omega)]
    simp; omega
theorem OwnB.thr {w : World} {base n c : Nat} {p : Option Addr} {l : List Nat} (h : OwnB w base (.slice p n c) l) : n = l.length ∧ BAt w p l ∧ (p = none → c = 0) := by
  obtain ⟨a, cap, e, hb, h0, _⟩ := h.slice
  simp only [Value.slice.injEq] at e
  obtain ⟨rfl, rfl, rfl⟩ := e
  exact ⟨rfl, hb, h0⟩
theorem same_two (a b : Option Addr) (c1 c2 n m : Nat) (l k : List Nat) (w : World) (hl : l.length = n) (hk : k.length = m) (hlk : l = k) (hn : n ≤ 100000) (ha : BAt w a l) (hb : BAt w b k) :
    Calls Tryz.prog 39 #[.slice a n c1, .slice b m c2] w fun e w' => e = .returned (.bool true) ∧ Below w.heap.size w w' := by
  subst hlk
  obtain rfl : n = m := hl.symm.trans hk
  exact same_same a b c1 c2 n l l w hl rfl hn ha hb
theorem cells_one : Tryz.prog.cellsOf 5 = 1 := by kernel_rfl
/-- those from a place on -/
theorem slice_at {w : World} {a : Option Addr} {l : List Nat} (h : BAt w a l) (c m : Nat) (hm : m ≤ l.length) (hnc : l.length ≤ c) : BAt w (if c = m then a else Option.map (fun x => x.add m) a) (l.drop m) := by
  by_cases e : l.length = m
  · exact .inl (by rw [List.length_drop]; omega)
  · rw [if_neg (by omega)]
    obtain ⟨b, off, rfl⟩ := h.addr (by omega)
    have := h.sub m (l.length - m)
    rw [List.take_of_length_le (by simp)] at this
    show BAt w (some ((⟨b, off, none⟩ : Addr).add m)) _
    rw [addr_add]
    exact this
/-- a row of one's own that is none of the tree's -/
def OwnF (w : World) (A : Ad) (base : Nat) (v : Value) (l : List Nat) : Prop := OwnB w base v l ∧ ∀ g, v.ownBlock = some g → A.own g = none
theorem OwnF.turn {w w' : World} {A A' : Ad} {base : Nat} {v : Value} {l : List Nat} (h : OwnF w A base v l) (hS : TStep w A w' A') : OwnF w' A' base v l :=
  ⟨h.1.blk fun g e => hS.block g (h.1.hi e).2 (h.2 g e), fun g e => (hS.ext g (h.1.hi e).2).trans (h.2 g e)⟩
theorem OwnF.news {w we w' : World} {A : Ad} {base g : Nat} {v : Value} {l : List Nat} (h : OwnF w A base v l) (hb : Below w.heap.size w we) (hX : Oth g we w') (hg : w.heap.size ≤ g) : OwnF w' A base v l :=
  ⟨h.1.blk fun k e => (hX.block k (by have := (h.1.hi e).2; omega)).trans (hb.block k (h.1.hi e).2), h.2⟩
theorem OffT.news {w we w' : World} {A : Ad} {t : TypeId} {g g' : Nat} {l : List Value} (h : OffT w A t g l) (hb : Below w.heap.size w we) (hX : Oth g' we w') (hg : w.heap.size ≤ g') : OffT w' A t g l :=
  (h.below hb).oth hX (by have := h.at_.lt; omega)
theorem TLive.news {w0 w we w' : World} {ta B b g : Nat} {A : Ad} {s : Tr} (h : TLive w0 w ta B b A s) (hb : Below w.heap.size w we) (hX : Oth g we w') (hg : w.heap.size ≤ g) : TLive w0 w' ta B b A s :=
  (h.on hb).oth hX (h.tree.fresh hg) (Nat.le_trans h.below.size hg)
def ReadRel (w : World) (ta B st n : Nat) (d : List Nat) (W : List Bool) (g : Nat) (u i : Value) (wr : World) : Prop :=
  ∃ (k b : Nat) (A : Ad), g = n + 1 - k + 1 ∧ k ≤ n + 1 ∧ b ≤ 100 + 2 * k ∧ OwnF wr A w.heap.size u (d.take (k * st)) ∧ i = .int .i64 ((k : Nat) : Int) ∧ TLive w wr ta B b A (S3 d W n ((min (k * st) n : Nat) : Int))
theorem treeReads_long (a : Option Addr) (c n : Nat) (x y : Int) (w : World) (h : 1000 < n) : Calls Tryz.prog 14 #[.slice a n c, .int .i64 x, .int .i64 y] w fun e w' => e = .returned (.bool true) ∧ Below w.heap.size w w' := by
  have t : decide ((1000 : Int) < (n : Int)) = true := decide_eq_true (by omega)
  go_enter Tryz.func14, Tryz.ntmps14
  go_wp2_with (go_at_call 16; refine (awake_c _).mono ?_; rintro e wj ⟨rfl, hb⟩; have B9 := Lib.hid hb; clear hb)
  go_ret
  exact ⟨rfl, B9.out⟩
set_option maxHeartbeats 4000000 in
theorem treeReads_main (a : Option Addr) (c n : Nat) (l : List Nat) (x y : Int) (w : World) (hn : l.length = n) (h : n ≤ 1000) (hnc : n ≤ c) (hnil : a = none → c = 0) (ho : Octs l) (hx : BAt w a l) (hlt : ∀ ad, a = some ad → ad.block < w.heap.size) : Calls Tryz.prog 14 #[.slice a n c, .int .i64 x, .int .i64 y] w fun e w' => e = .returned (.bool true) ∧ Below w.heap.size w w' := by
  have hfd := fld_code
  have hfn := fld_n
  have hx' := Lib.hid hx
  have hn' := Lib.hid hn
  have hlt' := Lib.hid hlt
  obtain ⟨W, hwr⟩ := of_write l (by omega)
  rw [hn] at hwr
  have hr0 := Lib.hid of_open
  have hr1 := Lib.hid hwr
  have hr2 := Lib.hid (of_open2 l W n)
  have ho' := Lib.hid ho
  clear hx hn hlt hwr ho
  go_enter Tryz.func14, Tryz.ntmps14
  have ci1 : True := trivial
  have di1 : True := trivial
  go_wp2_with (first
    | (have _c := ci1; go_at_call 38; refine (low_c x 200 200 _ rfl (by omega) (by omega)).mono ?_; rintro e w9 ⟨st, hst, rfl, rfl⟩; clear ci1 _c; have ci2 : True := trivial)
    | (have _c := ci2; go_at_call 38; refine (low_c y 1200 1200 _ rfl (by omega) (by omega)).mono ?_; rintro e w9 ⟨fr, hfr, rfl, rfl⟩; clear ci2 _c)
    | (go_at_call 17; refine (treeNew_any _).mono ?_; rintro e wn ⟨A0, rfl, hT, hb⟩; have L0 := Lib.hid (TLive.new (w0 := w) (Below.refl _ _) hT hb); clear hT hb)
    | (have _c := di1; go_at_call 20; refine (Do_live L0.out (by omega) hr0.out nbF nb4 none 0 (Nat.zero_le _) InB.nil).mono ?_; rintro e wa ⟨p1, q1, x1, p2, q2, x2, A1, rfl, hL, hS, _⟩; have L1 := Lib.hid hL; clear hL hS di1 _c; have di2 : True := trivial)
    | (have _c := di2; go_at_call 20; have hdo := Do_live L1.out (by omega) hr1.out nb4 nb4 a c (by show l.length ≤ _; rw [hn'.out]; omega) (L1.out.inb hx'.out ho'.out hlt'.out); rw [hn'.out] at hdo; refine hdo.mono ?_; rintro e wb ⟨p3, q3, x3, p4, q4, x4, A2, rfl, hL, hS, _⟩; have L2 := Lib.hid hL; clear hdo hL hS di2 _c; have di3 : True := trivial)
    | (have _c := di3; go_at_call 20; refine (Do_live L2.out (by omega) hr2.out nbF nb4 none 0 (Nat.zero_le _) InB.nil).mono ?_; rintro e wc ⟨p5, q5, x5, p6, q6, x6, A3, rfl, hL, hS, _⟩; have L3 := Lib.hid hL; clear hL hS di3 _c))
  go_loopg [8, 9] (n + 1 + 1) (fun g u i wr => ReadRel w A0.t w.heap.size (st + 1) n l W g u i wr)
  case atStart => exact ⟨0, 7, A3, rfl, Nat.zero_le _, by omega, by rw [Nat.zero_mul]; exact ⟨OwnB.nil _ _, fun g e => by cases e⟩, rfl, by rw [Nat.zero_mul, Nat.zero_min]; exact L3.out⟩
  case round =>
    obtain ⟨k, b, A4, rfl, hk, hb, hO, rfl, hL⟩ := hrel
    have L4 := Lib.hid hL
    have O4 := Lib.hid hO
    clear hL hO
    obtain ⟨q, hq⟩ : ∃ q, k * (st + 1) = q := ⟨_, rfl⟩
    have hq2 : (k + 1) * (st + 1) = q + (st + 1) := by rw [Nat.succ_mul, hq]
    rw [hq] at L4 O4
    obtain ⟨hts, hlen⟩ := take_step l q (st + 1)
    rw [hn'.out] at hts hlen
    have hrun := of_read l W n (min q n) (st + 1)
    rw [hlen] at hrun
    obtain ⟨D, hD⟩ : ∃ D, (l.drop (min q n)).take (st + 1) = D := ⟨_, rfl⟩
    rw [hD] at hrun hts
    have hDl : D.length ≤ st + 1 := by rw [← hD]; exact List.length_take_le _ _
    have hDn : D.length ≤ 1000 := by rw [← hD, List.length_take, List.length_drop, hn'.out]; omega
    obtain ⟨m, hm⟩ : ∃ m, D.length = m := ⟨_, rfl⟩
    rw [hm] at hDl hDn
    rw [show ((st + 1 : Nat) : Int) = 1 + (st : Int) by omega] at hrun
    have hrd := Lib.hid hrun
    have hts' := Lib.hid hts
    have hm' := Lib.hid hm
    have hqn : k = n + 1 → n ≤ q := fun e => by rw [← hq, e]; exact Nat.le_trans (Nat.le_succ n) (Nat.le_mul_of_pos_right _ (Nat.succ_pos _))
    have htl : (l.take q).length ≤ 1000 := by rw [List.length_take, hn'.out]; omega
    clear hrun hts hlen hD hm hq
    have hb9 : b ≤ 900000 := by omega
    go_wp2_with (fail)
    · refine (Do_live L4.out hb9 hrd.out nb4 nb4 none 0 (Nat.zero_le _) InB.nil).mono ?_
      rintro e wd ⟨p7, q7, x7, p8, q8, x8, A5, rfl, hL, hS, hO5, hT5, hFd, hFt⟩
      obtain rfl : q7 = m := hO5.thr.1.trans hm'.out
      have L5 := Lib.hid hL
      have D5 := Lib.hid (show OwnF wd A5 wr.heap.size (.slice p7 q7 x7) D from ⟨hO5, hFd⟩)
      have O5 := Lib.hid (O4.out.turn hS)
      clear hL hS hO5 hT5 hFd hFt
      have tk1 : True := trivial
      go_wp2_with (first
        | (have _t := tk1; refine wpList_alloc_ansv rfl rfl ?_; intro g1 wx1 W1 hgn hbn; have H1 := Lib.hid hgn; have J1 := Lib.hid hbn; clear tk1 _t hgn hbn; have tk2 : True := trivial)
        | (have _t := tk2; refine wpList_store_ans rfl (.tmp 10) (.tmp 59) rfl W1.out rfl rfl 0 0 0 0 _ _ _ _ _ _ rfl ?_; intro wy1 Z X; have X := X.out; have L6 := Lib.hid (L5.out.news J1.out X H1.out); have D6 := Lib.hid (D5.out.news J1.out X H1.out); have O6 := Lib.hid (O5.out.news J1.out X H1.out); have c1 := Z.out.cell (k := 0) rfl; have c4 := Z.out.cell (k := 4) rfl; clear tk2 _t X Z; have tk3 : True := trivial)
        | (have _t := tk3; refine wpList_append_bytes_at rfl (.tmp 70) (.tmp 72) rfl w.heap.size u8 (l.take q) rfl O6.out.1 p7 q7 x7 D rfl hm'.out D6.out.1.thr.2.1 D6.out.1.thr.2.2 (by omega) L6.out.below.size ?_; intro v7 wg hv hg hbb hnew; have L7 := Lib.hid (L6.out.grown hg hbb O6.out.2); have O7 := Lib.hid (show OwnF wg A5 w.heap.size v7 (l.take q ++ D) from ⟨hv.out, fun g e => (hnew g e).elim (O6.out.2 g) (fun e2 => L6.out.tree.fresh e2)⟩); clear tk3 _t hv hg hbb hnew))
      go_roundg (n + 1 - (k + 1) + 1)
      case measure => omega
      case rel => exact ⟨k + 1, b + 2, A5, rfl, by omega, by omega, by rw [hq2, ← hts'.out]; exact O7.out, by go_num, by rw [hq2]; exact L7.out⟩
    · obtain rfl : k = n + 1 := by omega
      have hnq := hqn rfl
      have emin : min q n = n := Nat.min_eq_right hnq
      rw [emin] at L4
      have hall : l.take q = l := List.take_of_length_le (by rw [hn'.out]; exact hnq)
      rw [hall] at O4
      have r1 := of_readAt l W n n fr 5000
      obtain ⟨R, hR⟩ : ∃ R, (l.drop fr).take 5000 = R := ⟨_, rfl⟩
      rw [hR] at r1
      have hRd : R = l.drop fr := by rw [← hR]; exact List.take_of_length_le (by rw [List.length_drop, hn'.out]; omega)
      have r2 := of_seek l W n n (by omega)
      have r3 := of_none l W n
      rw [hn'.out] at r3
      have hr3 := Lib.hid r1
      have hr4 := Lib.hid r2
      have hr5 := Lib.hid r3
      have hRd' := Lib.hid hRd
      clear r1 r2 r3 hR hRd hall emin hnq hqn hts' hrd hm' hDl hDn hq2
      obtain ⟨mR, hmR⟩ : ∃ m, R.length = m := ⟨_, rfl⟩
      have hmR' := Lib.hid hmR
      clear hmR
      refine (Do_live L4.out hb9 hr3.out nb4 nb4 none 0 (Nat.zero_le _) InB.nil).mono ?_
      rintro e wd ⟨p7, q7, x7, p8, q8, x8, A5, rfl, hL, hS, hO5, hT5, hFd, hFt⟩
      obtain rfl : q7 = mR := hO5.thr.1.trans hmR'.out
      have L5 := Lib.hid hL
      have D5 := Lib.hid (show OwnF wd A5 wr.heap.size (.slice p7 q7 x7) R from ⟨hO5, hFd⟩)
      have O5 := Lib.hid (O4.out.turn hS)
      clear hL hS hO5 hT5 hFd hFt
      have tk1 : True := trivial
      go_wp2_with (first
        | (have _t := tk1; refine wpList_alloc_ansv rfl rfl ?_; intro g1 wx1 W1 hgn hbn; have H1 := Lib.hid hgn; have J1 := Lib.hid hbn; clear tk1 _t hgn hbn; have tk2 : True := trivial)
        | (have _t := tk2; refine wpList_store_ans rfl (.tmp 11) (.tmp 77) rfl W1.out rfl rfl 0 0 0 0 _ _ _ _ _ _ rfl ?_; intro wy1 Z X; have X := X.out; have L6 := Lib.hid (L5.out.news J1.out X H1.out); have D6 := Lib.hid (D5.out.news J1.out X H1.out); have O6 := Lib.hid (O5.out.news J1.out X H1.out); have V6 := Lib.hid (⟨Z.out, L5.out.tree.fresh H1.out⟩ : OffT wy1 A5 38 g1 _); clear tk2 _t X Z; have ci3 : True := trivial)
        | (have _t := ci3; go_at_call 20; refine (Do_live L6.out (by omega) hr4.out nb4 nb4 none 0 (Nat.zero_le _) InB.nil).mono ?_; rintro e we ⟨pa, qa, xa, pb, qb, xb, A6, rfl, hL, hS, _⟩; have L7 := Lib.hid hL; have D7 := Lib.hid (D6.out.turn hS); have O7 := Lib.hid (O6.out.turn hS); have V7 := Lib.hid (V6.out.turn hS); clear hL hS ci3 _t; have tk4 : True := trivial)
        | (have _t := tk4; refine wpList_alloc_ansv rfl rfl ?_; intro g2 wx2 W2 hgn hbn; have H2 := Lib.hid hgn; have J2 := Lib.hid hbn; clear tk4 _t hgn hbn; have tk5 : True := trivial)
        | (have _t := tk5; refine wpList_store_ans rfl (.tmp 12) (.tmp 80) rfl W2.out rfl rfl 0 n 0 0 _ _ _ _ _ _ rfl ?_; intro wy2 Z X; have X := X.out; have L8 := Lib.hid (L7.out.news J2.out X H2.out); have D8 := Lib.hid (D7.out.news J2.out X H2.out); have O8 := Lib.hid (O7.out.news J2.out X H2.out); have V8 := Lib.hid (V7.out.news J2.out X H2.out); have U8 := Lib.hid (⟨Z.out, L7.out.tree.fresh H2.out⟩ : OffT wy2 A6 38 g2 _); clear tk5 _t X Z; have ci6 : True := trivial)
        | (have _t := ci6; go_at_call 20; refine (Do_live L8.out (by omega) hr5.out nb4 nb4 none 0 (Nat.zero_le _) InB.nil).mono ?_; rintro e wf ⟨pc, qc, xc, pd, qd, xd, A7, rfl, hL, hS, hOc, _, hFc, _⟩; obtain rfl : qc = 0 := hOc.thr.1; have L9 := Lib.hid hL; have D9 := Lib.hid (D8.out.turn hS); have O9 := Lib.hid (O8.out.turn hS); have V9 := Lib.hid (V8.out.turn hS); have U9 := Lib.hid (U8.out.turn hS); clear hL hS ci6 _t hOc hFc; have tk7 : True := trivial)
        | (have _t := tk7; refine wpList_alloc_ansv rfl rfl ?_; intro g3 wx3 W3 hgn hbn; have H3 := Lib.hid hgn; have J3 := Lib.hid hbn; clear tk7 _t hgn hbn; have tk8 : True := trivial)
        | (have _t := tk8; refine wpList_store_ans rfl (.tmp 13) (.tmp 83) rfl W3.out rfl rfl 0 0 0 0 _ _ _ _ _ _ rfl ?_; intro wy3 Z X; have X := X.out; have LA := Lib.hid (L9.out.news J3.out X H3.out); have DA := Lib.hid (D9.out.news J3.out X H3.out); have OA := Lib.hid (O9.out.news J3.out X H3.out); have c3 := (V9.out.news J3.out X H3.out).at_.cell (k := 4) rfl; have c14 := (U9.out.news J3.out X H3.out).at_.cell (k := 1) rfl; have c21 := Z.out.cell (k := 0) rfl; have c26 := Z.out.cell (k := 4) rfl; clear tk8 _t X Z))
      obtain ⟨pu, cu, eu, hbu, _, _⟩ := OA.out.1.slice
      rw [hn'.out] at eu
      subst eu
      have hbl := Lib.hid (hx'.out.on LA.out.below (Nat.le_refl _))
      have hbu' := Lib.hid hbu
      have hbr := Lib.hid DA.out.1.thr.2.1
      obtain ⟨mn, hmn⟩ : ∃ mn, min fr n = mn := ⟨_, rfl⟩
      have hmn' : mn ≤ n := by omega
      have hdr := Lib.hid (show R = l.drop mn by rw [hRd'.out]; by_cases e : fr ≤ n; · rw [← hmn, Nat.min_eq_left e]
                                                 · rw [← hmn, Nat.min_eq_right (by omega), List.drop_eq_nil_of_le (by rw [hn'.out]; omega), List.drop_eq_nil_of_le (by rw [hn'.out]; omega)])
      have hmi : min (fr : Int) (n : Int) = (mn : Int) := by omega
      have m0 : (0 : Int) ≤ (mn : Int) := by omega
      have m1 : (mn : Int) ≤ (n : Int) := by omega
      have m2 : (n : Int) ≤ (c : Int) := by omega
      have hdl := Lib.hid (show (l.drop mn).length = n - mn by rw [List.length_drop, hn'.out])
      have hnc' := Lib.hid (show l.length ≤ c by rw [hn'.out]; exact hnc)
      have hmn2 := Lib.hid (show mn ≤ l.length by rw [hn'.out]; exact hmn')
      clear hbu
      have hcell := Lib.hid (fun (w2 : World) (hb : Below wy3.heap.size wy3 w2) => (⟨(hb.cell (p := ⟨g1, 4, none⟩) (World.block_lt_of_cell? _ _ c3)).trans c3, (hb.cell (p := ⟨g2, 1, none⟩) (World.block_lt_of_cell? _ _ c14)).trans c14, (hb.cell (p := ⟨g3, 0, none⟩) (World.block_lt_of_cell? _ _ c21)).trans c21, (hb.cell (p := ⟨g3, 4, none⟩) (World.block_lt_of_cell? _ _ c26)).trans c26⟩ : w2.cell? ⟨g1, 4, none⟩ = some (.slice p7 q7 x7) ∧ w2.cell? ⟨g2, 1, none⟩ = some (.int .i64 n) ∧ w2.cell? ⟨g3, 0, none⟩ = some (.int .i64 0) ∧ w2.cell? ⟨g3, 4, none⟩ = some (.slice pc 0 xc)))
      have hq7 := Lib.hid (show n - mn = q7 by rw [← hmR'.out, hdr.out, List.length_drop, hn'.out])
      have hq8 : q7 ≤ 1000 := by have := hq7.out; omega
      by_cases hcm : c = mn
      · obtain rfl : n = c := by omega
        subst hcm
        have hat := Lib.hid (fun (w2 : World) (hb : Below wy3.heap.size wy3 w2) => (.inl (by rw [hdl.out]; omega) : BAt w2 a (l.drop n)))
        have hd0 := Lib.hid (show (l.drop n).length = 0 by rw [hdl.out]; omega)
        have ci1 : True := trivial
        go_region_held3 (fun w' => w'.cell? ⟨g1, 4, none⟩ = some (.slice p7 q7 x7) ∧ w'.cell? ⟨g2, 1, none⟩ = some (.int .i64 n) ∧ w'.cell? ⟨g3, 0, none⟩ = some (.int .i64 0) ∧ w'.cell? ⟨g3, 4, none⟩ = some (.slice pc 0 xc)) (first | exact ⟨c3, c14, c21, c26⟩) (first
          | (have _t := ci1; go_at_call 39; refine (same_same pu a cu n n l l _ hn'.out rfl (by omega) hbu'.out.drew1 hbl.out.drew1).mono ?_; rintro e wz ⟨rfl, hb⟩; have T1 := Lib.hid (show Below wy3.heap.size wy3 wz from (Below.refl _ _).drew.trans hb); clear c3 c14 c21 c26; obtain ⟨c3, c14, c21, c26⟩ := hcell.out wz T1.out; clear ci1 _t hb; have ci2 : True := trivial)
          | (have _t := ci2; go_at_call 39; refine (same_two p7 _ x7 0 q7 0 R (l.drop n) wz hmR'.out hd0.out hdr.out (Nat.le_trans hq8 (by decide)) (hbr.out.on T1.out (Nat.le_refl _)) (hat.out wz T1.out)).mono ?_; rintro e wq ⟨rfl, hb⟩; have T2 := Lib.hid (show Below wy3.heap.size wy3 wq from T1.out.trans (hb.mono T1.out.size)); clear c3 c14 c21 c26; obtain ⟨c3, c14, c21, c26⟩ := hcell.out wq T2.out; clear ci2 _t hb; have ci3 : True := trivial)
          | (have _t := ci3; go_at_call 16; refine (awake_c _).mono ?_; rintro e wj ⟨rfl, hb⟩; have T3 := Lib.hid (show Below wy3.heap.size wy3 wj from T2.out.trans (hb.mono T2.out.size)); clear c3 c14 c21 c26; obtain ⟨c3, c14, c21, c26⟩ := hcell.out wj T3.out; clear ci3 _t hb))
        go_wp2_with fail
        go_ret
        exact ⟨rfl, LA.out.below.trans (T3.out.mono LA.out.below.size)⟩
      · have hat := Lib.hid (fun (w2 : World) (hb : Below wy3.heap.size wy3 w2) => (by have := slice_at (hbl.out.on hb (Nat.le_refl _)) c mn hmn2.out hnc'.out; rwa [if_neg hcm] at this : BAt w2 (Option.map (fun x => x.add mn) a) (l.drop mn)))
        have ci1 : True := trivial
        go_region_held3 (fun w' => w'.cell? ⟨g1, 4, none⟩ = some (.slice p7 q7 x7) ∧ w'.cell? ⟨g2, 1, none⟩ = some (.int .i64 n) ∧ w'.cell? ⟨g3, 0, none⟩ = some (.int .i64 0) ∧ w'.cell? ⟨g3, 4, none⟩ = some (.slice pc 0 xc)) (first | exact ⟨c3, c14, c21, c26⟩) (first
          | (have _t := ci1; go_at_call 39; refine (same_same pu a cu c n l l _ hn'.out rfl (by omega) hbu'.out.drew1 hbl.out.drew1).mono ?_; rintro e wz ⟨rfl, hb⟩; have T1 := Lib.hid (show Below wy3.heap.size wy3 wz from (Below.refl _ _).drew.trans hb); clear c3 c14 c21 c26; obtain ⟨c3, c14, c21, c26⟩ := hcell.out wz T1.out; clear ci1 _t hb; have ci2 : True := trivial)
          | (have _t := ci2; go_at_call 39; refine (same_two p7 _ x7 (c - mn) q7 (n - mn) R (l.drop mn) wz hmR'.out hdl.out hdr.out (Nat.le_trans hq8 (by decide)) (hbr.out.on T1.out (Nat.le_refl _)) (hat.out wz T1.out)).mono ?_; rintro e wq ⟨rfl, hb⟩; have T2 := Lib.hid (show Below wy3.heap.size wy3 wq from T1.out.trans (hb.mono T1.out.size)); clear c3 c14 c21 c26; obtain ⟨c3, c14, c21, c26⟩ := hcell.out wq T2.out; clear ci2 _t hb; have ci3 : True := trivial)
          | (have _t := ci3; go_at_call 16; refine (awake_c _).mono ?_; rintro e wj ⟨rfl, hb⟩; have T3 := Lib.hid (show Below wy3.heap.size wy3 wj from T2.out.trans (hb.mono T2.out.size)); clear c3 c14 c21 c26; obtain ⟨c3, c14, c21, c26⟩ := hcell.out wj T3.out; clear ci3 _t hb))
        go_wp2_with fail
        go_ret
        exact ⟨rfl, LA.out.below.trans (T3.out.mono LA.out.below.size)⟩
end Go.Proofs.YtgcodlicbdaddaaGreatDoor
