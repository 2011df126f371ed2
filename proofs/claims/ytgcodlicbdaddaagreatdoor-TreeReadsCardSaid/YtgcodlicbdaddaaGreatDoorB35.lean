/-
  open.
-/
import Derived.Test.YtgcodlicbdaddaaGreatDoorB34
import Derived.Test.YtgcodlicbdaddaaGreatDoorB31
import Derived.Test.YtgcodlicbdaddaaGreatDoorB30
import Derived.Test.YtgcodlicbdaddaaGreatDoorB23
import Derived.Test.YtgcodlicbdaddaaGreatDoorB27
import Derived.Test.YtgcodlicbdaddaaGreatDoorB5
import Derived.Deep.RegionWith
import Derived.StillTailTactics

section
set_option linter.unusedVariables false
set_option linter.unusedSimpArgs false
namespace Go.Proofs.YtgcodlicbdaddaaGreatDoor
open Go.RowKit BigFrame
set_option maxRecDepth 100000

section
variable {w : World} {B b : Nat} {A : Ad} {s : Tr}
/-- a block that is not the tree's -/
structure OffT (w : World) (A : Ad) (t : TypeId) (g : Nat) (l : List Value) : Prop where
  at_ : Vw w t g l
  own : A.own g = none
theorem OffT.turn {w w' : World} {A A' : Ad} {t : TypeId} {g : Nat} {l : List Value} (h : OffT w A t g l) (hS : TStep w A w' A') : OffT w' A' t g l :=
  ⟨by have h1 := h.at_; have h2 := h1.lt; unfold Vw at h1 ⊢; rw [hS.block _ h2 h.own]; exact h1, (hS.ext _ h.at_.lt).trans h.own⟩
theorem OffT.below {w w' : World} {t : TypeId} {g : Nat} {l : List Value} (h : OffT w A t g l) (hb : Below w.heap.size w w') : OffT w' A t g l := h.turn (TStep.of_below A hb)
theorem ownI_form {w : World} {base n : Nat} {v : Value} {D : Nat → Int} (h : OwnI w base v n D) : ∃ a cap, v = .slice a n cap ∧ True := by
  rcases h.2 with ⟨rfl, h0⟩ | ⟨g, cap, cur, rfl, _⟩
  · exact ⟨none, 0, by rw [h0], trivial⟩
  · exact ⟨_, cap, rfl, trivial⟩
/-- a descriptor is opened -/
theorem open_tree (h : TreeAt w B A s) (n : Nat) (f : Int) (L : List Plc) (hL : s.tb = L) (hle : leastF L < 16) :
    Calls Tryz.prog 132 #[.pointer (some ⟨A.f, 0, none⟩), .int .i64 ((n : Nat) : Int), .int .i64 f] w fun e w' => e = .returned (.tuple #[.int .i64 ((leastF L : Nat) : Int), .int .i64 0]) ∧ TreeAt w' B A { s with tb := openL L (leastF L) ((n : Nat) : Int) f } ∧ TStep w A w' A := by
  subst hL
  refine (open_some A.f (leastF s.tb) ((n : Nat) : Int) f s.tb w h.tab (leastF_is s.tb) hle).mono ?_
  rintro e w' ⟨rfl, hT, hU⟩
  exact ⟨rfl, h.set_tab hU hT, TStep.turn hU (by rw [h.rf]; simp)⟩
/-- an answer that is a number, laid -/
theorem tell_at {a : Ans} {n : Int} {w1 w' : World} {A' : Ad} {s' : Tr} (h : TreeAt w1 B A' s') (hs : TStep w A w1 A') (hO : Oth w.heap.size w1 w') (hg : A'.own w.heap.size = none) (ha : a = { ans0 with n := n }) :
    TellPost B A s' a w (.returned (.tuple #[ansV 0 n 0 0 (.slice none 0 0) (.slice none 0 0), .int .i64 0])) w' := by
  subst ha
  exact ⟨_, A', rfl, h.oth hO hg, hs.oth hO (Nat.le_refl _), fun _ => ⟨_, _, rfl, OwnB.nil _ _, OwnT.nil _ _, (fun g e => by cases e), (fun g e => by cases e)⟩, ⟨_, _, _, _, _, _, _, _, _, _, rfl⟩⟩
set_option maxHeartbeats 4000000 in
theorem open_no (h : TreeAt w B A s) (ho : Ok b s) (hB : B ≤ w.heap.size) (hb : b ≤ 900000) (p : ByteArray) (f : Int) (hmoe : mayOpen f = false) :
    Calls Tryz.prog 78 #[.pointer (some ⟨A.t, 0, none⟩), .string p, .int .i64 f] w (TellPost B A (s.open (nb p) f).2 (s.open (nb p) f).1 w) := by
  have h' := Lib.hid h
  have hul : s.open (nb p) f = if mayOpen f = false then (ansC 2, s) else if (s.toOpen (nb p) f).1 ≠ 0 then (ansC (s.toOpen (nb p) f).1, s) else
    if (s.toOpen (nb p) f).2.1 ≠ 0 ∧ (s.at (s.toOpen (nb p) f).2.1).kind = 2 ∧ bitF f 32 = true then (ansC 8, s) else if openC s.tb 16 = 16 then (ansC 14, s) else
    if (s.toOpen (nb p) f).2.1 = 0 then
      ({ ans0 with n := leastF s.tb }, { (((s.make (ndNew 1)).hang (s.toOpen (nb p) f).2.2 s.nd.length).cut0 s.nd.length f) with tb := openL s.tb (leastF s.tb) s.nd.length f })
    else ({ ans0 with n := leastF s.tb }, { (s.cut0 (s.toOpen (nb p) f).2.1 f) with tb := openL s.tb (leastF s.tb) ((s.toOpen (nb p) f).2.1 : Nat) f }) := rfl
  obtain ⟨w0, hw0⟩ : ∃ w0, w.alloc (.cells #[.int .i64 0, .int .i64 0, .int .i64 0, .int .i64 0, .slice none 0 0, .slice none 0 0] 38) = w0 := ⟨_, rfl⟩
  have hB0 := Lib.hid (show Below w.heap.size w w0 by rw [← hw0]; exact (Below.refl w.heap.size w).alloc (Nat.le_refl _) _)
  have V0 := Lib.hid (show OffT w0 A 38 w.heap.size [.int .i64 0, .int .i64 0, .int .i64 0, .int .i64 0, .slice none 0 0, .slice none 0 0] from ⟨by rw [← hw0]; exact Vw.alloc _ _ _, h.none_past (Nat.le_refl _)⟩)
  have T0 := Lib.hid (h.below hB0.out)
  have hmo := Lib.hid (fun w' => mayOpen_any f w')
  have htk := fun (d : 0 ≤ f) (d2 : f ≤ 63) => fun w' (hw' : TreeAt w' B A s) => toOpen_any hw' ho hb p f d d2
  rw [hmoe] at hul
  have hmo1 := Lib.hid (show ∀ w', Calls Tryz.prog 127 #[.int .i64 f] w' fun e w2 => e = .returned (.bool false) ∧ w' = w2 by rw [← hmoe]; exact hmo.out)
  clear hmo
  rw [if_pos rfl] at hul
  have hul' := Lib.hid hul
  clear hul htk h
  go_enter Tryz.func78, Tryz.ntmps78
  have tk : True := trivial
  go_wp2_with (first
    | (go_at_call 127; refine (hmo1.out _).mono ?_; rintro e w9 ⟨rfl, rfl⟩)
    | (go_at_call 79; refine (only_any _ _).mono ?_; rintro e w8 ⟨rfl, hb8⟩; have B8 := Lib.hid (hB0.out.trans (hb8.mono hB0.out.size)); have V8 := Lib.hid (V0.out.below hb8); clear hb8)
    | (have _t := tk; refine wpList_store_ans rfl (.tmp 6) (.tmp 16) rfl V8.out.at_ rfl rfl 0 0 0 0 none none 0 0 0 0 rfl ?_; intro w7 V7 O7; clear tk))
  refine bodyPost_ret (cell_ret2 rfl rfl V7.out Tryz.underlying38 (by rw [Tryz.sizeA]; rfl)) rfl ?_
  rw [hul'.out]
  exact tell_code h'.out (below_at B8.out O7.out (Nat.le_refl _)) (by decide) rfl
set_option maxHeartbeats 4000000 in
theorem open_bad (h : TreeAt w B A s) (ho : Ok b s) (hB : B ≤ w.heap.size) (hb : b ≤ 900000) (p : ByteArray) (f : Int) (hmoe : mayOpen f = true) {c : Int} {i : Nat} {q : Spot} (hc : c ≠ 0) (hR : s.toOpen (nb p) f = (c, i, q)) :
    Calls Tryz.prog 78 #[.pointer (some ⟨A.t, 0, none⟩), .string p, .int .i64 f] w (TellPost B A (s.open (nb p) f).2 (s.open (nb p) f).1 w) := by
  have h' := Lib.hid h
  have hul : s.open (nb p) f = if mayOpen f = false then (ansC 2, s) else if (s.toOpen (nb p) f).1 ≠ 0 then (ansC (s.toOpen (nb p) f).1, s) else
    if (s.toOpen (nb p) f).2.1 ≠ 0 ∧ (s.at (s.toOpen (nb p) f).2.1).kind = 2 ∧ bitF f 32 = true then (ansC 8, s) else if openC s.tb 16 = 16 then (ansC 14, s) else
    if (s.toOpen (nb p) f).2.1 = 0 then
      ({ ans0 with n := leastF s.tb }, { (((s.make (ndNew 1)).hang (s.toOpen (nb p) f).2.2 s.nd.length).cut0 s.nd.length f) with tb := openL s.tb (leastF s.tb) s.nd.length f })
    else ({ ans0 with n := leastF s.tb }, { (s.cut0 (s.toOpen (nb p) f).2.1 f) with tb := openL s.tb (leastF s.tb) ((s.toOpen (nb p) f).2.1 : Nat) f }) := rfl
  obtain ⟨w0, hw0⟩ : ∃ w0, w.alloc (.cells #[.int .i64 0, .int .i64 0, .int .i64 0, .int .i64 0, .slice none 0 0, .slice none 0 0] 38) = w0 := ⟨_, rfl⟩
  have hB0 := Lib.hid (show Below w.heap.size w w0 by rw [← hw0]; exact (Below.refl w.heap.size w).alloc (Nat.le_refl _) _)
  have V0 := Lib.hid (show OffT w0 A 38 w.heap.size [.int .i64 0, .int .i64 0, .int .i64 0, .int .i64 0, .slice none 0 0, .slice none 0 0] from ⟨by rw [← hw0]; exact Vw.alloc _ _ _, h.none_past (Nat.le_refl _)⟩)
  have T0 := Lib.hid (h.below hB0.out)
  have hmo := Lib.hid (fun w' => mayOpen_any f w')
  have htk := fun (d : 0 ≤ f) (d2 : f ≤ 63) => fun w' (hw' : TreeAt w' B A s) => toOpen_any hw' ho hb p f d d2
  rw [hR] at hul htk
  dsimp only at hul
  rw [hmoe] at hul
  have hmo1 := Lib.hid (show ∀ w', Calls Tryz.prog 127 #[.int .i64 f] w' fun e w2 => e = .returned (.bool true) ∧ w' = w2 by rw [← hmoe]; exact hmo.out)
  clear hmo
  rw [if_neg (by decide)] at hul
  have hmq : 0 ≤ f ∧ f ≤ 63 := by
    have h1 := hmoe
    unfold mayOpen at h1
    simp only [Bool.and_eq_true, decide_eq_true_eq] at h1
    exact h1.1
  have hto := Lib.hid (htk hmq.1 hmq.2)
  unfold ToOpenPost at hto
  have q4 : bits .and .i64 f 4 = if bitF f 4 = true then 4 else 0 := flag_is hmq.1 hmq.2 2 (by omega)
  have q32 : bits .and .i64 f 32 = if bitF f 32 = true then 32 else 0 := flag_is hmq.1 hmq.2 5 (by omega)
  clear htk h hmoe hmq
  rw [if_pos hc] at hul
  have hul' := Lib.hid hul
  have t0 : (c != 0) = true := by rw [bne_iff_ne]; exact hc
  have hc' := Lib.hid hc
  clear hul hR hc q4 q32
  go_enter Tryz.func78, Tryz.ntmps78
  have tk : True := trivial
  go_wp2_with (first
    | (go_at_call 127; refine (hmo1.out _).mono ?_; rintro e w9 ⟨rfl, rfl⟩)
    | (go_at_call 128; refine (hto.out _ T0.out).mono ?_; rintro e w1 ⟨oo, p1, z1, p2, rfl, hb1, hsay⟩; have B1 := Lib.hid (place_new (hB0.out.trans (hb1.mono hB0.out.size)) [.pointer p1, .string z1, .pointer p2]); have V1 := Lib.hid ((V0.out.below hb1).below ((Below.refl w1.heap.size w1).alloc (Nat.le_refl _) (.cells #[.pointer p1, .string z1, .pointer p2] 171))); have P1 := Lib.hid (show OffT (w1.alloc (.cells #[.pointer p1, .string z1, .pointer p2] 171)) A 171 w1.heap.size [.pointer p1, .string z1, .pointer p2] from ⟨Vw.alloc _ _ _, h'.out.none_past (hB0.out.trans (hb1.mono hB0.out.size)).size⟩); have T1 := Lib.hid (h'.out.below B1.out); clear hsay; clear hb1)
    | (go_at_call 79; refine (only_any _ _).mono ?_; rintro e w8 ⟨rfl, hb8⟩; have B8 := Lib.hid (B1.out.trans (hb8.mono B1.out.size)); have V8 := Lib.hid (V1.out.below hb8); clear hb8)
    | (have _t := tk; refine wpList_store_ans rfl (.tmp 6) (.tmp 31) rfl V8.out.at_ rfl rfl 0 0 0 0 none none 0 0 0 0 rfl ?_; intro w7 V7 O7; clear tk))
  refine bodyPost_ret (cell_ret2 rfl rfl V7.out Tryz.underlying38 (by rw [Tryz.sizeA]; rfl)) rfl ?_
  rw [hul'.out]
  exact tell_code h'.out (below_at B8.out O7.out (Nat.le_refl _)) hc'.out rfl
set_option maxHeartbeats 4000000 in
theorem open_new (h : TreeAt w B A s) (ho : Ok b s) (hB : B ≤ w.heap.size) (hb : b ≤ 900000) (p : ByteArray) (f : Int) (hmoe : mayOpen f = true) {d t : Nat} {nm : List Nat} (hR : s.toOpen (nb p) f = (0, 0, ⟨d, nm, t⟩)) :
    Calls Tryz.prog 78 #[.pointer (some ⟨A.t, 0, none⟩), .string p, .int .i64 f] w (TellPost B A (s.open (nb p) f).2 (s.open (nb p) f).1 w) := by
  have h' := Lib.hid h
  have hul : s.open (nb p) f = if mayOpen f = false then (ansC 2, s) else if (s.toOpen (nb p) f).1 ≠ 0 then (ansC (s.toOpen (nb p) f).1, s) else
    if (s.toOpen (nb p) f).2.1 ≠ 0 ∧ (s.at (s.toOpen (nb p) f).2.1).kind = 2 ∧ bitF f 32 = true then (ansC 8, s) else if openC s.tb 16 = 16 then (ansC 14, s) else
    if (s.toOpen (nb p) f).2.1 = 0 then
      ({ ans0 with n := leastF s.tb }, { (((s.make (ndNew 1)).hang (s.toOpen (nb p) f).2.2 s.nd.length).cut0 s.nd.length f) with tb := openL s.tb (leastF s.tb) s.nd.length f })
    else ({ ans0 with n := leastF s.tb }, { (s.cut0 (s.toOpen (nb p) f).2.1 f) with tb := openL s.tb (leastF s.tb) ((s.toOpen (nb p) f).2.1 : Nat) f }) := rfl
  obtain ⟨w0, hw0⟩ : ∃ w0, w.alloc (.cells #[.int .i64 0, .int .i64 0, .int .i64 0, .int .i64 0, .slice none 0 0, .slice none 0 0] 38) = w0 := ⟨_, rfl⟩
  have hB0 := Lib.hid (show Below w.heap.size w w0 by rw [← hw0]; exact (Below.refl w.heap.size w).alloc (Nat.le_refl _) _)
  have V0 := Lib.hid (show OffT w0 A 38 w.heap.size [.int .i64 0, .int .i64 0, .int .i64 0, .int .i64 0, .slice none 0 0, .slice none 0 0] from ⟨by rw [← hw0]; exact Vw.alloc _ _ _, h.none_past (Nat.le_refl _)⟩)
  have T0 := Lib.hid (h.below hB0.out)
  have hmo := Lib.hid (fun w' => mayOpen_any f w')
  have htk := fun (d : 0 ≤ f) (d2 : f ≤ 63) => fun w' (hw' : TreeAt w' B A s) => toOpen_any hw' ho hb p f d d2
  rw [hR] at hul htk
  dsimp only at hul
  rw [hmoe] at hul
  have hmo1 := Lib.hid (show ∀ w', Calls Tryz.prog 127 #[.int .i64 f] w' fun e w2 => e = .returned (.bool true) ∧ w' = w2 by rw [← hmoe]; exact hmo.out)
  clear hmo
  rw [if_neg (by decide)] at hul
  have hmq : 0 ≤ f ∧ f ≤ 63 := by
    have h1 := hmoe
    unfold mayOpen at h1
    simp only [Bool.and_eq_true, decide_eq_true_eq] at h1
    exact h1.1
  have hto := Lib.hid (htk hmq.1 hmq.2)
  unfold ToOpenPost at hto
  have q4 : bits .and .i64 f 4 = if bitF f 4 = true then 4 else 0 := flag_is hmq.1 hmq.2 2 (by omega)
  have q32 : bits .and .i64 f 32 = if bitF f 32 = true then 32 else 0 := flag_is hmq.1 hmq.2 5 (by omega)
  clear htk h hmoe hmq
  rw [if_neg (fun c => c rfl), if_neg (fun c => c.1 rfl), if_pos rfl] at hul
  by_cases h16 : openC s.tb 16 = 16
  · skip
    rw [if_pos h16] at hul
    have hul' := Lib.hid hul
    have hoc := Lib.hid h16
    clear hul hR h16 q4 q32
    go_enter Tryz.func78, Tryz.ntmps78
    have tk : True := trivial
    go_wp2_with (first
      | (go_at_call 127; refine (hmo1.out _).mono ?_; rintro e w9 ⟨rfl, rfl⟩)
      | (go_at_call 128; refine (hto.out _ T0.out).mono ?_; rintro e w1 ⟨oo, p1, z1, p2, rfl, hb1, hsay⟩; have B1 := Lib.hid (place_new (hB0.out.trans (hb1.mono hB0.out.size)) [.pointer p1, .string z1, .pointer p2]); have V1 := Lib.hid ((V0.out.below hb1).below ((Below.refl w1.heap.size w1).alloc (Nat.le_refl _) (.cells #[.pointer p1, .string z1, .pointer p2] 171))); have P1 := Lib.hid (show OffT (w1.alloc (.cells #[.pointer p1, .string z1, .pointer p2] 171)) A 171 w1.heap.size [.pointer p1, .string z1, .pointer p2] from ⟨Vw.alloc _ _ _, h'.out.none_past (hB0.out.trans (hb1.mono hB0.out.size)).size⟩); have T1 := Lib.hid (h'.out.below B1.out); obtain ⟨hs1, hs2⟩ := hsay (by trivial); rw [if_neg (fun c => c rfl)] at hs1; obtain ⟨hs3, hs4, hs5⟩ := hs2 (by trivial); subst hs1 hs3 hs4 hs5; have cf := T1.out.files; clear hsay; clear hb1)
      | (go_at_call 129; refine (list_any _ _ _ T1.out.tab).mono ?_; rintro e w2 ⟨v2, rfl, hli, hb2⟩; have B2 := Lib.hid (B1.out.trans (hb2.mono B1.out.size)); have V2 := Lib.hid (V1.out.below hb2); have P2 := Lib.hid (P1.out.below hb2); have T2 := Lib.hid (T1.out.below hb2); obtain ⟨a2, cap2, hf2, _⟩ := ownI_form hli; rw [hoc.out] at hf2; subst hf2; clear hli hb2)
      | (go_at_call 79; refine (only_any _ _).mono ?_; rintro e w8 ⟨rfl, hb8⟩; have B8 := Lib.hid (B2.out.trans (hb8.mono B2.out.size)); have V8 := Lib.hid (V2.out.below hb8); clear hb8)
      | (have _t := tk; refine wpList_store_ans rfl (.tmp 6) (.tmp 60) rfl V8.out.at_ rfl rfl 0 0 0 0 none none 0 0 0 0 rfl ?_; intro w7 V7 O7; clear tk))
    refine bodyPost_ret (cell_ret2 rfl rfl V7.out Tryz.underlying38 (by rw [Tryz.sizeA]; rfl)) rfl ?_
    rw [hul'.out]
    exact tell_code h'.out (below_at B8.out O7.out (Nat.le_refl _)) (by decide) rfl
  · rw [if_neg h16] at hul
    obtain ⟨oc, hoc0⟩ : ∃ n, openC s.tb 16 = n := ⟨_, rfl⟩
    have hoc := Lib.hid hoc0
    have hle := Lib.hid (least_open h16)
    rw [hoc0] at h16
    have t16 : (((oc : Nat) : Int) == 16) = false := nat_beq_ne (b := 16) h16
    have hpl : (s.place (nb p)).1 = 0 ∧ (s.place (nb p)).2.there = 0 ∧ (s.place (nb p)).2 = ⟨d, nm, t⟩ := by
      have e2 := hR
      unfold Tr.toOpen at e2
      by_cases c1 : bitF f 1 = true ∧ ((s.place (nb p)).1 ≠ 0 ∨ (s.place (nb p)).2.there = 0)
      · rw [if_pos c1] at e2
        have c2 : (s.place (nb p)).1 = 0 := congrArg Prod.fst e2
        exact ⟨c2, c1.2.resolve_left fun c3 => c3 c2, congrArg (fun z => z.2.2) e2⟩
      · rw [if_neg c1] at e2
        by_cases c2 : bitF f 1 = true ∧ bitF f 2 = true
        · rw [if_pos c2] at e2
          exact absurd (show (6 : Int) = 0 from congrArg Prod.fst e2) (by decide)
        · rw [if_neg c2] at e2
          obtain ⟨x, hx⟩ := ho.find_alive (p := nb p) (itself := false) (congrArg Prod.fst e2)
          exact absurd (congrArg (fun z => z.2.1) e2) (ho.pos hx)
    obtain ⟨y, hq⟩ := ho.spot_at (nb_octs p) hpl.1
    have hq0 := hpl.2.1
    rw [hpl.2.2] at hq hq0
    obtain ⟨n, hnl⟩ : ∃ n, s.nd.length = n := ⟨_, rfl⟩
    obtain ⟨s1, hs1⟩ : ∃ s1, s.make (ndNew 1) = s1 := ⟨_, rfl⟩
    have hmk := Lib.hid (show ∀ w', TreeAt w' B A s → B ≤ w'.heap.size → Calls Tryz.prog 43 #[.pointer (some ⟨A.t, 0, none⟩), .int .i64 1] w' (fun e w2 => ∃ g o, e = .returned (.pointer (some ⟨g, 0, none⟩)) ∧ TreeAt w2 B (A.add n g o) s1 ∧ TStep w' A w2 (A.add n g o)) from fun w' hw' hB' => by
      have h3 := make_any hw' hB' (by have := ho.len.2; omega) (by have := ho.len.1; omega) 1
      unfold MakePost at h3
      rw [hnl, hs1] at h3
      exact h3)
    have hpt := Lib.hid (fun w' g o (hw' : TreeAt w' B (A.add n g o) s1) => put_new t (b := b) (by omega) hs1 hnl hq.dir hq.kind (ho.each d y hq.dir) (ho.ent_pos hq.dir) rfl hq.name (hq.there.trans hq0) hw')
    obtain ⟨s2, hs2⟩ : ∃ s2, s1.hang ⟨d, nm, t⟩ n = s2 := ⟨_, rfl⟩
    have hs2o := Lib.hid (show s2.opt n = some ((ndNew 1).named d nm) by
      have hlt := Tr.opt_lt hq.dir
      simp only at hlt
      rw [← hs2, ← hs1, Tr.opt_hang (y := y) (x := ndNew 1) (by rw [Tr.opt_make, if_neg (by omega)]; exact hq.dir) (by rw [Tr.opt_make, if_pos hnl.symm]) (by omega), if_pos rfl])
    have hs2t := Lib.hid (show s2.tb = s.tb by rw [← hs2, ← hs1]; rfl)
    have hgn := Lib.hid (fun g o => (show (A.add n g o).nd n = g by unfold Ad.add; simp))
    rw [hnl, hs1, hs2] at hul
    simp only [hs2] at hpt
    have hk1 := Lib.hid (show ((ndNew 1).named d nm).kind = 1 from named_kind _ _ _)
    clear hnl hs1 hs2 hR hq hq0 hpl hoc0 h16 q32
    by_cases g4 : bitF f 4 = true
    · rw [if_pos g4] at q4
      have hct : s2.cut0 n f = s2.put n (((ndNew 1).named d nm).resize 0) := by unfold Tr.cut0; rw [if_pos g4, Tr.at_of hs2o.out]
      rw [hct] at hul
      have hrz := Lib.hid (fun (A' : Ad) w' g (hw' : TreeAt w' B A' s2) (hg : A'.nd n = g) (hB' : B ≤ w'.heap.size) => (show Calls Tryz.prog 131 #[.pointer (some ⟨g, 0, none⟩), .int .i64 0] w' (DataPost B A' s2 n (((ndNew 1).named d nm).resize 0) (.tuple #[]) w') by
        have := resize_tree hw' hs2o.out (by rw [hk1.out]; decide) 0 (by omega) hB'
        rw [hg] at this
        exact this))
      have hs3o := Lib.hid (show (s2.put n (((ndNew 1).named d nm).resize 0)).opt n = some (((ndNew 1).named d nm).resize 0) from Tr.opt_put_same hs2o.out)
      have hs3t := Lib.hid (show (s2.put n (((ndNew 1).named d nm).resize 0)).tb = s.tb from hs2t.out)
      have hul' := Lib.hid hul
      clear hul hct g4
      go_enter Tryz.func78, Tryz.ntmps78
      have tk : True := trivial
      go_upto_region 15 with (first
        | (go_at_call 127; refine (hmo1.out _).mono ?_; rintro e w9 ⟨rfl, rfl⟩)
        | (go_at_call 128; refine (hto.out _ T0.out).mono ?_; rintro e w1 ⟨oo, p1, z1, p2, rfl, hb1, hsay⟩; have B1 := Lib.hid (place_new (hB0.out.trans (hb1.mono hB0.out.size)) [.pointer p1, .string z1, .pointer p2]); have V1 := Lib.hid ((V0.out.below hb1).below ((Below.refl w1.heap.size w1).alloc (Nat.le_refl _) (.cells #[.pointer p1, .string z1, .pointer p2] 171))); have P1 := Lib.hid (show OffT (w1.alloc (.cells #[.pointer p1, .string z1, .pointer p2] 171)) A 171 w1.heap.size [.pointer p1, .string z1, .pointer p2] from ⟨Vw.alloc _ _ _, h'.out.none_past (hB0.out.trans (hb1.mono hB0.out.size)).size⟩); have T1 := Lib.hid (h'.out.below B1.out); obtain ⟨hs1, hs2⟩ := hsay (by trivial); rw [if_neg (fun c => c rfl)] at hs1; obtain ⟨hs3, hs4, hs5⟩ := hs2 (by trivial); subst hs1 hs3 hs4 hs5; have cf := T1.out.files; clear hsay; clear hb1)
        | (go_at_call 129; refine (list_any _ _ _ T1.out.tab).mono ?_; rintro e w2 ⟨v2, rfl, hli, hb2⟩; have B2 := Lib.hid (B1.out.trans (hb2.mono B1.out.size)); have V2 := Lib.hid (V1.out.below hb2); have P2 := Lib.hid (P1.out.below hb2); have T2 := Lib.hid (T1.out.below hb2); obtain ⟨a2, cap2, hf2, _⟩ := ownI_form hli; rw [hoc.out] at hf2; subst hf2; clear hli hb2)
        | (go_at_call 43; refine (hmk.out _ T2.out (Nat.le_trans hB B2.out.size)).mono ?_; rintro e w3 ⟨g, o, rfl, hT3, hS3⟩; have T3 := Lib.hid hT3; have S3 := Lib.hid ((TStep.of_below A B2.out).trans hS3); have V3 := Lib.hid (V2.out.turn hS3); have P3 := Lib.hid (P2.out.turn hS3); have k0 := P3.out.at_.cell (k := 0) rfl; have k1 := P3.out.at_.cell (k := 1) rfl; have k2 := P3.out.at_.cell (k := 2) rfl; clear hT3 hS3)
        | (go_at_call 130; refine (hpt.out _ g o T3.out).mono ?_; rintro e w4 ⟨rfl, hT4, hS4⟩; have T4 := Lib.hid hT4; have S4 := Lib.hid (S3.out.trans hS4); have V4 := Lib.hid (V3.out.turn hS4);  clear hT4 hS4)
        | (go_at_call 131; refine (hrz.out _ _ g T4.out (hgn.out g o) (Nat.le_trans hB S4.out.size)).mono ?_; rintro e w5 ⟨rfl, v5, hT5, hS5⟩; have T5 := Lib.hid hT5; have S5 := Lib.hid (S4.out.trans hS5); have V5 := Lib.hid (V4.out.turn hS5); have cf := (show w5.cell? ⟨A.t, 2, none⟩ = some (.pointer (some ⟨A.f, 0, none⟩)) from T5.out.files); have cn := (T5.out.node n _ hs3o.out).num; rw [show ((A.add n g o).row n v5).nd n = g from hgn.out g o] at cn; clear hT5 hS5))
      go_region_with (go_at_call 132; refine (open_tree T5.out.drew n f s.tb hs3t.out hle.out).mono ?_; rintro e w6 ⟨rfl, hT6, hS6⟩; have T6 := Lib.hid hT6; have S6 := Lib.hid ((S5.out.trans (TStep.drew _ _)).trans hS6); have V6 := Lib.hid ((V5.out.turn (TStep.drew _ _)).turn hS6); clear hT6 hS6)
      all_goals (
        have tk : True := trivial
        go_wp2_with (have _t := tk; refine wpList_store_ans rfl (.tmp 6) (.tmp 89) rfl V6.out.at_ rfl rfl 0 ((leastF s.tb : Nat) : Int) 0 0 none none 0 0 0 0 rfl ?_; intro w7 V7 O7; clear tk)
        refine bodyPost_ret (cell_ret2 rfl rfl V7.out Tryz.underlying38 (by rw [Tryz.sizeA]; rfl)) rfl ?_
        rw [hul'.out]
        exact tell_at T6.out S6.out O7.out V6.out.own rfl)
    · rw [if_neg g4] at q4
      have hct : s2.cut0 n f = s2 := by unfold Tr.cut0; rw [if_neg g4]
      rw [hct] at hul
      have hs3t := Lib.hid (show s2.tb = s.tb from hs2t.out)
      have hul' := Lib.hid hul
      clear hul hct g4
      go_enter Tryz.func78, Tryz.ntmps78
      have tk : True := trivial
      go_upto_region 15 with (first
        | (go_at_call 127; refine (hmo1.out _).mono ?_; rintro e w9 ⟨rfl, rfl⟩)
        | (go_at_call 128; refine (hto.out _ T0.out).mono ?_; rintro e w1 ⟨oo, p1, z1, p2, rfl, hb1, hsay⟩; have B1 := Lib.hid (place_new (hB0.out.trans (hb1.mono hB0.out.size)) [.pointer p1, .string z1, .pointer p2]); have V1 := Lib.hid ((V0.out.below hb1).below ((Below.refl w1.heap.size w1).alloc (Nat.le_refl _) (.cells #[.pointer p1, .string z1, .pointer p2] 171))); have P1 := Lib.hid (show OffT (w1.alloc (.cells #[.pointer p1, .string z1, .pointer p2] 171)) A 171 w1.heap.size [.pointer p1, .string z1, .pointer p2] from ⟨Vw.alloc _ _ _, h'.out.none_past (hB0.out.trans (hb1.mono hB0.out.size)).size⟩); have T1 := Lib.hid (h'.out.below B1.out); obtain ⟨hs1, hs2⟩ := hsay (by trivial); rw [if_neg (fun c => c rfl)] at hs1; obtain ⟨hs3, hs4, hs5⟩ := hs2 (by trivial); subst hs1 hs3 hs4 hs5; have cf := T1.out.files; clear hsay; clear hb1)
        | (go_at_call 129; refine (list_any _ _ _ T1.out.tab).mono ?_; rintro e w2 ⟨v2, rfl, hli, hb2⟩; have B2 := Lib.hid (B1.out.trans (hb2.mono B1.out.size)); have V2 := Lib.hid (V1.out.below hb2); have P2 := Lib.hid (P1.out.below hb2); have T2 := Lib.hid (T1.out.below hb2); obtain ⟨a2, cap2, hf2, _⟩ := ownI_form hli; rw [hoc.out] at hf2; subst hf2; clear hli hb2)
        | (go_at_call 43; refine (hmk.out _ T2.out (Nat.le_trans hB B2.out.size)).mono ?_; rintro e w3 ⟨g, o, rfl, hT3, hS3⟩; have T3 := Lib.hid hT3; have S3 := Lib.hid ((TStep.of_below A B2.out).trans hS3); have V3 := Lib.hid (V2.out.turn hS3); have P3 := Lib.hid (P2.out.turn hS3); have k0 := P3.out.at_.cell (k := 0) rfl; have k1 := P3.out.at_.cell (k := 1) rfl; have k2 := P3.out.at_.cell (k := 2) rfl; clear hT3 hS3)
        | (go_at_call 130; refine (hpt.out _ g o T3.out).mono ?_; rintro e w4 ⟨rfl, hT4, hS4⟩; have T4 := Lib.hid hT4; have S4 := Lib.hid (S3.out.trans hS4); have V4 := Lib.hid (V3.out.turn hS4); have cf := (show w4.cell? ⟨A.t, 2, none⟩ = some (.pointer (some ⟨A.f, 0, none⟩)) from T4.out.files); have cn := (T4.out.node n _ hs2o.out).num; rw [hgn.out g o] at cn; clear hT4 hS4))
      go_region_with (go_at_call 132; refine (open_tree T4.out.drew n f s.tb hs3t.out hle.out).mono ?_; rintro e w6 ⟨rfl, hT6, hS6⟩; have T6 := Lib.hid hT6; have S6 := Lib.hid ((S4.out.trans (TStep.drew _ _)).trans hS6); have V6 := Lib.hid ((V4.out.turn (TStep.drew _ _)).turn hS6); clear hT6 hS6)
      all_goals (
        have tk : True := trivial
        go_wp2_with (have _t := tk; refine wpList_store_ans rfl (.tmp 6) (.tmp 89) rfl V6.out.at_ rfl rfl 0 ((leastF s.tb : Nat) : Int) 0 0 none none 0 0 0 0 rfl ?_; intro w7 V7 O7; clear tk)
        refine bodyPost_ret (cell_ret2 rfl rfl V7.out Tryz.underlying38 (by rw [Tryz.sizeA]; rfl)) rfl ?_
        rw [hul'.out]
        exact tell_at T6.out S6.out O7.out V6.out.own rfl)
end
end Go.Proofs.YtgcodlicbdaddaaGreatDoor
end
