/-
  open, of what is there; open.
-/
import Derived.Test.YtgcodlicbdaddaaGreatDoorB35
import Derived.Test.YtgcodlicbdaddaaGreatDoorB31
import Derived.Test.YtgcodlicbdaddaaGreatDoorB30
import Derived.Test.YtgcodlicbdaddaaGreatDoorB23
import Derived.Test.YtgcodlicbdaddaaGreatDoorB27
import Derived.Test.YtgcodlicbdaddaaGreatDoorB5
import Derived.Deep.RegionWith
import Derived.StillTailTactics

section
set_option linter.unusedVariables false
set_option linter.unusedSimpArgs false
namespace Go.Proofs.YtgcodlicbdaddaaGreatDoor
open Go.RowKit BigFrame
set_option maxRecDepth 100000

section
variable {w : World} {B b : Nat} {A : Ad} {s : Tr}
set_option maxHeartbeats 4000000 in
theorem open_old (h : TreeAt w B A s) (ho : Ok b s) (hB : B ≤ w.heap.size) (hb : b ≤ 900000) (p : ByteArray) (f : Int) (hmoe : mayOpen f = true) {i : Nat} {q : Spot} (hi : i ≠ 0) (hR : s.toOpen (nb p) f = (0, i, q)) :
    Calls Tryz.prog 78 #[.pointer (some ⟨A.t, 0, none⟩), .string p, .int .i64 f] w (TellPost B A (s.open (nb p) f).2 (s.open (nb p) f).1 w) := by
  have h' := Lib.hid h
  have hul : s.open (nb p) f = if mayOpen f = false then (ansC 2, s) else if (s.toOpen (nb p) f).1 ≠ 0 then (ansC (s.toOpen (nb p) f).1, s) else
    if (s.toOpen (nb p) f).2.1 ≠ 0 ∧ (s.at (s.toOpen (nb p) f).2.1).kind = 2 ∧ bitF f 32 = true then (ansC 8, s) else if openC s.tb 16 = 16 then (ansC 14, s) else
    if (s.toOpen (nb p) f).2.1 = 0 then
      ({ ans0 with n := leastF s.tb }, { (((s.make (ndNew 1)).hang (s.toOpen (nb p) f).2.2 s.nd.length).cut0 s.nd.length f) with tb := openL s.tb (leastF s.tb) s.nd.length f })
    else ({ ans0 with n := leastF s.tb }, { (s.cut0 (s.toOpen (nb p) f).2.1 f) with tb := openL s.tb (leastF s.tb) ((s.toOpen (nb p) f).2.1 : Nat) f }) := rfl
  obtain ⟨w0, hw0⟩ : ∃ w0, w.alloc (.cells #[.int .i64 0, .int .i64 0, .int .i64 0, .int .i64 0, .slice none 0 0, .slice none 0 0] 38) = w0 := ⟨_, rfl⟩
  have hB0 := Lib.hid (show Below w.heap.size w w0 by rw [← hw0]; exact (Below.refl w.heap.size w).alloc (Nat.le_refl _) _)
  have V0 := Lib.hid (show OffT w0 A 38 w.heap.size [.int .i64 0, .int .i64 0, .int .i64 0, .int .i64 0, .slice none 0 0, .slice none 0 0] from ⟨by rw [← hw0]; exact Vw.alloc _ _ _, h.none_past (Nat.le_refl _)⟩)
  have T0 := Lib.hid (h.below hB0.out)
  have hmo := Lib.hid (fun w' => mayOpen_any f w')
  have htk := fun (d : 0 ≤ f) (d2 : f ≤ 63) => fun w' (hw' : TreeAt w' B A s) => toOpen_any hw' ho hb p f d d2
  rw [hR] at hul htk
  dsimp only at hul
  rw [hmoe] at hul
  have hmo1 := Lib.hid (show ∀ w', Calls Tryz.prog 127 #[.int .i64 f] w' fun e w2 => e = .returned (.bool true) ∧ w' = w2 by rw [← hmoe]; exact hmo.out)
  clear hmo
  rw [if_neg (by decide)] at hul
  have hmq : 0 ≤ f ∧ f ≤ 63 := by
    have h1 := hmoe
    unfold mayOpen at h1
    simp only [Bool.and_eq_true, decide_eq_true_eq] at h1
    exact h1.1
  have hto := Lib.hid (htk hmq.1 hmq.2)
  unfold ToOpenPost at hto
  have q4 : bits .and .i64 f 4 = if bitF f 4 = true then 4 else 0 := flag_is hmq.1 hmq.2 2 (by omega)
  have q32 : bits .and .i64 f 32 = if bitF f 32 = true then 32 else 0 := flag_is hmq.1 hmq.2 5 (by omega)
  clear htk h hmoe hmq
  rw [if_neg (fun c => c rfl)] at hul
  rw [if_neg hi] at hul
  have hfi : s.find (nb p) false = (0, i) := by
    have e2 := hR
    unfold Tr.toOpen at e2
    by_cases c1 : bitF f 1 = true ∧ ((s.place (nb p)).1 ≠ 0 ∨ (s.place (nb p)).2.there = 0)
    · rw [if_pos c1] at e2
      exact absurd (congrArg (fun z => z.2.1) e2).symm hi
    · rw [if_neg c1] at e2
      by_cases c2 : bitF f 1 = true ∧ bitF f 2 = true
      · rw [if_pos c2] at e2
        exact absurd (show (6 : Int) = 0 from congrArg Prod.fst e2) (by decide)
      · rw [if_neg c2] at e2
        exact Prod.ext (show (s.find (nb p) false).1 = 0 from congrArg Prod.fst e2) (show (s.find (nb p) false).2 = i from congrArg (fun z => z.2.1) e2)
  obtain ⟨x, hx⟩ := ho.find_alive (p := nb p) (itself := false) (by rw [hfi])
  have hk3 := (ho.find_live (p := nb p) (itself := false) (by rw [hfi])).2 rfl
  rw [hfi] at hx hk3
  have hx : s.opt i = some x := hx
  have hk3 : (s.at i).kind ≠ 3 := hk3
  rw [Tr.at_of hx] at hk3 hul
  have hx' := Lib.hid hx
  have hk3' := Lib.hid hk3
  have hi' := Lib.hid hi
  clear hR hfi hk3 hx
  by_cases h8 : x.kind = 2 ∧ bitF f 32 = true
  · rw [if_pos ⟨hi, h8⟩] at hul
    rw [if_pos h8.2] at q32
    have hul' := Lib.hid hul
    have t5 : (((x.kind : Nat) : Int) == 2) = true := by rw [h8.1]; rfl
    clear hul h8 q4 hi
    go_enter Tryz.func78, Tryz.ntmps78
    have tk : True := trivial
    go_wp2_with (first
      | (go_at_call 127; refine (hmo1.out _).mono ?_; rintro e w9 ⟨rfl, rfl⟩)
      | (go_at_call 128; refine (hto.out _ T0.out).mono ?_; rintro e w1 ⟨oo, p1, z1, p2, rfl, hb1, hsay⟩; have B1 := Lib.hid (place_new (hB0.out.trans (hb1.mono hB0.out.size)) [.pointer p1, .string z1, .pointer p2]); have V1 := Lib.hid ((V0.out.below hb1).below ((Below.refl w1.heap.size w1).alloc (Nat.le_refl _) (.cells #[.pointer p1, .string z1, .pointer p2] 171))); have P1 := Lib.hid (show OffT (w1.alloc (.cells #[.pointer p1, .string z1, .pointer p2] 171)) A 171 w1.heap.size [.pointer p1, .string z1, .pointer p2] from ⟨Vw.alloc _ _ _, h'.out.none_past (hB0.out.trans (hb1.mono hB0.out.size)).size⟩); have T1 := Lib.hid (h'.out.below B1.out); obtain ⟨hs1, _⟩ := hsay (by trivial); rw [if_pos hi'.out] at hs1; subst hs1; have cf := T1.out.files; have ck := (T1.out.node i x hx'.out).kind; clear hsay; clear hb1)
      | (go_at_call 79; refine (only_any _ _).mono ?_; rintro e w8 ⟨rfl, hb8⟩; have B8 := Lib.hid (B1.out.trans (hb8.mono B1.out.size)); have V8 := Lib.hid (V1.out.below hb8); clear hb8)
      | (have _t := tk; refine wpList_store_ans rfl (.tmp 6) (.tmp 49) rfl V8.out.at_ rfl rfl 0 0 0 0 none none 0 0 0 0 rfl ?_; intro w7 V7 O7; clear tk))
    refine bodyPost_ret (cell_ret2 rfl rfl V7.out Tryz.underlying38 (by rw [Tryz.sizeA]; rfl)) rfl ?_
    rw [hul'.out]
    exact tell_code h'.out (below_at B8.out O7.out (Nat.le_refl _)) (by decide) rfl
  · rw [if_neg (fun c => h8 c.2)] at hul
    obtain ⟨kb, hkb⟩ : ∃ kb, (((x.kind : Nat) : Int) == 2) = kb := ⟨_, rfl⟩
    have t8 : kb = true → (bits .and .i64 f 32 != 0) = false := fun c => by
      rw [q32, if_neg (fun c2 => h8 ⟨?_, c2⟩)]
      · rfl
      · rw [c] at hkb
        have := eq_of_beq hkb
        omega
    clear q32 h8
    cases kb with
    | true =>
      have t8' := t8 rfl
      clear t8
      by_cases h16 : openC s.tb 16 = 16
      · skip
        rw [if_pos h16] at hul
        have hul' := Lib.hid hul
        have hoc := Lib.hid h16
        clear hul h16 q4 hi
        go_enter Tryz.func78, Tryz.ntmps78
        have tk : True := trivial
        go_wp2_with (first
          | (go_at_call 127; refine (hmo1.out _).mono ?_; rintro e w9 ⟨rfl, rfl⟩)
          | (go_at_call 128; refine (hto.out _ T0.out).mono ?_; rintro e w1 ⟨oo, p1, z1, p2, rfl, hb1, hsay⟩; have B1 := Lib.hid (place_new (hB0.out.trans (hb1.mono hB0.out.size)) [.pointer p1, .string z1, .pointer p2]); have V1 := Lib.hid ((V0.out.below hb1).below ((Below.refl w1.heap.size w1).alloc (Nat.le_refl _) (.cells #[.pointer p1, .string z1, .pointer p2] 171))); have P1 := Lib.hid (show OffT (w1.alloc (.cells #[.pointer p1, .string z1, .pointer p2] 171)) A 171 w1.heap.size [.pointer p1, .string z1, .pointer p2] from ⟨Vw.alloc _ _ _, h'.out.none_past (hB0.out.trans (hb1.mono hB0.out.size)).size⟩); have T1 := Lib.hid (h'.out.below B1.out); obtain ⟨hs1, _⟩ := hsay (by trivial); rw [if_pos hi'.out] at hs1; subst hs1; have cf := T1.out.files; have ck := (T1.out.node i x hx'.out).kind; clear hsay; clear hb1)
          | (go_at_call 129; refine (list_any _ _ _ T1.out.tab).mono ?_; rintro e w2 ⟨v2, rfl, hli, hb2⟩; have B2 := Lib.hid (B1.out.trans (hb2.mono B1.out.size)); have V2 := Lib.hid (V1.out.below hb2); have P2 := Lib.hid (P1.out.below hb2); have T2 := Lib.hid (T1.out.below hb2); obtain ⟨a2, cap2, hf2, _⟩ := ownI_form hli; rw [hoc.out] at hf2; subst hf2; clear hli hb2)
          | (go_at_call 79; refine (only_any _ _).mono ?_; rintro e w8 ⟨rfl, hb8⟩; have B8 := Lib.hid (B2.out.trans (hb8.mono B2.out.size)); have V8 := Lib.hid (V2.out.below hb8); clear hb8)
          | (have _t := tk; refine wpList_store_ans rfl (.tmp 6) (.tmp 60) rfl V8.out.at_ rfl rfl 0 0 0 0 none none 0 0 0 0 rfl ?_; intro w7 V7 O7; clear tk))
        refine bodyPost_ret (cell_ret2 rfl rfl V7.out Tryz.underlying38 (by rw [Tryz.sizeA]; rfl)) rfl ?_
        rw [hul'.out]
        exact tell_code h'.out (below_at B8.out O7.out (Nat.le_refl _)) (by decide) rfl
      · rw [if_neg h16] at hul
        obtain ⟨oc, hoc0⟩ : ∃ n, openC s.tb 16 = n := ⟨_, rfl⟩
        have hoc := Lib.hid hoc0
        have hle := Lib.hid (least_open h16)
        rw [hoc0] at h16
        have t16 : (((oc : Nat) : Int) == 16) = false := nat_beq_ne (b := 16) h16
        clear hoc0 h16 hi
        by_cases g4 : bitF f 4 = true
        · rw [if_pos g4] at q4
          have hct : s.cut0 i f = s.put i (x.resize 0) := by unfold Tr.cut0; rw [if_pos g4, Tr.at_of hx'.out]
          rw [hct] at hul
          have hrz := Lib.hid (fun w' (hw' : TreeAt w' B A s) (hB' : B ≤ w'.heap.size) => (show Calls Tryz.prog 131 #[.pointer (some ⟨A.nd i, 0, none⟩), .int .i64 0] w' (DataPost B A s i (x.resize 0) (.tuple #[]) w') from resize_tree hw' hx'.out hk3'.out 0 (by omega) hB'))
          have hs3o := Lib.hid (show (s.put i (x.resize 0)).opt i = some (x.resize 0) from Tr.opt_put_same hx'.out)
          have hs3t := Lib.hid (show (s.put i (x.resize 0)).tb = s.tb from rfl)
          have hul' := Lib.hid hul
          clear hul hct g4
          go_enter Tryz.func78, Tryz.ntmps78
          have tk : True := trivial
          go_upto_region 15 with (first
            | (go_at_call 127; refine (hmo1.out _).mono ?_; rintro e w9 ⟨rfl, rfl⟩)
            | (go_at_call 128; refine (hto.out _ T0.out).mono ?_; rintro e w1 ⟨oo, p1, z1, p2, rfl, hb1, hsay⟩; have B1 := Lib.hid (place_new (hB0.out.trans (hb1.mono hB0.out.size)) [.pointer p1, .string z1, .pointer p2]); have V1 := Lib.hid ((V0.out.below hb1).below ((Below.refl w1.heap.size w1).alloc (Nat.le_refl _) (.cells #[.pointer p1, .string z1, .pointer p2] 171))); have P1 := Lib.hid (show OffT (w1.alloc (.cells #[.pointer p1, .string z1, .pointer p2] 171)) A 171 w1.heap.size [.pointer p1, .string z1, .pointer p2] from ⟨Vw.alloc _ _ _, h'.out.none_past (hB0.out.trans (hb1.mono hB0.out.size)).size⟩); have T1 := Lib.hid (h'.out.below B1.out); obtain ⟨hs1, _⟩ := hsay (by trivial); rw [if_pos hi'.out] at hs1; subst hs1; have cf := T1.out.files; have ck := (T1.out.node i x hx'.out).kind; clear hsay; clear hb1)
            | (go_at_call 129; refine (list_any _ _ _ T1.out.tab).mono ?_; rintro e w2 ⟨v2, rfl, hli, hb2⟩; have B2 := Lib.hid (B1.out.trans (hb2.mono B1.out.size)); have V2 := Lib.hid (V1.out.below hb2); have P2 := Lib.hid (P1.out.below hb2); have T2 := Lib.hid (T1.out.below hb2); obtain ⟨a2, cap2, hf2, _⟩ := ownI_form hli; rw [hoc.out] at hf2; subst hf2; clear hli hb2)
            | (go_at_call 131; refine (hrz.out _ T2.out (Nat.le_trans hB B2.out.size)).mono ?_; rintro e w5 ⟨rfl, v5, hT5, hS5⟩; have T5 := Lib.hid hT5; have S5 := Lib.hid ((TStep.of_below A B2.out).trans hS5); have V5 := Lib.hid (V2.out.turn hS5); have cf := (show w5.cell? ⟨A.t, 2, none⟩ = some (.pointer (some ⟨A.f, 0, none⟩)) from T5.out.files); have cn := (T5.out.node i _ hs3o.out).num; rw [show (A.row i v5).nd i = A.nd i from rfl] at cn; clear hT5 hS5))
          go_region_with (go_at_call 132; refine (open_tree T5.out.drew i f s.tb hs3t.out hle.out).mono ?_; rintro e w6 ⟨rfl, hT6, hS6⟩; have T6 := Lib.hid hT6; have S6 := Lib.hid ((S5.out.trans (TStep.drew _ _)).trans hS6); have V6 := Lib.hid ((V5.out.turn (TStep.drew _ _)).turn hS6); clear hT6 hS6)
          all_goals (
            have tk : True := trivial
            go_wp2_with (have _t := tk; refine wpList_store_ans rfl (.tmp 6) (.tmp 89) rfl V6.out.at_ rfl rfl 0 ((leastF s.tb : Nat) : Int) 0 0 none none 0 0 0 0 rfl ?_; intro w7 V7 O7; clear tk)
            refine bodyPost_ret (cell_ret2 rfl rfl V7.out Tryz.underlying38 (by rw [Tryz.sizeA]; rfl)) rfl ?_
            rw [hul'.out]
            exact tell_at T6.out S6.out O7.out V6.out.own rfl)
        · rw [if_neg g4] at q4
          have hct : s.cut0 i f = s := by unfold Tr.cut0; rw [if_neg g4]
          rw [hct] at hul
          have hul' := Lib.hid hul
          clear hul hct g4
          go_enter Tryz.func78, Tryz.ntmps78
          have tk : True := trivial
          go_upto_region 15 with (first
            | (go_at_call 127; refine (hmo1.out _).mono ?_; rintro e w9 ⟨rfl, rfl⟩)
            | (go_at_call 128; refine (hto.out _ T0.out).mono ?_; rintro e w1 ⟨oo, p1, z1, p2, rfl, hb1, hsay⟩; have B1 := Lib.hid (place_new (hB0.out.trans (hb1.mono hB0.out.size)) [.pointer p1, .string z1, .pointer p2]); have V1 := Lib.hid ((V0.out.below hb1).below ((Below.refl w1.heap.size w1).alloc (Nat.le_refl _) (.cells #[.pointer p1, .string z1, .pointer p2] 171))); have P1 := Lib.hid (show OffT (w1.alloc (.cells #[.pointer p1, .string z1, .pointer p2] 171)) A 171 w1.heap.size [.pointer p1, .string z1, .pointer p2] from ⟨Vw.alloc _ _ _, h'.out.none_past (hB0.out.trans (hb1.mono hB0.out.size)).size⟩); have T1 := Lib.hid (h'.out.below B1.out); obtain ⟨hs1, _⟩ := hsay (by trivial); rw [if_pos hi'.out] at hs1; subst hs1; have cf := T1.out.files; have ck := (T1.out.node i x hx'.out).kind; clear hsay; clear hb1)
            | (go_at_call 129; refine (list_any _ _ _ T1.out.tab).mono ?_; rintro e w2 ⟨v2, rfl, hli, hb2⟩; have B2 := Lib.hid (B1.out.trans (hb2.mono B1.out.size)); have V2 := Lib.hid (V1.out.below hb2); have P2 := Lib.hid (P1.out.below hb2); have T2 := Lib.hid (T1.out.below hb2); obtain ⟨a2, cap2, hf2, _⟩ := ownI_form hli; rw [hoc.out] at hf2; subst hf2; have S2 := Lib.hid (TStep.of_below A B2.out); have cf := T2.out.files; have cn := (T2.out.node i x hx'.out).num; clear hli hb2))
          go_region_with (go_at_call 132; refine (open_tree T2.out.drew i f s.tb rfl hle.out).mono ?_; rintro e w6 ⟨rfl, hT6, hS6⟩; have T6 := Lib.hid hT6; have S6 := Lib.hid ((S2.out.trans (TStep.drew _ _)).trans hS6); have V6 := Lib.hid ((V2.out.turn (TStep.drew _ _)).turn hS6); clear hT6 hS6)
          all_goals (
            have tk : True := trivial
            go_wp2_with (have _t := tk; refine wpList_store_ans rfl (.tmp 6) (.tmp 89) rfl V6.out.at_ rfl rfl 0 ((leastF s.tb : Nat) : Int) 0 0 none none 0 0 0 0 rfl ?_; intro w7 V7 O7; clear tk)
            refine bodyPost_ret (cell_ret2 rfl rfl V7.out Tryz.underlying38 (by rw [Tryz.sizeA]; rfl)) rfl ?_
            rw [hul'.out]
            exact tell_at T6.out S6.out O7.out V6.out.own rfl)
    | false =>
      clear t8
      by_cases h16 : openC s.tb 16 = 16
      · skip
        rw [if_pos h16] at hul
        have hul' := Lib.hid hul
        have hoc := Lib.hid h16
        clear hul h16 q4 hi
        go_enter Tryz.func78, Tryz.ntmps78
        have tk : True := trivial
        go_wp2_with (first
          | (go_at_call 127; refine (hmo1.out _).mono ?_; rintro e w9 ⟨rfl, rfl⟩)
          | (go_at_call 128; refine (hto.out _ T0.out).mono ?_; rintro e w1 ⟨oo, p1, z1, p2, rfl, hb1, hsay⟩; have B1 := Lib.hid (place_new (hB0.out.trans (hb1.mono hB0.out.size)) [.pointer p1, .string z1, .pointer p2]); have V1 := Lib.hid ((V0.out.below hb1).below ((Below.refl w1.heap.size w1).alloc (Nat.le_refl _) (.cells #[.pointer p1, .string z1, .pointer p2] 171))); have P1 := Lib.hid (show OffT (w1.alloc (.cells #[.pointer p1, .string z1, .pointer p2] 171)) A 171 w1.heap.size [.pointer p1, .string z1, .pointer p2] from ⟨Vw.alloc _ _ _, h'.out.none_past (hB0.out.trans (hb1.mono hB0.out.size)).size⟩); have T1 := Lib.hid (h'.out.below B1.out); obtain ⟨hs1, _⟩ := hsay (by trivial); rw [if_pos hi'.out] at hs1; subst hs1; have cf := T1.out.files; have ck := (T1.out.node i x hx'.out).kind; clear hsay; clear hb1)
          | (go_at_call 129; refine (list_any _ _ _ T1.out.tab).mono ?_; rintro e w2 ⟨v2, rfl, hli, hb2⟩; have B2 := Lib.hid (B1.out.trans (hb2.mono B1.out.size)); have V2 := Lib.hid (V1.out.below hb2); have P2 := Lib.hid (P1.out.below hb2); have T2 := Lib.hid (T1.out.below hb2); obtain ⟨a2, cap2, hf2, _⟩ := ownI_form hli; rw [hoc.out] at hf2; subst hf2; clear hli hb2)
          | (go_at_call 79; refine (only_any _ _).mono ?_; rintro e w8 ⟨rfl, hb8⟩; have B8 := Lib.hid (B2.out.trans (hb8.mono B2.out.size)); have V8 := Lib.hid (V2.out.below hb8); clear hb8)
          | (have _t := tk; refine wpList_store_ans rfl (.tmp 6) (.tmp 60) rfl V8.out.at_ rfl rfl 0 0 0 0 none none 0 0 0 0 rfl ?_; intro w7 V7 O7; clear tk))
        refine bodyPost_ret (cell_ret2 rfl rfl V7.out Tryz.underlying38 (by rw [Tryz.sizeA]; rfl)) rfl ?_
        rw [hul'.out]
        exact tell_code h'.out (below_at B8.out O7.out (Nat.le_refl _)) (by decide) rfl
      · rw [if_neg h16] at hul
        obtain ⟨oc, hoc0⟩ : ∃ n, openC s.tb 16 = n := ⟨_, rfl⟩
        have hoc := Lib.hid hoc0
        have hle := Lib.hid (least_open h16)
        rw [hoc0] at h16
        have t16 : (((oc : Nat) : Int) == 16) = false := nat_beq_ne (b := 16) h16
        clear hoc0 h16 hi
        by_cases g4 : bitF f 4 = true
        · rw [if_pos g4] at q4
          have hct : s.cut0 i f = s.put i (x.resize 0) := by unfold Tr.cut0; rw [if_pos g4, Tr.at_of hx'.out]
          rw [hct] at hul
          have hrz := Lib.hid (fun w' (hw' : TreeAt w' B A s) (hB' : B ≤ w'.heap.size) => (show Calls Tryz.prog 131 #[.pointer (some ⟨A.nd i, 0, none⟩), .int .i64 0] w' (DataPost B A s i (x.resize 0) (.tuple #[]) w') from resize_tree hw' hx'.out hk3'.out 0 (by omega) hB'))
          have hs3o := Lib.hid (show (s.put i (x.resize 0)).opt i = some (x.resize 0) from Tr.opt_put_same hx'.out)
          have hs3t := Lib.hid (show (s.put i (x.resize 0)).tb = s.tb from rfl)
          have hul' := Lib.hid hul
          clear hul hct g4
          go_enter Tryz.func78, Tryz.ntmps78
          have tk : True := trivial
          go_upto_region 15 with (first
            | (go_at_call 127; refine (hmo1.out _).mono ?_; rintro e w9 ⟨rfl, rfl⟩)
            | (go_at_call 128; refine (hto.out _ T0.out).mono ?_; rintro e w1 ⟨oo, p1, z1, p2, rfl, hb1, hsay⟩; have B1 := Lib.hid (place_new (hB0.out.trans (hb1.mono hB0.out.size)) [.pointer p1, .string z1, .pointer p2]); have V1 := Lib.hid ((V0.out.below hb1).below ((Below.refl w1.heap.size w1).alloc (Nat.le_refl _) (.cells #[.pointer p1, .string z1, .pointer p2] 171))); have P1 := Lib.hid (show OffT (w1.alloc (.cells #[.pointer p1, .string z1, .pointer p2] 171)) A 171 w1.heap.size [.pointer p1, .string z1, .pointer p2] from ⟨Vw.alloc _ _ _, h'.out.none_past (hB0.out.trans (hb1.mono hB0.out.size)).size⟩); have T1 := Lib.hid (h'.out.below B1.out); obtain ⟨hs1, _⟩ := hsay (by trivial); rw [if_pos hi'.out] at hs1; subst hs1; have cf := T1.out.files; have ck := (T1.out.node i x hx'.out).kind; clear hsay; clear hb1)
            | (go_at_call 129; refine (list_any _ _ _ T1.out.tab).mono ?_; rintro e w2 ⟨v2, rfl, hli, hb2⟩; have B2 := Lib.hid (B1.out.trans (hb2.mono B1.out.size)); have V2 := Lib.hid (V1.out.below hb2); have P2 := Lib.hid (P1.out.below hb2); have T2 := Lib.hid (T1.out.below hb2); obtain ⟨a2, cap2, hf2, _⟩ := ownI_form hli; rw [hoc.out] at hf2; subst hf2; clear hli hb2)
            | (go_at_call 131; refine (hrz.out _ T2.out (Nat.le_trans hB B2.out.size)).mono ?_; rintro e w5 ⟨rfl, v5, hT5, hS5⟩; have T5 := Lib.hid hT5; have S5 := Lib.hid ((TStep.of_below A B2.out).trans hS5); have V5 := Lib.hid (V2.out.turn hS5); have cf := (show w5.cell? ⟨A.t, 2, none⟩ = some (.pointer (some ⟨A.f, 0, none⟩)) from T5.out.files); have cn := (T5.out.node i _ hs3o.out).num; rw [show (A.row i v5).nd i = A.nd i from rfl] at cn; clear hT5 hS5))
          go_region_with (go_at_call 132; refine (open_tree T5.out.drew i f s.tb hs3t.out hle.out).mono ?_; rintro e w6 ⟨rfl, hT6, hS6⟩; have T6 := Lib.hid hT6; have S6 := Lib.hid ((S5.out.trans (TStep.drew _ _)).trans hS6); have V6 := Lib.hid ((V5.out.turn (TStep.drew _ _)).turn hS6); clear hT6 hS6)
          all_goals (
            have tk : True := trivial
            go_wp2_with (have _t := tk; refine wpList_store_ans rfl (.tmp 6) (.tmp 89) rfl V6.out.at_ rfl rfl 0 ((leastF s.tb : Nat) : Int) 0 0 none none 0 0 0 0 rfl ?_; intro w7 V7 O7; clear tk)
            refine bodyPost_ret (cell_ret2 rfl rfl V7.out Tryz.underlying38 (by rw [Tryz.sizeA]; rfl)) rfl ?_
            rw [hul'.out]
            exact tell_at T6.out S6.out O7.out V6.out.own rfl)
        · rw [if_neg g4] at q4
          have hct : s.cut0 i f = s := by unfold Tr.cut0; rw [if_neg g4]
          rw [hct] at hul
          have hul' := Lib.hid hul
          clear hul hct g4
          go_enter Tryz.func78, Tryz.ntmps78
          have tk : True := trivial
          go_upto_region 15 with (first
            | (go_at_call 127; refine (hmo1.out _).mono ?_; rintro e w9 ⟨rfl, rfl⟩)
            | (go_at_call 128; refine (hto.out _ T0.out).mono ?_; rintro e w1 ⟨oo, p1, z1, p2, rfl, hb1, hsay⟩; have B1 := Lib.hid (place_new (hB0.out.trans (hb1.mono hB0.out.size)) [.pointer p1, .string z1, .pointer p2]); have V1 := Lib.hid ((V0.out.below hb1).below ((Below.refl w1.heap.size w1).alloc (Nat.le_refl _) (.cells #[.pointer p1, .string z1, .pointer p2] 171))); have P1 := Lib.hid (show OffT (w1.alloc (.cells #[.pointer p1, .string z1, .pointer p2] 171)) A 171 w1.heap.size [.pointer p1, .string z1, .pointer p2] from ⟨Vw.alloc _ _ _, h'.out.none_past (hB0.out.trans (hb1.mono hB0.out.size)).size⟩); have T1 := Lib.hid (h'.out.below B1.out); obtain ⟨hs1, _⟩ := hsay (by trivial); rw [if_pos hi'.out] at hs1; subst hs1; have cf := T1.out.files; have ck := (T1.out.node i x hx'.out).kind; clear hsay; clear hb1)
            | (go_at_call 129; refine (list_any _ _ _ T1.out.tab).mono ?_; rintro e w2 ⟨v2, rfl, hli, hb2⟩; have B2 := Lib.hid (B1.out.trans (hb2.mono B1.out.size)); have V2 := Lib.hid (V1.out.below hb2); have P2 := Lib.hid (P1.out.below hb2); have T2 := Lib.hid (T1.out.below hb2); obtain ⟨a2, cap2, hf2, _⟩ := ownI_form hli; rw [hoc.out] at hf2; subst hf2; have S2 := Lib.hid (TStep.of_below A B2.out); have cf := T2.out.files; have cn := (T2.out.node i x hx'.out).num; clear hli hb2))
          go_region_with (go_at_call 132; refine (open_tree T2.out.drew i f s.tb rfl hle.out).mono ?_; rintro e w6 ⟨rfl, hT6, hS6⟩; have T6 := Lib.hid hT6; have S6 := Lib.hid ((S2.out.trans (TStep.drew _ _)).trans hS6); have V6 := Lib.hid ((V2.out.turn (TStep.drew _ _)).turn hS6); clear hT6 hS6)
          all_goals (
            have tk : True := trivial
            go_wp2_with (have _t := tk; refine wpList_store_ans rfl (.tmp 6) (.tmp 89) rfl V6.out.at_ rfl rfl 0 ((leastF s.tb : Nat) : Int) 0 0 none none 0 0 0 0 rfl ?_; intro w7 V7 O7; clear tk)
            refine bodyPost_ret (cell_ret2 rfl rfl V7.out Tryz.underlying38 (by rw [Tryz.sizeA]; rfl)) rfl ?_
            rw [hul'.out]
            exact tell_at T6.out S6.out O7.out V6.out.own rfl)
theorem open_any (h : TreeAt w B A s) (ho : Ok b s) (hB : B ≤ w.heap.size) (hb : b ≤ 900000) (p : ByteArray) (f : Int) :
    Calls Tryz.prog 78 #[.pointer (some ⟨A.t, 0, none⟩), .string p, .int .i64 f] w (TellPost B A (s.open (nb p) f).2 (s.open (nb p) f).1 w) := by
  cases hm : mayOpen f with
  | false => exact open_no h ho hB hb p f hm
  | true =>
    obtain ⟨⟨c, i, ⟨d, nm, t⟩⟩, hR⟩ : ∃ z, s.toOpen (nb p) f = z := ⟨_, rfl⟩
    by_cases hc : c = 0
    · subst hc
      by_cases hi : i = 0
      · subst hi
        exact open_new h ho hB hb p f hm hR
      · exact open_old h ho hB hb p f hm hi hR
    · exact open_bad h ho hB hb p f hm hc hR
end
end Go.Proofs.YtgcodlicbdaddaaGreatDoor
end
