/-
  May it be opened? What is to be opened.
-/
import Derived.Test.YtgcodlicbdaddaaGreatDoorB33
import Derived.Test.YtgcodlicbdaddaaGreatDoorB30
import Derived.Test.YtgcodlicbdaddaaGreatDoorB23

section
set_option linter.unusedVariables false
set_option linter.unusedSimpArgs false
namespace Go.Proofs.YtgcodlicbdaddaaGreatDoor
open Go.RowKit BigFrame
set_option maxRecDepth 100000

theorem flags12 : ∀ n : Fin 64, (bits .and .i64 ((n.val : Nat) : Int) 12 == 0) = !(bitF ((n.val : Nat) : Int) 4 || bitF ((n.val : Nat) : Int) 8) := by decide +kernel
theorem flag12_is {f : Int} (h0 : 0 ≤ f) (h1 : f ≤ 63) : (bits .and .i64 f 12 == 0) = !(bitF f 4 || bitF f 8) := by
  have := flags12 ⟨f.toNat, by omega⟩
  simp only [Int.toNat_of_nonneg h0] at this
  exact this
theorem mayOpen_any (f : Int) (w : World) : Calls Tryz.prog 127 #[.int .i64 f] w fun e w' => e = .returned (.bool (mayOpen f)) ∧ w = w' := by
  have hul : mayOpen f = (decide (0 ≤ f) && decide (f ≤ 63) && (bitF f 32 || !(bitF f 4 || bitF f 8))) := rfl
  by_cases h0 : 0 ≤ f
  · have d0 : decide (0 ≤ f) = true := decide_eq_true h0
    by_cases h1 : f ≤ 63
    · have d1 : decide (f ≤ 63) = true := decide_eq_true h1
      have q1 : bits .and .i64 f 32 = if bitF f 32 = true then 32 else 0 := flag_is h0 h1 5 (by omega)
      have q2 := flag12_is h0 h1
      obtain ⟨a, ha⟩ : ∃ a, bitF f 32 = a := ⟨_, rfl⟩
      obtain ⟨c, hc⟩ : ∃ c, (!(bitF f 4 || bitF f 8)) = c := ⟨_, rfl⟩
      rw [ha] at q1 hul
      rw [hc] at q2 hul
      rw [d0, d1] at hul
      cases a with
      | true =>
        rw [if_pos rfl] at q1
        have hul' := Lib.hid (show mayOpen f = true by rw [hul]; rfl)
        clear hul ha hc h0 h1
        go_enter Tryz.func127, Tryz.ntmps127
        go_wp2_with fail
        go_ret
        rw [hul'.out]
        exact ⟨rfl, rfl⟩
      | false =>
        rw [if_neg (by decide)] at q1
        have hul' := Lib.hid (show mayOpen f = c by rw [hul]; cases c <;> rfl)
        clear hul ha hc h0 h1
        go_enter Tryz.func127, Tryz.ntmps127
        go_wp2_with fail
        go_ret
        rw [hul'.out]
        exact ⟨rfl, rfl⟩
    · have d1 : decide (f ≤ 63) = false := decide_eq_false h1
      have hul' := Lib.hid (show mayOpen f = false by rw [hul, d0, d1]; rfl)
      clear hul h0 h1
      go_enter Tryz.func127, Tryz.ntmps127
      go_wp2_with fail
      go_ret
      rw [hul'.out]
      exact ⟨rfl, rfl⟩
  · have d0 : decide (0 ≤ f) = false := decide_eq_false h0
    have hul' := Lib.hid (show mayOpen f = false by rw [hul, d0]; rfl)
    clear hul h0
    go_enter Tryz.func127, Tryz.ntmps127
    go_wp2_with fail
    go_ret
    rw [hul'.out]
    exact ⟨rfl, rfl⟩
section
variable {w : World} {B b : Nat} {A : Ad} {s : Tr}
/-- what is to be opened: a node, or none and the place -/
def ToOpenPost (A : Ad) (R : Int × Nat × Spot) (w : World) (e : Ending) (w' : World) : Prop :=
  ∃ o p1 z p2, e = .returned (.tuple #[.pointer o, .agg #[.pointer p1, .string z, .pointer p2], .int .i64 R.1]) ∧ Below w.heap.size w w' ∧
    (R.1 = 0 → o = (if R.2.1 ≠ 0 then some ⟨A.nd R.2.1, 0, none⟩ else none) ∧ (R.2.1 = 0 → p1 = some ⟨A.nd R.2.2.dir, 0, none⟩ ∧ z = strOf R.2.2.nm ∧ p2 = none))
/-- a place's variable is written over -/
theorem wpList_store_place {w : World} {ops : Array Oper} {rest : List Oper} {o : Oper} {a : Act} {Q : Exit → Act → World → Prop} (hgd : o.guard = none) (x y : Operand) (ho : o.op = .store 171 x y)
    {g : Nat} {l : List Value} (hV : Vw w 171 g l) (hl : l.length = 3) (hx : a.eval x = .pointer (some ⟨g, 0, none⟩)) (p1 p2 : Option Addr) (z : ByteArray) (hy : a.eval y = .agg #[.pointer p1, .string z, .pointer p2])
    (h : ∀ w', Hid (Vw w' 171 g [.pointer p1, .string z, .pointer p2]) → Hid (Oth g w w') → wpList Tryz.prog ops Q rest (a.put o.dst undef) w') : wpList Tryz.prog ops Q (o :: rest) a w := by
  refine wpList_store_row hgd _ x y ho g #[.pointer p1, .string z, .pointer p2] hx hy _ l.toArray hV (by rw [Tryz.sizeP]; rfl) (by rw [List.size_toArray, hl]; rfl) (by simp [Value.oneCell']) ?_
  exact h _ (setRow_heap w g _ _ _ _ hV) ⟨rfl, rfl, rfl, by simp [World.setRow], fun k hk => setRow_other w g k _ hk⟩
theorem toOpen_find {p : List Nat} {f : Int} (h1 : ¬ (bitF f 1 = true ∧ ((s.place p).1 ≠ 0 ∨ (s.place p).2.there = 0))) (h2 : ¬ (bitF f 1 = true ∧ bitF f 2 = true)) : s.toOpen p f = ((s.find p false).1, (s.find p false).2, spot0) := by
  unfold Tr.toOpen
  rw [if_neg h1, if_neg h2]
theorem place_ret3 {fn : Func} {p u v : Tmp} (h : fn.results = #[.tmp u, .cell p 171, .tmp v]) {tmps : Array Value} {w : World} {a : Nat} {l : List Value} (hp : tmps.getD p undef = .pointer (some ⟨a, 0, none⟩)) (hV : Vw w 171 a l) (hl : l.length = 3) :
    (results fn tmps).run Tryz.prog w = .ok (.tuple #[tmps.getD u undef, .agg l.toArray, tmps.getD v undef]) w := by
  have hp' : tmps[p]?.getD undef = .pointer (some ⟨a, 0, none⟩) := by simpa using hp
  simp [results, h, hp', asAddr, run_loadVar_row w a _ 171 _ _ _ hV Tryz.underlying171 rfl (by rw [Tryz.sizeP]; simp [hl])]
set_option maxHeartbeats 2000000 in
theorem toOpen_any (h : TreeAt w B A s) (ho : Ok b s) (hb : b ≤ 900000) (p : ByteArray) (f : Int) (hf0 : 0 ≤ f) (hf1 : f ≤ 63) :
    Calls Tryz.prog 128 #[.pointer (some ⟨A.t, 0, none⟩), .string p, .int .i64 f] w (ToOpenPost A (s.toOpen (nb p) f) w) := by
  have h' := Lib.hid h
  have q1 : bits .and .i64 f 1 = if bitF f 1 = true then 1 else 0 := flag_is hf0 hf1 0 (by omega)
  have q2 : bits .and .i64 f 2 = if bitF f 2 = true then 2 else 0 := flag_is hf0 hf1 1 (by omega)
  obtain ⟨w0, hw0⟩ : ∃ w0, w.alloc (.cells #[.pointer none, .string ⟨#[]⟩, .pointer none] 171) = w0 := ⟨_, rfl⟩
  have B0 := Lib.hid (show Below w.heap.size w w0 by rw [← hw0]; exact (Below.refl w.heap.size w).alloc (Nat.le_refl _) _)
  have V0 := Lib.hid (show Vw w0 171 w.heap.size sp0 by rw [← hw0]; exact Vw.alloc w sp0 171)
  have T0 := Lib.hid (h.below B0.out)
  have htp0 := Lib.hid (fun w' (hw' : TreeAt w' B A s) => spot_any hw' ho (by omega) p)
  unfold PlacePost at htp0
  have hfi0 := Lib.hid (fun w' (hw' : TreeAt w' B A s) => find_any hw' ho (by omega : b ≤ 1000000) p false)
  unfold StepPost at hfi0
  by_cases g1 : bitF f 1 = true
  · rw [if_pos g1] at q1
    obtain ⟨⟨c, ⟨d, nm, t⟩⟩, hpl⟩ : ∃ z, s.place (nb p) = z := ⟨_, rfl⟩
    by_cases hc : c = 0
    · subst hc
      by_cases ht : t = 0
      · have hR := Lib.hid (show s.toOpen (nb p) f = (0, 0, ⟨d, nm, t⟩) by unfold Tr.toOpen; rw [hpl, if_pos ⟨g1, .inr ht⟩])
        have htp := Lib.hid (show ∀ w', TreeAt w' B A s → Calls Tryz.prog 145 #[.pointer (some ⟨A.t, 0, none⟩), .string p] w' fun e w2 => e = .returned (.tuple #[.agg #[.pointer (some ⟨A.nd d, 0, none⟩), .string (strOf nm), .pointer none], .int .i64 0]) ∧ Below w'.heap.size w' w2 from fun w' hw' => by
          have h4 := htp0.out w' hw'
          rw [hpl, spV_none A ho (q := ⟨d, nm, t⟩) ht] at h4
          exact h4)
        clear h g1 hpl ht htp0 hfi0 q2
        go_enter Tryz.func128, Tryz.ntmps128
        go_upto_region 4 with (go_at_call 145; refine (htp.out _ T0.out).mono ?_; rintro e w1 ⟨rfl, hb1⟩; have B1 := Lib.hid (place_new (B0.out.trans (hb1.mono B0.out.size)) [.pointer (some ⟨A.nd d, 0, none⟩), .string (strOf nm), .pointer none]); have Z1 := Lib.hid (Vw.alloc w1 [.pointer (some ⟨A.nd d, 0, none⟩), .string (strOf nm), .pointer none] 171); have V1 := Lib.hid ((V0.out.on' hb1).on' ((Below.refl w1.heap.size w1).alloc (Nat.le_refl _) (.cells #[.pointer (some ⟨A.nd d, 0, none⟩), .string (strOf nm), .pointer none] 171))); have k0 := Z1.out.cell (k := 0) rfl; have k1 := Z1.out.cell (k := 1) rfl; have k2 := Z1.out.cell (k := 2) rfl; have j0 := V1.out.cell (k := 0) rfl; have j1 := V1.out.cell (k := 1) rfl; have j2 := V1.out.cell (k := 2) rfl; have f0 := V1.out.frozen 0; have f1 := V1.out.frozen 1; have f2 := V1.out.frozen 2; clear hb1)
        go_region
        go_wp2_with fail
        refine bodyPost_ret (place_ret3 rfl rfl V1.out.drew1.put3 rfl) rfl ?_
        rw [hR.out]
        exact ⟨_, _, _, _, rfl, below_set3 B1.out.drew (Nat.le_refl _), fun _ => ⟨rfl, fun _ => ⟨rfl, rfl, rfl⟩⟩⟩
      · obtain ⟨z, hz⟩ : ∃ z, s.opt t = some z := by
          have h5 := ho.spot_there (nb_octs p) (by rw [hpl]) (by rw [hpl]; exact ht)
          rw [hpl] at h5
          exact h5
        have htp := Lib.hid (show ∀ w', TreeAt w' B A s → Calls Tryz.prog 145 #[.pointer (some ⟨A.t, 0, none⟩), .string p] w' fun e w2 => e = .returned (.tuple #[.agg #[.pointer (some ⟨A.nd d, 0, none⟩), .string (strOf nm), .pointer (some ⟨A.nd t, 0, none⟩)], .int .i64 0]) ∧ Below w'.heap.size w' w2 from fun w' hw' => by
          have h4 := htp0.out w' hw'
          rw [hpl, spV_some A (q := ⟨d, nm, t⟩) hz] at h4
          exact h4)
        clear hz
        by_cases g2 : bitF f 2 = true
        · rw [if_pos g2] at q2
          have hR := Lib.hid (show s.toOpen (nb p) f = (6, 0, spot0) by unfold Tr.toOpen; rw [hpl, if_neg (fun c => c.2.elim (fun c => c rfl) ht), if_pos ⟨g1, g2⟩])
          have tk : True := trivial
          clear h g1 g2 hpl ht htp0 hfi0
          go_enter Tryz.func128, Tryz.ntmps128
          go_wp2_with (first
            | (go_at_call 145; refine (htp.out _ T0.out).mono ?_; rintro e w1 ⟨rfl, hb1⟩; have B1 := Lib.hid (place_new (B0.out.trans (hb1.mono B0.out.size)) [.pointer (some ⟨A.nd d, 0, none⟩), .string (strOf nm), .pointer (some ⟨A.nd t, 0, none⟩)]); have Z1 := Lib.hid (Vw.alloc w1 [.pointer (some ⟨A.nd d, 0, none⟩), .string (strOf nm), .pointer (some ⟨A.nd t, 0, none⟩)] 171); have V1 := Lib.hid ((V0.out.on' hb1).on' ((Below.refl w1.heap.size w1).alloc (Nat.le_refl _) (.cells #[.pointer (some ⟨A.nd d, 0, none⟩), .string (strOf nm), .pointer (some ⟨A.nd t, 0, none⟩)] 171))); have k0 := Z1.out.cell (k := 0) rfl; have k1 := Z1.out.cell (k := 1) rfl; have k2 := Z1.out.cell (k := 2) rfl; have j0 := V1.out.cell (k := 0) rfl; have j1 := V1.out.cell (k := 1) rfl; have j2 := V1.out.cell (k := 2) rfl; have f0 := V1.out.frozen 0; have f1 := V1.out.frozen 1; have f2 := V1.out.frozen 2; clear hb1)
            | (have _t := tk; refine wpList_store_place rfl (.tmp 7) (.tmp 36) rfl V1.out rfl rfl none none ⟨#[]⟩ rfl ?_; intro w5 V5 O5; clear tk))
          refine bodyPost_ret (place_ret3 rfl rfl V5.out rfl) rfl ?_
          rw [hR.out]
          exact ⟨_, _, _, _, rfl, below_at B1.out O5.out (Nat.le_refl _), fun c => absurd c (by decide)⟩
        · rw [if_neg g2] at q2
          have hfe := toOpen_find (s := s) (p := nb p) (f := f) (by rw [hpl]; exact fun c => c.2.elim (fun c => c rfl) ht) (fun c => g2 c.2)
          have hal := ho.find_alive (p := nb p) (itself := false)
          obtain ⟨⟨c2, i⟩, hq1⟩ : ∃ z, s.find (nb p) false = z := ⟨_, rfl⟩
          rw [hq1] at hal hfe
          have hR := Lib.hid hfe
          by_cases h2 : c2 = 0
          · subst h2
            obtain ⟨x, hx⟩ := hal rfl
            have hi0 : i ≠ 0 := ho.pos hx
            have hfi := Lib.hid (show ∀ w', TreeAt w' B A s → Calls Tryz.prog 59 #[.pointer (some ⟨A.t, 0, none⟩), .string p, .bool false] w' fun e w2 => e = .returned (.tuple #[.pointer (some ⟨A.nd i, 0, none⟩), .int .i64 0]) ∧ Below w'.heap.size w' w2 from fun w' hw' => by
              have h4 := hfi0.out w' hw'
              rw [hq1] at h4
              exact h4)
            have tk : True := trivial
            clear h hfe hal hq1 hfi0 htp0 g1 hpl g2
            go_enter Tryz.func128, Tryz.ntmps128
            go_wp2_with (first
              | (go_at_call 145; refine (htp.out _ T0.out).mono ?_; rintro e w1 ⟨rfl, hb1⟩; have B1 := Lib.hid (place_new (B0.out.trans (hb1.mono B0.out.size)) [.pointer (some ⟨A.nd d, 0, none⟩), .string (strOf nm), .pointer (some ⟨A.nd t, 0, none⟩)]); have Z1 := Lib.hid (Vw.alloc w1 [.pointer (some ⟨A.nd d, 0, none⟩), .string (strOf nm), .pointer (some ⟨A.nd t, 0, none⟩)] 171); have V1 := Lib.hid ((V0.out.on' hb1).on' ((Below.refl w1.heap.size w1).alloc (Nat.le_refl _) (.cells #[.pointer (some ⟨A.nd d, 0, none⟩), .string (strOf nm), .pointer (some ⟨A.nd t, 0, none⟩)] 171))); have k0 := Z1.out.cell (k := 0) rfl; have k1 := Z1.out.cell (k := 1) rfl; have k2 := Z1.out.cell (k := 2) rfl; have j0 := V1.out.cell (k := 0) rfl; have j1 := V1.out.cell (k := 1) rfl; have j2 := V1.out.cell (k := 2) rfl; have f0 := V1.out.frozen 0; have f1 := V1.out.frozen 1; have f2 := V1.out.frozen 2; clear hb1)
              | (go_at_call 59; refine (hfi.out _ (h'.out.below B1.out)).mono ?_; rintro e w2 ⟨rfl, hb2⟩; have B2 := Lib.hid (B1.out.trans (hb2.mono B1.out.size)); have V2 := Lib.hid (V1.out.on' hb2); clear hb2)
              | (have _t := tk; refine wpList_store_place rfl (.tmp 7) (.tmp 44) rfl V2.out rfl rfl none none ⟨#[]⟩ rfl ?_; intro w5 V5 O5; clear tk))
            refine bodyPost_ret (place_ret3 rfl rfl V5.out rfl) rfl ?_
            rw [hR.out]
            exact ⟨_, _, _, _, rfl, below_at B2.out O5.out (Nat.le_refl _), fun _ => ⟨by rw [if_pos hi0], fun c => absurd c hi0⟩⟩
          · have hfi := Lib.hid (show ∀ w', TreeAt w' B A s → Calls Tryz.prog 59 #[.pointer (some ⟨A.t, 0, none⟩), .string p, .bool false] w' fun e w2 => e = .returned (.tuple #[.pointer none, .int .i64 c2]) ∧ Below w'.heap.size w' w2 from fun w' hw' => by
              have h4 := hfi0.out w' hw'
              rw [hq1] at h4
              simp only [if_neg h2] at h4
              exact h4)
            have tk : True := trivial
            clear h hfe hal hq1 hfi0 htp0 g1 hpl g2
            go_enter Tryz.func128, Tryz.ntmps128
            go_wp2_with (first
              | (go_at_call 145; refine (htp.out _ T0.out).mono ?_; rintro e w1 ⟨rfl, hb1⟩; have B1 := Lib.hid (place_new (B0.out.trans (hb1.mono B0.out.size)) [.pointer (some ⟨A.nd d, 0, none⟩), .string (strOf nm), .pointer (some ⟨A.nd t, 0, none⟩)]); have Z1 := Lib.hid (Vw.alloc w1 [.pointer (some ⟨A.nd d, 0, none⟩), .string (strOf nm), .pointer (some ⟨A.nd t, 0, none⟩)] 171); have V1 := Lib.hid ((V0.out.on' hb1).on' ((Below.refl w1.heap.size w1).alloc (Nat.le_refl _) (.cells #[.pointer (some ⟨A.nd d, 0, none⟩), .string (strOf nm), .pointer (some ⟨A.nd t, 0, none⟩)] 171))); have k0 := Z1.out.cell (k := 0) rfl; have k1 := Z1.out.cell (k := 1) rfl; have k2 := Z1.out.cell (k := 2) rfl; have j0 := V1.out.cell (k := 0) rfl; have j1 := V1.out.cell (k := 1) rfl; have j2 := V1.out.cell (k := 2) rfl; have f0 := V1.out.frozen 0; have f1 := V1.out.frozen 1; have f2 := V1.out.frozen 2; clear hb1)
              | (go_at_call 59; refine (hfi.out _ (h'.out.below B1.out)).mono ?_; rintro e w2 ⟨rfl, hb2⟩; have B2 := Lib.hid (B1.out.trans (hb2.mono B1.out.size)); have V2 := Lib.hid (V1.out.on' hb2); clear hb2)
              | (have _t := tk; refine wpList_store_place rfl (.tmp 7) (.tmp 44) rfl V2.out rfl rfl none none ⟨#[]⟩ rfl ?_; intro w5 V5 O5; clear tk))
            refine bodyPost_ret (place_ret3 rfl rfl V5.out rfl) rfl ?_
            rw [hR.out]
            exact ⟨_, _, _, _, rfl, below_at B2.out O5.out (Nat.le_refl _), fun c => absurd c h2⟩
    · have hR := Lib.hid (show s.toOpen (nb p) f = (c, 0, ⟨d, nm, t⟩) by unfold Tr.toOpen; rw [hpl, if_pos ⟨g1, .inl hc⟩])
      have htp := Lib.hid (show ∀ w', TreeAt w' B A s → Calls Tryz.prog 145 #[.pointer (some ⟨A.t, 0, none⟩), .string p] w' fun e w2 => e = .returned (.tuple #[.agg #[.pointer none, .string ⟨#[]⟩, .pointer none], .int .i64 c]) ∧ Below w'.heap.size w' w2 from fun w' hw' => by
        have h4 := htp0.out w' hw'
        rw [hpl, spV_bad A s _ hc] at h4
        exact h4)
      have t0 : (c != 0) = true := by rw [bne_iff_ne]; exact hc
      have hc' := Lib.hid hc
      clear h g1 hpl hc htp0 hfi0 q2
      go_enter Tryz.func128, Tryz.ntmps128
      go_upto_region 4 with (go_at_call 145; refine (htp.out _ T0.out).mono ?_; rintro e w1 ⟨rfl, hb1⟩; have B1 := Lib.hid (place_new (B0.out.trans (hb1.mono B0.out.size)) [.pointer none, .string ⟨#[]⟩, .pointer none]); have Z1 := Lib.hid (Vw.alloc w1 [.pointer none, .string ⟨#[]⟩, .pointer none] 171); have V1 := Lib.hid ((V0.out.on' hb1).on' ((Below.refl w1.heap.size w1).alloc (Nat.le_refl _) (.cells #[.pointer none, .string ⟨#[]⟩, .pointer none] 171))); have k0 := Z1.out.cell (k := 0) rfl; have k1 := Z1.out.cell (k := 1) rfl; have k2 := Z1.out.cell (k := 2) rfl; have j0 := V1.out.cell (k := 0) rfl; have j1 := V1.out.cell (k := 1) rfl; have j2 := V1.out.cell (k := 2) rfl; have f0 := V1.out.frozen 0; have f1 := V1.out.frozen 1; have f2 := V1.out.frozen 2; clear hb1)
      go_region
      go_wp2_with fail
      refine bodyPost_ret (place_ret3 rfl rfl V1.out.drew1.put3 rfl) rfl ?_
      rw [hR.out]
      exact ⟨_, _, _, _, rfl, below_set3 B1.out.drew (Nat.le_refl _), fun c => absurd c hc'.out⟩
  · rw [if_neg g1] at q1
    have hfe := toOpen_find (s := s) (p := nb p) (f := f) (fun c => g1 c.1) (fun c => g1 c.1)
    have hal := ho.find_alive (p := nb p) (itself := false)
    obtain ⟨⟨c2, i⟩, hq1⟩ : ∃ z, s.find (nb p) false = z := ⟨_, rfl⟩
    rw [hq1] at hal hfe
    have hR := Lib.hid hfe
    by_cases h2 : c2 = 0
    · subst h2
      obtain ⟨x, hx⟩ := hal rfl
      have hi0 : i ≠ 0 := ho.pos hx
      have hfi := Lib.hid (show ∀ w', TreeAt w' B A s → Calls Tryz.prog 59 #[.pointer (some ⟨A.t, 0, none⟩), .string p, .bool false] w' fun e w2 => e = .returned (.tuple #[.pointer (some ⟨A.nd i, 0, none⟩), .int .i64 0]) ∧ Below w'.heap.size w' w2 from fun w' hw' => by
        have h4 := hfi0.out w' hw'
        rw [hq1] at h4
        exact h4)
      have tk : True := trivial
      clear h hfe hal hq1 hfi0 htp0 g1
      go_enter Tryz.func128, Tryz.ntmps128
      go_wp2_with (first
        | (go_at_call 59; refine (hfi.out _ T0.out).mono ?_; rintro e w2 ⟨rfl, hb2⟩; have B2 := Lib.hid (B0.out.trans (hb2.mono B0.out.size)); have V2 := Lib.hid (V0.out.on' hb2); clear hb2)
        | (have _t := tk; refine wpList_store_place rfl (.tmp 7) (.tmp 44) rfl V2.out rfl rfl none none ⟨#[]⟩ rfl ?_; intro w5 V5 O5; clear tk))
      refine bodyPost_ret (place_ret3 rfl rfl V5.out rfl) rfl ?_
      rw [hR.out]
      exact ⟨_, _, _, _, rfl, below_at B2.out O5.out (Nat.le_refl _), fun _ => ⟨by rw [if_pos hi0], fun c => absurd c hi0⟩⟩
    · have hfi := Lib.hid (show ∀ w', TreeAt w' B A s → Calls Tryz.prog 59 #[.pointer (some ⟨A.t, 0, none⟩), .string p, .bool false] w' fun e w2 => e = .returned (.tuple #[.pointer none, .int .i64 c2]) ∧ Below w'.heap.size w' w2 from fun w' hw' => by
        have h4 := hfi0.out w' hw'
        rw [hq1] at h4
        simp only [if_neg h2] at h4
        exact h4)
      have tk : True := trivial
      clear h hfe hal hq1 hfi0 htp0 g1
      go_enter Tryz.func128, Tryz.ntmps128
      go_wp2_with (first
        | (go_at_call 59; refine (hfi.out _ T0.out).mono ?_; rintro e w2 ⟨rfl, hb2⟩; have B2 := Lib.hid (B0.out.trans (hb2.mono B0.out.size)); have V2 := Lib.hid (V0.out.on' hb2); clear hb2)
        | (have _t := tk; refine wpList_store_place rfl (.tmp 7) (.tmp 44) rfl V2.out rfl rfl none none ⟨#[]⟩ rfl ?_; intro w5 V5 O5; clear tk))
      refine bodyPost_ret (place_ret3 rfl rfl V5.out rfl) rfl ?_
      rw [hR.out]
      exact ⟨_, _, _, _, rfl, below_at B2.out O5.out (Nat.le_refl _), fun c => absurd c h2⟩
end
end Go.Proofs.YtgcodlicbdaddaaGreatDoor
end
