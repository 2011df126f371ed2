/-
  A place found.
  A place at which nothing may stand, at which something must.
  Entries and links.
-/
import Derived.Test.YtgcodlicbdaddaaGreatDoorB17

section
set_option linter.unusedVariables false
set_option linter.unusedSimpArgs false
namespace Go.Proofs.YtgcodlicbdaddaaGreatDoor
open Go.RowKit BigFrame
set_option maxRecDepth 100000

/-- none -/
def sp0 : List Value := [.pointer none, .string ⟨#[]⟩, .pointer none]
/-- a place, as cells -/
def spC (A : Ad) (s : Tr) (q : Spot) : List Value := [.pointer (some ⟨A.nd q.dir, 0, none⟩), .string (strOf q.nm), ptrO A s q.there]
def spV (A : Ad) (s : Tr) (c : Int) (q : Spot) : List Value := if c = 0 then spC A s q else sp0
def PlacePost (A : Ad) (s : Tr) (c : Int) (q : Spot) (w : World) (e : Ending) (w' : World) : Prop := e = .returned (.tuple #[.agg (spV A s c q).toArray, .int .i64 c]) ∧ Below w.heap.size w w'
theorem Vw.put3 {w : World} {t : TypeId} {g : Nat} {a b c x y z : Value} (h : Vw w t g [a, b, c]) : Vw (((w.setCell ⟨g, 0, none⟩ x).setCell ⟨g, 1, none⟩ y).setCell ⟨g, 2, none⟩ z) t g [x, y, z] := ((h.set 0 x).set 1 y).set 2 z
theorem below_set3 {B g : Nat} {u w : World} {x y z : Value} (h : Below B u w) (hg : B ≤ g) : Below B u (((w.setCell ⟨g, 0, none⟩ x).setCell ⟨g, 1, none⟩ y).setCell ⟨g, 2, none⟩ z) :=
  ((h.setCell (p := ⟨g, 0, none⟩) hg x).setCell (p := ⟨g, 1, none⟩) hg y).setCell (p := ⟨g, 2, none⟩) hg z
theorem Ok.walkIn_alive {b : Nat} {s : Tr} (ho : Ok b s) {itself : Bool} {cont : List (List Nat) → Nat → Int × Nat} (hc : ∀ l i, (s.opt i).isSome = true → (cont l i).1 = 0 → (s.opt (cont l i).2).isSome = true) :
    ∀ (l : List (List Nat)) (i : Nat), (s.opt i).isSome = true → (s.walkIn itself cont l i).1 = 0 → (s.opt (s.walkIn itself cont l i).2).isSome = true
  | [], i, hi, _ => hi
  | p :: r, i, hi, h => by
    obtain ⟨x, hx⟩ := Option.isSome_iff_exists.1 hi
    unfold Tr.walkIn at h ⊢
    by_cases h1 : (s.step i p).1 ≠ 0
    · rw [if_pos h1] at h; exact absurd h h1
    · rw [if_neg h1] at h ⊢
      obtain ⟨y, hy⟩ := ho.step_alive hx (Decidable.of_not_not h1)
      by_cases h2 : (s.at (s.step i p).2).kind ≠ 3 ∨ itself = true ∧ r = []
      · rw [if_pos h2] at h ⊢
        exact ho.walkIn_alive hc r _ (by rw [hy]; rfl) h
      · rw [if_neg h2] at h ⊢
        refine hc _ _ ?_ h
        split
        · rw [ho.alive]; rfl
        · exact hi
theorem Ok.walk_alive {b : Nat} {s : Tr} (ho : Ok b s) {itself : Bool} : ∀ (k : Nat) (l : List (List Nat)) (i : Nat), (s.opt i).isSome = true → (s.walk itself k l i).1 = 0 → (s.opt (s.walk itself k l i).2).isSome = true
  | 0, _, _, _, h => absurd (show (12 : Int) = 0 from h) (by decide)
  | k + 1, l, i, hi, h => ho.walkIn_alive (fun l i hi h => ho.walk_alive k l i hi h) l i hi h
section
variable {w : World} {B b : Nat} {A : Ad} {s : Tr}
theorem Ok.find_alive (ho : Ok b s) {p : List Nat} {itself : Bool} (h : (s.find p itself).1 = 0) : ∃ y, s.opt (s.find p itself).2 = some y := by
  unfold Tr.find at h ⊢
  by_cases h1 : codeP p ≠ 0
  · rw [if_pos h1] at h; exact absurd h h1
  · rw [if_neg h1] at h ⊢
    exact Option.isSome_iff_exists.1 (ho.walk_alive 9 _ 1 (by rw [ho.alive]; rfl) h)
theorem TreeAt.lookN (h : TreeAt w B A s) (ho : Ok b s) {d : Nat} {y : Nd} (hy : s.opt d = some y) (hk : y.kind = 2) {eb : Nat} (hee : A.en d = .map (some eb)) {L : List Nat} (hL : Octs L) (hl : L.length ≤ 24) {m : Nat} (hm : lookE y.ents L = m) :
    (Instr.lookup 74 (.map (some eb)) (.string (strOf L)) false).run Tryz.prog w = .ok (.int .i64 ((m : Nat) : Int)) w := by
  obtain ⟨eb', e1, _, e3⟩ := (h.node d y hy).ents.dir hk
  have e4 : eb = eb' := by have e5 := hee.symm.trans e1; simpa using e5
  subst e4
  have q0 := e3.look law_str Tryz.underlying74 (zero_int _) (keyS_of L (by omega))
  rw [fnd_ents y.ents L (fun e he => ((ho.each d y hy).names e he).octs) hL (ho.ent_pos hy), hm] at q0
  rw [q0]
  by_cases h0 : m = 0
  · subst h0; rfl
  · rw [if_neg h0]; rfl
theorem TreeAt.get_some (h : TreeAt w B A s) (ho : Ok b s) (hb : b ≤ 1000000) {i : Nat} {x : Nd} (hi : s.opt i = some x) : (Instr.lookup 68 (.map (some A.m)) (.int .i64 ((i : Nat) : Int)) false).run Tryz.prog w = .ok (.pointer (some ⟨A.nd i, 0, none⟩)) w := by
  have q := h.get i (by have := Tr.opt_lt hi; have := ho.len.2; omega)
  unfold ptrO at q
  rw [hi] at q
  exact q
theorem TreeAt.get_zero (h : TreeAt w B A s) (ho : Ok b s) : (Instr.lookup 68 (.map (some A.m)) (.int .i64 0) false).run Tryz.prog w = .ok (.pointer none) w := by
  have q := h.get 0 (by omega)
  unfold ptrO at q
  rw [ho.zero] at q
  exact q
set_option maxHeartbeats 2000000 in
theorem spot_any (h : TreeAt w B A s) (ho : Ok b s) (hb : b ≤ 1000000) (p : ByteArray) :
    Calls Tryz.prog 145 #[.pointer (some ⟨A.t, 0, none⟩), .string p] w (PlacePost A s (s.place (nb p)).1 (s.place (nb p)).2 w) := by
  have hh := Lib.hid h
  have hb0 := Lib.hid ((Below.refl w.heap.size w).alloc (Nat.le_refl _) (.cells #[.pointer none, .string ⟨#[]⟩, .pointer none] 171))
  have V0 := Lib.hid (show Vw (w.alloc (.cells #[.pointer none, .string ⟨#[]⟩, .pointer none] 171)) 171 w.heap.size sp0 from Vw.alloc w sp0 171)
  clear h
  by_cases h1 : codeL (nb p) = 0
  · have h2 : True := trivial
    have hnb := nb_strOf (head_octs (nb_octs p))
    obtain ⟨⟨c2, d⟩, hq⟩ : ∃ q, s.find (headL (nb p)) false = q := ⟨_, rfl⟩
    have hfi : ∀ w', TreeAt w' B A s → Calls Tryz.prog 59 #[.pointer (some ⟨A.t, 0, none⟩), .string (strOf (headL (nb p))), .bool false] w' (StepPost A (c2, d) w') := fun w' hw' => by
      have := find_any hw' ho hb (strOf (headL (nb p))) false
      rwa [hnb, hq] at this
    by_cases h2' : c2 = 0
    · subst h2'
      obtain ⟨y, hy⟩ := ho.find_alive (p := headL (nb p)) (itself := false) (by rw [hq])
      rw [hq] at hy
      have hat := Tr.at_of hy
      have hy' := Lib.hid hy
      by_cases hk : y.kind = 2
      · obtain ⟨L, hL⟩ : ∃ L, lastL (nb p) = L := ⟨_, rfl⟩
        have hLn := last_name (nb_octs p) h1
        rw [hL] at hLn
        have hLo := Lib.hid hLn.octs
        have hLl := Lib.hid hLn.long
        obtain ⟨pa, hpa⟩ : ∃ q, s.path d = q := ⟨_, rfl⟩
        have hps := Lib.hid (show sizeL pa ≤ 525 by rw [← hpa]; exact ho.path_size d)
        have hpl := Lib.hid (show pa.length ≤ 21 by rw [← hpa]; exact Tr.path_len s d)
        have hre : ∀ w', TreeAt w' B A s → Calls Tryz.prog 176 #[.pointer (some ⟨A.t, 0, none⟩), .pointer (some ⟨A.nd d, 0, none⟩)] w' (Tells (.agg #[.int .i64 ((sizeL pa : Nat) : Int), .int .i64 ((pa.length : Nat) : Int)]) w') := fun w' hw' => by
          have := reach_any hw' ho hb d y hy
          rwa [hpa] at this
        obtain ⟨fv, hfv⟩ : ∃ q, far (sizeL pa + 1 + L.length) (pa.length + 1) = q := ⟨_, rfl⟩
        have hfr : ∀ w', Calls Tryz.prog 178 #[.agg #[.int .i64 ((sizeL pa + 1 + L.length : Nat) : Int), .int .i64 ((pa.length + 1 : Nat) : Int)]] w' (Tells (.bool fv) w') := fun w' => by
          have := far_any (sizeL pa + 1 + L.length) (pa.length + 1) w'
          rwa [hfv] at this
        have hpe := hL
        have t3 : (((y.kind : Nat) : Int) == 2) = true := nat_beq (b := 2) hk
        have t4 : (((y.kind : Nat) : Int) != 2) = false := by rw [hk]; rfl
        have hL' := Lib.hid hL
        have hpl2 : s.place (nb p) = if far (sizeL pa + 1 + L.length) (pa.length + 1) then (11, spot0) else (0, ⟨d, L, y.look L⟩) := by
          unfold Tr.place
          rw [if_neg (by simpa using h1), hq, if_neg (fun h => h rfl), hat, if_neg (fun h => h hk), hpa, hL]
        have hk' := Lib.hid hk
        cases fv
        · rw [hfv, if_neg (by decide)] at hpl2
          have hR := Lib.hid hpl2
          obtain ⟨eb, een, heb, _⟩ := (hh.out.node d y hy).ents.dir hk
          have hee := Lib.hid een
          have hoc := Lib.hid (show ∀ e ∈ y.ents, Octs e.1 from fun e he => ((ho.each d y hy).names e he).octs)
          have hpos := Lib.hid (ho.ent_pos hy)
          cases hlk : lookE y.ents L with
          | zero =>
            have hlk' := Lib.hid hlk
            have hlz := Lib.hid (show y.look L = 0 from hlk)
            clear h2 hq hnb hy hat hk hfv hpl2 hpe hL hpa heb een hLn hlk
            go_enter Tryz.func145, Tryz.ntmps145
            go_wp2_with (first
          | (go_at_call 144; refine (pLast_is p _ (strOf L) _ 0 h1 rfl (by rw [hL'.out])).mono ?_; rintro e w1 ⟨rfl, hb1⟩; have hB1 := Lib.hid (hb0.out.trans (hb1.mono hb0.out.size)); have V1 := Lib.hid (V0.out.on' hb1); clear hb1)
          | (go_at_call 59; refine ((hfi _ (hh.out.below hB1.out))).mono ?_; rintro e w2 ⟨rfl, hb2⟩; have hB2 := Lib.hid (hB1.out.trans (hb2.mono hB1.out.size)); have V2 := Lib.hid (V1.out.on' hb2); have ck := ((hh.out.below hB2.out).node d y hy'.out).kind; clear hb2)
          | (go_at_call 176; refine (hre _ (hh.out.below hB2.out)).mono ?_; rintro e w3 ⟨rfl, hb3⟩; have hB3 := Lib.hid (hB2.out.trans (hb3.mono hB2.out.size)); have V3 := Lib.hid (V2.out.on' hb3); clear hb3 ck)
          | (go_at_call 177; refine (with_any (sizeL pa) pa.length L _ (by have := hps.out; omega) (by have := hpl.out; omega) (by have := hLl.out; omega)).mono ?_; rintro e w4 ⟨rfl, hb4⟩; have hB4 := Lib.hid (hB3.out.trans (hb4.mono hB3.out.size)); have V4 := Lib.hid (V3.out.on' hb4); clear hb4)
          | (go_at_call 178; refine (hfr _).mono ?_; rintro e w5 ⟨rfl, hb5⟩; have hB5 := Lib.hid (hB4.out.trans (hb5.mono hB4.out.size)); have V5 := Lib.hid (V4.out.on' hb5); have k0 := V5.out.cell (k := 0) rfl; have k1 := V5.out.cell (k := 1) rfl; have k2 := V5.out.cell (k := 2) rfl; have f0 := V5.out.frozen 0; have f1 := V5.out.frozen 1; have f2 := V5.out.frozen 2; have hT5 := Lib.hid (hh.out.below hB5.out).drew; have cm := hT5.out.maps; have hN5 := hT5.out.node d y hy'.out; have ce := hN5.ent; rw [hee.out] at ce; have q1 : (Instr.lookup 74 (.map (some eb)) (.string (strOf L)) false).run Tryz.prog w5.drew = .ok (.int .i64 0) w5.drew := hT5.out.lookN ho hy'.out hk'.out hee.out hLo.out hLl.out hlk'.out; have q2 := hT5.out.get_zero ho; clear hN5; clear hb5))
            go_region
            go_wp2_with fail
            refine bodyPost_ret (cell_ret2 rfl rfl V5.out.drew1.put3 Tryz.underlying171 Tryz.sizeP) rfl ⟨?_, below_set3 hB5.out.drew (Nat.le_refl _)⟩
            rw [hR.out, hlz.out]
            unfold spV spC ptrO
            rw [if_pos rfl]
            simp only [ho.zero]
            rfl
          | succ j =>
            obtain ⟨z, hz, _⟩ := ho.ent d y hy _ (look_mem hlk (by omega))
            have hz' := Lib.hid hz
            have hjl := Lib.hid (show j + 1 < 1000000000 by have := Tr.opt_lt hz; have := ho.len.2; omega)
            have hlk' := Lib.hid hlk
            have hlz := Lib.hid (show y.look L = j + 1 from hlk)
            obtain ⟨m, hm⟩ : ∃ m, j + 1 = m := ⟨_, rfl⟩
            rw [hm] at hz' hjl hlk' hlz
            have hm0 : m ≠ 0 := by omega
            clear h2 hq hnb hy hat hk hfv hpl2 hpe hL hpa heb een hLn hlk hz hm
            go_enter Tryz.func145, Tryz.ntmps145
            go_wp2_with (first
          | (go_at_call 144; refine (pLast_is p _ (strOf L) _ 0 h1 rfl (by rw [hL'.out])).mono ?_; rintro e w1 ⟨rfl, hb1⟩; have hB1 := Lib.hid (hb0.out.trans (hb1.mono hb0.out.size)); have V1 := Lib.hid (V0.out.on' hb1); clear hb1)
          | (go_at_call 59; refine ((hfi _ (hh.out.below hB1.out))).mono ?_; rintro e w2 ⟨rfl, hb2⟩; have hB2 := Lib.hid (hB1.out.trans (hb2.mono hB1.out.size)); have V2 := Lib.hid (V1.out.on' hb2); have ck := ((hh.out.below hB2.out).node d y hy'.out).kind; clear hb2)
          | (go_at_call 176; refine (hre _ (hh.out.below hB2.out)).mono ?_; rintro e w3 ⟨rfl, hb3⟩; have hB3 := Lib.hid (hB2.out.trans (hb3.mono hB2.out.size)); have V3 := Lib.hid (V2.out.on' hb3); clear hb3 ck)
          | (go_at_call 177; refine (with_any (sizeL pa) pa.length L _ (by have := hps.out; omega) (by have := hpl.out; omega) (by have := hLl.out; omega)).mono ?_; rintro e w4 ⟨rfl, hb4⟩; have hB4 := Lib.hid (hB3.out.trans (hb4.mono hB3.out.size)); have V4 := Lib.hid (V3.out.on' hb4); clear hb4)
          | (go_at_call 178; refine (hfr _).mono ?_; rintro e w5 ⟨rfl, hb5⟩; have hB5 := Lib.hid (hB4.out.trans (hb5.mono hB4.out.size)); have V5 := Lib.hid (V4.out.on' hb5); have k0 := V5.out.cell (k := 0) rfl; have k1 := V5.out.cell (k := 1) rfl; have k2 := V5.out.cell (k := 2) rfl; have f0 := V5.out.frozen 0; have f1 := V5.out.frozen 1; have f2 := V5.out.frozen 2; have hT5 := Lib.hid (hh.out.below hB5.out).drew; have cm := hT5.out.maps; have hN5 := hT5.out.node d y hy'.out; have ce := hN5.ent; rw [hee.out] at ce; have q1 := hT5.out.lookN ho hy'.out hk'.out hee.out hLo.out hLl.out hlk'.out; have q2 := hT5.out.get_some ho hb hz'.out; clear hN5; clear hb5))
            go_region
            go_wp2_with fail
            refine bodyPost_ret (cell_ret2 rfl rfl V5.out.drew1.put3 Tryz.underlying171 Tryz.sizeP) rfl ⟨?_, below_set3 hB5.out.drew (Nat.le_refl _)⟩
            rw [hR.out, hlz.out]
            unfold spV spC ptrO
            rw [if_pos rfl]
            simp only [hz'.out]
            rfl
        · rw [hfv, if_pos rfl] at hpl2
          have hR := Lib.hid hpl2
          clear h2 hq hnb hy hat hk hfv hpl2 hpe hL hpa hLn
          go_enter Tryz.func145, Tryz.ntmps145
          go_wp2_with (first
          | (go_at_call 144; refine (pLast_is p _ (strOf L) _ 0 h1 rfl (by rw [hL'.out])).mono ?_; rintro e w1 ⟨rfl, hb1⟩; have hB1 := Lib.hid (hb0.out.trans (hb1.mono hb0.out.size)); have V1 := Lib.hid (V0.out.on' hb1); clear hb1)
          | (go_at_call 59; refine ((hfi _ (hh.out.below hB1.out))).mono ?_; rintro e w2 ⟨rfl, hb2⟩; have hB2 := Lib.hid (hB1.out.trans (hb2.mono hB1.out.size)); have V2 := Lib.hid (V1.out.on' hb2); have ck := ((hh.out.below hB2.out).node d y hy'.out).kind; clear hb2)
          | (go_at_call 176; refine (hre _ (hh.out.below hB2.out)).mono ?_; rintro e w3 ⟨rfl, hb3⟩; have hB3 := Lib.hid (hB2.out.trans (hb3.mono hB2.out.size)); have V3 := Lib.hid (V2.out.on' hb3); clear hb3 ck)
          | (go_at_call 177; refine (with_any (sizeL pa) pa.length L _ (by have := hps.out; omega) (by have := hpl.out; omega) (by have := hLl.out; omega)).mono ?_; rintro e w4 ⟨rfl, hb4⟩; have hB4 := Lib.hid (hB3.out.trans (hb4.mono hB3.out.size)); have V4 := Lib.hid (V3.out.on' hb4); clear hb4)
          | (go_at_call 178; refine (hfr _).mono ?_; rintro e w5 ⟨rfl, hb5⟩; have hB5 := Lib.hid (hB4.out.trans (hb5.mono hB4.out.size)); have V5 := Lib.hid (V4.out.on' hb5); have k0 := V5.out.cell (k := 0) rfl; have k1 := V5.out.cell (k := 1) rfl; have k2 := V5.out.cell (k := 2) rfl; have f0 := V5.out.frozen 0; have f1 := V5.out.frozen 1; have f2 := V5.out.frozen 2; clear hb5))
          refine bodyPost_ret (cell_ret2 rfl rfl V5.out.put3 Tryz.underlying171 Tryz.sizeP) rfl ⟨?_, below_set3 hB5.out (Nat.le_refl _)⟩
          rw [hR.out]
          rfl
      · have hR := Lib.hid (show s.place (nb p) = (7, spot0) by unfold Tr.place; rw [if_neg (by simpa using h1), hq, if_neg (fun h => h rfl), hat, if_pos hk])
        have t3 : (((y.kind : Nat) : Int) != 2) = true := by rw [bne_iff_ne]; omega
        clear h2 hq hnb hy hat hk
        go_enter Tryz.func145, Tryz.ntmps145
        go_wp2_with (first
          | (go_at_call 144; refine (pLast_is p _ _ _ 0 h1 rfl rfl).mono ?_; rintro e w1 ⟨rfl, hb1⟩; have hB1 := Lib.hid (hb0.out.trans (hb1.mono hb0.out.size)); have V1 := Lib.hid (V0.out.on' hb1); clear hb1)
          | (go_at_call 59; refine ((hfi _ (hh.out.below hB1.out))).mono ?_; rintro e w2 ⟨rfl, hb2⟩; have hB2 := Lib.hid (hB1.out.trans (hb2.mono hB1.out.size)); have V2 := Lib.hid (V1.out.on' hb2); have k0 := V2.out.cell (k := 0) rfl; have k1 := V2.out.cell (k := 1) rfl; have k2 := V2.out.cell (k := 2) rfl; have f0 := V2.out.frozen 0; have f1 := V2.out.frozen 1; have f2 := V2.out.frozen 2; have ck := ((hh.out.below hB2.out).node d y hy'.out).kind; clear hb2))
        refine bodyPost_ret (cell_ret2 rfl rfl V2.out.put3 Tryz.underlying171 Tryz.sizeP) rfl ⟨?_, below_set3 hB2.out (Nat.le_refl _)⟩
        rw [hR.out]
        rfl
    · have hR := Lib.hid (show s.place (nb p) = (c2, spot0) by unfold Tr.place; rw [if_neg (by simpa using h1), hq, if_pos h2'])
      have t0 : (c2 != 0) = true := by rw [bne_iff_ne]; exact h2'
      clear h2 hq hnb
      go_enter Tryz.func145, Tryz.ntmps145
      go_wp2_with (first
        | (go_at_call 144; refine (pLast_is p _ _ _ 0 h1 rfl rfl).mono ?_; rintro e w1 ⟨rfl, hb1⟩; have hB1 := Lib.hid (hb0.out.trans (hb1.mono hb0.out.size)); have V1 := Lib.hid (V0.out.on' hb1); clear hb1)
        | (go_at_call 59; refine ((hfi _ (hh.out.below hB1.out))).mono ?_; rintro e w2 ⟨rfl, hb2⟩; have hB2 := Lib.hid (hB1.out.trans (hb2.mono hB1.out.size)); have V2 := Lib.hid (V1.out.on' hb2); have k0 := V2.out.cell (k := 0) rfl; have k1 := V2.out.cell (k := 1) rfl; have k2 := V2.out.cell (k := 2) rfl; have f0 := V2.out.frozen 0; have f1 := V2.out.frozen 1; have f2 := V2.out.frozen 2; clear hb2))
      refine bodyPost_ret (cell_ret2 rfl rfl V2.out.put3 Tryz.underlying171 Tryz.sizeP) rfl ⟨?_, below_set3 hB2.out (Nat.le_refl _)⟩
      rw [hR.out]
      unfold spV
      rw [if_neg h2']
      rfl
  · have hR := Lib.hid (show s.place (nb p) = (codeL (nb p), spot0) by unfold Tr.place; rw [if_pos h1])
    obtain ⟨c, hc⟩ : ∃ c, codeL (nb p) = c := ⟨_, rfl⟩
    rw [hc] at hR h1
    have hc' := Lib.hid hc
    have t0 : (c != 0) = true := by rw [bne_iff_ne]; exact h1
    clear hc
    go_enter Tryz.func145, Tryz.ntmps145
    go_wp2_with (go_at_call 144; refine (pLast_is p _ _ _ c hc'.out rfl rfl).mono ?_; rintro e w1 ⟨rfl, hb1⟩; have hB1 := Lib.hid (hb0.out.trans (hb1.mono hb0.out.size)); have V1 := Lib.hid (V0.out.on' hb1); have k0 := V1.out.cell (k := 0) rfl; have k1 := V1.out.cell (k := 1) rfl; have k2 := V1.out.cell (k := 2) rfl; have f0 := V1.out.frozen 0; have f1 := V1.out.frozen 1; have f2 := V1.out.frozen 2; clear hb1)
    refine bodyPost_ret (cell_ret2 rfl rfl V1.out.put3 Tryz.underlying171 Tryz.sizeP) rfl ⟨?_, below_set3 hB1.out (Nat.le_refl _)⟩
    rw [hR.out]
    unfold spV
    rw [if_neg h1]
    rfl
end
end Go.Proofs.YtgcodlicbdaddaaGreatDoor
end

section
set_option linter.unusedVariables false
set_option linter.unusedSimpArgs false
namespace Go.Proofs.YtgcodlicbdaddaaGreatDoor
open Go.RowKit BigFrame
set_option maxRecDepth 100000

section
variable {w : World} {B b : Nat} {A : Ad} {s : Tr}
/-- the place itself -/
theorem Ok.spot (ho : Ok b s) {p : List Nat} (hp : Octs p) (h : (s.place p).1 = 0) :
    ∃ y, s.opt (s.place p).2.dir = some y ∧ y.kind = 2 ∧ NameP (s.place p).2.nm ∧ (s.place p).2.there = y.look (s.place p).2.nm ∧ far (sizeL (s.path (s.place p).2.dir) + 1 + (s.place p).2.nm.length) ((s.path (s.place p).2.dir).length + 1) = false := by
  unfold Tr.place at h ⊢
  by_cases h1 : codeL p ≠ 0
  · rw [if_pos h1] at h; exact absurd h h1
  · rw [if_neg h1] at h ⊢
    by_cases h2 : (s.find (headL p) false).1 ≠ 0
    · rw [if_pos h2] at h; exact absurd h h2
    · rw [if_neg h2] at h ⊢
      obtain ⟨y, hy⟩ := ho.find_alive (Decidable.of_not_not h2)
      have ha := Tr.at_of hy
      by_cases h3 : (s.at (s.find (headL p) false).2).kind ≠ 2
      · rw [if_pos h3] at h; exact absurd h (by decide)
      · rw [if_neg h3] at h ⊢
        cases h4 : far (sizeL (s.path (s.find (headL p) false).2) + 1 + (lastL p).length) ((s.path (s.find (headL p) false).2).length + 1)
        · rw [if_neg (by decide)]
          rw [ha] at h3 ⊢
          exact ⟨y, hy, Decidable.of_not_not h3, last_name hp (Decidable.of_not_not h1), rfl, h4⟩
        · rw [h4, if_pos rfl] at h; exact absurd h (by decide)
theorem Ok.spot_there (ho : Ok b s) {p : List Nat} (hp : Octs p) (h : (s.place p).1 = 0) (h0 : (s.place p).2.there ≠ 0) : ∃ z, s.opt (s.place p).2.there = some z := by
  obtain ⟨y, hy, _, _, ht, _⟩ := ho.spot hp h
  obtain ⟨z, hz, _⟩ := ho.ent _ y hy _ (look_mem ht.symm h0)
  exact ⟨z, hz⟩
/-- what a place found is, as cells -/
theorem spV_bad {c : Int} (A : Ad) (s : Tr) (q : Spot) (h : c ≠ 0) : spV A s c q = sp0 := by unfold spV; rw [if_neg h]
theorem spV_none (A : Ad) {q : Spot} (ho : Ok b s) (h : q.there = 0) : spV A s 0 q = [.pointer (some ⟨A.nd q.dir, 0, none⟩), .string (strOf q.nm), .pointer none] := by
  unfold spV spC ptrO; rw [if_pos rfl, h, ho.zero]; rfl
theorem spV_some (A : Ad) {q : Spot} {z : Nd} (h : s.opt q.there = some z) : spV A s 0 q = [.pointer (some ⟨A.nd q.dir, 0, none⟩), .string (strOf q.nm), .pointer (some ⟨A.nd q.there, 0, none⟩)] := by
  unfold spV spC ptrO; rw [if_pos rfl, h]; rfl
def SpotPost (A : Ad) (s : Tr) (l : List Nat) (c : Int) (w : World) (e : Ending) (w' : World) : Prop := e = .returned (.tuple #[.agg (spV A s (s.place l).1 (s.place l).2).toArray, .int .i64 c]) ∧ Below w.heap.size w w'
set_option maxHeartbeats 1000000 in
theorem free_any (h : TreeAt w B A s) (ho : Ok b s) (hb : b ≤ 1000000) (p : ByteArray) :
    Calls Tryz.prog 141 #[.pointer (some ⟨A.t, 0, none⟩), .string p] w (SpotPost A s (nb p) (s.free (nb p)) w) := by
  have hh := Lib.hid h
  have hb0 := Lib.hid ((Below.refl w.heap.size w).alloc (Nat.le_refl _) (.cells #[.pointer none, .string ⟨#[]⟩, .pointer none] 171))
  have V0 := Lib.hid (show Vw (w.alloc (.cells #[.pointer none, .string ⟨#[]⟩, .pointer none] 171)) 171 w.heap.size sp0 from Vw.alloc w sp0 171)
  have hsp := fun w' (hw' : TreeAt w' B A s) => spot_any hw' ho hb p
  have hfr : s.free (nb p) = if (s.place (nb p)).1 = 0 ∧ (s.place (nb p)).2.there ≠ 0 then 6 else (s.place (nb p)).1 := rfl
  have hpl0 := ho.spot_there (nb_octs p)
  unfold PlacePost at hsp
  unfold SpotPost
  obtain ⟨⟨c, q⟩, hq⟩ : ∃ z, s.place (nb p) = z := ⟨_, rfl⟩
  rw [hq] at hsp hfr hpl0
  rw [hq]
  have hfr' := Lib.hid hfr
  clear h hfr hq
  by_cases hc : c = 0
  · subst hc
    by_cases ht : q.there = 0
    · have hv := spV_none A ho ht
      rw [hv] at hsp ⊢
      have hf2 := Lib.hid (show s.free (nb p) = 0 by rw [hfr'.out, if_neg (fun h => h.2 ht)])
      clear hv hpl0 ht
      go_enter Tryz.func141, Tryz.ntmps141
      go_wp2_with (go_at_call 145; refine (hsp _ (hh.out.below hb0.out)).mono ?_; rintro e w1 ⟨rfl, hb1⟩; have hB1 := Lib.hid (hb0.out.trans (hb1.mono hb0.out.size)); have V1 := Lib.hid ((V0.out.on' hb1)); have hB2 := Lib.hid (hB1.out.alloc hB1.out.size (.cells #[.pointer (some ⟨A.nd q.dir, 0, none⟩), .string (strOf q.nm), .pointer none] 171)); have V2 := Lib.hid (V1.out.on' ((Below.refl _ _).alloc (Nat.le_refl _) (.cells #[.pointer (some ⟨A.nd q.dir, 0, none⟩), .string (strOf q.nm), .pointer none] 171))); have k0 := V2.out.cell (k := 0) rfl; have k1 := V2.out.cell (k := 1) rfl; have k2 := V2.out.cell (k := 2) rfl; have f0 := V2.out.frozen 0; have f1 := V2.out.frozen 1; have f2 := V2.out.frozen 2; clear hb1)
      refine bodyPost_ret (cell_ret2 rfl rfl V2.out.put3 Tryz.underlying171 Tryz.sizeP) rfl ⟨?_, below_set3 hB2.out (Nat.le_refl _)⟩
      rw [hf2.out]
      rfl
    · obtain ⟨z, hz⟩ := hpl0 rfl ht
      have hv := spV_some A hz
      rw [hv] at hsp ⊢
      have hf2 := Lib.hid (show s.free (nb p) = 6 by rw [hfr'.out, if_pos ⟨rfl, ht⟩])
      clear hv hpl0 ht hz
      go_enter Tryz.func141, Tryz.ntmps141
      go_wp2_with (go_at_call 145; refine (hsp _ (hh.out.below hb0.out)).mono ?_; rintro e w1 ⟨rfl, hb1⟩; have hB1 := Lib.hid (hb0.out.trans (hb1.mono hb0.out.size)); have V1 := Lib.hid ((V0.out.on' hb1)); have hB2 := Lib.hid (hB1.out.alloc hB1.out.size (.cells #[.pointer (some ⟨A.nd q.dir, 0, none⟩), .string (strOf q.nm), .pointer (some ⟨A.nd q.there, 0, none⟩)] 171)); have V2 := Lib.hid (V1.out.on' ((Below.refl _ _).alloc (Nat.le_refl _) (.cells #[.pointer (some ⟨A.nd q.dir, 0, none⟩), .string (strOf q.nm), .pointer (some ⟨A.nd q.there, 0, none⟩)] 171))); have k0 := V2.out.cell (k := 0) rfl; have k1 := V2.out.cell (k := 1) rfl; have k2 := V2.out.cell (k := 2) rfl; have f0 := V2.out.frozen 0; have f1 := V2.out.frozen 1; have f2 := V2.out.frozen 2; clear hb1)
      refine bodyPost_ret (cell_ret2 rfl rfl V2.out.put3 Tryz.underlying171 Tryz.sizeP) rfl ⟨?_, below_set3 hB2.out (Nat.le_refl _)⟩
      rw [hf2.out]
      rfl
  · have hv := spV_bad A s q hc
    rw [hv] at hsp ⊢
    unfold sp0 at hsp ⊢
    have hf2 := Lib.hid (show s.free (nb p) = c by rw [hfr'.out, if_neg (fun h => hc h.1)])
    have t0 : (c == 0) = false := by rw [beq_eq_false_iff_ne]; exact hc
    clear hv hpl0 hc
    go_enter Tryz.func141, Tryz.ntmps141
    go_wp2_with (go_at_call 145; refine (hsp _ (hh.out.below hb0.out)).mono ?_; rintro e w1 ⟨rfl, hb1⟩; have hB1 := Lib.hid (hb0.out.trans (hb1.mono hb0.out.size)); have V1 := Lib.hid ((V0.out.on' hb1)); have hB2 := Lib.hid (hB1.out.alloc hB1.out.size (.cells #[.pointer none, .string ⟨#[]⟩, .pointer none] 171)); have V2 := Lib.hid (V1.out.on' ((Below.refl _ _).alloc (Nat.le_refl _) (.cells #[.pointer none, .string ⟨#[]⟩, .pointer none] 171))); have k0 := V2.out.cell (k := 0) rfl; have k1 := V2.out.cell (k := 1) rfl; have k2 := V2.out.cell (k := 2) rfl; have f0 := V2.out.frozen 0; have f1 := V2.out.frozen 1; have f2 := V2.out.frozen 2; clear hb1)
    refine bodyPost_ret (cell_ret2 rfl rfl V2.out.put3 Tryz.underlying171 Tryz.sizeP) rfl ⟨?_, below_set3 hB2.out (Nat.le_refl _)⟩
    rw [hf2.out]
    rfl
set_option maxHeartbeats 1000000 in
theorem taken_any (h : TreeAt w B A s) (ho : Ok b s) (hb : b ≤ 1000000) (p : ByteArray) :
    Calls Tryz.prog 142 #[.pointer (some ⟨A.t, 0, none⟩), .string p] w (SpotPost A s (nb p) (s.taken (nb p)) w) := by
  have hh := Lib.hid h
  have hb0 := Lib.hid ((Below.refl w.heap.size w).alloc (Nat.le_refl _) (.cells #[.pointer none, .string ⟨#[]⟩, .pointer none] 171))
  have V0 := Lib.hid (show Vw (w.alloc (.cells #[.pointer none, .string ⟨#[]⟩, .pointer none] 171)) 171 w.heap.size sp0 from Vw.alloc w sp0 171)
  have hsp := fun w' (hw' : TreeAt w' B A s) => spot_any hw' ho hb p
  have hfr : s.taken (nb p) = if (s.place (nb p)).1 = 0 ∧ (s.place (nb p)).2.there = 0 then 5 else (s.place (nb p)).1 := rfl
  have hpl0 := ho.spot_there (nb_octs p)
  unfold PlacePost at hsp
  unfold SpotPost
  obtain ⟨⟨c, q⟩, hq⟩ : ∃ z, s.place (nb p) = z := ⟨_, rfl⟩
  rw [hq] at hsp hfr hpl0
  rw [hq]
  have hfr' := Lib.hid hfr
  clear h hfr hq
  by_cases hc : c = 0
  · subst hc
    by_cases ht : q.there = 0
    · have hv := spV_none A ho ht
      rw [hv] at hsp ⊢
      have hf2 := Lib.hid (show s.taken (nb p) = 5 by rw [hfr'.out, if_pos ⟨rfl, ht⟩])
      clear hv hpl0 ht
      go_enter Tryz.func142, Tryz.ntmps142
      go_wp2_with (go_at_call 145; refine (hsp _ (hh.out.below hb0.out)).mono ?_; rintro e w1 ⟨rfl, hb1⟩; have hB1 := Lib.hid (hb0.out.trans (hb1.mono hb0.out.size)); have V1 := Lib.hid ((V0.out.on' hb1)); have hB2 := Lib.hid (hB1.out.alloc hB1.out.size (.cells #[.pointer (some ⟨A.nd q.dir, 0, none⟩), .string (strOf q.nm), .pointer none] 171)); have V2 := Lib.hid (V1.out.on' ((Below.refl _ _).alloc (Nat.le_refl _) (.cells #[.pointer (some ⟨A.nd q.dir, 0, none⟩), .string (strOf q.nm), .pointer none] 171))); have k0 := V2.out.cell (k := 0) rfl; have k1 := V2.out.cell (k := 1) rfl; have k2 := V2.out.cell (k := 2) rfl; have f0 := V2.out.frozen 0; have f1 := V2.out.frozen 1; have f2 := V2.out.frozen 2; clear hb1)
      refine bodyPost_ret (cell_ret2 rfl rfl V2.out.put3 Tryz.underlying171 Tryz.sizeP) rfl ⟨?_, below_set3 hB2.out (Nat.le_refl _)⟩
      rw [hf2.out]
      rfl
    · obtain ⟨z, hz⟩ := hpl0 rfl ht
      have hv := spV_some A hz
      rw [hv] at hsp ⊢
      have hf2 := Lib.hid (show s.taken (nb p) = 0 by rw [hfr'.out, if_neg (fun h => ht h.2)])
      clear hv hpl0 ht hz
      go_enter Tryz.func142, Tryz.ntmps142
      go_wp2_with (go_at_call 145; refine (hsp _ (hh.out.below hb0.out)).mono ?_; rintro e w1 ⟨rfl, hb1⟩; have hB1 := Lib.hid (hb0.out.trans (hb1.mono hb0.out.size)); have V1 := Lib.hid ((V0.out.on' hb1)); have hB2 := Lib.hid (hB1.out.alloc hB1.out.size (.cells #[.pointer (some ⟨A.nd q.dir, 0, none⟩), .string (strOf q.nm), .pointer (some ⟨A.nd q.there, 0, none⟩)] 171)); have V2 := Lib.hid (V1.out.on' ((Below.refl _ _).alloc (Nat.le_refl _) (.cells #[.pointer (some ⟨A.nd q.dir, 0, none⟩), .string (strOf q.nm), .pointer (some ⟨A.nd q.there, 0, none⟩)] 171))); have k0 := V2.out.cell (k := 0) rfl; have k1 := V2.out.cell (k := 1) rfl; have k2 := V2.out.cell (k := 2) rfl; have f0 := V2.out.frozen 0; have f1 := V2.out.frozen 1; have f2 := V2.out.frozen 2; clear hb1)
      refine bodyPost_ret (cell_ret2 rfl rfl V2.out.put3 Tryz.underlying171 Tryz.sizeP) rfl ⟨?_, below_set3 hB2.out (Nat.le_refl _)⟩
      rw [hf2.out]
      rfl
  · have hv := spV_bad A s q hc
    rw [hv] at hsp ⊢
    unfold sp0 at hsp ⊢
    have hf2 := Lib.hid (show s.taken (nb p) = c by rw [hfr'.out, if_neg (fun h => hc h.1)])
    have t0 : (c == 0) = false := by rw [beq_eq_false_iff_ne]; exact hc
    clear hv hpl0 hc
    go_enter Tryz.func142, Tryz.ntmps142
    go_wp2_with (go_at_call 145; refine (hsp _ (hh.out.below hb0.out)).mono ?_; rintro e w1 ⟨rfl, hb1⟩; have hB1 := Lib.hid (hb0.out.trans (hb1.mono hb0.out.size)); have V1 := Lib.hid ((V0.out.on' hb1)); have hB2 := Lib.hid (hB1.out.alloc hB1.out.size (.cells #[.pointer none, .string ⟨#[]⟩, .pointer none] 171)); have V2 := Lib.hid (V1.out.on' ((Below.refl _ _).alloc (Nat.le_refl _) (.cells #[.pointer none, .string ⟨#[]⟩, .pointer none] 171))); have k0 := V2.out.cell (k := 0) rfl; have k1 := V2.out.cell (k := 1) rfl; have k2 := V2.out.cell (k := 2) rfl; have f0 := V2.out.frozen 0; have f1 := V2.out.frozen 1; have f2 := V2.out.frozen 2; clear hb1)
    refine bodyPost_ret (cell_ret2 rfl rfl V2.out.put3 Tryz.underlying171 Tryz.sizeP) rfl ⟨?_, below_set3 hB2.out (Nat.le_refl _)⟩
    rw [hf2.out]
    rfl
end
end Go.Proofs.YtgcodlicbdaddaaGreatDoor
end

section
set_option linter.unusedVariables false
set_option linter.unusedSimpArgs false
namespace Go.Proofs.YtgcodlicbdaddaaGreatDoor

theorem refsL_ge {i : Nat} {y : Nd} : ∀ {l : List (Option Nd)} {d : Nat}, l[d]? = some (some y) → refsE i y.ents ≤ refsL i l
  | [], _, h => by simp at h
  | x :: r, 0, h => by
    have e : x = some y := by simpa using h
    subst e
    unfold refsL refsO
    simp only
    omega
  | x :: r, d + 1, h => by
    have := refsL_ge (i := i) (y := y) (l := r) (d := d) (by simpa using h)
    unfold refsL
    omega
theorem refsE_pos {i : Nat} {l : List (List Nat × Nat)} {p : List Nat} (h : (p, i) ∈ l) : 1 ≤ refsE i l := by
  unfold refsE
  have : (p, i) ∈ l.filter fun e => e.2 == i := List.mem_filter.2 ⟨h, by simp⟩
  exact List.length_pos_of_mem this
theorem Tr.opt_get {s : Tr} {d : Nat} {y : Nd} (h : s.opt d = some y) : s.nd[d]? = some (some y) := by
  have hl := Tr.opt_lt h
  unfold Tr.opt at h
  rw [List.getD, List.getElem?_eq_getElem hl, Option.getD_some] at h
  rw [List.getElem?_eq_getElem hl, h]
section
variable {b : Nat} {s : Tr}
theorem Ok.links_pos (ho : Ok b s) {d i : Nat} {y x : Nd} {p : List Nat} (hd : s.opt d = some y) (hi : s.opt i = some x) (hp : (p, i) ∈ y.ents) : 1 ≤ x.links := by
  have h1 := ho.cnt i x hi
  have h2 := refsL_ge (i := i) (Tr.opt_get hd)
  have h3 := refsE_pos hp
  omega
theorem Ok.not_self (ho : Ok b s) {d i : Nat} {y : Nd} {p : List Nat} (hd : s.opt d = some y) (hk : y.kind = 2) (hp : (p, i) ∈ y.ents) : d ≠ i := fun e => by
  subst e
  obtain ⟨z, hz, hup⟩ := ho.ent d y hd _ hp
  have hz' : s.opt d = some z := hz
  rw [hd] at hz'
  obtain rfl := Option.some.inj hz'
  obtain ⟨h1, _⟩ := hup hk
  obtain ⟨f, hf⟩ := ho.dep
  have hd0 : d ≠ 0 := fun e => by rw [e, ho.zero] at hd; cases hd
  have h2 := hf d y hd (by rw [h1]; exact hd0)
  rw [h1] at h2
  omega
theorem spV_form (A : Ad) (s : Tr) (c : Int) (q : Spot) : ∃ o1 z o2, spV A s c q = [.pointer o1, .string z, .pointer o2] := by
  unfold spV spC ptrO
  by_cases h : c = 0
  · rw [if_pos h]
    cases (s.opt q.there).isSome
    · exact ⟨_, _, _, rfl⟩
    · exact ⟨_, _, _, rfl⟩
  · rw [if_neg h]; exact ⟨_, _, _, rfl⟩
/-- what stands at a place -/
structure StandsAt (b : Nat) (s : Tr) (l : List Nat) (y x : Nd) : Prop where
  dir : s.opt (s.place l).2.dir = some y
  kind : y.kind = 2
  name : NameP (s.place l).2.nm
  there : s.opt (s.place l).2.there = some x
  mem : ((s.place l).2.nm, (s.place l).2.there) ∈ y.ents
  apart : (s.place l).2.dir ≠ (s.place l).2.there
  links : 1 ≤ x.links
theorem Ok.stands (ho : Ok b s) {l : List Nat} (hl : Octs l) (h : (s.place l).1 = 0) (h0 : (s.place l).2.there ≠ 0) : ∃ y x, StandsAt b s l y x := by
  obtain ⟨y, hy, hk, hn, ht, _⟩ := ho.spot hl h
  have hm := look_mem ht.symm h0
  obtain ⟨x, hx⟩ := ho.spot_there hl h h0
  exact ⟨y, x, hy, hk, hn, hx, hm, ho.not_self hy hk hm, ho.links_pos hy hx hm⟩
end
end Go.Proofs.YtgcodlicbdaddaaGreatDoor
end
