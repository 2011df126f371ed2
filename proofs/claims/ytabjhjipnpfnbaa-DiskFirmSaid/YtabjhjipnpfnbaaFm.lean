/-
  DiskFirm, walked.
-/
import Derived.Test.YtabjhjipnpfnbaaTw
import Derived.Test.YtabjhjipnpfnbaaPx
import Derived.Test.YtabjhjipnpfnbaaLo
import Derived.Deep.DeepCutAuto
import Derived.Deep.CutBlock
namespace Go.Proofs.Ytabjhjipnpfnbaa
open Go.RowKit BigFrame

/-- a disk of five sectors, without a trap, that was written and flushed so often -/
structure LawF (d : Dk) (k nf : Nat) : Prop where
  on : d.on = true
  set : d.set = false
  n : d.n = 5
  waits : d.waits.length ≤ k
  log : d.log.length = k
  flushes : d.flushes = nf
  few : nf ≤ k
theorem LawF.start : LawF (Dk.fresh 5 fun _ => zs 128) 0 0 := ⟨rfl, rfl, rfl, Nat.le_refl _, rfl, rfl, Nat.le_refl _⟩
theorem LawF.wrote {d : Dk} {k nf : Nat} (h : LawF d k nf) (a : Nat) (l : List Nat) : LawF (d.wrote a l) (k + 1) nf :=
  ⟨h.on, h.set, h.n, by simp [Dk.wrote]; exact h.waits, by simp [Dk.wrote, h.log], h.flushes, Nat.le_succ_of_le h.few⟩
theorem LawF.flushed {d : Dk} {k nf : Nat} (h : LawF d (k + 1) nf) (hf : nf ≤ k) : LawF d.flushed (k + 1) (nf + 1) :=
  ⟨h.on, h.set, h.n, by simp [Dk.flushed], h.log, by simp [Dk.flushed, h.flushes], by omega⟩
theorem seen_wrote2 (d : Dk) (a : Nat) (l : List Nat) : (d.wrote a l).seen = updF d.seen a l := appl_snoc d.firm d.waits (a, l)
def FmRel1 (w0 : World) (G : Nat) (A : Lies) (d : Dk) (gf gl : Nat) (g : Nat) (i : Value) (wr : World) : Prop :=
  ∃ k : Nat, k + g = 5 ∧ i = .int .i64 k ∧ Live w0 wr G A d ∧ Wants wr (A.foot G ++ [gl]) w0.heap.size gf 5 k (fun _ => zs 128) ∧ Wants wr (A.foot G ++ [gf]) w0.heap.size gl 5 k (fun _ => zs 128)
def FmRel2 (w0 : World) (G gf gl c : Nat) (g : Nat) (fl i : Value) (wr : World) : Prop :=
  ∃ (k nf : Nat) (A : Lies) (d : Dk), k + g = c ∧ fl = .int .i64 nf ∧ i = .int .i64 k ∧ Live w0 wr G A d ∧ LawF d k nf ∧ Wants wr (A.foot G ++ [gl]) w0.heap.size gf 5 5 d.firm ∧ Wants wr (A.foot G ++ [gf]) w0.heap.size gl 5 5 d.seen
theorem two_new {w w2 : World} {F : List Nat} {base gf gl N : Nat} (hF : ∀ j ∈ F, j < w.heap.size) (hb : base ≤ w.heap.size) (hne : gf ≠ gl) (hf : w.heap.size ≤ gf) (hl : w.heap.size ≤ gl) (h1 : w2.rowIs gf 43 N fun _ => .slice none 0 0) (h2 : w2.rowIs gl 43 N fun _ => .slice none 0 0) (X Y : Nat → List Nat) :
    Wants w2 (F ++ [gl]) base gf N 0 X ∧ Wants w2 (F ++ [gf]) base gl N 0 Y := by
  refine ⟨⟨_, h1, ⟨fun e => ?_, h1.lt⟩, by omega, fun i h => by omega⟩, ⟨_, h2, ⟨fun e => ?_, h2.lt⟩, by omega, fun i h => by omega⟩⟩
  · rcases List.mem_append.1 e with h | h
    · have := hF _ h; omega
    · simp at h; exact hne h
  · rcases List.mem_append.1 e with h | h
    · have := hF _ h; omega
    · simp at h; exact hne h.symm

def FmCut (w0 : World) (G : Nat) (A : Lies) (d : Dk) (u v : Value) (wr : World) : Prop :=
  ∃ gf gl : Nat, u = .slice (some ⟨gf, 0, none⟩) 5 5 ∧ v = .slice (some ⟨gl, 0, none⟩) 5 5 ∧ gf ≠ gl ∧ Live w0 wr G A d ∧ Wants wr (A.foot G ++ [gl]) w0.heap.size gf 5 0 (fun _ => zs 128) ∧ Wants wr (A.foot G ++ [gf]) w0.heap.size gl 5 0 (fun _ => zs 128)
/-- a row, laid at one place of the first, then one of the second: one behind the other -/
theorem lay_one {w0 w w2 : World} {G r : Nat} {A : Lies} {d : Dk} {gf gl N k : Nat} {X Y : Nat → List Nat} (L : Live w0 w G A d) (h1 : Wants w (A.foot G ++ [gl]) w0.heap.size gf N k X) {k2 : Nat} (h2 : Wants w (A.foot G ++ [gf]) w0.heap.size gl N k2 Y) (hb : Below w.heap.size w w2) (hr : w.heap.size ≤ r) (q : Row w2 r (zs 128)) (e : X k = zs 128) :
    Live w0 (w2.setCell ⟨gf, k, none⟩ (.slice (some ⟨r, 0, none⟩) 128 128)) G A d ∧ Wants (w2.setCell ⟨gf, k, none⟩ (.slice (some ⟨r, 0, none⟩) 128 128)) (A.foot G ++ [gl]) w0.heap.size gf N (k + 1) X ∧ Wants (w2.setCell ⟨gf, k, none⟩ (.slice (some ⟨r, 0, none⟩) 128 128)) (A.foot G ++ [gf]) w0.heap.size gl N k2 Y := by
  have hf := h1.off.1.2
  have hl := h2.off.1.2
  have k1 : ∀ j ∈ A.foot G ++ [gl], j < w.heap.size := fun j hj => by
    rcases List.mem_append.1 hj with h | h
    · exact L.lt j h
    · simp at h; omega
  refine ⟨(L.read hb).set ((Step.of_below hb _).off h1.off.1.left) h1.off.2 _, Wants.push (h1.below hb) ?_, Wants.other (h2.below hb) _⟩
  rw [e]; exact row_kept2 k1 hf hr q
theorem rowIs_nils (w : World) (n : Nat) : (w.alloc (.cells (nils n) 43)).rowIs w.heap.size 43 n fun _ => .slice none 0 0 := World.rowIs_made w (.slice none 0 0) n 43
theorem cut_new {w0 w : World} {G : Nat} {A : Lies} {d : Dk} (L : Live w0 w G A d) :
    FmCut w0 G A d (.slice (some ⟨w.heap.size, 0, none⟩) 5 5) (.slice (some ⟨w.heap.size + 1, 0, none⟩) 5 5) ((w.alloc (.cells (nils 5) 43)).alloc (.cells (nils 5) 43)).drew ∧
      FmCut w0 G A d (.slice (some ⟨w.heap.size + 1, 0, none⟩) 5 5) (.slice (some ⟨w.heap.size, 0, none⟩) 5 5) ((w.alloc (.cells (nils 5) 43)).alloc (.cells (nils 5) 43)).drew := by
  have b1 := (Below.refl w.heap.size w).alloc (Nat.le_refl _) (.cells (nils 5) 43)
  have b2 := b1.alloc b1.size (.cells (nils 5) 43)
  have hs : (w.alloc (.cells (nils 5) 43)).heap.size = w.heap.size + 1 := by simp
  have r1 := (rowIs_nils w 5).alloc (.cells (nils 5) 43)
  have r2 := rowIs_nils (w.alloc (.cells (nils 5) 43)) 5
  rw [hs] at r2
  have L2 := L.read b2.drew
  have q1 := two_new (w := w) (w2 := ((w.alloc (.cells (nils 5) 43)).alloc (.cells (nils 5) 43)).drew) (F := A.foot G) (base := w0.heap.size) (gf := w.heap.size) (gl := w.heap.size + 1) (N := 5) L.lt L.base (by omega) (Nat.le_refl _) (by omega) r1 r2 (fun _ => zs 128) (fun _ => zs 128)
  exact ⟨⟨_, _, rfl, rfl, by omega, L2, q1.1, q1.2⟩, ⟨_, _, rfl, rfl, by omega, L2, q1.2, q1.1⟩⟩
/-- the two rows, in each of the three orders -/
theorem lay_two {w0 w : World} {G : Nat} {A : Lies} {d : Dk} {gf gl N k : Nat} (L : Live w0 w G A d) (h1 : Wants w (A.foot G ++ [gl]) w0.heap.size gf N k fun _ => zs 128) (h2 : Wants w (A.foot G ++ [gf]) w0.heap.size gl N k fun _ => zs 128) (w' : World)
    (hw : w' = ((((w.alloc (.cells zrow 5)).alloc (.cells zrow 5)).setCell ⟨gf, k, none⟩ (.slice (some ⟨w.heap.size, 0, none⟩) 128 128)).setCell ⟨gl, k, none⟩ (.slice (some ⟨w.heap.size + 1, 0, none⟩) 128 128)).drew ∨
      w' = ((((w.alloc (.cells zrow 5)).setCell ⟨gf, k, none⟩ (.slice (some ⟨w.heap.size, 0, none⟩) 128 128)).alloc (.cells zrow 5)).setCell ⟨gl, k, none⟩ (.slice (some ⟨w.heap.size + 1, 0, none⟩) 128 128)).drew ∨
      w' = ((((w.alloc (.cells zrow 5)).alloc (.cells zrow 5)).setCell ⟨gf, k, none⟩ (.slice (some ⟨w.heap.size + 1, 0, none⟩) 128 128)).setCell ⟨gl, k, none⟩ (.slice (some ⟨w.heap.size, 0, none⟩) 128 128)).drew) :
    Live w0 w' G A d ∧ Wants w' (A.foot G ++ [gl]) w0.heap.size gf N (k + 1) (fun _ => zs 128) ∧ Wants w' (A.foot G ++ [gf]) w0.heap.size gl N (k + 1) fun _ => zs 128 := by
  have fin : ∀ u, Live w0 u G A d → Wants u (A.foot G ++ [gl]) w0.heap.size gf N (k + 1) (fun _ => zs 128) → Wants u (A.foot G ++ [gf]) w0.heap.size gl N (k + 1) (fun _ => zs 128) → w' = u.drew → Live w0 w' G A d ∧ Wants w' (A.foot G ++ [gl]) w0.heap.size gf N (k + 1) (fun _ => zs 128) ∧ Wants w' (A.foot G ++ [gf]) w0.heap.size gl N (k + 1) fun _ => zs 128 := by
    intro u a b c e
    subst e
    exact ⟨a.drewN (m := 1), b.below (below_drewN u 1), c.below (below_drewN u 1)⟩
  have b1 := (Below.refl w.heap.size w).alloc (Nat.le_refl _) (.cells zrow 5)
  have s1 : (w.alloc (.cells zrow 5)).heap.size = w.heap.size + 1 := by simp
  have b2 := b1.alloc b1.size (.cells zrow 5)
  have z1 := zrow_row w
  have z1b := z1.on ((Below.refl _ _).alloc (Nat.le_refl _) (.cells zrow 5)) z1.lt
  have z2 := zrow_row (w.alloc (.cells zrow 5))
  rw [s1] at z2
  rcases hw with hw | hw | hw
  · obtain ⟨q1, q2, q3⟩ := lay_one L h1 h2 b2 (Nat.le_refl _) z1b rfl
    obtain ⟨r1, r2⟩ := two_push h1 h2 L.lt b2 (Nat.le_refl _) (Nat.le_succ _) z1b z2 rfl rfl
    exact fin _ (q1.set q3.off.1.left q3.off.2 _) r1 r2 hw
  · obtain ⟨q1, q2, q3⟩ := lay_one L h1 h2 b1 (Nat.le_refl _) z1 rfl
    obtain ⟨w2, hw2⟩ : ∃ w2, (w.alloc (.cells zrow 5)).setCell ⟨gf, k, none⟩ (.slice (some ⟨w.heap.size, 0, none⟩) 128 128) = w2 := ⟨_, rfl⟩
    have s2 : w2.heap.size = w.heap.size + 1 := by rw [← hw2]; simp [World.setCell]
    rw [hw2] at q1 q2 q3 hw
    have z3 := zrow_row w2
    rw [s2] at z3
    obtain ⟨r1, r2, r3⟩ := lay_one (r := w.heap.size + 1) q1 q3 q2 ((Below.refl w2.heap.size w2).alloc (Nat.le_refl _) (.cells zrow 5)) (by omega) z3 rfl
    exact fin _ r1 r3 r2 hw
  · obtain ⟨q1, q2, q3⟩ := lay_one (r := w.heap.size + 1) L h1 h2 b2 (Nat.le_succ _) z2 rfl
    obtain ⟨r1, r2⟩ := two_push h1 h2 L.lt b2 (Nat.le_succ _) (Nat.le_refl _) z2 z1b rfl rfl
    exact fin _ (q1.set q3.off.1.left q3.off.2 _) r1 r2 hw
set_option maxRecDepth 100000 in
set_option maxHeartbeats 4000000 in
theorem firm_in (a : Option Addr) (cap c : Nat) (R : Nat → Int) (x : Int) (w : World) (hc : c ≤ 30) (hx : IntsAt w a c R) :
    Calls Try.prog 6 #[.slice a c cap, .int .i64 x] w (Woke w) := by
  have hmk := make_zrow
  have hmk5 := make_nils5
  have hx' := Lib.hid hx
  clear hx
  obtain ⟨d0, hd0⟩ : ∃ d0, (Dk.fresh 5 fun _ => zs 128) = d0 := ⟨_, rfl⟩
  have h0 := Lib.hid (show LawF d0 0 0 ∧ d0.firm = (fun _ => zs 128) ∧ d0.seen = fun _ => zs 128 by rw [← hd0]; exact ⟨LawF.start, rfl, rfl⟩)
  have e0 := Lib.hid hd0
  clear hd0
  go_enter Try.func6, Try.ntmps6
  go_wp2_with (go_at_call 9; refine (new_c _ 5 _ rfl (by omega) (by omega)).mono ?_; rw [e0.out]; rintro e w1 ⟨G, A, rfl, hD1, hb1⟩; have L1 := Lib.hid (Live.new (Below.refl _ _) hD1 hb1); clear hD1 hb1)
  go_cut [6, 7] (fun u v wx => FmCut w G A d0 u v wx)
  case first =>
    go_region
    all_goals go_wp2_with fail
    · go_meet
      exact (cut_new L1.out).1
    · go_meet
      exact (cut_new L1.out).2
  case rest =>
    obtain ⟨gf, gl, rfl, rfl, hne, hL, hW1, hW2⟩ := hcut
    have L2 := Lib.hid hL
    have W1 := Lib.hid hW1
    have W2 := Lib.hid hW2
    clear hL hW1 hW2
    go_wp2_with fail
    go_loopg [8] 5 (fun g i wr => FmRel1 w G A d0 gf gl g i wr)
    case atStart => exact ⟨0, by omega, rfl, L2.out, W1.out, W2.out⟩
    case round =>
      obtain ⟨k, hk, rfl, hL, hW1, hW2⟩ := hrel
      have L := Lib.hid hL
      have U1 := Lib.hid hW1
      have U2 := Lib.hid hW2
      clear hL hW1 hW2
      by_cases hlt : k < 5
      · obtain ⟨g, rfl⟩ : ∃ g, gk = g + 1 := ⟨gk - 1, by omega⟩
        obtain ⟨⟨v1, hv1⟩, hf1⟩ := U1.out.cellAt hlt
        obtain ⟨⟨v2, hv2⟩, hf2⟩ := U2.out.cellAt hlt
        have hgf := Lib.hid U1.out.off.1.2
        have hgl := Lib.hid U2.out.off.1.2
        have i0 : (0 : Int) ≤ (k : Int) := by omega
        have i1 : (k : Int) < 5 := by omega
        have ba := Lib.hid ((Below.refl wr.heap.size wr).alloc (Nat.le_refl _) (.cells zrow 5))
        have za := Lib.hid (zrow_row wr)
        have y1 : (wr.alloc (.cells zrow 5)).cell? ⟨gf, k, none⟩ = some v1 := cell_alloc hv1 _
        have y2 : (wr.alloc (.cells zrow 5)).cell? ⟨gl, k, none⟩ = some v2 := cell_alloc hv2 _
        have y3 : (wr.alloc (.cells zrow 5)).frozen? ⟨gf, k, none⟩ = false := (World.frozen?_alloc_past _ _ _ hgf.out).trans hf1
        have y4 : (wr.alloc (.cells zrow 5)).frozen? ⟨gl, k, none⟩ = false := (World.frozen?_alloc_past _ _ _ hgl.out).trans hf2
        have s1 := Lib.hid (show (wr.alloc (.cells zrow 5)).heap.size = wr.heap.size + 1 by simp)
        have y5 : ((wr.alloc (.cells zrow 5)).alloc (.cells zrow 5)).cell? ⟨gf, k, none⟩ = some v1 := cell_alloc y1 _
        have y6 : ((wr.alloc (.cells zrow 5)).alloc (.cells zrow 5)).cell? ⟨gl, k, none⟩ = some v2 := cell_alloc y2 _
        have y7 : ((wr.alloc (.cells zrow 5)).alloc (.cells zrow 5)).frozen? ⟨gf, k, none⟩ = false := (World.frozen?_alloc_past _ _ _ (by show gf < _; rw [s1.out]; have := hgf.out; omega)).trans y3
        have y8 : ((wr.alloc (.cells zrow 5)).alloc (.cells zrow 5)).frozen? ⟨gl, k, none⟩ = false := (World.frozen?_alloc_past _ _ _ (by show gl < _; rw [s1.out]; have := hgl.out; omega)).trans y4
        have hgne : (⟨gf, k, none⟩ : Addr) ≠ ⟨gl, k, none⟩ := fun e => hne (Addr.mk.inj e).1
        have y9 : (((wr.alloc (.cells zrow 5)).setCell ⟨gf, k, none⟩ (.slice (some ⟨wr.heap.size, 0, none⟩) 128 128)).alloc (.cells zrow 5)).cell? ⟨gl, k, none⟩ = some v2 := cell_alloc (cell_set y2 hgne) _
        have y10 : (((wr.alloc (.cells zrow 5)).setCell ⟨gf, k, none⟩ (.slice (some ⟨wr.heap.size, 0, none⟩) 128 128)).alloc (.cells zrow 5)).frozen? ⟨gl, k, none⟩ = false := (World.frozen?_alloc_past _ _ _ (by show gl < _; have := hgl.out; simp [World.setCell]; omega)).trans (by rw [World.frozen?_setCell]; exact y4)
        clear hv1 hv2 hf1 hf2
        go_wp2_with fail
        go_region
        all_goals go_wp2_with fail
        all_goals (
          go_roundg g
          case measure => omega
          case rel =>
            refine ⟨k + 1, by omega, by go_num, ?_⟩
            exact lay_two L.out U1.out U2.out _ (by first | exact .inl rfl | exact .inr (.inl rfl) | exact .inr (.inr rfl)))
      · obtain rfl : k = 5 := by omega
        go_wp2_with fail
        go_loopg [9, 10] c (fun g fl i wr2 => FmRel2 w G gf gl c g fl i wr2)
        case atStart => exact ⟨0, 0, A, d0, by omega, rfl, rfl, L.out, h0.out.1, by rw [h0.out.2.1]; exact U1.out, by rw [h0.out.2.2]; exact U2.out⟩
        case round =>
          obtain ⟨k, nf, A2, d2, hk, rfl, rfl, hL2, hD2, hW1, hW2⟩ := hrel
          have L2 := Lib.hid hL2
          have D2 := Lib.hid hD2
          have V1 := Lib.hid hW1
          have V2 := Lib.hid hW2
          have hnf := hD2.few
          clear hL2 hD2 hW1 hW2
          by_cases hlt2 : k < c
          · obtain ⟨g, rfl⟩ : ∃ g, gk = g + 1 := ⟨gk - 1, by omega⟩
            obtain ⟨b, off, rfl, hcell⟩ : ∃ b off, a = some ⟨b, off, none⟩ ∧ w.cell? ⟨b, off + k, none⟩ = some (.int .i64 (R k)) := by
              rcases hx'.out with h | ⟨b, off, e, h⟩
              · omega
              · exact ⟨b, off, e, h k hlt2⟩
            have hbl := World.block_lt_of_cell? w _ hcell
            have hcell2 : wr.cell? ⟨b, off + k, none⟩ = some (.int .i64 (R k)) := by rw [L2.out.below.cell (p := ⟨b, off + k, none⟩) hbl]; exact hcell
            clear hcell
            obtain ⟨l, hl0⟩ : ∃ l, fillN (k : Int) 128 = l := ⟨_, rfl⟩
            have hl := Lib.hid (show l.length = 128 by rw [← hl0]; exact fillN_length _ _)
            have el := Lib.hid hl0
            clear hl0
            go_wp2_with (go_at_call 30; refine (low_c (R k) _ 5 _ rfl (by omega) (by omega)).mono ?_; rintro e w3 ⟨s, hs, rfl, rfl⟩)
            go_wp2_with (go_at_call 27; refine (fill_c (k : Int) _ 128 _ rfl (by omega)).mono ?_; rw [el.out]; rintro e w4 ⟨v4, rfl, ho4, hb4⟩; obtain ⟨g4, cap4, rfl, hc4, hg4, hlt4⟩ := ho4.at hl.out (by omega); have L4 := Lib.hid (L2.out.read hb4); have O4 := Lib.hid ho4; have Q4 := Lib.hid (L2.out.fresh hg4 hlt4); have X4 := Lib.hid (V1.out.below hb4); have Y4 := Lib.hid (V2.out.below hb4); clear ho4 hb4)
            go_wp2_with (first
              | (go_at_call 25; refine (write_ns _ _ G A2 d2 _ s g4 0 128 cap4 l rfl rfl L4.out.disk D2.out.on D2.out.set (by rw [D2.out.n]; exact hs) hl.out hc4 O4.out.bat Q4.out (by have := D2.out.waits; omega) (by rw [D2.out.log]; omega)).mono ?_; rintro e w5 ⟨rfl, A5, hD5, hS5⟩; have L5 := Lib.hid (L4.out.call hD5 hS5); have X5 := Lib.hid (X4.out.step (hS5.beside _)); have Y5 := Lib.hid (Y4.out.step (hS5.beside _)); clear hD5 hS5)
              | (go_at_call 27; refine (fill_c (k : Int) _ 128 _ rfl (by omega)).mono ?_; rw [el.out]; rintro e w7 ⟨v7, rfl, ho7, hb7⟩; have K7 := Lib.hid (ho7.kept (M := A5.foot G ++ [gf]) (gw := gl) hl.out (fun j hj => by (rcases List.mem_append.1 hj with h | h); (exact L5.out.lt j h); (rw [List.mem_singleton] at h; subst h; exact X5.out.off.1.2)) Y5.out.off.1.2); obtain ⟨g7, cap7, rfl, _, _, _⟩ := ho7.at hl.out (by omega); have L7 := Lib.hid (L5.out.read hb7); have X7 := Lib.hid (X5.out.below hb7); have Y7 := Lib.hid (Y5.out.below hb7); obtain ⟨⟨v, hv⟩, hf⟩ := Y7.out.cellAt hs; clear ho7 hb7))
            all_goals (
              have L8 := Lib.hid (L7.out.set (k := s) Y7.out.off.1.left Y7.out.off.2 (.slice (some ⟨g7, 0, none⟩) 128 cap7))
              have X8 := Lib.hid (X7.out.other (j := s) (.slice (some ⟨g7, 0, none⟩) 128 cap7))
              have Y8 := Lib.hid ((Y7.out.put hs K7.out).congr (Y := (d2.wrote s l).seen) (fun i _ => by rw [seen_wrote2]))
              obtain ⟨w8, hw8⟩ : ∃ w8, w7.setCell ⟨gl, s, none⟩ (.slice (some ⟨g7, 0, none⟩) 128 cap7) = w8 := ⟨_, rfl⟩
              obtain ⟨d5, hd5⟩ : ∃ d5, d2.wrote s l = d5 := ⟨_, rfl⟩
              rw [hw8, hd5] at L8
              rw [hw8] at X8
              rw [hw8, hd5] at Y8
              rw [hw8]
              have X8 := Lib.hid (show Wants w8 (A5.foot G ++ [gl]) w.heap.size gf 5 5 d5.firm by rw [← hd5]; exact X8.out)
              have D8 := Lib.hid (show LawF d5 (k + 1) nf by rw [← hd5]; exact D2.out.wrote _ _)
              clear hw8 hd5 hv hf)
            · have D12 := Lib.hid (D8.out.flushed hnf)
              obtain ⟨d9, hd9⟩ : ∃ d9, d5.flushed = d9 := ⟨_, rfl⟩
              rw [hd9] at D12
              have h9 := Lib.hid (show d9.waits.length = 0 ∧ d9.firm = d5.seen ∧ d9.seen = d5.seen by rw [← hd9]; exact ⟨rfl, rfl, rfl⟩)
              have hd9' := Lib.hid hd9
              clear hd9
              have D12D := D12
              go_wp2_with (first
              | (go_at_call 26; refine (flush_ns _ _ G A5 d5 L8.out.disk D8.out.on D8.out.set (by rw [D8.out.flushes]; omega)).mono ?_; rw [hd9'.out]; rintro e w9 ⟨rfl, A9, hD9, hS9⟩; have L9 := Lib.hid (L8.out.call hD9 hS9); have X9 := Lib.hid (X8.out.step (hS9.beside _)); have Y9 := Lib.hid (Y8.out.step (hS9.beside _)); clear hD9 hS9)
              | (go_at_call 13; refine (waiting_n _ _ G A9 d9 0 (fun _ => 0) L9.out.disk h9.out.1 (fun j h => by omega)).mono ?_; rintro e w10 ⟨g10, rfl, hg10, hr10, hb10⟩; have L10 := Lib.hid (L9.out.read hb10); have X10 := Lib.hid (X9.out.below hb10); have Y10 := Lib.hid (Y9.out.below hb10); clear hr10 hb10)
              | (refine wpList_copy_wants rfl (.tmp 74) (.tmp 75) rfl (A9.foot G) w.heap.size gf gl 5 d5.firm d5.seen rfl rfl X10.out Y10.out ?_; intro w11 hw11; have D12L := Lib.hid (L10.out.one hw11.out.2.2 X10.out.off.1.left X10.out.off.2); have D12X := Lib.hid (show Wants w11 (A9.foot G ++ [gl]) w.heap.size gf 5 5 d9.firm by rw [h9.out.2.1]; exact hw11.out.1); have D12Y := Lib.hid (show Wants w11 (A9.foot G ++ [gf]) w.heap.size gl 5 5 d9.seen by rw [h9.out.2.2]; exact hw11.out.2.1); clear hw11)
              | (go_at_call 24; refine (read_c _ _ G A9 d9 _ s (d9.seen s) rfl D12L.out.disk D12D.out.on (by rw [D12D.out.n]; exact hs) rfl).mono ?_; rintro e w20 ⟨v20, rfl, ho20, hb20⟩; have L20 := Lib.hid (D12L.out.read hb20); have X20 := Lib.hid (D12X.out.below hb20); have Y20 := Lib.hid (D12Y.out.below hb20); obtain ⟨g21, cap21, hc21, hl21, hx21⟩ := Y20.out.get hs (Nat.le_refl _); obtain ⟨g20, cap20, rfl, _, _, _⟩ := ho20.at hl21 (by omega); have hl21' := Lib.hid hl21; have hx21' := Lib.hid hx21; have O20 := Lib.hid ho20; clear ho20 hb20 hl21 hx21)
              | (go_at_call 32; refine (same_same _ _ _ _ 128 (d9.seen s) (d9.seen s) _ hl21'.out rfl (by omega) O20.out.bat hx21'.out).mono ?_; rintro e w22 ⟨rfl, hb22⟩; have L22 := Lib.hid (L20.out.read hb22); have X22 := Lib.hid (X20.out.below hb22); have Y22 := Lib.hid (Y20.out.below hb22); clear hb22)
              | (go_at_call 12; refine (image_n _ _ G A9 d9 5 d9.firm L22.out.disk D12D.out.n (fun _ _ => rfl)).mono ?_; rintro e w23 ⟨g23, V23, bk23, rfl, hI23, hb23⟩; have L23 := Lib.hid (L22.out.read hb23); have X23 := Lib.hid (X22.out.below hb23); have Y23 := Lib.hid (Y22.out.below hb23); have I23 := Lib.hid (hI23.parts (fun i hi => by rw [IsDkS.len L22.out.disk (by rw [D12D.out.n]; exact hi)]; omega)); clear hI23 hb23)
              | (go_at_call 15; refine (parts_same _ _ 5 5 5 d9.firm d9.firm _ (by omega) I23.out X23.out.parts (fun _ _ => rfl)).mono ?_; rintro e w24 ⟨rfl, q24, rfl⟩; have L24 := Lib.hid (L23.out.drewN (m := q24)); have X24 := Lib.hid (X23.out.below (below_drewN w23 q24)); have Y24 := Lib.hid (Y23.out.below (below_drewN w23 q24))))
              go_roundg g
              case measure => omega
              case rel => exact ⟨k + 1, nf + 1, A9, d9, by omega, by go_num, by go_num, L24.out, D12.out, X24.out, Y24.out⟩
            · have D8D := D8
              have D8L := L8
              have D8X := X8
              have D8Y := Y8
              go_wp2_with (first
              | (go_at_call 24; refine (read_c _ _ G A5 d5 _ s (d5.seen s) rfl D8L.out.disk D8D.out.on (by rw [D8D.out.n]; exact hs) rfl).mono ?_; rintro e w20 ⟨v20, rfl, ho20, hb20⟩; have L20 := Lib.hid (D8L.out.read hb20); have X20 := Lib.hid (D8X.out.below hb20); have Y20 := Lib.hid (D8Y.out.below hb20); obtain ⟨g21, cap21, hc21, hl21, hx21⟩ := Y20.out.get hs (Nat.le_refl _); obtain ⟨g20, cap20, rfl, _, _, _⟩ := ho20.at hl21 (by omega); have hl21' := Lib.hid hl21; have hx21' := Lib.hid hx21; have O20 := Lib.hid ho20; clear ho20 hb20 hl21 hx21)
              | (go_at_call 32; refine (same_same _ _ _ _ 128 (d5.seen s) (d5.seen s) _ hl21'.out rfl (by omega) O20.out.bat hx21'.out).mono ?_; rintro e w22 ⟨rfl, hb22⟩; have L22 := Lib.hid (L20.out.read hb22); have X22 := Lib.hid (X20.out.below hb22); have Y22 := Lib.hid (Y20.out.below hb22); clear hb22)
              | (go_at_call 12; refine (image_n _ _ G A5 d5 5 d5.firm L22.out.disk D8D.out.n (fun _ _ => rfl)).mono ?_; rintro e w23 ⟨g23, V23, bk23, rfl, hI23, hb23⟩; have L23 := Lib.hid (L22.out.read hb23); have X23 := Lib.hid (X22.out.below hb23); have Y23 := Lib.hid (Y22.out.below hb23); have I23 := Lib.hid (hI23.parts (fun i hi => by rw [IsDkS.len L22.out.disk (by rw [D8D.out.n]; exact hi)]; omega)); clear hI23 hb23)
              | (go_at_call 15; refine (parts_same _ _ 5 5 5 d5.firm d5.firm _ (by omega) I23.out X23.out.parts (fun _ _ => rfl)).mono ?_; rintro e w24 ⟨rfl, q24, rfl⟩; have L24 := Lib.hid (L23.out.drewN (m := q24)); have X24 := Lib.hid (X23.out.below (below_drewN w23 q24)); have Y24 := Lib.hid (Y23.out.below (below_drewN w23 q24))))
              go_roundg g
              case measure => omega
              case rel => exact ⟨k + 1, nf, A5, d5, by omega, by go_num, by go_num, L24.out, D8.out, X24.out, Y24.out⟩
          · obtain rfl : k = c := by omega
            obtain ⟨d3, hd3⟩ : ∃ d3, d2.crashed [] = d3 := ⟨_, rfl⟩
            obtain ⟨d4, hd4⟩ : ∃ d4, d3.booted = d4 := ⟨_, rfl⟩
            have h3 := Lib.hid (show d3.on = false ∧ d3.n = 5 ∧ d3.flushes = nf ∧ d3.firm = d2.firm by
              rw [← hd3]
              refine ⟨rfl, D2.out.n, D2.out.flushes, ?_⟩
              show appl d2.firm (keptN [] d2.waits d2.waits.length) = _
              rw [keptN_nil]; rfl)
            have h4 := Lib.hid (show d4.on = true by rw [← hd4]; rfl)
            have e3 := Lib.hid hd3
            have e4 := Lib.hid hd4
            have tok1 : True := trivial
            clear hd3 hd4
            go_wp2_with (first
              | (go_at_call 14; refine (writes_n _ _ G A2 d2 k L2.out.disk D2.out.log).mono ?_; rintro e w6 ⟨v6, rfl, ho6, hb6⟩; have L6 := Lib.hid (L2.out.read hb6); have X6 := Lib.hid (V1.out.below hb6); obtain ⟨a6, cap6, rfl, _, _, _, _, _⟩ := ho6.slice; clear ho6 hb6)
              | (go_at_call 28; refine (crash_nil _ _ G A2 d2 L6.out.disk).mono ?_; rw [e3.out]; rintro e w7 ⟨rfl, A7, hD7, hS7⟩; have L7 := Lib.hid (L6.out.call hD7 hS7); have X7 := Lib.hid (X6.out.step (hS7.beside _)); clear hD7 hS7)
              | (go_at_call 18; refine (flushes_any _ _ G A7 d3 L7.out.disk).mono ?_; rw [h3.out.2.2.1]; rintro e w8 ⟨rfl, rfl⟩)
              | (go_at_call 12; refine (image_n _ _ G A7 d3 5 d2.firm L7.out.disk h3.out.2.1 (fun _ _ => by rw [h3.out.2.2.2])).mono ?_; rintro e w9 ⟨g9, V9, bk9, rfl, hI9, hb9⟩; have L9 := Lib.hid (L7.out.read hb9); have X9 := Lib.hid (X7.out.below hb9); have I9 := Lib.hid (hI9.parts (fun i hi => by rw [IsDkS.len L2.out.disk (by rw [D2.out.n]; exact hi)]; omega)); clear hI9 hb9)
              | (go_at_call 15; refine (parts_same _ _ 5 5 5 d2.firm d2.firm _ (by omega) I9.out X9.out.parts (fun _ _ => rfl)).mono ?_; rintro e w10 ⟨rfl, q10, rfl⟩; have L10 := Lib.hid (L9.out.drewN (m := q10)))
              | (go_at_call 19; refine (on_any _ _ G A7 d3 L10.out.disk).mono ?_; rw [h3.out.1]; rintro e w11 ⟨rfl, rfl⟩)
              | (have _t := tok1; go_at_call 29; refine (boot_off _ _ G A7 d3 L10.out.disk h3.out.1).mono ?_; rw [e4.out]; rintro e w12 ⟨rfl, A12, hD12, hS12⟩; have L12 := Lib.hid (L10.out.call hD12 hS12); clear hD12 hS12 tok1 _t))
            go_wp2_with (first
              | (go_at_call 29; refine (boot_on _ _ G A12 d4 L12.out.disk h4.out).mono ?_; rintro e w13 ⟨rfl, A13, hD13, hS13⟩; have L13 := Lib.hid (L12.out.call hD13 hS13); clear hD13 hS13)
              | (go_at_call 8; refine (awake_any _).mono ?_; rintro e w14 ⟨rfl, hb14⟩; have L14 := Lib.hid (L13.out.read hb14); clear hb14))
            go_ret
            exact ⟨rfl, L14.out.below⟩
theorem firm_long (a : Option Addr) (cap c : Nat) (x : Int) (w : World) (hc : 30 < c) :
    Calls Try.prog 6 #[.slice a c cap, .int .i64 x] w (Woke w) := by
  go_enter Try.func6, Try.ntmps6
  go_wp2_with (go_at_call 8; refine (awake_any _).mono ?_; rintro e w1 ⟨rfl, hb⟩)
  go_ret
  exact ⟨rfl, by assumption⟩
theorem firm_law (a : Option Addr) (cap c : Nat) (R : Nat → Int) (x : Int) (w : World) (hx : IntsAt w a c R) :
    Calls Try.prog 6 #[.slice a c cap, .int .i64 x] w (Woke w) := by
  by_cases h : c ≤ 30
  · exact firm_in a cap c R x w h hx
  · exact firm_long a cap c x w (by omega)
end Go.Proofs.Ytabjhjipnpfnbaa
