/-
  A new node whose bytes are laid: a link.
  symlink.
  One operation done: what all kinds share.
-/
import Derived.Test.YtgcodlicbdaddaaGreatDoorB30
import Derived.Test.YtgcodlicbdaddaaGreatDoorB23
import Derived.Test.YtgcodlicbdaddaaGreatDoorB31
import Derived.Test.YtgcodlicbdaddaaGreatDoorB36
import Derived.Test.YtgcodlicbdaddaaGreatDoorB37
import Derived.Test.YtgcodlicbdaddaaGreatDoorB32
import Derived.Test.YtgcodlicbdaddaaGreatDoorB29

section
set_option linter.unusedVariables false
set_option linter.unusedSimpArgs false
namespace Go.Proofs.YtgcodlicbdaddaaGreatDoor
open Go.RowKit BigFrame
set_option maxRecDepth 100000

section
variable {w w' : World} {B b : Nat} {A : Ad} {s : Tr}
theorem make_put (s : Tr) (x y : Nd) : (s.make x).put s.nd.length y = s.make y := by
  unfold Tr.make Tr.put
  simp
/-- a new node hung, wherever its bytes lie -/
theorem put_laid {A' : Ad} {n d g : Nat} {y x : Nd} {nm : List Nat} {s1 : Tr} (th : Nat) (hb : b ≤ 1000000) (hs : s.make x = s1) (hn : s.nd.length = n) (hd : s.opt d = some y) (hk : y.kind = 2) (hyd : NodeOk b y) (hpos : ∀ e ∈ y.ents, e.2 ≠ 0) (hx0 : x.links = 0) (hnm : NameP nm) (hlk : lookE y.ents nm = 0)
    (hT : TreeAt w B A' s1) (ht : A'.t = A.t) (h1 : A'.nd d = A.nd d) (h2 : A'.nd n = g) :
    Calls Tryz.prog 130 #[.pointer (some ⟨A.t, 0, none⟩), .agg #[.pointer (some ⟨A.nd d, 0, none⟩), .string (strOf nm), .pointer none], .pointer (some ⟨g, 0, none⟩)] w (TurnPost B A' (s1.hang ⟨d, nm, th⟩ n) w) := by
  have hdn : d ≠ n := fun e => by have := Tr.opt_lt hd; omega
  have hd1 : s1.opt d = some y := by rw [← hs, Tr.opt_make, if_neg (by omega)]; exact hd
  have hi1 : s1.opt n = some x := by rw [← hs, Tr.opt_make, if_pos hn.symm]
  have h3 := put_any hT hb hd1 hk hi1 hyd hpos (by rw [hx0]; exact Nat.zero_le b) hdn hnm.octs hnm.long hlk none th
  rw [h1, h2, ht] at h3
  exact h3
/-- a node's bytes are other ones, in a new block of their own -/
theorem TreeAt.new_data (h : TreeAt w B A s) {i : Nat} {x : Nd} (hi : s.opt i = some x) (hk : x.kind = 3) {v : Value} {l : List Nat} {w1 : World} (hb : Below w.heap.size w w1) (ho : RdB w1 w.heap.size v l) (hB : B ≤ w.heap.size) (hl : Octs l) (hll : l.length ≤ 20736) :
    TreeAt (w1.setCell ⟨A.nd i, 3, none⟩ v) B (A.row i v) (s.put i { x with data := l }) ∧ TStep w A (w1.setCell ⟨A.nd i, 3, none⟩ v) (A.row i v) := by
  have hN := h.node i x hi
  have hlt := hN.lt
  have hS : NStep w (w1.setCell ⟨A.nd i, 3, none⟩ v) (A.nd i) (A.da i) v := ⟨hb.os, hb.tape, hb.output, by rw [size_set]; exact hb.size, fun k hk h1 _ => by rw [heap_set_other w1 ⟨A.nd i, 3, none⟩ v h1]; exact hb.block k hk, fun g e => .inr (ho.hi e).1⟩
  refine h.node_data hi hS ⟨?_, ?_, hN.wrl, hl, hll, ?_, fun h3 => absurd hk h3⟩
  · have h1 := (hN.below hb).row.set 3 v
    exact h1
  · exact (ho.lower hB).blk fun g e => heap_set_other w1 ⟨A.nd i, 3, none⟩ v (fun e2 => by have h1 := (ho.hi e).1; have h2 : g = A.nd i := e2; omega)
  · refine (hN.below hb).ents.blk rfl rfl fun b e => heap_set_other w1 ⟨A.nd i, 3, none⟩ v (h.apart_e hi e).1
end
end Go.Proofs.YtgcodlicbdaddaaGreatDoor
end

section
set_option linter.unusedVariables false
set_option linter.unusedSimpArgs false
namespace Go.Proofs.YtgcodlicbdaddaaGreatDoor
open Go.RowKit BigFrame
set_option maxRecDepth 100000

/-- a string's bytes, in a block of their own -/
theorem conv_is (w : World) (p : ByteArray) : ∃ cap w1, (convert 9 31 (.string p)).run Tryz.prog w = .ok (.slice (some ⟨w.heap.size, 0, none⟩) p.size cap) w1 ∧ Hid (Below w.heap.size w w1) ∧ Hid (RdB w1 w.heap.size (.slice (some ⟨w.heap.size, 0, none⟩) (nb p).length cap) (nb p)) := by
  have h := run_bytes_of_string (P := Tryz.prog) w 9 31 5 p Tryz.underlying9 Tryz.underlying31 Tryz.underlying5
  obtain ⟨cap, hcap⟩ : ∃ cap, grownCap w p.size 0 5 = cap := ⟨_, rfl⟩
  rw [hcap] at h
  obtain ⟨R, hR⟩ : ∃ R, bytesRow p cap = R := ⟨_, rfl⟩
  rw [hR] at h
  have hB := (Below.refl w.heap.size w).drew.alloc (Nat.le_refl _) (.cells R 5 (R.size, R.size + 1))
  have h2 : (w.drew.alloc (.cells R 5 (R.size, R.size + 1))).heap[w.heap.size]? = some (.cells R 5 (R.size, R.size + 1)) := heap_alloc_new w.drew _
  obtain ⟨w1, hw1⟩ : ∃ w1, w.drew.alloc (.cells R 5 (R.size, R.size + 1)) = w1 := ⟨_, rfl⟩
  rw [hw1] at h h2 hB
  refine ⟨cap, w1, h, hB, .inr ⟨w.heap.size, cap, rfl, ?_, Nat.le_refl _, (Array.getElem?_eq_some_iff.1 h2).1, .inr ⟨w.heap.size, 0, rfl, fun k hk => ?_⟩⟩⟩
  · rw [nb_length, ← hcap]
    exact grownCap_ge _ _ _ _
  · rw [nb_length] at hk
    have hk2 : k < p.data.size := hk
    have h1 := bytesRow_at p cap k hk2
    rw [hR] at h1
    rw [Nat.zero_add]
    have h3 : bz (nb p) k = p.data[k].toNat := by
      rw [bz_get (by rw [nb_length]; exact hk)]
      simp [nb]
    rw [h3]
    unfold World.cell?
    rw [h2]
    simp [h1]
section
variable {w : World} {B b : Nat} {A : Ad} {s : Tr}
theorem codeS_len {n : Nat} {l : List Nat} (h : codeS n l = 0) : l.length ≤ n := (codeS_zero.1 h).2.2.1
set_option maxHeartbeats 2000000 in
theorem symlink_any (h : TreeAt w B A s) (ho : Ok b s) (hB : B ≤ w.heap.size) (hb : b ≤ 900000) (t p : ByteArray) :
    Calls Tryz.prog 91 #[.pointer (some ⟨A.t, 0, none⟩), .string t, .string p] w (CodePost B A (s.symlink (nb t) (nb p)).2 (s.symlink (nb t) (nb p)).1.code w) := by
  have h' := Lib.hid h
  have hul : s.symlink (nb t) (nb p) = if codeS 100 (nb t) ≠ 0 then (ansC (codeS 100 (nb t)), s) else if s.free (nb p) ≠ 0 then (ansC (s.free (nb p)), s) else (ans0, s.fresh (s.place (nb p)).2 { ndNew 3 with data := nb t }) := rfl
  obtain ⟨c0, hc0⟩ : ∃ c, codeS 100 (nb t) = c := ⟨_, rfl⟩
  obtain ⟨L0, hL0⟩ : ∃ L, psOf c0 (nb t) = L := ⟨_, rfl⟩
  obtain ⟨r0, hr0⟩ : ∃ r, rootT (nb t) = r := ⟨_, rfl⟩
  have hc0' := Lib.hid hc0
  have hL0' := Lib.hid hL0
  have hr0' := Lib.hid hr0
  rw [hc0] at hul
  have hsp0 := Lib.hid (fun w' (hw' : TreeAt w' B A s) => free_any hw' ho (by omega) p)
  unfold SpotPost at hsp0
  clear h hL0 hr0
  by_cases h0 : c0 = 0
  · subst h0
    rw [if_neg (by decide)] at hul
    have hlen := Lib.hid (codeS_len hc0)
    clear hc0
    by_cases hc : s.free (nb p) = 0
    · obtain ⟨h1, h2⟩ := free_none hc
      obtain ⟨y, hy, hk, hn, ht, _⟩ := ho.spot (nb_octs p) h1
      have hsp : ∀ w', TreeAt w' B A s → Calls Tryz.prog 141 #[.pointer (some ⟨A.t, 0, none⟩), .string p] w' fun e w2 => e = .returned (.tuple #[.agg #[.pointer (some ⟨A.nd (s.place (nb p)).2.dir, 0, none⟩), .string (strOf (s.place (nb p)).2.nm), .pointer none], .int .i64 0]) ∧ Below w'.heap.size w' w2 := fun w' hw' => by
        have h3 := hsp0.out w' hw'
        rw [hc, h1, spV_none A ho h2] at h3
        exact h3
      rw [hc, if_neg (by decide)] at hul
      rw [h2] at ht
      obtain ⟨⟨d, nm, th⟩, hq⟩ : ∃ z, (s.place (nb p)).2 = z := ⟨_, rfl⟩
      rw [hq] at hsp hul hy hn ht
      obtain ⟨n, hnl⟩ : ∃ n, s.nd.length = n := ⟨_, rfl⟩
      obtain ⟨s1, hs1⟩ : ∃ s1, s.make (ndNew 3) = s1 := ⟨_, rfl⟩
      obtain ⟨s2, hs2⟩ : ∃ s2, s.make { ndNew 3 with data := nb t } = s2 := ⟨_, rfl⟩
      have hs12 := Lib.hid (show s1.put n { ndNew 3 with data := nb t } = s2 by rw [← hs1, ← hs2, ← hnl, make_put])
      have hs1o := Lib.hid (show s1.opt n = some (ndNew 3) by rw [← hs1, Tr.opt_make, if_pos hnl.symm])
      have hfr : s.fresh ⟨d, nm, th⟩ { ndNew 3 with data := nb t } = s2.hang ⟨d, nm, th⟩ n := by unfold Tr.fresh; rw [hs2, hnl]
      rw [hfr] at hul
      have hdn := Lib.hid (show d ≠ n from fun e => by have := Tr.opt_lt hy; simp only at this; omega)
      have hmk := Lib.hid (show ∀ w', TreeAt w' B A s → B ≤ w'.heap.size → Calls Tryz.prog 43 #[.pointer (some ⟨A.t, 0, none⟩), .int .i64 3] w' (fun e w2 => ∃ g o, e = .returned (.pointer (some ⟨g, 0, none⟩)) ∧ TreeAt w2 B (A.add n g o) s1 ∧ TStep w' A w2 (A.add n g o)) from fun w' hw' hB' => by
        have h3 := make_any hw' hB' (by have := ho.len.2; omega) (by have := ho.len.1; omega) 3
        unfold MakePost at h3
        rw [hnl, hs1] at h3
        exact h3)
      have hpt := Lib.hid (fun w' (A' : Ad) g (hw' : TreeAt w' B A' s2) (e1 : A'.t = A.t) (e2 : A'.nd d = A.nd d) (e3 : A'.nd n = g) => put_laid (A := A) (A' := A') (g := g) th (b := b) (by omega) hs2 hnl hy hk (ho.each d y hy) (ho.ent_pos hy) rfl hn ht.symm hw' e1 e2 e3)
      have hsp' := Lib.hid hsp
      have hul' := Lib.hid hul
      clear hul hsp hsp0 hq hy hn ht hnl hs1 hs2 hfr
      go_enter Tryz.func91, Tryz.ntmps91
      go_upto_region 7 with (first
        | (go_at_call 113; refine (pTarget_is _ _ _ _ _ hc0'.out hr0'.out hL0'.out).mono ?_; rintro e w1 ⟨a4, c4, rfl, o4, t4, l4, b4⟩; have hB1 := Lib.hid b4.out; have hw1 := Lib.hid (h'.out.below b4.out); clear b4 o4 t4 l4)
        | (go_at_call 141; refine (hsp'.out _ hw1.out).mono ?_; rintro e w2 ⟨rfl, hb2⟩; have hB2 := Lib.hid ((hB1.out.trans (hb2.mono hB1.out.size)).alloc ((hB1.out.trans (hb2.mono hB1.out.size)).size) (.cells #[.pointer (some ⟨A.nd d, 0, none⟩), .string (strOf nm), .pointer none] 171)); have hz2 := Lib.hid (hB1.out.trans (hb2.mono hB1.out.size)).size; clear hb2))
      obtain ⟨w3, hw3⟩ : ∃ w3, w2.alloc (.cells #[.pointer (some ⟨A.nd d, 0, none⟩), .string (strOf nm), .pointer none] 171) = w3 := ⟨_, rfl⟩
      rw [hw3] at hB2 ⊢
      have V3 := Lib.hid (show Vw w3 171 w2.heap.size [.pointer (some ⟨A.nd d, 0, none⟩), .string (strOf nm), .pointer none] by rw [← hw3]; exact Vw.alloc _ _ _)
      have T3 := Lib.hid (h'.out.below hB2.out)
      have hno := Lib.hid (show A.own w2.heap.size = none by
        cases e : A.own w2.heap.size with
        | none => rfl
        | some r => exact absurd (h'.out.hi _ _ e).2 (by have := hz2.out; omega))
      have hlt3 := Lib.hid V3.out.lt
      clear hw3
      go_upto_region 8 with (go_at_call 43; refine (hmk.out _ T3.out (Nat.le_trans hB hB2.out.size)).mono ?_; rintro e w4 ⟨g, o, rfl, hT4, hS4⟩; have T4 := Lib.hid hT4; have S4 := Lib.hid ((TStep.of_below A hB2.out).trans hS4); have V4 := Lib.hid (show Vw w4 171 w2.heap.size [.pointer (some ⟨A.nd d, 0, none⟩), .string (strOf nm), .pointer none] by (have h1 := V3.out; unfold Vw at h1 ⊢; rw [hS4.block _ hlt3.out hno.out]; exact h1)); have hz4 := Lib.hid (Nat.le_trans hB2.out.size hS4.size); have hown4 := Lib.hid ((hS4.ext _ hlt3.out).trans hno.out); clear hT4 hS4)
      have hgn := Lib.hid (show (A.add n g o).nd n = g by unfold Ad.add; simp)
      obtain ⟨cap, w5, hcv, hB5, hR5⟩ := conv_is w4 t
      have hlt4 := Lib.hid V4.out.lt
      have V5 := Lib.hid (show Vw w5 171 w2.heap.size [.pointer (some ⟨A.nd d, 0, none⟩), .string (strOf nm), .pointer none] by (have h1 := V4.out; unfold Vw at h1 ⊢; rw [hB5.out.block _ hlt4.out]; exact h1))
      have N5 := Lib.hid (show NodeAt w5 B g n (ndNew 3) ((A.add n g o).da n) ((A.add n g o).en n) by
        have h1 := (T4.out.below hB5.out).node n (ndNew 3) hs1o.out
        rw [hgn.out] at h1
        exact h1)
      have c3 := N5.out.dat
      have f3 := N5.out.frozen 3
      have hND := Lib.hid (T4.out.new_data hs1o.out rfl hB5.out hR5.out (Nat.le_trans hB hz4.out) (nb_octs t) (by have := hlen.out; omega))
      rw [nb_length] at hND
      go_upto_region 9 with fail
      have hgne : w2.heap.size ≠ g := fun e => by
        have h1 := T4.out.rn n (ndNew 3) hs1o.out
        rw [hgn.out] at h1
        have h2 := hown4.out
        rw [e, h1] at h2
        cases h2
      obtain ⟨w6, hw6⟩ : ∃ w6, w5.setCell ⟨g, 3, none⟩ (.slice (some ⟨w4.heap.size, 0, none⟩) t.size cap) = w6 := ⟨_, rfl⟩
      rw [hgn.out, hw6, hs12.out] at hND
      have V6 := Lib.hid (show Vw w6 171 w2.heap.size [.pointer (some ⟨A.nd d, 0, none⟩), .string (strOf nm), .pointer none] by
        have h1 := V5.out
        unfold Vw at h1 ⊢
        rw [← hw6, heap_set_other w5 ⟨g, 3, none⟩ _ hgne]
        exact h1)
      have e2 : ((A.add n g o).row n (.slice (some ⟨w4.heap.size, 0, none⟩) t.size cap)).nd d = A.nd d := by unfold Ad.row Ad.add; simp [hdn.out]
      have e3 : ((A.add n g o).row n (.slice (some ⟨w4.heap.size, 0, none⟩) t.size cap)).nd n = g := hgn.out
      have hpt2 := Lib.hid (hpt.out w6 _ g hND.out.1 rfl e2 e3)
      have hS6 := Lib.hid (S4.out.trans hND.out.2)
      rw [hw6]
      have k0 := V6.out.cell (k := 0) rfl
      have k1 := V6.out.cell (k := 1) rfl
      have k2 := V6.out.cell (k := 2) rfl
      clear hw6 hcv c3 f3 e2 e3 hND
      go_wp2_with (go_at_call 130; refine hpt2.out.mono ?_; rintro e w7 ⟨rfl, hT7, hS7⟩; have T7 := Lib.hid hT7; have S7 := Lib.hid (hS6.out.trans hS7); clear hT7 hS7)
      go_ret
      rw [hul'.out]
      exact ⟨rfl, _, T7.out, S7.out⟩
    · rw [if_pos hc] at hul
      obtain ⟨o1, z, o2, hf⟩ := spV_form A s (s.place (nb p)).1 (s.place (nb p)).2
      rw [hf] at hsp0
      obtain ⟨c, hcc⟩ : ∃ c, s.free (nb p) = c := ⟨_, rfl⟩
      rw [hcc] at hsp0 hul hc
      have hul' := Lib.hid hul
      have t0 : (c != 0) = true := by rw [bne_iff_ne]; exact hc
      clear hul hf hcc
      go_enter Tryz.func91, Tryz.ntmps91
      go_wp2_with (first
        | (go_at_call 113; refine (pTarget_is _ _ _ _ _ hc0'.out hr0'.out hL0'.out).mono ?_; rintro e w1 ⟨a4, c4, rfl, o4, t4, l4, b4⟩; have hB1 := Lib.hid b4.out; have hw1 := Lib.hid (h'.out.below b4.out); clear b4 o4 t4 l4)
        | (go_at_call 141; refine (hsp0.out _ hw1.out).mono ?_; rintro e w2 ⟨rfl, hb2⟩; have hB2 := Lib.hid ((hB1.out.trans (hb2.mono hB1.out.size)).alloc ((hB1.out.trans (hb2.mono hB1.out.size)).size) (.cells #[.pointer o1, .string z, .pointer o2] 171)); clear hb2))
      go_ret
      rw [hul'.out]
      exact ⟨rfl, A, h'.out.below hB2.out, TStep.of_below A hB2.out⟩
  · rw [if_pos h0] at hul
    have hul' := Lib.hid hul
    have t0 : (c0 != 0) = true := by rw [bne_iff_ne]; exact h0
    clear hul hc0
    go_enter Tryz.func91, Tryz.ntmps91
    go_wp2_with (go_at_call 113; refine (pTarget_is _ _ _ _ _ hc0'.out hr0'.out hL0'.out).mono ?_; rintro e w1 ⟨a4, c4, rfl, o4, t4, l4, b4⟩; have hB1 := Lib.hid b4.out; clear b4 o4 t4 l4)
    go_ret
    rw [hul'.out]
    exact ⟨rfl, A, h'.out.below hB1.out, TStep.of_below A hB1.out⟩
end
end Go.Proofs.YtgcodlicbdaddaaGreatDoor
end

section
set_option linter.unusedVariables false
set_option linter.unusedSimpArgs false
namespace Go.Proofs.YtgcodlicbdaddaaGreatDoor
open Go.RowKit BigFrame
set_option maxRecDepth 100000

section
variable {w : World} {B b : Nat} {A : Ad} {s : Tr}
/-- an operation's cells -/
def opC (k fd n off f : Int) (p t : ByteArray) (dv : Value) : List Value := [.int .i64 k, .int .i64 fd, .int .i64 n, .int .i64 off, .int .i64 f, .string p, .string t, dv]
/-- a call under way: the operation and the answer, boxed; the tree -/
structure DoAt (w0 w : World) (B : Nat) (A : Ad) (s : Tr) (g : Nat) (l : List Value) : Prop where
  op : OffT w A 33 g l
  an : OffT w A 38 (g + 1) [.int .i64 0, .int .i64 0, .int .i64 0, .int .i64 0, .slice none 0 0, .slice none 0 0]
  tree : TreeAt w B A s
  step : TStep w0 A w A
theorem do_new (h : TreeAt w B A s) (k fd n off f : Int) (p t : ByteArray) (dv : Value) :
    DoAt w ((w.alloc (.cells #[.int .i64 k, .int .i64 fd, .int .i64 n, .int .i64 off, .int .i64 f, .string p, .string t, dv] 33)).alloc (.cells #[.int .i64 0, .int .i64 0, .int .i64 0, .int .i64 0, .slice none 0 0, .slice none 0 0] 38)) B A s w.heap.size (opC k fd n off f p t dv) ∧
    Below w.heap.size w ((w.alloc (.cells #[.int .i64 k, .int .i64 fd, .int .i64 n, .int .i64 off, .int .i64 f, .string p, .string t, dv] 33)).alloc (.cells #[.int .i64 0, .int .i64 0, .int .i64 0, .int .i64 0, .slice none 0 0, .slice none 0 0] 38)) := by
  have hb : Below w.heap.size w ((w.alloc (.cells #[.int .i64 k, .int .i64 fd, .int .i64 n, .int .i64 off, .int .i64 f, .string p, .string t, dv] 33)).alloc (.cells #[.int .i64 0, .int .i64 0, .int .i64 0, .int .i64 0, .slice none 0 0, .slice none 0 0] 38)) := ((Below.refl w.heap.size w).alloc (Nat.le_refl _) _).alloc (by simp) _
  exact ⟨⟨⟨(Vw.alloc w (opC k fd n off f p t dv) 33).on' ((Below.refl _ _).alloc (Nat.le_refl _) _), h.none_past (Nat.le_refl _)⟩, ⟨Vw.alloc2 w _ [.int .i64 0, .int .i64 0, .int .i64 0, .int .i64 0, .slice none 0 0, .slice none 0 0] 38, h.none_past (Nat.le_succ _)⟩, h.below hb, TStep.of_below A hb⟩, hb⟩
theorem ansC_code {a : Ans} (h : a = ans0 ∨ ∃ c, a = ansC c) : a = ansC a.code := by
  rcases h with rfl | ⟨c, rfl⟩
  · rfl
  · rfl
/-- a code alone is told -/
theorem tell_only {a : Ans} {w1 w' : World} {A' : Ad} {s' : Tr} {g : Nat} (h : TreeAt w1 B A' s') (hs : TStep w A w1 A') (hO : Oth g w1 w') (hg : A'.own g = none) (hgw : w.heap.size ≤ g) {c : Int} (hc : a.code = c) (ha : a = ansC a.code) :
    TellPost B A s' a w (.returned (.tuple #[ansV 0 0 0 0 (.slice none 0 0) (.slice none 0 0), .int .i64 c])) w' := by
  subst hc
  exact ⟨_, A', rfl, h.oth hO hg, hs.oth hO hgw, fun e => by rw [ha, e]; exact ⟨_, _, rfl, OwnB.nil _ _, OwnT.nil _ _, (fun g e => by cases e), (fun g e => by cases e)⟩, ⟨_, _, _, _, _, _, _, _, _, _, rfl⟩⟩
/-- what was told is told on -/
theorem tell_on {a : Ans} {w0 w1 w' : World} {A' : Ad} {s' : Tr} {g : Nat} {v : Value} (h : TreeAt w1 B A' s') (hs0 : TStep w A w0 A) (hs : TStep w0 A w1 A') (ha : a.code = 0 → AnsIs w1 w0.heap.size A' v a) (hv : FormA v) (hO : Oth g w1 w') (hg : A'.own g = none) (hgw : w.heap.size ≤ g) (hg0 : g < w0.heap.size) {c : Int} (hc : a.code = c) :
    TellPost B A s' a w (.returned (.tuple #[v, .int .i64 c])) w' := by
  subst hc
  refine ⟨v, A', rfl, h.oth hO hg, (hs0.trans hs).oth hO hgw, fun e => ?_, hv⟩
  obtain ⟨d, ns, e1, e2, e3, e4, e5⟩ := (ha e).form
  refine ⟨d, ns, e1, (e2.lower hs0.size).blk fun k hk => hO.block k (fun e6 => by have := (e2.hi hk).1; omega), ?_, e4, e5⟩
  have h3 := e3.lower hs0.size
  rcases h3.2 with ⟨rfl, h0⟩ | ⟨k, cap, cur, rfl, q1, q2, q3⟩
  · exact ⟨h3.1, .inl ⟨rfl, h0⟩⟩
  · exact ⟨h3.1, .inr ⟨k, cap, cur, rfl, q1, (hO.block k (fun e6 => by have := (e3.block k rfl).1; omega)).trans q2, q3⟩⟩
theorem codeA_close (s : Tr) (fd : Int) : (s.close fd).1 = ansC (s.close fd).1.code := by
  refine ansC_code ?_
  unfold Tr.close
  repeat' refine ite_to (P := fun r : Ans × Tr => r.1 = ans0 ∨ ∃ c, r.1 = ansC c) ?_ ?_
  all_goals first | exact .inl rfl | exact .inr ⟨_, rfl⟩
theorem codeA_trunc (s : Tr) (fd n : Int) : (s.trunc fd n).1 = ansC (s.trunc fd n).1.code := by
  refine ansC_code ?_
  unfold Tr.trunc
  repeat' refine ite_to (P := fun r : Ans × Tr => r.1 = ans0 ∨ ∃ c, r.1 = ansC c) ?_ ?_
  all_goals first | exact .inl rfl | exact .inr ⟨_, rfl⟩
theorem codeA_mkdir (s : Tr) (p : List Nat) : (s.mkdir p).1 = ansC (s.mkdir p).1.code := by
  refine ansC_code ?_
  unfold Tr.mkdir
  repeat' refine ite_to (P := fun r : Ans × Tr => r.1 = ans0 ∨ ∃ c, r.1 = ansC c) ?_ ?_
  all_goals first | exact .inl rfl | exact .inr ⟨_, rfl⟩
theorem codeA_rmdir (s : Tr) (p : List Nat) : (s.rmdir p).1 = ansC (s.rmdir p).1.code := by
  refine ansC_code ?_
  unfold Tr.rmdir
  repeat' refine ite_to (P := fun r : Ans × Tr => r.1 = ans0 ∨ ∃ c, r.1 = ansC c) ?_ ?_
  all_goals first | exact .inl rfl | exact .inr ⟨_, rfl⟩
theorem codeA_unlink (s : Tr) (p : List Nat) : (s.unlink p).1 = ansC (s.unlink p).1.code := by
  refine ansC_code ?_
  unfold Tr.unlink
  repeat' refine ite_to (P := fun r : Ans × Tr => r.1 = ans0 ∨ ∃ c, r.1 = ansC c) ?_ ?_
  all_goals first | exact .inl rfl | exact .inr ⟨_, rfl⟩
theorem codeA_link (s : Tr) (p q : List Nat) : (s.link p q).1 = ansC (s.link p q).1.code := by
  refine ansC_code ?_
  unfold Tr.link
  repeat' refine ite_to (P := fun r : Ans × Tr => r.1 = ans0 ∨ ∃ c, r.1 = ansC c) ?_ ?_
  all_goals first | exact .inl rfl | exact .inr ⟨_, rfl⟩
theorem codeA_symlink (s : Tr) (p q : List Nat) : (s.symlink p q).1 = ansC (s.symlink p q).1.code := by
  refine ansC_code ?_
  unfold Tr.symlink
  repeat' refine ite_to (P := fun r : Ans × Tr => r.1 = ans0 ∨ ∃ c, r.1 = ansC c) ?_ ?_
  all_goals first | exact .inl rfl | exact .inr ⟨_, rfl⟩
theorem codeA_rename (s : Tr) (p q : List Nat) : (s.rename p q).1 = ansC (s.rename p q).1.code := by
  refine ansC_code ?_
  unfold Tr.rename
  repeat' refine ite_to (P := fun r : Ans × Tr => r.1 = ans0 ∨ ∃ c, r.1 = ansC c) ?_ ?_
  all_goals first | exact .inl rfl | exact .inr ⟨_, rfl⟩
end
end Go.Proofs.YtgcodlicbdaddaaGreatDoor
end
