/-
  Bytes laid in a file: some.
  Bytes laid in a file: within it; all of it.
  Bytes laid in a file of a tree.
-/
import Derived.Test.YtgcodlicbdaddaaGreatDoorB24
import Derived.Test.YtgcodlicbdaddaaGreatDoorB23

section
set_option linter.unusedVariables false
set_option linter.unusedSimpArgs false
namespace Go.Proofs.YtgcodlicbdaddaaGreatDoor
open Go.RowKit BigFrame
set_option maxRecDepth 100000

section
variable {B a i : Nat} {x : Nd} {v en : Value}
def WritePost (w : World) (B a i n : Nat) (x : Nd) (v en : Value) (e : Ending) (w' : World) : Prop :=
  e = .returned (.tuple #[ansV 0 ((n : Nat) : Int) 0 0 (.slice none 0 0) (.slice none 0 0), .int .i64 0]) ∧ ∃ v', NodeAt w' B a i x v' en ∧ NStep w w' a v v'
theorem BAt.blk {w w' : World} {a : Option Addr} {l : List Nat} (h : BAt w a l) (e : ∀ ad, a = some ad → w'.heap[ad.block]? = w.heap[ad.block]?) : BAt w' a l := by
  rcases h with h | ⟨b, off, rfl, hx⟩
  · exact .inl h
  · exact .inr ⟨b, off, rfl, fun k hk => by rw [World.cell?_of_block (w := w) (w' := w') (a := ⟨b, off + k, none⟩) (e ⟨b, off, none⟩ rfl)]; exact hx k hk⟩
theorem needB_gt {o n e : Nat} (he : o + n = e) (h0 : 0 < n) : o / 128 < needB e := by unfold needB; omega
/-- a round of what marks the blocks -/
structure MarkRel (w : World) (B a i q E g0 : Nat) (y : Nd) (v v1 en : Value) (g : Nat) (k : Value) (wr : World) : Prop where
  ex : ∃ j, g = E - j ∧ k = .int .i64 ((j : Nat) : Int) ∧ q ≤ j ∧ j ≤ E ∧ NodeAt wr B a i { y with wr := markW q j y.wr } v1 en ∧ NStep w wr a v v1 ∧ Vw wr 38 g0 [.int .i64 0, .int .i64 0, .int .i64 0, .int .i64 0, .slice none 0 0, .slice none 0 0]
set_option maxHeartbeats 2000000 in
theorem write_grow (o e : Nat) (sp : Option Addr) (cap : Nat) (b : List Nat) (w : World) (h : NodeAt w B a i x v en) (hk3 : x.kind ≠ 3) (hB : B ≤ w.heap.size) (hap : v.ownBlock ≠ some a) (hen : ∀ b, en = .map (some b) → b ≠ a ∧ v.ownBlock ≠ some b)
    (hs : BAt w sp b) (hbo : Octs b) (hs1 : ∀ ad, sp = some ad → ad.block < w.heap.size ∧ ad.block ≠ a ∧ v.ownBlock ≠ some ad.block) (he : o + b.length = e) (hm : e ≤ 20736) (h0 : 0 < b.length) (hg : x.data.length < e) :
    Calls Tryz.prog 140 #[.pointer (some ⟨a, 0, none⟩), .int .i64 ((o : Nat) : Int), .slice sp b.length cap] w (WritePost w B a i b.length (x.write o b) v en) := by
  have h' := Lib.hid h
  have hk3' := Lib.hid hk3
  have hk1' := Lib.hid (show (x.resize e).kind ≠ 3 by unfold Nd.resize; split <;> exact hk3)
  clear hk3
  obtain ⟨p, cp, hve, _⟩ := h.data.slice
  have hve' := Lib.hid hve
  obtain ⟨n, hn⟩ : ∃ n, b.length = n := ⟨_, rfl⟩
  rw [hn] at he h0 ⊢
  have hn' := Lib.hid hn
  have tk : True := trivial
  have tk2 : True := trivial
  have tk4 : True := trivial
  have hsub : IntKind.i64.wrap (20736 - ((n : Nat) : Int)) = 20736 - ((n : Nat) : Int) := wrap_in (by omega)
  have t0 : decide (20736 - ((n : Nat) : Int) < ((o : Nat) : Int)) = false := decide_eq_false (by omega)
  have t1 : (((n : Nat) : Int) == 0) = false := nat_beq_ne (b := 0) (by omega)
  have hadd : IntKind.i64.wrap (((o : Nat) : Int) + ((n : Nat) : Int)) = ((e : Nat) : Int) := by rw [wrap_in (by omega)]; omega
  have t2 : decide (x.data.length < e) = true := decide_eq_true hg
  obtain ⟨q, hqq⟩ : ∃ q, o / 128 = q := ⟨_, rfl⟩
  have hquo : wrap64 (((o : Nat) : Int) / 128) = ((q : Nat) : Int) := by rw [← hqq]; unfold wrap64; omega
  obtain ⟨E, hEE⟩ : ∃ E, needB e = E := ⟨_, rfl⟩
  have hnz := Lib.hid (show needZ ((e : Nat) : Int) = ((E : Nat) : Int) by rw [needZ_nat hm, hEE])
  have hE162' := Lib.hid (show E ≤ 162 by rw [← hEE]; exact needB_le hm)
  have hqE' := Lib.hid (show q ≤ E by rw [← hEE, ← hqq]; exact Nat.le_of_lt (needB_gt he h0))
  have hqq' := Lib.hid hqq
  have hEE' := Lib.hid hEE
  have hs' := Lib.hid hs
  have hs1' := Lib.hid hs1
  have he' := Lib.hid he
  have hm' := Lib.hid hm
  have hB' := Lib.hid hB
  have hap' := Lib.hid hap
  have hen' := Lib.hid hen
  have h0' := Lib.hid h0
  obtain ⟨x1, hx1⟩ : ∃ x1, x.resize e = x1 := ⟨_, rfl⟩
  have E1 := Lib.hid hx1
  have hk1x := Lib.hid (show x1.kind ≠ 3 by rw [← hx1]; exact hk1'.out)
  have E2 := Lib.hid (show x.grow e = x1 by unfold Nd.grow; rw [if_pos hg]; exact hx1)
  have L1 := Lib.hid (show e ≤ (x.resize e).data.length by unfold Nd.resize; rw [if_pos hg]; show e ≤ (x.data ++ List.replicate (e - x.data.length) 0).length; rw [List.length_append, List.length_replicate]; omega)
  have L2 := Lib.hid (show e ≤ x1.data.length by rw [← hx1]; exact L1.out)
  have k1 : o ≤ x1.data.length := by have := L2.out; omega
  clear h hve hn hs hs1 he hm hB hap hen h0 hg hx1 hqq hEE
  go_enter Tryz.func140, Tryz.ntmps140
  go_wp2_with (first
    | (have _t := tk; refine wpList_alloc_ansv rfl rfl ?_; intro g0 w0 V0 hg0 b0; have G0 := Lib.hid hg0; have B0 := Lib.hid b0; have N0 := Lib.hid (h'.out.below b0); have cd0 := N0.out.dat; rw [hve'.out] at cd0; clear tk b0 hg0)
    | (go_at_call 131; refine (resize_any e _ N0.out hk3'.out hm'.out (Nat.le_trans hB'.out B0.out.size) hap'.out hen'.out).mono ?_; rintro _ w1 ⟨rfl, v1, hN1, hS1⟩; have P1 := (hN1.own hk1'.out).parts (by have := L1.out; have := h0'.out; have := he'.out; omega); rw [E1.out] at hN1 P1; obtain ⟨g, cap1, cur1, rfl, hgB, hgc, hlc, _⟩ := P1; have k2 : ¬ cap1 = o := (by have := L2.out; have := h0'.out; have := he'.out; omega); have N1 := Lib.hid hN1; have cd1 := N1.out.dat; have R1 := Lib.hid (show g ≠ g0 from fun e => by (have h2 := V0.out.lt; rcases hS1.row g rfl with h3 | h3; (have h4 := (h'.out.data.hi h3).2; have h5 := G0.out; omega); omega)); have Q1 := Lib.hid (show BAt w1 sp b from hs'.out.blk fun ad ea => by (obtain ⟨i1, i2, i3⟩ := hs1'.out ad ea; exact (hS1.block _ (Nat.lt_of_lt_of_le i1 B0.out.size) i2 i3).trans (B0.out.block _ i1))); clear cd0 hgc; have S1 := Lib.hid ((NStep.of_below B0.out a v).trans hS1); have V1 := Lib.hid (show Vw w1 38 g0 [.int .i64 0, .int .i64 0, .int .i64 0, .int .i64 0, .slice none 0 0, .slice none 0 0] by (have h2 := V0.out; unfold Vw at h2 ⊢; exact (hS1.block g0 V0.out.lt (fun e => by (have h3 := h'.out.lt; have h4 := G0.out; omega)) (fun e => by (have h3 := (h'.out.data.hi e).2; have h4 := G0.out; omega))).trans h2)); have R4 := Lib.hid (show (Value.slice (some ⟨g, 0, none⟩) x1.data.length cap1).ownBlock ≠ some a from fun e => by (rcases hS1.row g rfl with h3 | h3; exact hap'.out (h3.trans e); (have h4 := h'.out.lt; have h5 := B0.out.size; have h6 : g = a := Option.some.inj e; omega))); have R2 := Lib.hid (show g ≠ a from fun e => by (rcases hS1.row g rfl with h3 | h3; exact hap'.out (by rw [← e]; exact h3); (have h4 := h'.out.lt; have h5 := B0.out.size; omega))); have R3 := Lib.hid (show ∀ c, en = .map (some c) → c ≠ g from fun c ec e => by (rcases hS1.row g rfl with h3 | h3; exact (hen'.out c ec).2 (by rw [e]; exact h3); (have h4 := (h'.out.entB ec).2.1; have h5 := B0.out.size; omega))); clear hN1 hS1 hlc hgB)
    | (have _t := tk2; refine wpList_copy_own_part rfl (.tmp 45) (.tmp 46) rfl B g o x1.data.length _ _ cap1 sp n _ x1.data b rfl rfl hn'.out (N1.out.own hk1x.out) rfl Q1.out (by have := L2.out; have := he'.out; omega) (by have := L2.out; have := he'.out; omega) h0'.out ?_; intro w2 O2 gr2 sz2; clear tk2 cd1))
  have hy2 : (splice x1.data o b).length = x1.data.length := by unfold splice; simp only [List.length_append, List.length_take, List.length_drop]; have := L2.out; have := he'.out; have := hn'.out; omega
  have hoct : Octs (splice x1.data o b) := (N1.out.oct.take o).append (hbo.append (N1.out.oct.drop _))
  have N2 := Lib.hid (show NodeAt w2 B a i { x1 with data := splice x1.data o b } (.slice (some ⟨g, 0, none⟩) x1.data.length cap1) en from
    ⟨by have h1 := N1.out.row; unfold Vw at h1 ⊢; rw [gr2.out.block a N1.out.lt (by simp [Ne.symm R2.out])]; exact h1, by rw [← hy2]; rw [hy2]; exact O2.out.rd, N1.out.wrl, hoct, by show (splice x1.data o b).length ≤ 20736; rw [hy2]; exact N1.out.dl, N1.out.ents.blk rfl rfl fun c ec => gr2.out.block c (N1.out.entB ec).2.1 (by simp [R3.out c ec]), fun _ => O2.out⟩)
  have S2 := Lib.hid (show NStep w w2 a v (.slice (some ⟨g, 0, none⟩) x1.data.length cap1) from S1.out.trans ⟨gr2.out.os, gr2.out.tape, gr2.out.output, gr2.out.size, fun k hk _ h2 => gr2.out.block k hk (fun e => h2 e.symm), fun _ e => .inl e⟩)
  have V2 := Lib.hid (show Vw w2 38 g0 [.int .i64 0, .int .i64 0, .int .i64 0, .int .i64 0, .slice none 0 0, .slice none 0 0] from V1.out.grown gr2.out (by simp [Ne.symm R1.out]))
  have hquo' := Lib.hid hquo
  clear hsub t0 t1 t2 hadd k1 k2 hy2 hoct hquo
  have hq162 : q < 162 := by have := hqq'.out; have := hm'.out; have := he'.out; have := h0'.out; omega
  go_loopg [9] (E - q) (fun g' k wr => MarkRel w B a i q E g0 { x1 with data := splice x1.data o b } v (.slice (some ⟨g, 0, none⟩) x1.data.length cap1) en g' k wr)
  case atStart => exact ⟨q, rfl, by rw [hquo'.out], Nat.le_refl _, hqE'.out, by rw [markW_nil q x1.wr (by rw [N1.out.wrl]; omega)]; exact N2.out, S2.out, V2.out⟩
  case round =>
    obtain ⟨j, hg9, rfl, hj1, hj2, N3, S3, V3⟩ := hrel
    have N3' := Lib.hid N3
    have S3' := Lib.hid S3
    have V3' := Lib.hid V3
    clear S3 V3
    by_cases hlt : j < E
    · have t3 : decide (j < E) = true := decide_eq_true hlt
      have t4 : decide (((j : Nat) : Int) < ((E : Nat) : Int)) = true := decide_eq_true (by omega)
      have hE162 := hE162'.out
      obtain ⟨c0, cw⟩ : ∃ c0, wr.cell? ⟨a, 4 + j, none⟩ = some (.bool c0) := ⟨_, N3.wr (k := j) (by omega)⟩
      have cf := N3.frozen (4 + j)
      have z1 : ((j : Nat) : Int) < 162 := by omega
      have z2 : (0 : Int) ≤ ((j : Nat) : Int) := by omega
      clear N3
      go_wp2_with (go_at_call 172; refine (need_any _ _).mono ?_; rw [hnz.out]; rintro _ w9 ⟨rfl, rfl⟩)
      go_roundg (E - (j + 1))
      case measure => omega
      case rel =>
        have hm1 : (markW q j x1.wr).set j true = markW q (j + 1) x1.wr := markW_set hj1 (by rw [N1.out.wrl]; omega)
        have N4 := N3'.out.mark (k := j) R4.out (fun c ec => (hen'.out c ec).1) (by omega) true
        dsimp only at N4
        rw [hm1] at N4
        exact ⟨j + 1, rfl, by go_num, by omega, by omega, N4, S3'.out.oth ((Oth.refl a _).setCell _), V3'.out.oth ((Oth.refl a _).setCell _) (by have := h'.out.lt; have := G0.out; omega)⟩
    · have t3 : decide (j < E) = false := decide_eq_false hlt
      have t4 : decide (((j : Nat) : Int) < ((E : Nat) : Int)) = false := decide_eq_false (by omega)
      obtain rfl : j = E := by omega
      clear N3
      go_wp2_with (first
        | (go_at_call 172; refine (need_any _ _).mono ?_; rw [hnz.out]; rintro _ w9 ⟨rfl, rfl⟩)
        | (have _t := tk4; refine wpList_store_ans rfl (.tmp 6) (.tmp 63) rfl V3'.out rfl rfl 0 ((n : Nat) : Int) 0 0 none none 0 0 0 0 rfl ?_; intro w5 V5 O5; clear tk4))
      refine bodyPost_ret (cell_ret2 rfl rfl V5.out Tryz.underlying38 (by rw [Tryz.sizeA]; rfl)) rfl ?_
      have hxw : x.write o b = { x1 with data := splice x1.data o b, wr := markW q j x1.wr } := by
        unfold Nd.write
        rw [hn'.out, he'.out, E2.out, hqq'.out, hEE'.out]
      rw [hxw]
      refine ⟨rfl, _, N3'.out.blk (O5.out.block _ (by have := h'.out.lt; have := G0.out; omega)) (fun c ec => O5.out.block _ (by have h1 := (N2.out.data.hi ec).2; (have h2 : c = g := (Option.some.inj ec).symm); rw [h2]; exact R1.out)) (fun c ec => O5.out.block _ (by have := (h'.out.entB ec).2.1; have := G0.out; omega)), ?_⟩
      exact ⟨O5.out.os.trans S3'.out.os, O5.out.tape.trans S3'.out.tape, O5.out.output.trans S3'.out.output, by rw [O5.out.size]; exact S3'.out.size, fun k hk h1 h2 => (O5.out.block k (by have := G0.out; omega)).trans (S3'.out.block k hk h1 h2), S3'.out.row⟩
end
end Go.Proofs.YtgcodlicbdaddaaGreatDoor
end

section
set_option linter.unusedVariables false
set_option linter.unusedSimpArgs false
namespace Go.Proofs.YtgcodlicbdaddaaGreatDoor
open Go.RowKit BigFrame
set_option maxRecDepth 100000

section
variable {B a i : Nat} {x : Nd} {v en : Value}
set_option maxHeartbeats 2000000 in
theorem write_in (o e : Nat) (sp : Option Addr) (cap : Nat) (b : List Nat) (w : World) (h : NodeAt w B a i x v en) (hk3 : x.kind ≠ 3) (hB : B ≤ w.heap.size) (hap : v.ownBlock ≠ some a) (hen : ∀ b, en = .map (some b) → b ≠ a ∧ v.ownBlock ≠ some b)
    (hs : BAt w sp b) (hbo : Octs b) (hs1 : ∀ ad, sp = some ad → ad.block < w.heap.size ∧ ad.block ≠ a ∧ v.ownBlock ≠ some ad.block) (he : o + b.length = e) (hm : e ≤ 20736) (h0 : 0 < b.length) (hg : ¬ x.data.length < e) :
    Calls Tryz.prog 140 #[.pointer (some ⟨a, 0, none⟩), .int .i64 ((o : Nat) : Int), .slice sp b.length cap] w (WritePost w B a i b.length (x.write o b) v en) := by
  obtain ⟨g, cap1, cur1, rfl, hgB, hgc, hlc, _⟩ := (h.own hk3).parts (by omega)
  have h' := Lib.hid h
  have hk3' := Lib.hid hk3
  clear hk3
  obtain ⟨n, hn⟩ : ∃ n, b.length = n := ⟨_, rfl⟩
  rw [hn] at he h0 ⊢
  have hn' := Lib.hid hn
  have tk : True := trivial
  have tk2 : True := trivial
  have tk4 : True := trivial
  have hsub : IntKind.i64.wrap (20736 - ((n : Nat) : Int)) = 20736 - ((n : Nat) : Int) := wrap_in (by omega)
  have t0 : decide (20736 - ((n : Nat) : Int) < ((o : Nat) : Int)) = false := decide_eq_false (by omega)
  have t1 : (((n : Nat) : Int) == 0) = false := nat_beq_ne (b := 0) (by omega)
  have hadd : IntKind.i64.wrap (((o : Nat) : Int) + ((n : Nat) : Int)) = ((e : Nat) : Int) := by rw [wrap_in (by omega)]; omega
  have t2 : decide (x.data.length < e) = false := decide_eq_false hg
  obtain ⟨q, hqq⟩ : ∃ q, o / 128 = q := ⟨_, rfl⟩
  have hquo : wrap64 (((o : Nat) : Int) / 128) = ((q : Nat) : Int) := by rw [← hqq]; unfold wrap64; omega
  obtain ⟨E, hEE⟩ : ∃ E, needB e = E := ⟨_, rfl⟩
  have hnz := Lib.hid (show needZ ((e : Nat) : Int) = ((E : Nat) : Int) by rw [needZ_nat hm, hEE])
  have hE162' := Lib.hid (show E ≤ 162 by rw [← hEE]; exact needB_le hm)
  have hqE' := Lib.hid (show q ≤ E by rw [← hEE, ← hqq]; exact Nat.le_of_lt (needB_gt he h0))
  have hqq' := Lib.hid hqq
  have hEE' := Lib.hid hEE
  have hs' := Lib.hid hs
  have hs1' := Lib.hid hs1
  have he' := Lib.hid he
  have hm' := Lib.hid hm
  have hB' := Lib.hid hB
  have hap' := Lib.hid hap
  have hen' := Lib.hid hen
  have h0' := Lib.hid h0
  have E2 := Lib.hid (show x.grow e = x by unfold Nd.grow; rw [if_neg hg])
  have L2 := Lib.hid (show e ≤ x.data.length by omega)
  have k2 : ¬ cap1 = o := (by have := L2.out; omega)
  have R2 := Lib.hid (show g ≠ a from fun e => hap (by rw [← e]; rfl))
  have R4 := Lib.hid hap
  have R3 := Lib.hid (show ∀ c, en = .map (some c) → c ≠ g from fun c ec e => (hen c ec).2 (by rw [e]; rfl))
  have k1 : o ≤ x.data.length := by have := L2.out; omega
  clear h hn hs hs1 he hm hB hap hen h0 hg hqq hEE hgB hgc hlc
  go_enter Tryz.func140, Tryz.ntmps140
  go_wp2_with (first
    | (have _t := tk; refine wpList_alloc_ansv rfl rfl ?_; intro g0 w0 V0 hg0 b0; have G0 := Lib.hid hg0; have B0 := Lib.hid b0; have N0 := Lib.hid (h'.out.below b0); have cd0 := N0.out.dat; have S0 := Lib.hid (NStep.of_below B0.out a (.slice (some ⟨g, 0, none⟩) x.data.length cap1)); have R1 := Lib.hid (show g ≠ g0 from fun e => by (have h4 := (h'.out.data.hi (show (Value.slice (some ⟨g, 0, none⟩) x.data.length cap1).ownBlock = some g from rfl)).2; have h5 := G0.out; omega)); have Q0 := Lib.hid (show BAt w0 sp b from hs'.out.blk fun ad ea => B0.out.block _ (hs1'.out ad ea).1); clear tk b0 hg0)
    | (have _t := tk2; refine wpList_copy_own_part rfl (.tmp 45) (.tmp 46) rfl B g o x.data.length _ _ cap1 sp n _ x.data b rfl rfl hn'.out (N0.out.own hk3'.out) rfl Q0.out (by have := L2.out; have := he'.out; omega) (by have := L2.out; have := he'.out; omega) h0'.out ?_; intro w2 O2 gr2 sz2; clear tk2 cd0))
  have hy2 : (splice x.data o b).length = x.data.length := by unfold splice; simp only [List.length_append, List.length_take, List.length_drop]; have := L2.out; have := he'.out; have := hn'.out; omega
  have hoct : Octs (splice x.data o b) := (N0.out.oct.take o).append (hbo.append (N0.out.oct.drop _))
  have N2 := Lib.hid (show NodeAt w2 B a i { x with data := splice x.data o b } (.slice (some ⟨g, 0, none⟩) x.data.length cap1) en from
    ⟨by have h1 := N0.out.row; unfold Vw at h1 ⊢; rw [gr2.out.block a N0.out.lt (by simp [Ne.symm R2.out])]; exact h1, by rw [← hy2]; rw [hy2]; exact O2.out.rd, N0.out.wrl, hoct, by show (splice x.data o b).length ≤ 20736; rw [hy2]; exact N0.out.dl, N0.out.ents.blk rfl rfl fun c ec => gr2.out.block c (N0.out.entB ec).2.1 (by simp [R3.out c ec]), fun _ => O2.out⟩)
  have S2 := Lib.hid (show NStep w w2 a (.slice (some ⟨g, 0, none⟩) x.data.length cap1) (.slice (some ⟨g, 0, none⟩) x.data.length cap1) from S0.out.trans ⟨gr2.out.os, gr2.out.tape, gr2.out.output, gr2.out.size, fun k hk _ h2 => gr2.out.block k hk (fun e => h2 e.symm), fun _ e => .inl e⟩)
  have V2 := Lib.hid (show Vw w2 38 g0 [.int .i64 0, .int .i64 0, .int .i64 0, .int .i64 0, .slice none 0 0, .slice none 0 0] from V0.out.grown gr2.out (by simp [Ne.symm R1.out]))
  have hquo' := Lib.hid hquo
  clear hsub t0 t1 t2 hadd k1 k2 hy2 hoct hquo
  have hq162 : q < 162 := by have := hqq'.out; have := hm'.out; have := he'.out; have := h0'.out; omega
  go_loopg [9] (E - q) (fun g' k wr => MarkRel w B a i q E g0 { x with data := splice x.data o b } (.slice (some ⟨g, 0, none⟩) x.data.length cap1) (.slice (some ⟨g, 0, none⟩) x.data.length cap1) en g' k wr)
  case atStart => exact ⟨q, rfl, by rw [hquo'.out], Nat.le_refl _, hqE'.out, by rw [markW_nil q x.wr (by rw [N0.out.wrl]; omega)]; exact N2.out, S2.out, V2.out⟩
  case round =>
    obtain ⟨j, hg9, rfl, hj1, hj2, N3, S3, V3⟩ := hrel
    have N3' := Lib.hid N3
    have S3' := Lib.hid S3
    have V3' := Lib.hid V3
    clear S3 V3
    by_cases hlt : j < E
    · have t3 : decide (j < E) = true := decide_eq_true hlt
      have t4 : decide (((j : Nat) : Int) < ((E : Nat) : Int)) = true := decide_eq_true (by omega)
      have hE162 := hE162'.out
      obtain ⟨c0, cw⟩ : ∃ c0, wr.cell? ⟨a, 4 + j, none⟩ = some (.bool c0) := ⟨_, N3.wr (k := j) (by omega)⟩
      have cf := N3.frozen (4 + j)
      have z1 : ((j : Nat) : Int) < 162 := by omega
      have z2 : (0 : Int) ≤ ((j : Nat) : Int) := by omega
      clear N3
      go_wp2_with (go_at_call 172; refine (need_any _ _).mono ?_; rw [hnz.out]; rintro _ w9 ⟨rfl, rfl⟩)
      go_roundg (E - (j + 1))
      case measure => omega
      case rel =>
        have hm1 : (markW q j x.wr).set j true = markW q (j + 1) x.wr := markW_set hj1 (by rw [N0.out.wrl]; omega)
        have N4 := N3'.out.mark (k := j) R4.out (fun c ec => (hen'.out c ec).1) (by omega) true
        dsimp only at N4
        rw [hm1] at N4
        exact ⟨j + 1, rfl, by go_num, by omega, by omega, N4, S3'.out.oth ((Oth.refl a _).setCell _), V3'.out.oth ((Oth.refl a _).setCell _) (by have := h'.out.lt; have := G0.out; omega)⟩
    · have t3 : decide (j < E) = false := decide_eq_false hlt
      have t4 : decide (((j : Nat) : Int) < ((E : Nat) : Int)) = false := decide_eq_false (by omega)
      obtain rfl : j = E := by omega
      clear N3
      go_wp2_with (first
        | (go_at_call 172; refine (need_any _ _).mono ?_; rw [hnz.out]; rintro _ w9 ⟨rfl, rfl⟩)
        | (have _t := tk4; refine wpList_store_ans rfl (.tmp 6) (.tmp 63) rfl V3'.out rfl rfl 0 ((n : Nat) : Int) 0 0 none none 0 0 0 0 rfl ?_; intro w5 V5 O5; clear tk4))
      refine bodyPost_ret (cell_ret2 rfl rfl V5.out Tryz.underlying38 (by rw [Tryz.sizeA]; rfl)) rfl ?_
      have hxw : x.write o b = { x with data := splice x.data o b, wr := markW q j x.wr } := by
        unfold Nd.write
        rw [hn'.out, he'.out, E2.out, hqq'.out, hEE'.out]
      rw [hxw]
      refine ⟨rfl, _, N3'.out.blk (O5.out.block _ (by have := h'.out.lt; have := G0.out; omega)) (fun c ec => O5.out.block _ (by have h1 := (N2.out.data.hi ec).2; (have h2 : c = g := (Option.some.inj ec).symm); rw [h2]; exact R1.out)) (fun c ec => O5.out.block _ (by have := (h'.out.entB ec).2.1; have := G0.out; omega)), ?_⟩
      exact ⟨O5.out.os.trans S3'.out.os, O5.out.tape.trans S3'.out.tape, O5.out.output.trans S3'.out.output, by rw [O5.out.size]; exact S3'.out.size, fun k hk h1 h2 => (O5.out.block k (by have := G0.out; omega)).trans (S3'.out.block k hk h1 h2), S3'.out.row⟩
theorem write_some (o : Nat) (sp : Option Addr) (cap : Nat) (b : List Nat) (w : World) (h : NodeAt w B a i x v en) (hk3 : x.kind ≠ 3) (hB : B ≤ w.heap.size) (hap : v.ownBlock ≠ some a) (hen : ∀ b, en = .map (some b) → b ≠ a ∧ v.ownBlock ≠ some b)
    (hs : BAt w sp b) (hbo : Octs b) (hs1 : ∀ ad, sp = some ad → ad.block < w.heap.size ∧ ad.block ≠ a ∧ v.ownBlock ≠ some ad.block) (hm : o + b.length ≤ 20736) (h0 : 0 < b.length) :
    Calls Tryz.prog 140 #[.pointer (some ⟨a, 0, none⟩), .int .i64 ((o : Nat) : Int), .slice sp b.length cap] w (WritePost w B a i b.length (x.write o b) v en) := by
  by_cases hg : x.data.length < o + b.length
  · exact write_grow o _ sp cap b w h hk3 hB hap hen hs hbo hs1 rfl hm h0 hg
  · exact write_in o _ sp cap b w h hk3 hB hap hen hs hbo hs1 rfl hm h0 hg
end
end Go.Proofs.YtgcodlicbdaddaaGreatDoor
end

section
set_option linter.unusedVariables false
set_option linter.unusedSimpArgs false
namespace Go.Proofs.YtgcodlicbdaddaaGreatDoor
open Go.RowKit BigFrame
set_option maxRecDepth 100000

section
variable {w : World} {B b : Nat} {A : Ad} {s : Tr}
/-- bytes that came in, beside a tree -/
structure InB (w : World) (A : Ad) (sp : Option Addr) (l : List Nat) : Prop where
  bat : BAt w sp l
  oct : Octs l
  low : ∀ ad, sp = some ad → ad.block < w.heap.size ∧ A.own ad.block = none
theorem InB.below {w w' : World} {sp : Option Addr} {l : List Nat} (h : InB w A sp l) (hb : Below w.heap.size w w') : InB w' A sp l :=
  ⟨h.bat.on hb (Nat.le_refl _), h.oct, fun ad e => ⟨Nat.lt_of_lt_of_le (h.low ad e).1 hb.size, (h.low ad e).2⟩⟩
/-- what laying tells -/
def LayPost (B : Nat) (A : Ad) (s s' : Tr) (n c : Int) (w : World) (e : Ending) (w' : World) : Prop :=
  e = .returned (.tuple #[ansV 0 n 0 0 (.slice none 0 0) (.slice none 0 0), .int .i64 c]) ∧ ∃ A', TreeAt w' B A' s' ∧ TStep w A w' A'
theorem lay_tree (h : TreeAt w B A s) {i : Nat} {x : Nd} (hi : s.opt i = some x) (hk3 : x.kind ≠ 3) (o : Nat) (sp : Option Addr) (cap : Nat) (l : List Nat) (hl : l.length ≤ 1000000) (hs : InB w A sp l) (hB : B ≤ w.heap.size) :
    Calls Tryz.prog 140 #[.pointer (some ⟨A.nd i, 0, none⟩), .int .i64 ((o : Nat) : Int), .slice sp l.length cap] w
      (LayPost B A s (s.lay i ((o : Nat) : Int) l).2 (if (s.lay i ((o : Nat) : Int) l).1 = 0 then ((l.length : Nat) : Int) else 0) (s.lay i ((o : Nat) : Int) l).1 w) := by
  have hul : s.lay i ((o : Nat) : Int) l = if 20736 - (l.length : Int) < ((o : Nat) : Int) then (15, s) else if l = [] then (0, s) else (0, s.put i ((s.at i).write ((o : Nat) : Int).toNat l)) := rfl
  rw [Tr.at_of hi, Int.toNat_natCast] at hul
  by_cases h1 : 20736 < o + l.length
  · rw [if_pos (by omega)] at hul
    rw [hul]
    refine (write_not o sp cap l w (h.node i x hi) hl (.inl h1)).mono ?_
    rintro e w' ⟨rfl, hb⟩
    rw [if_pos h1]
    exact ⟨rfl, A, h.below hb, TStep.of_below A hb⟩
  · rw [if_neg (by omega)] at hul
    by_cases h2 : l = []
    · rw [if_pos h2] at hul
      rw [hul]
      refine (write_not o sp cap l w (h.node i x hi) hl (.inr h2)).mono ?_
      rintro e w' ⟨rfl, hb⟩
      rw [if_neg h1]
      subst h2
      exact ⟨rfl, A, h.below hb, TStep.of_below A hb⟩
    · rw [if_neg h2] at hul
      rw [hul]
      have h0 : 0 < l.length := List.length_pos_iff.2 h2
      refine (write_some o sp cap l w (h.node i x hi) hk3 hB (h.apart_v hi) (fun b e => h.apart_e hi e) hs.bat hs.oct (fun ad e => ?_) (by omega) h0).mono ?_
      · obtain ⟨h3, h4⟩ := hs.low ad e
        refine ⟨h3, fun e2 => ?_, fun e2 => ?_⟩
        · rw [e2, h.rn i x hi] at h4; cases h4
        · rw [h.rd i x hi _ e2] at h4; cases h4
      · rintro e w' ⟨rfl, v', hN, hS⟩
        obtain ⟨hT, hS2⟩ := h.node_data hi hS hN
        exact ⟨rfl, _, hT, hS2⟩
end
end Go.Proofs.YtgcodlicbdaddaaGreatDoor
end
