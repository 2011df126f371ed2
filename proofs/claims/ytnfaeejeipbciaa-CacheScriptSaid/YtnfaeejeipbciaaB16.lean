/-
  The document's own cache: Put.
  The document's own cache: Put of what is held.
  The document's own cache: what is refused; Clean.
  A cache: those held that are asked for.
-/
import Derived.Test.YtnfaeejeipbciaaB15
import Derived.Test.YtnfaeejeipbciaaB13
import Derived.Test.YtnfaeejeipbciaaB12
import Derived.Deep.LoopGhost

section
set_option linter.unusedVariables false
set_option linter.unusedSimpArgs false
namespace Go.Proofs.Ytnfaeejeipbciaa
open Go.RowKit BigFrame Go.Lib
set_option maxRecDepth 100000

section
variable {w w' wr : World} {B : Nat} {M M' : List Nat} {c : RC} {L : List Rr}
set_option maxHeartbeats 4000000 in
theorem rput_miss (h : RcAt w B M c) {p : Nat} (hp : p < 2048) (hno : ∀ r ∈ c.L, r.pos ≠ p) {l : List Nat} {bb bo bcap n : Nat} {gF : Option Addr} {cF : Nat} (hl : l.length = 128) (hb : BAt w (some ⟨bb, bo, none⟩) l) (hF : w.cell? ⟨c.G, 0, none⟩ = some (.slice gF n cF)) (hGlt : c.G < w.heap.size) (hpn : p < n) (hm : c.most ≤ 100000) (hBw : B ≤ w.heap.size) (hM : ∀ k ∈ M, k < w.heap.size) :
    Calls Try.prog 33 #[pv c.W, .int .i64 ((p : Nat) : Int), .slice (some ⟨bb, bo, none⟩) 128 bcap] w fun e w' => e = .returned (.int .i64 0) ∧ ∃ v, LaidR c B M (trimR c.most (newR ⟨p, l, true, false, v⟩ c.L)) w w' := by
  have hat := Lib.hid (fun w' (hb' : Below w.heap.size w w') => rat_none (h.read hb') (a := ((p : Nat) : Int)) (by unfold I64; omega) (fun r hr e => hno r hr (by omega)))
  have hlen := h.few
  have c0 : w.cell? ⟨c.W, 0, none⟩ = some (pv c.G) := h.hdr.cell rfl
  have hlw := Lib.hid h.lt
  obtain ⟨m, hmm⟩ : ∃ m, c.most = m := ⟨_, rfl⟩
  rw [hmm] at hm
  have hh := Lib.hid h
  have hmm' := Lib.hid hmm
  have hb' := Lib.hid hb
  have t1 : decide ((p : Int) < 0) = false := decide_eq_false (by omega)
  have t2 : decide ((n : Int) ≤ (p : Int)) = false := decide_eq_false (by omega)
  clear h hmm hb hno
  unfold pv at hat c0 ⊢
  go_enter Try.func33, Try.ntmps33
  go_upto_region 4 with (at_builtin; refine wpList_append_bytes rfl (.const (.slice none 0 0)) (.tmp 29) rfl w.heap.size (.slice none 0 0) [] rfl (OwnB.nil _ _) (some ⟨bb, bo, none⟩) 128 bcap l rfl hl hb'.out (by intro h; cases h) (by simp) (Nat.le_refl _) ?_; intro v2 w2 ho2 hg2 hb2; have o2 := Lib.hid (show OwnB w2 w.heap.size v2 l by simpa using ho2.out); obtain ⟨gv, cv, hv2, hcv, hge, hlt⟩ := OwnB.at o2.out hl (by omega); subst hv2; have b2 := Lib.hid hb2; clear ho2 hg2 hb2)
  have bA := Lib.hid (b2.out.alloc b2.out.size (Obj.cells #[.int .i64 (p : Int), .slice (some ⟨gv, 0, none⟩) 128 cv, .bool true, .bool false] 88))
  have hat2 := Lib.hid (hat.out _ bA.out)
  clear hat t1 t2 c0 hF
  go_upto_region 7 with (go_at_call 47; refine hat2.out.mono ?_; rintro e w1 ⟨rfl, rfl⟩)
  obtain ⟨x, hx⟩ : ∃ x : Rr, x = ⟨p, l, true, false, .slice (some ⟨gv, 0, none⟩) 128 cv⟩ := ⟨_, rfl⟩
  have hxc := Lib.hid (show x.cells.toArray = #[.int .i64 (p : Int), .slice (some ⟨gv, 0, none⟩) 128 cv, .bool true, .bool false] by rw [hx]; rfl)
  have hs2 := b2.out.size
  have BB := Lib.hid (b2.out.alloc b2.out.size (Obj.cells #[.int .i64 (p : Int), .slice (some ⟨gv, 0, none⟩) 128 cv, .bool true, .bool false] 88))
  have n3 := Lib.hid (Vw.alloc w2 [.int .i64 (p : Int), .slice (some ⟨gv, 0, none⟩) 128 cv, .bool true, .bool false] 88)
  have o3 := Lib.hid (show OwnB (w2.alloc (Obj.cells #[.int .i64 (p : Int), .slice (some ⟨gv, 0, none⟩) 128 cv, .bool true, .bool false] 88)) w.heap.size (.slice (some ⟨gv, 0, none⟩) 128 cv) l from OwnB.block o2.out fun k hk => old_alloc w2 _ k (by cases hk; exact hlt))
  have sB : (w2.alloc (Obj.cells #[.int .i64 (p : Int), .slice (some ⟨gv, 0, none⟩) 128 cv, .bool true, .bool false] 88)).heap.size = w2.heap.size + 1 := size_alloc _ _
  obtain ⟨wB, hwB⟩ : ∃ wB, w2.alloc (Obj.cells #[.int .i64 (p : Int), .slice (some ⟨gv, 0, none⟩) 128 cv, .bool true, .bool false] 88) = wB := ⟨_, rfl⟩
  change Hid (Vw (w2.alloc (Obj.cells #[.int .i64 (p : Int), .slice (some ⟨gv, 0, none⟩) 128 cv, .bool true, .bool false] 88)) _ _ _) at n3
  rw [hwB] at BB n3 o3 sB ⊢
  have RB := Lib.hid (hh.out.read BB.out)
  have KB := Lib.hid (show Kept wB (c.foot ++ M) c.W x.v x.b by
    rw [hx]
    obtain ⟨a', cap', e', hb', _⟩ := o3.out.slice
    simp only [Value.slice.injEq] at e'
    obtain ⟨rfl, _, rfl⟩ := e'
    refine ⟨gv, cv, rfl, hcv, hl, hb', ⟨fun e => ?_, by omega⟩, fun e => ?_⟩
    · rcases List.mem_append.1 e with e | e
      · have := hlw.out _ e; omega
      · have := hM _ e; omega
    · have := hlw.out _ (RC.foot_w c); omega)
  have b0 : wB.cell? ⟨w2.heap.size, 0, none⟩ = some (.int .i64 (p : Int)) := n3.out.cell rfl
  have b1 : wB.cell? ⟨w2.heap.size, 1, none⟩ = some (.slice (some ⟨gv, 0, none⟩) 128 cv) := n3.out.cell rfl
  have b2x : wB.cell? ⟨w2.heap.size, 2, none⟩ = some (.bool true) := n3.out.cell rfl
  have b3 : wB.cell? ⟨w2.heap.size, 3, none⟩ = some (.bool false) := n3.out.cell rfl
  have hx' := Lib.hid hx
  clear hwB hat2 hx bA o2 n3 o3
  have hnw := Lib.hid (newest_r RB.out x KB.out (by rw [hx'.out]; exact hp) (Nat.le_trans hBw BB.out.size) (fun k hk => Nat.lt_of_lt_of_le (hM k hk) BB.out.size))
  rw [hxc.out] at hnw
  obtain ⟨L1, hL1⟩ : ∃ L1, newR x c.L = L1 := ⟨_, rfl⟩
  rw [hL1] at hnw
  have hL1' := Lib.hid hL1
  unfold pv at hnw
  clear hL1
  go_upto_region 8 with (go_at_call 60; refine hnw.out.mono ?_; rintro e w4 ⟨rfl, v4, hR4, hS4⟩; have R4 := Lib.hid hR4; have S4 := Lib.hid hS4; clear hR4 hS4)
  have d2 : w4.cell? ⟨c.W, 2, none⟩ = some v4 := R4.out.hdr.cell rfl
  have d1 : w4.cell? ⟨c.W, 1, none⟩ = some (.int .i64 ((c.most : Nat) : Int)) := R4.out.hdr.cell rfl
  rw [hmm'.out] at d1
  have hn2 : L1.length ≤ 2048 := R4.out.few
  obtain ⟨n2, hn2e⟩ : ∃ n2, L1.length = n2 := ⟨_, rfl⟩
  obtain ⟨ap2, cap2, hv4⟩ : ∃ ap cap, v4 = .slice ap n2 cap := by
    rw [← hn2e]
    rcases R4.out.form with ⟨e, e0⟩ | ⟨g, cap, e, _⟩
    · have e0' : L1 = [] := e0
      exact ⟨none, 0, by rw [e0']; exact e⟩
    · exact ⟨_, _, e⟩
  have hv4' := Lib.hid hv4
  rw [hv4] at d2
  rw [hn2e] at hn2
  have hn2' := Lib.hid hn2e
  have hsz2 : wB.heap.size ≤ w4.heap.size := S4.out.size
  have hdr := Lib.hid (drop_r (R4.out.read (below_drewN w4 1)) ((n2 : Int) - (m : Int)) (by omega) (by have := BB.out.size; show B ≤ w4.heap.size; omega) (fun k hk => by have := hM k hk; have := BB.out.size; show k < w4.heap.size; omega))
  rw [show ((n2 : Int) - (m : Int)).toNat = n2 - m by omega] at hdr
  unfold pv at hdr
  obtain ⟨L2, hL2⟩ : ∃ L2, dropR L1 (n2 - m) = L2 := ⟨_, rfl⟩
  have hL2' := Lib.hid hL2
  change Hid (Calls _ _ _ _ fun e w' => e = .returned (.int .i64 ((goneR L1 (n2 - m) : Nat) : Int)) ∧ LaidR (c.lay v4 L1) B M (dropR L1 (n2 - m)) (w4.drewN 1) w') at hdr
  rw [hL2] at hdr
  clear hv4 hn2e hL2 b0 b1 b2x b3 hnw
  go_still_tail 11, (by kernel_rfl)
  change wpList _ _ _ _ _ (w4.drewN 1)
  go_wp2_with (go_at_call 36; refine hdr.out.mono ?_; rintro e w3 ⟨rfl, v3, hR3, hS3⟩; have R3 := Lib.hid hR3; have S3 := Lib.hid hS3; clear hR3 hS3)
  go_ret
  have hL : L2 = trimR c.most (newR x c.L) := by unfold trimR; rw [hL1'.out, hn2'.out, hmm'.out, hL2'.out]
  refine ⟨rfl, .slice (some ⟨gv, 0, none⟩) 128 cv, ?_⟩
  rw [← hx'.out, ← hL]
  have hS23 : Step w4 (c.lay v4 L1).foot w3 (c.lay v3 L2).foot := (Step.of_below (below_drewN w4 1) _).trans S3.out
  exact ⟨v3, R3.out, (Step.of_below BB.out c.foot).trans (S4.out.trans hS23)⟩
end
end Go.Proofs.Ytnfaeejeipbciaa
end

section
set_option linter.unusedVariables false
set_option linter.unusedSimpArgs false
namespace Go.Proofs.Ytnfaeejeipbciaa
open Go.RowKit BigFrame Go.Lib
set_option maxRecDepth 100000

section
variable {w w' wr : World} {B : Nat} {M M' : List Nat} {c : RC} {L : List Rr}
set_option maxHeartbeats 4000000 in
theorem rput_hit (h : RcAt w B M c) {k : Nat} {r : Rr} (hr : c.L[k]? = some r) {l : List Nat} {bb bo bcap n : Nat} {gF : Option Addr} {cF : Nat} (hl : l.length = 128) (hb : BAt w (some ⟨bb, bo, none⟩) l) (hF : w.cell? ⟨c.G, 0, none⟩ = some (.slice gF n cF)) (hGlt : c.G < w.heap.size) (hpn : r.pos < n) (hm : c.most ≤ 100000) (hBw : B ≤ w.heap.size) (hM : ∀ k ∈ M, k < w.heap.size) :
    Calls Try.prog 33 #[pv c.W, .int .i64 ((r.pos : Nat) : Int), .slice (some ⟨bb, bo, none⟩) 128 bcap] w fun e w' => e = .returned (.int .i64 0) ∧ ∃ v, LaidR c B M (trimR c.most (newR ⟨r.pos, l, true, r.pin, v⟩ c.L)) w w' := by
  obtain ⟨p, hpe⟩ : ∃ p, r.pos = p := ⟨_, rfl⟩
  have hp : p < 2048 := hpe ▸ h.low r (List.mem_of_getElem? hr)
  have hat := Lib.hid (fun w' (hb' : Below w.heap.size w w') => rat_hit (h.read hb') hr)
  have hgt := Lib.hid (fun w' (hb' : Below w.heap.size w w') => (h.read hb').get hr)
  obtain ⟨pn, hpin⟩ : ∃ pn, r.pin = pn := ⟨_, rfl⟩
  rw [hpe] at hat hpn ⊢
  rw [hpin] at hgt ⊢
  have hpe' := Lib.hid hpe
  have hlen := h.few
  have c0 : w.cell? ⟨c.W, 0, none⟩ = some (pv c.G) := h.hdr.cell rfl
  have hlw := Lib.hid h.lt
  obtain ⟨m, hmm⟩ : ∃ m, c.most = m := ⟨_, rfl⟩
  rw [hmm] at hm
  have hh := Lib.hid h
  have hmm' := Lib.hid hmm
  have hb' := Lib.hid hb
  have t1 : decide ((p : Int) < 0) = false := decide_eq_false (by omega)
  have t2 : decide ((n : Int) ≤ (p : Int)) = false := decide_eq_false (by omega)
  clear h hmm hb hr hpe
  unfold pv at hat c0 ⊢
  go_enter Try.func33, Try.ntmps33
  go_upto_region 4 with (at_builtin; refine wpList_append_bytes rfl (.const (.slice none 0 0)) (.tmp 29) rfl w.heap.size (.slice none 0 0) [] rfl (OwnB.nil _ _) (some ⟨bb, bo, none⟩) 128 bcap l rfl hl hb'.out (by intro h; cases h) (by simp) (Nat.le_refl _) ?_; intro v2 w2 ho2 hg2 hb2; have o2 := Lib.hid (show OwnB w2 w.heap.size v2 l by simpa using ho2.out); obtain ⟨gv, cv, hv2, hcv, hge, hlt⟩ := OwnB.at o2.out hl (by omega); subst hv2; have b2 := Lib.hid hb2; clear ho2 hg2 hb2)
  have bA := Lib.hid (b2.out.alloc b2.out.size (Obj.cells #[.int .i64 (p : Int), .slice (some ⟨gv, 0, none⟩) 128 cv, .bool true, .bool false] 88))
  have hat2 := Lib.hid (hat.out _ bA.out)
  clear hat t1 t2 c0 hF
  obtain ⟨g, cap, hlv, hcap, hk, r0, r1, r2, r3⟩ := hgt.out _ bA.out
  obtain ⟨nL, hnL⟩ : ∃ nL, c.L.length = nL := ⟨_, rfl⟩
  have c2 : (w2.alloc (Obj.cells #[.int .i64 (p : Int), .slice (some ⟨gv, 0, none⟩) 128 cv, .bool true, .bool false] 88)).cell? ⟨c.W, 2, none⟩ = some c.lv := (hh.out.read bA.out).hdr.cell rfl
  rw [hlv, hnL] at c2
  rw [hnL] at hcap hk hlen
  clear hgt hlv hnL r0 r1 r2
  go_upto_region 7 with (go_at_call 47; refine hat2.out.mono ?_; rintro e w1 ⟨rfl, rfl⟩)
  clear r3 c2
  obtain ⟨x, hx⟩ : ∃ x : Rr, x = ⟨p, l, true, pn, .slice (some ⟨gv, 0, none⟩) 128 cv⟩ := ⟨_, rfl⟩
  have hxc := Lib.hid (show x.cells.toArray = #[.int .i64 (p : Int), .slice (some ⟨gv, 0, none⟩) 128 cv, .bool true, .bool pn] by rw [hx]; rfl)
  have hs2 := b2.out.size
  have BB := Lib.hid (b2.out.alloc b2.out.size (Obj.cells #[.int .i64 (p : Int), .slice (some ⟨gv, 0, none⟩) 128 cv, .bool true, .bool pn] 88))
  have n3 := Lib.hid (Vw.alloc w2 [.int .i64 (p : Int), .slice (some ⟨gv, 0, none⟩) 128 cv, .bool true, .bool pn] 88)
  have o3 := Lib.hid (show OwnB (w2.alloc (Obj.cells #[.int .i64 (p : Int), .slice (some ⟨gv, 0, none⟩) 128 cv, .bool true, .bool pn] 88)) w.heap.size (.slice (some ⟨gv, 0, none⟩) 128 cv) l from OwnB.block o2.out fun k hk => old_alloc w2 _ k (by cases hk; exact hlt))
  have sB : (w2.alloc (Obj.cells #[.int .i64 (p : Int), .slice (some ⟨gv, 0, none⟩) 128 cv, .bool true, .bool pn] 88)).heap.size = w2.heap.size + 1 := size_alloc _ _
  obtain ⟨wB, hwB⟩ : ∃ wB, w2.alloc (Obj.cells #[.int .i64 (p : Int), .slice (some ⟨gv, 0, none⟩) 128 cv, .bool true, .bool pn] 88) = wB := ⟨_, rfl⟩
  change Hid (Vw (w2.alloc (Obj.cells #[.int .i64 (p : Int), .slice (some ⟨gv, 0, none⟩) 128 cv, .bool true, .bool pn] 88)) _ _ _) at n3
  rw [hwB] at BB n3 o3 sB ⊢
  have RB := Lib.hid (hh.out.read BB.out)
  have KB := Lib.hid (show Kept wB (c.foot ++ M) c.W x.v x.b by
    rw [hx]
    obtain ⟨a', cap', e', hb', _⟩ := o3.out.slice
    simp only [Value.slice.injEq] at e'
    obtain ⟨rfl, _, rfl⟩ := e'
    refine ⟨gv, cv, rfl, hcv, hl, hb', ⟨fun e => ?_, by omega⟩, fun e => ?_⟩
    · rcases List.mem_append.1 e with e | e
      · have := hlw.out _ e; omega
      · have := hM _ e; omega
    · have := hlw.out _ (RC.foot_w c); omega)
  have b0 : wB.cell? ⟨w2.heap.size, 0, none⟩ = some (.int .i64 (p : Int)) := n3.out.cell rfl
  have b1 : wB.cell? ⟨w2.heap.size, 1, none⟩ = some (.slice (some ⟨gv, 0, none⟩) 128 cv) := n3.out.cell rfl
  have b2x : wB.cell? ⟨w2.heap.size, 2, none⟩ = some (.bool true) := n3.out.cell rfl
  have b3 : wB.cell? ⟨w2.heap.size, 3, none⟩ = some (.bool pn) := n3.out.cell rfl
  have hx' := Lib.hid hx
  clear hwB hat2 hx bA o2 n3 o3
  have hnw := Lib.hid (newest_r RB.out x KB.out (by rw [hx'.out]; exact hp) (Nat.le_trans hBw BB.out.size) (fun k hk => Nat.lt_of_lt_of_le (hM k hk) BB.out.size))
  rw [hxc.out] at hnw
  obtain ⟨L1, hL1⟩ : ∃ L1, newR x c.L = L1 := ⟨_, rfl⟩
  rw [hL1] at hnw
  have hL1' := Lib.hid hL1
  unfold pv at hnw
  clear hL1
  go_upto_region 8 with (go_at_call 60; refine hnw.out.mono ?_; rintro e w4 ⟨rfl, v4, hR4, hS4⟩; have R4 := Lib.hid hR4; have S4 := Lib.hid hS4; clear hR4 hS4)
  have d2 : w4.cell? ⟨c.W, 2, none⟩ = some v4 := R4.out.hdr.cell rfl
  have d1 : w4.cell? ⟨c.W, 1, none⟩ = some (.int .i64 ((c.most : Nat) : Int)) := R4.out.hdr.cell rfl
  rw [hmm'.out] at d1
  have hn2 : L1.length ≤ 2048 := R4.out.few
  obtain ⟨n2, hn2e⟩ : ∃ n2, L1.length = n2 := ⟨_, rfl⟩
  obtain ⟨ap2, cap2, hv4⟩ : ∃ ap cap, v4 = .slice ap n2 cap := by
    rw [← hn2e]
    rcases R4.out.form with ⟨e, e0⟩ | ⟨g, cap, e, _⟩
    · have e0' : L1 = [] := e0
      exact ⟨none, 0, by rw [e0']; exact e⟩
    · exact ⟨_, _, e⟩
  have hv4' := Lib.hid hv4
  rw [hv4] at d2
  rw [hn2e] at hn2
  have hn2' := Lib.hid hn2e
  have hsz2 : wB.heap.size ≤ w4.heap.size := S4.out.size
  have hdr := Lib.hid (drop_r (R4.out.read (below_drewN w4 1)) ((n2 : Int) - (m : Int)) (by omega) (by have := BB.out.size; show B ≤ w4.heap.size; omega) (fun k hk => by have := hM k hk; have := BB.out.size; show k < w4.heap.size; omega))
  rw [show ((n2 : Int) - (m : Int)).toNat = n2 - m by omega] at hdr
  unfold pv at hdr
  obtain ⟨L2, hL2⟩ : ∃ L2, dropR L1 (n2 - m) = L2 := ⟨_, rfl⟩
  have hL2' := Lib.hid hL2
  change Hid (Calls _ _ _ _ fun e w' => e = .returned (.int .i64 ((goneR L1 (n2 - m) : Nat) : Int)) ∧ LaidR (c.lay v4 L1) B M (dropR L1 (n2 - m)) (w4.drewN 1) w') at hdr
  rw [hL2] at hdr
  clear hv4 hn2e hL2 b0 b1 b2x b3 hnw
  go_still_tail 11, (by kernel_rfl)
  change wpList _ _ _ _ _ (w4.drewN 1)
  go_wp2_with (go_at_call 36; refine hdr.out.mono ?_; rintro e w3 ⟨rfl, v3, hR3, hS3⟩; have R3 := Lib.hid hR3; have S3 := Lib.hid hS3; clear hR3 hS3)
  go_ret
  have hL : L2 = trimR c.most (newR x c.L) := by unfold trimR; rw [hL1'.out, hn2'.out, hmm'.out, hL2'.out]
  refine ⟨rfl, .slice (some ⟨gv, 0, none⟩) 128 cv, ?_⟩
  rw [← hx'.out, ← hL]
  have hS23 : Step w4 (c.lay v4 L1).foot w3 (c.lay v3 L2).foot := (Step.of_below (below_drewN w4 1) _).trans S3.out
  exact ⟨v3, R3.out, (Step.of_below BB.out c.foot).trans (S4.out.trans hS23)⟩
end
end Go.Proofs.Ytnfaeejeipbciaa
end

section
set_option linter.unusedVariables false
set_option linter.unusedSimpArgs false
namespace Go.Proofs.Ytnfaeejeipbciaa
open Go.RowKit BigFrame Go.Lib
set_option maxRecDepth 100000

section
variable {w w' wr : World} {B : Nat} {M M' : List Nat} {c : RC} {L : List Rr}
theorem rput_bad (h : RcAt w B M c) {a : Int} {bp : Option Addr} {bn bcap n : Nat} {gF : Option Addr} {cF : Nat} (hF : w.cell? ⟨c.G, 0, none⟩ = some (.slice gF n cF)) (hbad : a < 0 ∨ (n : Int) ≤ a) :
    Calls Try.prog 33 #[pv c.W, .int .i64 a, .slice bp bn bcap] w fun e w' => e = .returned (.int .i64 2) ∧ w = w' := by
  have c0 : w.cell? ⟨c.W, 0, none⟩ = some (pv c.G) := h.hdr.cell rfl
  clear h
  unfold pv at c0 ⊢
  by_cases h0 : a < 0
  · have t1 : decide (a < 0) = true := decide_eq_true h0
    go_enter Try.func33, Try.ntmps33
    go_wp2_with fail
    go_ret
    exact ⟨rfl, rfl⟩
  · have t1 : decide (a < 0) = false := decide_eq_false h0
    have t2 : decide ((n : Int) ≤ a) = true := decide_eq_true (by omega)
    go_enter Try.func33, Try.ntmps33
    go_wp2_with fail
    go_ret
    exact ⟨rfl, rfl⟩
theorem rpin_none (h : RcAt w B M c) {a : Int} (ha : I64 a) (hno : ∀ r ∈ c.L, (r.pos : Int) ≠ a) (b : Bool) :
    Calls Try.prog 34 #[pv c.W, .int .i64 a, .bool b] w fun e w' => e = .returned (.int .i64 5) ∧ w = w' := by
  have hat := Lib.hid (rat_none h ha hno)
  clear h
  unfold pv at hat ⊢
  go_enter Try.func34, Try.ntmps34
  go_wp2_with (go_at_call 47; refine hat.out.mono ?_; rintro e w1 ⟨rfl, rfl⟩)
  go_ret
  exact ⟨rfl, rfl⟩
theorem rclean_none (h : RcAt w B M c) {a : Int} (ha : I64 a) (hno : ∀ r ∈ c.L, (r.pos : Int) ≠ a) :
    Calls Try.prog 35 #[pv c.W, .int .i64 a] w fun e w' => e = .returned (.int .i64 5) ∧ w = w' := by
  have hat := Lib.hid (rat_none h ha hno)
  clear h
  unfold pv at hat ⊢
  go_enter Try.func35, Try.ntmps35
  go_wp2_with (go_at_call 47; refine hat.out.mono ?_; rintro e w1 ⟨rfl, rfl⟩)
  go_ret
  exact ⟨rfl, rfl⟩
set_option maxHeartbeats 4000000 in
theorem rclean_not (h : RcAt w B M c) {k : Nat} {r : Rr} (hr : c.L[k]? = some r) (hd : r.dirty = false) (hm : c.most ≤ 100000) (hBw : B ≤ w.heap.size) (hM : ∀ k ∈ M, k < w.heap.size) :
    Calls Try.prog 35 #[pv c.W, .int .i64 ((r.pos : Nat) : Int)] w fun e w' => e = .returned (.int .i64 0) ∧ LaidR c B M (trimR c.most c.L) w w' := by
  have hat := Lib.hid (rat_hit h hr)
  have hlen := h.few
  obtain ⟨g, cap, hlv, hcap, hk, r0, r1, r2, r3⟩ := h.get hr
  have c2 : w.cell? ⟨c.W, 2, none⟩ = some c.lv := h.hdr.cell rfl
  have c1 : w.cell? ⟨c.W, 1, none⟩ = some (.int .i64 ((c.most : Nat) : Int)) := h.hdr.cell rfl
  have c0 : w.cell? ⟨c.W, 0, none⟩ = some (pv c.G) := h.hdr.cell rfl
  obtain ⟨nL, hnL⟩ : ∃ nL, c.L.length = nL := ⟨_, rfl⟩
  obtain ⟨m, hmm⟩ : ∃ m, c.most = m := ⟨_, rfl⟩
  rw [hlv, hnL] at c2
  rw [hnL] at hlen hk hcap
  rw [hmm] at c1 hm
  rw [hd] at r2
  have hdr := Lib.hid (drop_r (h.read (below_drewN w 1)) ((nL : Int) - (m : Int)) (by omega) hBw hM)
  rw [show ((nL : Int) - (m : Int)).toNat = nL - m by omega] at hdr
  have hnL' := Lib.hid hnL
  have hmm' := Lib.hid hmm
  clear h hr hlv hnL hmm hd
  unfold pv at hat hdr ⊢
  go_enter Try.func35, Try.ntmps35
  go_upto_region 9 with (go_at_call 47; refine hat.out.mono ?_; rintro e w1 ⟨rfl, rfl⟩)
  clear r0 r1 r2 r3
  go_still_tail 11, (by kernel_rfl)
  change wpList _ _ _ _ _ (w.drewN 1)
  go_wp2_with (go_at_call 36; refine hdr.out.mono ?_; rintro e w2 ⟨rfl, v2, hL2, hS2⟩; have L2 := Lib.hid hL2; have S2 := Lib.hid hS2; clear hL2 hS2)
  go_ret
  refine ⟨rfl, v2, ?_, ?_⟩
  · unfold trimR; rw [hnL'.out, hmm'.out]; exact L2.out
  · unfold trimR; rw [hnL'.out, hmm'.out]; exact (Step.of_below (below_drewN w 1) _).trans S2.out
set_option maxHeartbeats 4000000 in
/-- its disk refuses -/
theorem rclean_bad (h : RcAt w B M c) {k : Nat} {r : Rr} (hr : c.L[k]? = some r) (hd : r.dirty = true) {z : Int} (hz : z ≠ 0) {Q : World → Prop} (hwr : Calls Try.prog 61 #[pv c.G, .int .i64 ((r.pos : Nat) : Int), r.v] (w.drewN 1) fun e w' => e = .returned (.int .i64 z) ∧ Q w') :
    Calls Try.prog 35 #[pv c.W, .int .i64 ((r.pos : Nat) : Int)] w fun e w' => e = .returned (.int .i64 z) ∧ Q w' := by
  have hat := Lib.hid (rat_hit h hr)
  have hlen := h.few
  obtain ⟨g, cap, hlv, hcap, hk, r0, r1, r2, r3⟩ := h.get hr
  have c2 : w.cell? ⟨c.W, 2, none⟩ = some c.lv := h.hdr.cell rfl
  have c1 : w.cell? ⟨c.W, 1, none⟩ = some (.int .i64 ((c.most : Nat) : Int)) := h.hdr.cell rfl
  have c0 : w.cell? ⟨c.W, 0, none⟩ = some (pv c.G) := h.hdr.cell rfl
  obtain ⟨nL, hnL⟩ : ∃ nL, c.L.length = nL := ⟨_, rfl⟩
  obtain ⟨m, hmm⟩ : ∃ m, c.most = m := ⟨_, rfl⟩
  rw [hlv, hnL] at c2
  rw [hnL] at hlen hk hcap
  rw [hmm] at c1
  rw [hd] at r2
  have t1 : (z != 0) = true := by simpa using hz
  have hwr' := Lib.hid hwr
  obtain ⟨gv, cv, hv, _⟩ := h.rows r (List.mem_of_getElem? hr)
  rw [hv] at hwr' r1
  clear h hr hlv hnL hmm hd hwr hz hv
  unfold pv at hat hwr' c0 ⊢
  go_enter Try.func35, Try.ntmps35
  go_upto_region 5 with (go_at_call 47; refine hat.out.mono ?_; rintro e w1 ⟨rfl, rfl⟩)
  go_still_tail 13, (by kernel_rfl)
  change wpList _ _ _ _ _ (w.drewN 1)
  go_wp2_with (go_at_call 61; refine hwr'.out.mono ?_; rintro e w2 ⟨rfl, hQ⟩; have Q2 := Lib.hid hQ; clear hQ)
  go_ret
  exact ⟨rfl, Q2.out⟩
set_option maxHeartbeats 4000000 in
/-- its disk takes it -/
theorem rclean_go (h : RcAt w B M c) {k : Nat} {r : Rr} (hr : c.L[k]? = some r) (hd : r.dirty = true) (hm : c.most ≤ 100000) (hBw : B ≤ w.heap.size) {Q : World → List Nat → Prop} (hwr : Calls Try.prog 61 #[pv c.G, .int .i64 ((r.pos : Nat) : Int), r.v] (w.drewN 1) fun e w' => e = .returned (.int .i64 0) ∧ ∃ M', Q w' M' ∧ Step (w.drewN 1) M w' M' ∧ ∀ k ∈ M', k < w'.heap.size) :
    Calls Try.prog 35 #[pv c.W, .int .i64 ((r.pos : Nat) : Int)] w fun e w' => e = .returned (.int .i64 0) ∧ ∃ w1 M', Q w1 M' ∧ Step w M w1 M' ∧ LaidR c B M' (trimR c.most (c.L.set k { r with dirty := false })) w1 w' := by
  have hat := Lib.hid (rat_hit h hr)
  have hlen := h.few
  obtain ⟨g, cap, hlv, hcap, hk, r0, r1, r2, r3⟩ := h.get hr
  have c2 : w.cell? ⟨c.W, 2, none⟩ = some c.lv := h.hdr.cell rfl
  have c1 : w.cell? ⟨c.W, 1, none⟩ = some (.int .i64 ((c.most : Nat) : Int)) := h.hdr.cell rfl
  have c0 : w.cell? ⟨c.W, 0, none⟩ = some (pv c.G) := h.hdr.cell rfl
  obtain ⟨nL, hnL⟩ : ∃ nL, c.L.length = nL := ⟨_, rfl⟩
  obtain ⟨m, hmm⟩ : ∃ m, c.most = m := ⟨_, rfl⟩
  rw [hlv, hnL] at c2
  rw [hnL] at hlen hk hcap
  rw [hmm] at c1 hm
  rw [hd] at r2
  obtain ⟨gv, cv, hv, _⟩ := h.rows r (List.mem_of_getElem? hr)
  have hwr' := Lib.hid hwr
  rw [hv] at hwr' r1
  have hh := Lib.hid h
  have hr' := Lib.hid hr
  have hlv' := Lib.hid hlv
  have hnL' := Lib.hid hnL
  have hmm' := Lib.hid hmm
  clear h hr hlv hnL hmm hd hwr hv c1
  unfold pv at hat hwr' c0 ⊢
  go_enter Try.func35, Try.ntmps35
  go_upto_region 5 with (go_at_call 47; refine hat.out.mono ?_; rintro e w1 ⟨rfl, rfl⟩)
  go_still_tail 13, (by kernel_rfl)
  change wpList _ _ _ _ _ (w.drewN 1)
  clear hat
  go_upto_region 9 with (go_at_call 61; refine hwr'.out.mono ?_; rintro e w2 ⟨rfl, M2, hQ, hS, hM2⟩; have Q2 := Lib.hid hQ; have S2 := Lib.hid ((Step.of_below (below_drewN w 1) M).trans hS); have MM := Lib.hid hM2; have R2 := Lib.hid (hh.out.other S2.out); have e2 : w2.cell? ⟨c.W, 2, none⟩ = some c.lv := R2.out.hdr.cell rfl; rw [hlv'.out, hnL'.out] at e2; have q2 := R2.out.range hr'.out hlv'.out 2 _ rfl; have f2 := R2.out.frozenL hlv'.out (o := k * 4 + 2); clear hQ hS hM2 r0 r1 r2 r3 c0 c2 hwr')
  obtain ⟨hP, hS⟩ := R2.out.put (r' := { r with dirty := false }) (j := 2) (u := .bool false) hr'.out hlv'.out (by omega) rfl rfl rfl rfl
  have P := Lib.hid hP
  have S3 := Lib.hid hS
  obtain ⟨w3, hw3⟩ : ∃ w3, w2.setCell ⟨g, k * 4 + 2, none⟩ (.bool false) = w3 := ⟨_, rfl⟩
  rw [hw3] at P S3 ⊢
  have d2 : w3.cell? ⟨c.W, 2, none⟩ = some c.lv := P.out.hdr.cell rfl
  have d1 : w3.cell? ⟨c.W, 1, none⟩ = some (.int .i64 ((c.most : Nat) : Int)) := P.out.hdr.cell rfl
  rw [hlv'.out, hnL'.out] at d2
  rw [hmm'.out] at d1
  have hdr := Lib.hid (drop_r (P.out.read (below_drewN w3 1)) ((nL : Int) - (m : Int)) (by omega) (Nat.le_trans hBw (Nat.le_trans S2.out.size S3.out.size)) (fun k hk => Nat.lt_of_lt_of_le (MM.out k hk) S3.out.size))
  rw [show ((nL : Int) - (m : Int)).toNat = nL - m by omega] at hdr
  unfold pv at hdr
  clear hP hS hw3 e2 q2 f2
  go_still_tail 11, (by kernel_rfl)
  change wpList _ _ _ _ _ (w3.drewN 1)
  go_wp2_with (go_at_call 36; refine hdr.out.mono ?_; rintro e w4 ⟨rfl, v4, hL4, hS4⟩; have L4 := Lib.hid hL4; have S4 := Lib.hid hS4; clear hL4 hS4)
  go_ret
  refine ⟨rfl, w2, M2, Q2.out, S2.out, v4, ?_, ?_⟩
  · unfold trimR; rw [List.length_set, hnL'.out, hmm'.out]; exact L4.out
  · unfold trimR; rw [List.length_set, hnL'.out, hmm'.out]; exact (S3.out.trans (Step.of_below (below_drewN w3 1) _)).trans S4.out
end
end Go.Proofs.Ytnfaeejeipbciaa
end

section
set_option linter.unusedVariables false
set_option linter.unusedSimpArgs false
namespace Go.Proofs.Ytnfaeejeipbciaa
open Go.RowKit BigFrame
set_option maxRecDepth 100000

section
variable {w w' wr : World} {B : Nat} {c : Ck} {L T : List Sx}
theorem all_c (b : Nat) (w : World) : Calls Try.prog 43 #[pv b] w fun e w' => e = .returned (.bool true) ∧ w = w' := by
  unfold pv
  go_enter Try.func43, Try.ntmps43
  go_wp2_with fail
  go_ret
  exact ⟨rfl, rfl⟩
theorem dirty_c {x : Sx} (h : Vw w 86 x.blk x.cells) (hl : x.b.length = 128) : Calls Try.prog 45 #[pv x.blk] w fun e w' => e = .returned (.bool x.dirty) ∧ w = w' := by
  have k := h.cell (Sx.c130 hl)
  unfold pv
  go_enter Try.func45, Try.ntmps45
  go_wp2_with fail
  go_ret
  exact ⟨rfl, rfl⟩
/-- the loop: these are still to come; these were found -/
structure AmRel (w : World) (c : Ck) (q : Sx → Bool) (l left : List (Lit × Value)) (v : Value) (T : List Sx) (wr : World) : Prop where
  on : MapOn 3 wr c.M w.heap.size l left
  own : wr.ownsRow w.heap.size 81 1 v T.length (pvs T)
  nd : T.Nodup
  mem : ∀ x, x ∈ T ↔ x ∈ c.H ∧ q x = true ∧ fndL left (.int .i64 (x.pos : Int)) = none
  few : T.length + left.length ≤ c.H.length
  bel : Below w.heap.size w wr
/-- those asked for, in order -/
def AmPost (q : Sx → Bool) (key : Sx → Nat) (H : List Sx) (w : World) (e : Ending) (w' : World) : Prop :=
  ∃ v S, e = .returned v ∧ w'.ownsRow w.heap.size 81 1 v S.length (pvs S) ∧ Below w.heap.size w w' ∧ S.Pairwise (fun x y => key x < key y) ∧ ∀ x, x ∈ S ↔ x ∈ H ∧ q x = true
theorem wpList_append_sx {w : World} {ops : Array Oper} {rest : List Oper} {o : Oper} {a : Act} {Q : Exit → Act → World → Prop} (hgd : o.guard = none) (s x : Operand)
    (ho : o.op = .call { callee := .builtin .append, args := #[s, x], argTypes := #[71, 71] })
    (B : Nat) (v : Value) (L : List Sx) (hs : a.eval s = v) (hown : w.ownsRow B 81 1 v L.length (pvs L)) (ad : Addr) (cap : Nat) (y : Sx) (hx : a.eval x = .slice (some ad) 1 cap) (hsrc : w.cell? ad = some (pv y.blk))
    (hlen : L.length + 1 ≤ 1000000) (hbase : B ≤ w.heap.size)
    (h : ∀ v' w', Hid (w'.ownsRow B 81 1 v' (L ++ [y]).length (pvs (L ++ [y]))) → Hid (w.grownBy w' v.ownBlock) → Hid (v'.ownBlock = v.ownBlock ∨ v'.ownBlock = some w.heap.size) → wpList Try.prog ops Q rest (a.put o.dst v') w') : wpList Try.prog ops Q (o :: rest) a w := by
  obtain ⟨i, hi, hz0, hz1, hz2⟩ := info_parts Try.infoPt
  refine wpList_append_own_at w hgd s x 71 ho B 81 i (.pointer none) 1 8 Try.underlying71 hi hz0 hz1 hz2 rfl (by decide) v L.length (pvs L) hs hown ad 1 cap (pvs [y]) hx rfl ?_ (pvs_one [y]) (by unfold maxLen; omega) (by omega) hbase ?_
  · intro j u hu
    have hj : j = 0 := by
      have := (List.getElem?_eq_some_iff.1 hu).1
      simp [pvs] at this
      exact this
    subst hj
    have hadd : ad.add 0 = ad := by unfold Addr.add; split <;> simp_all
    rw [hadd, hsrc]
    simpa [pvs] using hu
  · intro v' w' h1 h2 _ h4
    refine h v' w' ?_ h2 h4
    have e : pvs (L ++ [y]) = pvs L ++ pvs [y] := by simp [pvs]
    rw [e, List.length_append]; exact h1
theorem AmRel.start {l : List (Lit × Value)} {q : Sx → Bool} {w1 : World} (hm : MapOn 3 w1 c.M w.heap.size l l) (hb : Below w.heap.size w w1) (h2 : l.length = c.H.length) (h3 : ∀ a : Int, fndL l (.int .i64 a) = (get c.H a).map fun x => pv x.blk) (hA : Apart c.H) : AmRel w c q l l (.slice none 0 0) [] w1 :=
  ⟨hm, World.ownsRow_nil _ _ _ _, List.nodup_nil, fun x => ⟨(fun h => by cases h), (fun ⟨h1, _, h4⟩ => by rw [h3, get_at hA h1] at h4; cases h4)⟩, by rw [h2]; simp, hb⟩
/-- one more, asked for or not -/
theorem AmRel.turn {l left : List (Lit × Value)} {q : Sx → Bool} {v v' : Value} {T' : List Sx} {w4 : World} {x : Sx} (h : AmRel w c q l left v T wr) (hA : Apart c.H) (hx : x ∈ c.H) (hp : (Lit.int .i64 (x.pos : Int), pv x.blk) ∈ left) (hfl : fndL left (.int .i64 (x.pos : Int)) = some (pv x.blk))
    (hm : MapOn 3 w4 c.M w.heap.size l (strL left (.int .i64 (x.pos : Int)))) (hln : left.length = (strL left (.int .i64 (x.pos : Int))).length + 1)
    (ho : w4.ownsRow w.heap.size 81 1 v' T'.length (pvs T')) (hT : T' = if q x = true then T ++ [x] else T) (hb : Below w.heap.size w w4) : AmRel w c q l (strL left (.int .i64 (x.pos : Int))) v' T' w4 := by
  have hxT : x ∉ T := fun h2 => by
    have := ((h.mem x).1 h2).2.2
    rw [hfl] at this; cases this
  have hfew := h.few
  subst hT
  refine ⟨hm, ho, ?_, fun y => ?_, ?_, hb⟩
  · split
    · rw [List.nodup_append]
      exact ⟨h.nd, by simp, by intro a ha b hb2; simp at hb2; subst hb2; exact fun e => hxT (e ▸ ha)⟩
    · exact h.nd
  · rw [fndL_str]
    by_cases e : y = x
    · subst e
      rw [if_pos rfl]
      constructor
      · intro hy
        split at hy
        · rename_i hq; exact ⟨hx, hq, rfl⟩
        · exact absurd hy hxT
      · rintro ⟨_, hq, _⟩
        rw [if_pos hq]; exact List.mem_append_right _ List.mem_cons_self
    · have hm2 : y ∈ (if q x = true then T ++ [x] else T) ↔ y ∈ T := by
        split
        · rw [List.mem_append, List.mem_singleton]
          exact ⟨fun h => h.resolve_right e, .inl⟩
        · exact Iff.rfl
      rw [hm2, h.mem]
      constructor
      · rintro ⟨h1, h2, h3⟩
        refine ⟨h1, h2, ?_⟩
        split
        · rfl
        · exact h3
      · rintro ⟨h1, h2, h3⟩
        refine ⟨h1, h2, ?_⟩
        have hpe : ¬ (y.pos : Int) = (x.pos : Int) := fun e2 => e (hA.uniq h1 hx (by omega))
        rw [if_neg hpe] at h3; exact h3
  · split
    · rw [List.length_append]; simp; omega
    · omega
set_option maxHeartbeats 4000000 in
theorem among_held (h : CkN w B c) :
    Calls Try.prog 42 #[pv c.C, .func (.func 43) #[] #[], .func (.func 44) #[] #[]] w (AmPost (fun _ => true) Sx.used c.H w) := by
  have c3 := h.mem.hdr.cell (k := 3) rfl
  obtain ⟨l, hl0, hl2, hl3⟩ := h.mem.map
  have h' := Lib.hid h
  have hl0' := Lib.hid hl0
  have hl2' := Lib.hid hl2
  have hl3' := Lib.hid hl3
  have hap := Lib.hid (hl0.apart law_int)
  have hkl := Lib.hid (hl0.keys law_int)
  unfold pv
  clear h hl0 hl2 hl3
  go_enter Try.func42, Try.ntmps42
  go_wp2_with (at_range; refine wpList_map_range rfl _ rfl law_int Try.underlying70 c.M l rfl hl0'.out ?_; intro w1 hmo hb1 hs1)
  go_frame
  go_loopg [7, 9] (l.length + 1) (fun g v v9 wr => ∃ left T, g = left.length + 1 ∧ AmRel w c (fun _ => true) l left v T wr)
  case atStart => exact ⟨l, [], rfl, AmRel.start hmo.out hb1.out hl2'.out hl3'.out h'.out.ok.pos⟩
  case round =>
    obtain ⟨left, T, rfl, hR⟩ := hrel
    have hR' := Lib.hid hR
    have hmo2 := Lib.hid hR.on
    have hTl := hR.few
    have hgf := h'.out.ok.few
    clear hR
    have hlx := Lib.hid (show ∀ p ∈ left, ∀ k, p.1 = .int .i64 k → ∃ x ∈ c.H, p = (.int .i64 (x.pos : Int), pv x.blk) from fun p hp k hk => by
      obtain ⟨cc, hr, hsub, _⟩ := hmo2.out
      have hpl := hsub.subset hp
      have hf := fndL_mem (hkl.out p hpl) hap.out hpl
      rw [hk, hl3'.out] at hf
      cases hg : get c.H k with
      | none => rw [hg] at hf; cases hf
      | some x =>
        rw [hg] at hf
        obtain ⟨h1, h2⟩ := get_some hg
        exact ⟨x, h1, Prod.ext (by rw [hk, h2]) (Option.some.inj hf).symm⟩)
    go_wp2_with (first
      | (at_next; refine wpList_held_next rfl _ rfl c.M w.heap.size l left hlx.out (by simp [Act.eval]) hmo2.out (fun h0 => ?_) (fun x w2 hxi hp hm2 hln hg2 hs2 hen => ?_)))
    · subst h0
      have hsec : ∀ x ∈ c.H, Vw wr 86 x.blk x.cells ∧ x.b.length = 128 := fun x hx => ⟨(h'.out.mem.on hR'.out.bel (Nat.le_refl _)).sec x hx, h'.out.ok.len x hx⟩
      have hTH : ∀ x ∈ T, x ∈ c.H := fun x hx => ((hR'.out.mem x).1 hx).1
      have hso := Lib.hid (sort_row (w := wr) (B := w.heap.size) (H := c.H) (T := T) 44 Sx.used enters_age (fun W x y lx ly hx hy => byage_c (hx.cell (Sx.c129 lx)) (hy.cell (Sx.c129 ly))) (fun x hx y hy e => h'.out.ok.srt.uniq hx hy e) hsec hTH (by omega) hR'.out.own)
      have hfin := Lib.hid (fun (w5 : World) (ho : w5.ownsRow w.heap.size 81 1 u7 (sortS Sx.used T).length (pvs (sortS Sx.used T))) (hT5 : TurnS (fun k => u7.ownBlock = some k) wr w5) => show AmPost (fun _ => true) Sx.used c.H w (.returned u7) w5 from
        ⟨u7, sortS Sx.used T, rfl, ho, hR'.out.bel.trans (hT5.below hR'.out.bel.size fun k hk => (World.ownsRow.lt hR'.out.own k hk).1), sortS_lt hR'.out.nd (fun x hx y hy e => h'.out.ok.srt.uniq (hTH x hx) (hTH y hy) e), fun x => by
          rw [(sortS_perm Sx.used T).mem_iff, hR'.out.mem]
          exact ⟨fun ⟨h1, h2, _⟩ => ⟨h1, h2⟩, fun ⟨h1, h2⟩ => ⟨h1, h2, rfl⟩⟩⟩)
      refine hso.out.mono ?_
      rintro e w5 ⟨rfl, ho5, hT5⟩
      have F5 := Lib.hid (hfin.out w5 ho5 hT5)
      clear ho5 hT5
      go_wp2_with fail
      go_ret
      exact F5.out
    · have hB2 := Lib.hid (hR'.out.bel.grown hg2.out hR'.out.bel.size (fun k hk => by cases hk; exact Nat.le_refl _))
      have hO2 := Lib.hid (show w2.ownsRow w.heap.size 81 1 u7 T.length (pvs T) from own_blk hR'.out.own fun k hk => hg2.out.block k (World.ownsRow.lt hR'.out.own k hk).2 (fun e => iter_row hmo2.out hR'.out.own (hk.trans e)))
      have hfl := Lib.hid (show fndL left (.int .i64 (x.pos : Int)) = some (pv x.blk) from by
        have hpl : (Lit.int .i64 (x.pos : Int), pv x.blk) ∈ l := by
          obtain ⟨cc, hr, hsub, _⟩ := hmo2.out
          exact hsub.subset hp.out
        exact fndL_mem (p := (.int .i64 (x.pos : Int), pv x.blk)) (hkl.out _ hpl) (by
          obtain ⟨cc, hr, hsub, _⟩ := hmo2.out
          exact hap.out.sublist hsub) hp.out)
      refine (all_c _ _).mono ?_
      rintro e w3 ⟨rfl, rfl⟩
      have hz2 := hB2.out.size
      have hoa := Lib.hid (show (w2.alloc (.cells #[.pointer (some ⟨x.blk, 0, none⟩)] 81)).ownsRow w.heap.size 81 1 u7 T.length (pvs T) from own_blk hO2.out fun k hk => old_alloc w2 _ k (World.ownsRow.lt hO2.out k hk).2)
      have hna := Lib.hid (show (w2.alloc (.cells #[.pointer (some ⟨x.blk, 0, none⟩)] 81)).cell? ⟨w2.heap.size, 0, none⟩ = some (pv x.blk) from (Vw.alloc w2 [pv x.blk] 81).cell rfl)
      have hbz : w.heap.size ≤ (w2.alloc (.cells #[.pointer (some ⟨x.blk, 0, none⟩)] 81)).heap.size := by rw [size_alloc]; omega
      clear hs2
      go_wp2_with (at_builtin; refine wpList_append_sx rfl _ _ rfl w.heap.size _ T rfl hoa.out _ _ x rfl hna.out (by omega) hbz ?_; intro v' w4 ho4 hg4 hat4)
      go_roundg ((strL left (.int .i64 (x.pos : Int))).length + 1)
      case measure => have := hln.out; omega
      case rel =>
        have hTn : TurnS (fun k => u7.ownBlock = some k) w2 w4 := (TurnS.alloc _ w2 _).trans (TurnS.grown hg4.out fun k hk => hk)
        have hm4 := hm2.out.blk (hTn.block c.M hm2.out.at.lt fun e => map_row hm2.out.at hO2.out e) (hTn.block _ hm2.out.lt fun e => iter_row hm2.out hO2.out e)
        exact ⟨_, T ++ [x], rfl, hR'.out.turn h'.out.ok.pos hxi hp.out hfl.out hm4 hln.out ho4.out (by rw [if_pos rfl]) (hB2.out.trans (hTn.below hz2 fun k hk => (World.ownsRow.lt hO2.out k hk).1))⟩

end
end Go.Proofs.Ytnfaeejeipbciaa
end
