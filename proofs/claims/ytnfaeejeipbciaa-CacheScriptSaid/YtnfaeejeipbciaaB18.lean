/-
  A cache: Pin, Drop; what is refused.
  A cache: Clean of a sector that is dirty.
  A cache: Put.
  A cache: Put of a sector that is held.
  Numbers from 0 to below n.
-/
import Derived.Test.YtnfaeejeipbciaaB17
import Derived.Test.YtnfaeejeipbciaaB1

section
set_option linter.unusedVariables false
set_option linter.unusedSimpArgs false
namespace Go.Proofs.Ytnfaeejeipbciaa
open Go.RowKit BigFrame
set_option maxRecDepth 100000

section
variable {w w1 w' : World} {B : Nat} {c c' : Ck} {L L' : List Sx} {A A' : Lies} {d d' : Dk}
/-- the calls of a nil cache -/
theorem get_nil (a : Int) (w : World) : Calls Try.prog 26 #[.pointer none, .int .i64 a] w fun e w' => e = .returned (.tuple #[.slice none 0 0, .int .i64 1]) ∧ w = w' := by
  go_enter Try.func26, Try.ntmps26
  go_wp2_with (go_at_call 50; refine (find_nil _ _).mono ?_; rintro e w1 ⟨rfl, rfl⟩)
  go_ret2
  exact ⟨rfl, rfl⟩
theorem put_nil (a : Int) (v : Value) (w : World) : Calls Try.prog 22 #[.pointer none, .int .i64 a, v] w fun e w' => e = .returned (.int .i64 1) ∧ w = w' := by
  go_enter Try.func22, Try.ntmps22
  go_wp2_with (go_at_call 50; refine (find_nil _ _).mono ?_; rintro e w1 ⟨rfl, rfl⟩)
  go_ret
  exact ⟨rfl, rfl⟩
theorem drop_nil (a : Int) (w : World) : Calls Try.prog 25 #[.pointer none, .int .i64 a] w fun e w' => e = .returned (.int .i64 0) ∧ w = w' := by
  go_enter Try.func25, Try.ntmps25
  go_wp2_with fail
  go_ret
  exact ⟨rfl, rfl⟩
/-- what is not held -/
theorem pin_none (h : CkN w B c) (a : Int) (ha : I64 a) (b : Bool) (hn : get c.H a = none) : Calls Try.prog 29 #[pv c.C, .int .i64 a, .bool b] w fun e w' => e = .returned (.int .i64 5) ∧ w = w' := by
  have hf := Lib.hid (find_c h.mem a ha)
  rw [hn] at hf
  unfold pv at hf ⊢
  simp only [found] at hf
  clear h hn
  go_enter Try.func29, Try.ntmps29
  go_wp2_with (go_at_call 50; refine hf.out.mono ?_; rintro e w1 ⟨rfl, rfl⟩)
  go_ret
  exact ⟨rfl, rfl⟩
theorem clean_none (h : CkN w B c) (a : Int) (ha : I64 a) (hn : get c.H a = none) : Calls Try.prog 24 #[pv c.C, .int .i64 a] w fun e w' => e = .returned (.int .i64 5) ∧ w = w' := by
  have hf := Lib.hid (find_c h.mem a ha)
  rw [hn] at hf
  unfold pv at hf ⊢
  simp only [found] at hf
  clear h hn
  go_enter Try.func24, Try.ntmps24
  go_wp2_with (go_at_call 50; refine hf.out.mono ?_; rintro e w1 ⟨rfl, rfl⟩)
  go_ret
  exact ⟨rfl, rfl⟩
theorem clean_not (h : CkN w B c) {x : Sx} (hx : x ∈ c.H) (hd : x.dirty = false) : Calls Try.prog 24 #[pv c.C, .int .i64 ((x.pos : Nat) : Int)] w fun e w' => e = .returned (.int .i64 0) ∧ w = w' := by
  have hlow := h.ok.low x hx
  have hf := Lib.hid (find_c h.mem ((x.pos : Nat) : Int) ⟨by omega, by omega⟩)
  rw [get_at h.ok.pos hx] at hf
  have k := (h.mem.sec x hx).cell (Sx.c130 (h.ok.len x hx))
  rw [hd] at k
  unfold pv
  simp only [found, pv] at hf
  clear h hx hd
  go_enter Try.func24, Try.ntmps24
  go_wp2_with (go_at_call 50; refine hf.out.mono ?_; rintro e w1 ⟨rfl, rfl⟩)
  all_goals (go_ret; exact ⟨rfl, rfl⟩)
/-- behind a call that answers a code -/
def ActPost (B : Nat) (A : Lies) (d : Dk) (c : Ck) (r : Int) (u : Nat) (H' : List Sx) (w : World) (e : Ending) (w' : World) : Prop := ∃ c', e = .returned (.int .i64 r) ∧ DidPost B A d c u H' w w' c'
theorem drop_c (h : CkD w B A d c) (many : Int) (hm : -1000000 ≤ many ∧ many ≤ 1000000) (n : Nat) (hn : n = min many.toNat (fr c.H).length) :
    Calls Try.prog 25 #[pv c.C, .int .i64 many] w (ActPost B A d c n c.uses (dropN c.H n) w) := by
  have hf := Lib.hid (forget_c h.n.mem h.n.ok many hm n hn)
  have hfin := Lib.hid (fun (w' : World) (v : Value) (hM : CkM w' B ((c.drop n).list v) (fr (dropN c.H n))) (hS : Step w c.foot w' ((c.drop n).list v).foot) => show ActPost B A d c n c.uses (dropN c.H n) w (.returned (.int .i64 (n : Int))) w' from by
    have hs : ∀ x, x ∈ dropN c.H n → x ∈ c.H := fun x hx => (dropN_sub _ _).subset hx
    have hN : CkN w' B ((c.drop n).list v) := ⟨hM, ⟨h.n.ok.srt.sublist (dropN_sub _ _), fun x hx => h.n.ok.top x (hs x hx), h.n.ok.pos.sub (dropN_sub _ _), fun x hx => h.n.ok.low x (hs x hx), fun x hx => h.n.ok.len x (hs x hx), fr_sub _⟩, fun x hx => h.n.one x (hs x hx)⟩
    obtain ⟨hD, hF⟩ := h.turn hN rfl hS
    exact ⟨_, rfl, hD, hF, ⟨rfl, rfl, rfl, rfl, rfl⟩⟩)
  unfold pv
  unfold pv at hf
  clear h hn
  go_enter Try.func25, Try.ntmps25
  go_wp2_with (go_at_call 57; refine hf.out.mono ?_; rintro e w1 ⟨rfl, v1, hM, hS, _⟩; have F := Lib.hid (hfin.out _ _ hM hS); clear hM hS)
  go_ret
  exact F.out
set_option maxHeartbeats 1000000 in
theorem pin_hit (h : CkD w B A d c) (hmo : c.most ≤ 100000) {x : Sx} (hx : x ∈ c.H) (b : Bool) :
    Calls Try.prog 29 #[pv c.C, .int .i64 ((x.pos : Nat) : Int), .bool b] w (ActPost B A d c 0 c.uses (trim c.most (putS (x.withP b) c.H)) w) := by
  have hO := h.n.ok
  have hlow := hO.low x hx
  have hfi := Lib.hid (find_c h.n.mem ((x.pos : Nat) : Int) ⟨by omega, by omega⟩)
  rw [get_at hO.pos hx] at hfi
  have hli := Lib.hid (lift_c h.n.mem hO hx)
  have hO1 : CkOk c (frx x c.H) := ⟨hO.srt, hO.top, hO.pos, hO.low, hO.len, frx_sub _ _⟩
  have h' := Lib.hid h
  have hO1' := Lib.hid hO1
  have hx' := Lib.hid hx
  have hmid := Lib.hid (fun (w2 : World) (v2 : Value) (hM : CkM w2 B (c.list v2) (but x (fr c.H))) => show CkM (w2.setCell ⟨x.blk, 131, none⟩ (.bool b)) B ((c.put (x.withP b)).list v2) (frx (x.withP b) (c.put (x.withP b)).H) ∧ Step w2 (c.list v2).foot (w2.setCell ⟨x.blk, 131, none⟩ (.bool b)) ((c.put (x.withP b)).list v2).foot ∧ Vw w2 86 x.blk x.cells from by
    have hV := hM.sec x hx
    rw [but_fr] at hM
    obtain ⟨h1, h2⟩ := hM.setP (c := c.list v2) (L' := frx x c.H) ⟨hO.srt, hO.top, hO.pos, hO.low, hO.len, frx_sub _ _⟩ hx b
    rw [put_frx (x := x) (y := x.withP b) rfl]
    exact ⟨h1, h2, hV⟩)
  have hO2 := Lib.hid (put_okx (y := x.withP b) hO1 hx rfl rfl (hO.len x hx))
  have hx2 := Lib.hid (put_self (x := x.withP b) hx rfl)
  have hse := Lib.hid (fun (w3 : World) (v2 : Value) (hM : CkM w3 B ((c.put (x.withP b)).list v2) (frx (x.withP b) (c.put (x.withP b)).H)) => show Calls Try.prog 55 #[pv c.C, pv x.blk] w3 fun e w' => e = .returned (.tuple #[]) ∧ ∃ v, CkM w' B ((c.put (x.withP b)).trim.list v) (fr (c.put (x.withP b)).trim.H) ∧ Step w3 ((c.put (x.withP b)).list v2).foot w' ((c.put (x.withP b)).trim.list v).foot from by
    have h1 := settle_c (c := (c.put (x.withP b)).list v2) (x := x.withP b) hM ⟨hO2.out.srt, hO2.out.top, hO2.out.pos, hO2.out.low, hO2.out.len, hO2.out.sub⟩ hx2.out hmo
    exact h1.mono fun e w' ⟨h2, v', h3, h4, _⟩ => ⟨h2, v', h3, h4⟩)
  have hone : ∀ y ∈ (c.put (x.withP b)).H, 1 ≤ y.used := fun y hy => by
    rcases put_mem hy with e | ⟨hy, _⟩
    · rw [e]; exact h.n.one x hx
    · exact h.n.one y hy
  have hone' := Lib.hid hone
  have l1 := Lib.hid (hO.len x hx)
  unfold pv
  unfold pv at hfi hli hse
  simp only [found, pv] at hfi
  clear h hO hx hO1 hone
  go_enter Try.func29, Try.ntmps29
  go_wp2_with (first
    | (go_at_call 50; refine hfi.out.mono ?_; rintro e w1 ⟨rfl, rfl⟩)
    | (go_at_call 53; refine hli.out.mono ?_; rintro e w2 ⟨rfl, v2, hM2, hS2⟩; have M2 := Lib.hid (hmid.out _ _ hM2); have S2 := Lib.hid hS2; have k5 := M2.out.2.2.cell (Sx.c131 l1.out); have f5 := M2.out.2.2.frozen 131; clear hM2 hS2)
    | (go_at_call 55; refine (hse.out _ _ M2.out.1).mono ?_; rintro e w4 ⟨rfl, v4, hM4, hS4⟩; have M4 := Lib.hid hM4; have S4 := Lib.hid hS4; clear hM4 hS4))
  go_ret
  have hN := trim_n hO2.out hone'.out M4.out
  obtain ⟨hD, hF⟩ := h'.out.turn hN rfl (S2.out.trans (M2.out.2.1.trans S4.out))
  exact ⟨_, rfl, hD, hF, ⟨rfl, rfl, rfl, rfl, rfl⟩⟩
end
end Go.Proofs.Ytnfaeejeipbciaa
end

section
set_option linter.unusedVariables false
set_option linter.unusedSimpArgs false
namespace Go.Proofs.Ytnfaeejeipbciaa
open Go.RowKit BigFrame
set_option maxRecDepth 100000

section
variable {w w1 w' : World} {B : Nat} {c c' : Ck} {L L' : List Sx} {A A' : Lies} {d d' : Dk}
/-- what a cleaned sector makes of it -/
structure ClPre (w w3 : World) (B : Nat) (A A' : Lies) (d d' : Dk) (c : Ck) (x : Sx) : Prop where
  dk : CkD w3 B A' d' c
  step : Step w (foots A c) w3 (foots A' c)
theorem CkD.foot_off (h : CkD w B A d c) {x : Sx} (hx : x ∈ c.H) : Off w (A.foot c.G) x.blk := ⟨h.ap _ (foot_x hx), h.n.mem.lt _ (foot_x hx)⟩
set_option maxHeartbeats 1000000 in
theorem clean_off (h : CkD w B A d c) {x : Sx} (hx : x ∈ c.H) (hd : x.dirty = true) (hon : d.on = false) :
    Calls Try.prog 24 #[pv c.C, .int .i64 ((x.pos : Nat) : Int)] w fun e w' => e = .returned (.int .i64 4) ∧ ∃ A', CkD w' B A' d c ∧ Step w (foots A c) w' (foots A' c) := by
  have hO := h.n.ok
  have hlow := hO.low x hx
  have hfi := Lib.hid (find_c h.n.mem ((x.pos : Nat) : Int) ⟨by omega, by omega⟩)
  rw [get_at hO.pos hx] at hfi
  have k := (h.n.mem.sec x hx).cell (Sx.c130 (hO.len x hx))
  rw [hd] at k
  have c0 := h.n.mem.hdr.cell (k := 0) rfl
  change w.cell? ⟨c.C, 0, none⟩ = some (.pointer (some ⟨c.G, 0, none⟩)) at c0
  have hwr := Lib.hid (fun (v : Value) => write_off w.drew B c.G A d ((x.pos : Nat) : Int) v h.drew.dk hon)
  have h' := Lib.hid h
  unfold pv
  simp only [found, pv] at hfi
  clear h hO hx hd hon
  go_enter Try.func24, Try.ntmps24
  go_upto_region 4 with (go_at_call 50; refine hfi.out.mono ?_; rintro e w1 ⟨rfl, rfl⟩)
  go_still_tail 9, (by kernel_rfl)
  change wpList _ _ _ _ _ w.drew
  go_wp2_with (go_at_call 56; refine (hwr.out _).mono ?_; rintro e w2 ⟨rfl, A2, hD, hS⟩; have D2 := Lib.hid hD; have S2 := Lib.hid hS; clear hD hS)
  go_ret
  obtain ⟨h1, h2⟩ := (h'.out.drew (m := 1)).turnD D2.out S2.out
  exact ⟨rfl, A2, h1, (Step.of_below (below_drewN w 1) _).trans h2⟩
set_option maxHeartbeats 2000000 in
theorem clean_go (h : CkD w B A d c) (hmo : c.most ≤ 100000) {x : Sx} (hx : x ∈ c.H) (hd : x.dirty = true) (hon : d.on = true) (hset : d.set = false) (hp : x.pos < d.n) (hm1 : d.waits.length < 1000) (hm2 : d.log.length < 1000) :
    Calls Try.prog 24 #[pv c.C, .int .i64 ((x.pos : Nat) : Int)] w fun e w' => ∃ A' c', e = .returned (.int .i64 0) ∧ CkD w' B A' (d.wrote x.pos x.b) c' ∧ Step w (foots A c) w' (foots A' c') ∧ Same c c' c.uses (trim c.most (putS (x.withD false) c.H)) := by
  have hO := h.n.ok
  have hlow := hO.low x hx
  have hfi := Lib.hid (find_c h.n.mem ((x.pos : Nat) : Int) ⟨by omega, by omega⟩)
  rw [get_at hO.pos hx] at hfi
  have k := (h.n.mem.sec x hx).cell (Sx.c130 (hO.len x hx))
  rw [hd] at k
  have c0 := h.n.mem.hdr.cell (k := 0) rfl
  change w.cell? ⟨c.C, 0, none⟩ = some (.pointer (some ⟨c.G, 0, none⟩)) at c0
  have hwr := Lib.hid (write_ns w.drew B c.G A d ((x.pos : Nat) : Int) x.pos x.blk 1 128 128 x.b rfl rfl h.drew.dk hon hset hp (hO.len x hx) (Nat.le_refl _) (bat_x (h.drew (m := 1) |>.n.mem.sec x hx)) (h.drew.foot_off hx) hm1 hm2)
  have h' := Lib.hid h
  have hx' := Lib.hid hx
  have hO1 : CkOk c (frx x c.H) := ⟨hO.srt, hO.top, hO.pos, hO.low, hO.len, frx_sub _ _⟩
  have hli := Lib.hid (fun (w2 : World) (hM : CkM w2 B c (fr c.H)) => lift_c hM hO hx)
  have hmid := Lib.hid (fun (w2 : World) (v2 : Value) (hM : CkM w2 B (c.list v2) (but x (fr c.H))) => show CkM (w2.setCell ⟨x.blk, 130, none⟩ (.bool false)) B ((c.put (x.withD false)).list v2) (frx (x.withD false) (c.put (x.withD false)).H) ∧ Step w2 (c.list v2).foot (w2.setCell ⟨x.blk, 130, none⟩ (.bool false)) ((c.put (x.withD false)).list v2).foot ∧ Vw w2 86 x.blk x.cells from by
    have hV := hM.sec x hx
    rw [but_fr] at hM
    obtain ⟨h1, h2⟩ := hM.setD (c := c.list v2) (L' := frx x c.H) ⟨hO.srt, hO.top, hO.pos, hO.low, hO.len, frx_sub _ _⟩ hx false
    rw [put_frx (x := x) (y := x.withD false) rfl]
    exact ⟨h1, h2, hV⟩)
  have hO2 := Lib.hid (put_okx (y := x.withD false) hO1 hx rfl rfl (hO.len x hx))
  have hx2 := Lib.hid (put_self (x := x.withD false) hx rfl)
  have hse := Lib.hid (fun (w3 : World) (v2 : Value) (hM : CkM w3 B ((c.put (x.withD false)).list v2) (frx (x.withD false) (c.put (x.withD false)).H)) => show Calls Try.prog 55 #[pv c.C, pv x.blk] w3 fun e w' => e = .returned (.tuple #[]) ∧ ∃ v, CkM w' B ((c.put (x.withD false)).trim.list v) (fr (c.put (x.withD false)).trim.H) ∧ Step w3 ((c.put (x.withD false)).list v2).foot w' ((c.put (x.withD false)).trim.list v).foot from by
    have h1 := settle_c (c := (c.put (x.withD false)).list v2) (x := x.withD false) hM ⟨hO2.out.srt, hO2.out.top, hO2.out.pos, hO2.out.low, hO2.out.len, hO2.out.sub⟩ hx2.out hmo
    exact h1.mono fun e w' ⟨h2, v', h3, h4, _⟩ => ⟨h2, v', h3, h4⟩)
  have hone : ∀ y ∈ (c.put (x.withD false)).H, 1 ≤ y.used := fun y hy => by
    rcases put_mem hy with e | ⟨hy, _⟩
    · rw [e]; exact h.n.one x hx
    · exact h.n.one y hy
  have hone' := Lib.hid hone
  have l1 := Lib.hid (hO.len x hx)
  unfold pv
  unfold pv at hli hse
  simp only [found, pv] at hfi
  clear h hO hx hO1 hone hd hon hset
  go_enter Try.func24, Try.ntmps24
  go_upto_region 4 with (go_at_call 50; refine hfi.out.mono ?_; rintro e w1 ⟨rfl, rfl⟩)
  go_still_tail 9, (by kernel_rfl)
  change wpList _ _ _ _ _ w.drew
  go_wp2_with (first
    | (go_at_call 56; refine hwr.out.mono ?_; rintro e w2 ⟨rfl, A2, hD, hS⟩; have T2 := Lib.hid ((h'.out.drew (m := 1)).turnD hD hS); clear hD hS)
    | (go_at_call 53; refine (hli.out _ T2.out.1.n.mem).mono ?_; rintro e w3 ⟨rfl, v3, hM3, hS3⟩; have M3 := Lib.hid (hmid.out _ _ hM3); have S3 := Lib.hid hS3; have k5 := M3.out.2.2.cell (Sx.c130 l1.out); have f5 := M3.out.2.2.frozen 130; clear hM3 hS3)
    | (go_at_call 55; refine (hse.out _ _ M3.out.1).mono ?_; rintro e w4 ⟨rfl, v4, hM4, hS4⟩; have M4 := Lib.hid hM4; have S4 := Lib.hid hS4; clear hM4 hS4))
  go_ret
  have hN := trim_n hO2.out hone'.out M4.out
  obtain ⟨hD, hF⟩ := T2.out.1.turn hN rfl (S3.out.trans (M3.out.2.1.trans S4.out))
  exact ⟨A2, _, rfl, hD, (Step.of_below (below_drewN w 1) _).trans (T2.out.2.trans hF), ⟨rfl, rfl, rfl, rfl, rfl⟩⟩
end
end Go.Proofs.Ytnfaeejeipbciaa
end

section
set_option linter.unusedVariables false
set_option linter.unusedSimpArgs false
namespace Go.Proofs.Ytnfaeejeipbciaa
open Go.RowKit BigFrame
set_option maxRecDepth 100000

section
variable {w w1 w' : World} {B : Nat} {c c' : Ck} {L L' : List Sx} {A A' : Lies} {d d' : Dk}
def PutPost (B : Nat) (A : Lies) (d : Dk) (c : Ck) (p : Nat) (l : List Nat) (pn : Bool) (w : World) (e : Ending) (w' : World) : Prop :=
  ∃ c' blk, e = .returned (.int .i64 0) ∧ DidPost B A d c (c.uses + 1) (trim c.most (nw c.H ⟨blk, p, l, c.uses + 1, true, pn⟩)) w w' c'
/-- a sector to be put, held at last -/
structure PutPre (w w2 : World) (B : Nat) (c c1 : Ck) (x : Sx) (p : Nat) (pn : Bool) (K : Nat) : Prop where
  mem : CkM w2 B c1 (fr c.H)
  step : Step w c.foot w2 c1.foot
  ok : CkOk c1 (fr c.H)
  mx : x ∈ c1.H
  lif : but x (fr c.H) = frx x c1.H
  C : c1.C = c.C
  G : c1.G = c.G
  most : c1.most = c.most
  uses : c1.uses = c.uses
  one : ∀ y ∈ c1.H, y.used = x.used ∨ 1 ≤ y.used
  fin : but x c1.H = c.H.filter fun y => decide (y.pos ≠ p)
  pos : x.pos = p
  pin : x.pin = pn
  blk : x.blk = K
theorem PutPre.okx {w2 : World} {c1 : Ck} {x : Sx} {p K : Nat} {pn : Bool} (P : PutPre w w2 B c c1 x p pn K) : CkOk c1 (frx x c1.H) := ⟨P.ok.srt, P.ok.top, P.ok.pos, P.ok.low, P.ok.len, frx_sub _ _⟩
theorem PutPre.done {w2 w3 w5 w6 w7 : World} {c1 : Ck} {x : Sx} {p K : Nat} {pn : Bool} {l : List Nat} {v3 v7 : Value} (P : PutPre w w2 B c c1 x p pn K) (h : CkD w B A d c) (hl : l.length = 128)
    (hS3 : Step w2 c1.foot w3 (c1.list v3).foot) (hS5 : Step w3 (c1.list v3).foot w5 ((c1.put (x.got l)).list v3).foot) (hS6 : Step w5 ((c1.put (x.got l)).list v3).foot w6 (((c1.put (x.got l)).newest (x.got l)).list v3).foot)
    (hM7 : CkM w7 B (((c1.put (x.got l)).newest (x.got l)).trim.list v7) (fr ((c1.put (x.got l)).newest (x.got l)).trim.H)) (hS7 : Step w6 (((c1.put (x.got l)).newest (x.got l)).list v3).foot w7 (((c1.put (x.got l)).newest (x.got l)).trim.list v7).foot) : PutPost B A d c p l pn w (.returned (.int .i64 0)) w7 := by
  have hO2 : CkOk (c1.put (x.got l)) (frx (x.got l) (c1.put (x.got l)).H) := put_okx P.okx P.mx rfl rfl hl
  have hx2 : x.got l ∈ (c1.put (x.got l)).H := put_self P.mx rfl
  have hN7 := trim_n (newest_ok hO2 hx2) (newest_one (L := [x.got l]) (fun y hy => by
    rcases put_mem hy with e | ⟨hy, hne⟩
    · exact .inl (by rw [e]; exact List.mem_cons_self)
    · rcases P.one y hy with e | e
      · exact absurd e hne
      · exact .inr e) (x.got l) (fun y hy => by rw [List.mem_singleton] at hy; rw [hy])) hM7
  have hS : Step w c.foot w7 (((c1.put (x.got l)).newest (x.got l)).trim.list v7).foot := P.step.trans (hS3.trans (hS5.trans (hS6.trans hS7)))
  obtain ⟨hD, hF⟩ := h.turn hN7 P.G hS
  refine ⟨_, K, rfl, hD, hF, ⟨P.C, P.G, P.most, ?_, ?_⟩⟩
  · show c1.uses + 1 = c.uses + 1
    rw [P.uses]
  · show trim c1.most (but (x.got l) (putS (x.got l) c1.H) ++ [(x.got l).at (c1.uses + 1)]) = _
    rw [but_put (x := x) (y := x.got l) rfl, P.fin, P.most, P.uses]
    unfold nw
    congr 3
    show (⟨x.blk, x.pos, l, c.uses + 1, true, x.pin⟩ : Sx) = _
    rw [P.blk, P.pos, P.pin]
set_option maxHeartbeats 2000000 in
theorem put_miss (h : CkD w B A d c) (hmo : c.most ≤ 100000) (hu : c.uses < 100000) (hB : B ≤ w.heap.size) {p : Nat} (hpd : p < d.n) (hn : get c.H (p : Int) = none) {l : List Nat} {bb bo bcap : Nat} (hl : l.length = 128) (hbc : 128 ≤ bcap) (hx : BAt w (some ⟨bb, bo, none⟩) l) (hoff : bb < w.heap.size ∧ bb ∉ foots A c) :
    Calls Try.prog 22 #[pv c.C, .int .i64 ((p : Nat) : Int), .slice (some ⟨bb, bo, none⟩) 128 bcap] w (PutPost B A d c p l false w) := by
  have hO := h.n.ok
  have hlow : p < 2048 := by have := (IsDkS.fine h.dk).n; omega
  have hse0 := Lib.hid (fun (w1 : World) (h1 : CkD w1 B A d c) => sectors_any w1 B c.G A d h1.dk)
  have h' := Lib.hid h
  have hl' := Lib.hid hl
  have c0 := h.n.mem.hdr.cell (k := 0) rfl
  obtain ⟨cs, hcs⟩ : ∃ cs, bv l = cs := ⟨_, rfl⟩
  have hcs' := Lib.hid hcs
  have hsz := Try.sizeA
  have hus := Try.underlying84
  have hcl : cs.length = 128 := by rw [← hcs, bv_length, hl]
  have hc1 : ∀ v ∈ cs, v.oneCell' = true := by rw [← hcs]; exact bv_one l
  have hci : (Try.prog.info? 84).map (·.size) = some cs.length := by rw [hcl]; exact hsz
  have hcs2 : cs.toArray.size = 128 := by simp [hcl]
  have hci2 : (Try.prog.info? 84).map (·.size) = some cs.toArray.size := by rw [hcs2]; exact hsz
  have hall : cs.toArray.all (·.oneCell') = true := all_oneCell_toArray hc1
  have harr : ∀ w, (Instr.arrayAt 84 (.slice (some ⟨bb, bo, none⟩) 128 bcap)).run Try.prog w = .ok (.pointer (some ⟨bb, bo, none⟩)) w := fun w => by apply run_arrayAt; exact hus; omega
  have hx' := Lib.hid hx
  have hoff' := Lib.hid hoff
  have hp0 : ¬ ((p : Int) < 0) := by omega
  have hp1 : ¬ ((d.n : Int) ≤ (p : Int)) := by omega
  obtain ⟨dn, hdn⟩ : ∃ dn, d.n = dn := ⟨_, rfl⟩
  rw [hdn] at hse0 hp1
  have hfi := Lib.hid (find_c h.n.mem ((p : Nat) : Int) ⟨by omega, by omega⟩)
  rw [hn] at hfi
  have hho := Lib.hid (fun (w2 : World) (hM : CkM w2 B c (fr c.H)) => hold_c hM hO hM.there p hlow hn)
  have hse1 := Lib.hid (hse0.out w h)
  have hn' := Lib.hid hn
  unfold pv
  unfold pv at hfi hho c0
  simp only [found] at hfi
  clear h hO hn hpd hl hcs hx hoff hdn hse0
  go_enter Try.func22, Try.ntmps22
  go_upto_region 8 with (first
    | (go_at_call 50; refine hfi.out.mono ?_; rintro e w1 ⟨rfl, rfl⟩)
    | (go_at_call 51; refine hse1.out.mono ?_; rintro e w1 ⟨rfl, rfl⟩)
    | (go_at_call 52; refine (hho.out _ h'.out.n.mem).mono ?_; rintro e w2 ⟨rfl, hM2, hS2⟩; have M2 := Lib.hid hM2; have S2 := Lib.hid hS2; clear hM2 hS2))
  obtain ⟨K, hK⟩ : ∃ K, w.heap.size = K := ⟨_, rfl⟩
  rw [hK] at M2 S2 ⊢
  have P := Lib.hid (show PutPre w w2 B c (c.hold (sx0 K p)) (sx0 K p) p false K from
    ⟨M2.out, S2.out, hold_ok h'.out.n.ok h'.out.n.one (x := sx0 K p) rfl hlow (zs_length 128) hn'.out ((fr_sub c.H).cons _), List.mem_cons_self, by rw [(frx_new h'.out.n.one (x := sx0 K p) rfl).2.1]; exact ((frx_new h'.out.n.one (x := sx0 K p) rfl).1).symm, rfl, rfl, rfl, rfl, fun y hy => by
      rcases List.mem_cons.1 hy with e | hy
      · exact .inl (by rw [e])
      · exact .inr (h'.out.n.one y hy), by
      rw [show (c.hold (sx0 K p)).H = sx0 K p :: c.H from rfl, (frx_new h'.out.n.one (x := sx0 K p) rfl).2.2, List.filter_eq_self.2]
      intro y hy
      have := get_none hn'.out y hy
      simp; omega, rfl, rfl, rfl⟩)
  obtain ⟨c1, hc1e⟩ : ∃ c1, c.hold (sx0 K p) = c1 := ⟨_, rfl⟩
  obtain ⟨x, hxe⟩ : ∃ x, sx0 K p = x := ⟨_, rfl⟩
  rw [hc1e, hxe] at P
  clear M2 S2 hc1e hxe hK
  have hS2 := P.out.step
  have hbx : BAt w2 (some ⟨bb, bo, none⟩) l := by
    rcases hx'.out with h0 | ⟨b2, o2, e, hc⟩
    · exact .inl h0
    · cases e
      exact .inr ⟨bb, bo, rfl, fun k hk => by rw [World.cell?_of_block (w := w) (a := ⟨bb, bo + k, none⟩) (hS2.block bb hoff'.out.1 (fun e => hoff'.out.2 (List.mem_append_right _ e)))]; exact hc k hk⟩
  have hbf : bb ∉ c1.foot := fun e => by
    rcases hS2.foot bb e with e | e
    · exact hoff'.out.2 (List.mem_append_right _ e)
    · have := hoff'.out.1; omega
  have hb2 : bb < w2.heap.size := Nat.lt_of_lt_of_le hoff'.out.1 hS2.size
  have hli := Lib.hid (lift_c P.out.mem P.out.ok P.out.mx)
  rw [P.out.C, P.out.blk] at hli
  have hbx' := Lib.hid hbx
  unfold pv at hli
  clear hS2 hbx
  go_upto_region 9 with (go_at_call 53; refine hli.out.mono ?_; rintro e w3 ⟨rfl, v3, hM3, hS3⟩; have M3 := Lib.hid hM3; have S3 := Lib.hid hS3; clear hM3 hS3)
  have hM3 := M3.out
  rw [P.out.lif] at hM3
  have hm := put_mid (l := l) hM3 P.out.okx P.out.mx hl'.out
  rw [P.out.blk, hcs'.out] at hm
  have k2 : w3.rangeAt bb bo cs := by
    rw [← hcs'.out]
    exact rangeAt_block (bat_range hbx'.out) (S3.out.block bb hb2 hbf)
  have hx3 : x ∈ (c1.list v3).H := P.out.mx
  have k3 : w3.there K 1 cs.toArray.size := by rw [hcs2, ← P.out.blk]; exact there_x (M3.out.sec _ hx3) (P.out.ok.len _ P.out.mx)
  have hwl : (x.withB l).b.length = 128 := hl'.out
  have j3 := hm.2.2.cell (Sx.c130 hwl)
  have j4 := hm.2.2.frozen 130
  have hM5 := Lib.hid hm.1
  have hS5 := Lib.hid hm.2.1
  clear hm hM3
  go_upto_region 11 with (first
    | (refine wpList_load_mid rfl 84 (.tmp 47) rfl bb bo rfl cs _ k2 hus rfl hci ?_)
    | (refine wpList_store_mid rfl 84 (.tmp 50) (.tmp 48) rfl K 1 cs.toArray rfl rfl k3 hci2 hall ?_))
  obtain ⟨w5, hw5⟩ : ∃ w5, (w3.setCells K 1 cs).setCell ⟨K, 130, none⟩ (.bool true) = w5 := ⟨_, rfl⟩
  rw [hw5] at hM5 hS5 ⊢
  have hO2 := Lib.hid (put_okx (y := x.got l) P.out.okx P.out.mx rfl rfl hl'.out)
  have hx2 := Lib.hid (put_self (x := x.got l) P.out.mx rfl)
  have hre := Lib.hid (renew_l (c := c1.put (x.got l)) hM5.out hO2.out hx2.out (by show c1.uses < 100000; rw [P.out.uses]; exact hu))
  have hse := Lib.hid (fun (w6 : World) (v : Value) (hM : CkM w6 B (((c1.put (x.got l)).newest (x.got l)).list v) (frx (x.got l) (c1.put (x.got l)).H)) => show Calls Try.prog 55 #[pv c.C, pv K] w6 fun e w' => e = .returned (.tuple #[]) ∧ ∃ v', CkM w' B (((c1.put (x.got l)).newest (x.got l)).trim.list v') (fr ((c1.put (x.got l)).newest (x.got l)).trim.H) ∧ Step w6 (((c1.put (x.got l)).newest (x.got l)).list v).foot w' (((c1.put (x.got l)).newest (x.got l)).trim.list v').foot from by
    have h1 := settle_l (c := c1.put (x.got l)) hM hO2.out hx2.out (by show c1.most ≤ 100000; rw [P.out.most]; exact hmo)
    rw [show (c1.put (x.got l)).C = c.C from P.out.C, show (x.got l).blk = K from P.out.blk] at h1
    exact h1.mono fun e w' ⟨h2, v', h3, h4, _⟩ => ⟨h2, v', h3, h4⟩)
  rw [show (c1.put (x.got l)).C = c.C from P.out.C, show (x.got l).blk = K from P.out.blk] at hre
  unfold pv at hre hse
  clear k2 k3 j3 j4 harr hall hci2 hcs2 hci hc1 hcl hus hsz hw5
  go_wp2_with (first
    | (go_at_call 54; refine hre.out.mono ?_; rintro e w6 ⟨rfl, hM6, hS6⟩; have M6 := Lib.hid hM6; have S6 := Lib.hid hS6; clear hM6 hS6)
    | (go_at_call 55; refine (hse.out _ _ M6.out).mono ?_; rintro e w7 ⟨rfl, v7, hM7, hS7⟩; have M7 := Lib.hid hM7; have S7 := Lib.hid hS7; clear hM7 hS7))
  go_ret
  exact P.out.done h'.out hl'.out S3.out hS5.out S6.out M7.out S7.out
end
end Go.Proofs.Ytnfaeejeipbciaa
end

section
set_option linter.unusedVariables false
set_option linter.unusedSimpArgs false
namespace Go.Proofs.Ytnfaeejeipbciaa
open Go.RowKit BigFrame
set_option maxRecDepth 100000

section
variable {w w1 w' : World} {B : Nat} {c c' : Ck} {L L' : List Sx} {A A' : Lies} {d d' : Dk}
set_option maxHeartbeats 2000000 in
theorem put_hit (h : CkD w B A d c) (hmo : c.most ≤ 100000) (hu : c.uses < 100000) (hB : B ≤ w.heap.size) {p : Nat} (hpd : p < d.n) {x : Sx} (hxm : x ∈ c.H) (hxp : x.pos = p) {l : List Nat} {bb bo bcap : Nat} (hl : l.length = 128) (hbc : 128 ≤ bcap) (hx : BAt w (some ⟨bb, bo, none⟩) l) (hoff : bb < w.heap.size ∧ bb ∉ foots A c) :
    Calls Try.prog 22 #[pv c.C, .int .i64 ((p : Nat) : Int), .slice (some ⟨bb, bo, none⟩) 128 bcap] w (PutPost B A d c p l x.pin w) := by
  have hO := h.n.ok
  have hlow : p < 2048 := by have := (IsDkS.fine h.dk).n; omega
  have hse0 := Lib.hid (fun (w1 : World) (h1 : CkD w1 B A d c) => sectors_any w1 B c.G A d h1.dk)
  have h' := Lib.hid h
  have hl' := Lib.hid hl
  have c0 := h.n.mem.hdr.cell (k := 0) rfl
  obtain ⟨cs, hcs⟩ : ∃ cs, bv l = cs := ⟨_, rfl⟩
  have hcs' := Lib.hid hcs
  have hsz := Try.sizeA
  have hus := Try.underlying84
  have hcl : cs.length = 128 := by rw [← hcs, bv_length, hl]
  have hc1 : ∀ v ∈ cs, v.oneCell' = true := by rw [← hcs]; exact bv_one l
  have hci : (Try.prog.info? 84).map (·.size) = some cs.length := by rw [hcl]; exact hsz
  have hcs2 : cs.toArray.size = 128 := by simp [hcl]
  have hci2 : (Try.prog.info? 84).map (·.size) = some cs.toArray.size := by rw [hcs2]; exact hsz
  have hall : cs.toArray.all (·.oneCell') = true := all_oneCell_toArray hc1
  have harr : ∀ w, (Instr.arrayAt 84 (.slice (some ⟨bb, bo, none⟩) 128 bcap)).run Try.prog w = .ok (.pointer (some ⟨bb, bo, none⟩)) w := fun w => by apply run_arrayAt; exact hus; omega
  have hx' := Lib.hid hx
  have hoff' := Lib.hid hoff
  have hp0 : ¬ ((p : Int) < 0) := by omega
  have hp1 : ¬ ((d.n : Int) ≤ (p : Int)) := by omega
  obtain ⟨dn, hdn⟩ : ∃ dn, d.n = dn := ⟨_, rfl⟩
  rw [hdn] at hse0 hp1
  have hfi := Lib.hid (find_c h.n.mem ((p : Nat) : Int) ⟨by omega, by omega⟩)
  rw [← hxp, get_at hO.pos hxm, hxp] at hfi
  have hse1 := Lib.hid (hse0.out w h)
  have hxm' := Lib.hid hxm
  have hxp' := Lib.hid hxp
  unfold pv
  unfold pv at hfi c0
  simp only [found, pv] at hfi
  clear h hO hxm hxp hpd hl hcs hx hoff hdn hse0
  go_enter Try.func22, Try.ntmps22
  go_upto_region 8 with (first
    | (go_at_call 50; refine hfi.out.mono ?_; rintro e w1 ⟨rfl, rfl⟩)
    | (go_at_call 51; refine hse1.out.mono ?_; rintro e w1 ⟨rfl, rfl⟩))
  obtain ⟨K, hK⟩ : ∃ K, x.blk = K := ⟨_, rfl⟩
  have P := Lib.hid (show PutPre w w B c c x p x.pin K from
    ⟨h'.out.n.mem, Step.refl _ _, h'.out.n.ok, hxm'.out, but_fr _ _, rfl, rfl, rfl, rfl, fun y hy => .inr (h'.out.n.one y hy), by rw [← hxp'.out]; exact but_pos h'.out.n.ok.srt h'.out.n.ok.pos hxm'.out, hxp'.out, rfl, hK⟩)
  rw [hK]
  clear hK
  have hS2 := P.out.step
  have hbx : BAt w (some ⟨bb, bo, none⟩) l := by
    rcases hx'.out with h0 | ⟨b2, o2, e, hc⟩
    · exact .inl h0
    · cases e
      exact .inr ⟨bb, bo, rfl, fun k hk => by rw [World.cell?_of_block (w := w) (a := ⟨bb, bo + k, none⟩) (hS2.block bb hoff'.out.1 (fun e => hoff'.out.2 (List.mem_append_right _ e)))]; exact hc k hk⟩
  have hbf : bb ∉ c.foot := fun e => by
    rcases hS2.foot bb e with e | e
    · exact hoff'.out.2 (List.mem_append_right _ e)
    · have := hoff'.out.1; omega
  have hb2 : bb < w.heap.size := Nat.lt_of_lt_of_le hoff'.out.1 hS2.size
  have hli := Lib.hid (lift_c P.out.mem P.out.ok P.out.mx)
  rw [P.out.C, P.out.blk] at hli
  have hbx' := Lib.hid hbx
  unfold pv at hli
  clear hS2 hbx
  go_upto_region 9 with (go_at_call 53; refine hli.out.mono ?_; rintro e w3 ⟨rfl, v3, hM3, hS3⟩; have M3 := Lib.hid hM3; have S3 := Lib.hid hS3; clear hM3 hS3)
  have hM3 := M3.out
  rw [P.out.lif] at hM3
  have hm := put_mid (l := l) hM3 P.out.okx P.out.mx hl'.out
  rw [P.out.blk, hcs'.out] at hm
  have k2 : w3.rangeAt bb bo cs := by
    rw [← hcs'.out]
    exact rangeAt_block (bat_range hbx'.out) (S3.out.block bb hb2 hbf)
  have hx3 : x ∈ (c.list v3).H := P.out.mx
  have k3 : w3.there K 1 cs.toArray.size := by rw [hcs2, ← P.out.blk]; exact there_x (M3.out.sec _ hx3) (P.out.ok.len _ P.out.mx)
  have hwl : (x.withB l).b.length = 128 := hl'.out
  have j3 := hm.2.2.cell (Sx.c130 hwl)
  have j4 := hm.2.2.frozen 130
  have hM5 := Lib.hid hm.1
  have hS5 := Lib.hid hm.2.1
  clear hm hM3
  go_upto_region 11 with (first
    | (refine wpList_load_mid rfl 84 (.tmp 47) rfl bb bo rfl cs _ k2 hus rfl hci ?_)
    | (refine wpList_store_mid rfl 84 (.tmp 50) (.tmp 48) rfl K 1 cs.toArray rfl rfl k3 hci2 hall ?_))
  obtain ⟨w5, hw5⟩ : ∃ w5, (w3.setCells K 1 cs).setCell ⟨K, 130, none⟩ (.bool true) = w5 := ⟨_, rfl⟩
  rw [hw5] at hM5 hS5 ⊢
  have hO2 := Lib.hid (put_okx (y := x.got l) P.out.okx P.out.mx rfl rfl hl'.out)
  have hx2 := Lib.hid (put_self (x := x.got l) P.out.mx rfl)
  have hre := Lib.hid (renew_l (c := c.put (x.got l)) hM5.out hO2.out hx2.out (by show c.uses < 100000; rw [P.out.uses]; exact hu))
  have hse := Lib.hid (fun (w6 : World) (v : Value) (hM : CkM w6 B (((c.put (x.got l)).newest (x.got l)).list v) (frx (x.got l) (c.put (x.got l)).H)) => show Calls Try.prog 55 #[pv c.C, pv K] w6 fun e w' => e = .returned (.tuple #[]) ∧ ∃ v', CkM w' B (((c.put (x.got l)).newest (x.got l)).trim.list v') (fr ((c.put (x.got l)).newest (x.got l)).trim.H) ∧ Step w6 (((c.put (x.got l)).newest (x.got l)).list v).foot w' (((c.put (x.got l)).newest (x.got l)).trim.list v').foot from by
    have h1 := settle_l (c := c.put (x.got l)) hM hO2.out hx2.out (by show c.most ≤ 100000; rw [P.out.most]; exact hmo)
    rw [show (c.put (x.got l)).C = c.C from P.out.C, show (x.got l).blk = K from P.out.blk] at h1
    exact h1.mono fun e w' ⟨h2, v', h3, h4, _⟩ => ⟨h2, v', h3, h4⟩)
  rw [show (c.put (x.got l)).C = c.C from P.out.C, show (x.got l).blk = K from P.out.blk] at hre
  unfold pv at hre hse
  clear k2 k3 j3 j4 harr hall hci2 hcs2 hci hc1 hcl hus hsz hw5
  go_wp2_with (first
    | (go_at_call 54; refine hre.out.mono ?_; rintro e w6 ⟨rfl, hM6, hS6⟩; have M6 := Lib.hid hM6; have S6 := Lib.hid hS6; clear hM6 hS6)
    | (go_at_call 55; refine (hse.out _ _ M6.out).mono ?_; rintro e w7 ⟨rfl, v7, hM7, hS7⟩; have M7 := Lib.hid hM7; have S7 := Lib.hid hS7; clear hM7 hS7))
  go_ret
  exact P.out.done h'.out hl'.out S3.out hS5.out S6.out M7.out S7.out
end
end Go.Proofs.Ytnfaeejeipbciaa
end

section
set_option linter.unusedVariables false
set_option linter.unusedSimpArgs false
namespace Go.Proofs.Ytnfaeejeipbciaa
open Go.RowKit

theorem u64_wrap (x : Int) : IntKind.u64.wrap x = x % 18446744073709551616 := IntKind.wrap_u64 x
/-- x as an unsigned number, by n, what is left -/
def lowN (x n : Int) : Int := (x % 18446744073709551616) % n
theorem lowN_bd (x : Int) {n : Int} (hn : 0 < n) : 0 ≤ lowN x n ∧ lowN x n < n := ⟨Int.emod_nonneg _ (by omega), Int.emod_lt_of_pos _ hn⟩

set_option maxHeartbeats 400000 in
theorem low_any (x n : Int) (w : World) (h1 : 0 < n) (h2 : n ≤ 4611686018427387904) :
    Calls Try.prog 21 #[.int .i64 x, .int .i64 n] w fun e w' => e = .returned (.int .i64 (lowN x n)) ∧ w = w' := by
  have hb := Lib.hid (lowN_bd x h1)
  have hn0 : ¬ n = 0 := by omega
  go_enter Try.func21, Try.ntmps21
  go_wp2
  go_ret
  refine ⟨ret_int ?_, rfl⟩
  have h := hb.out
  rw [u64_wrap, tmod_of_emod]
  unfold lowN at *
  generalize x % 18446744073709551616 % n = y at *
  unfold wrap64
  omega
/-- a number from 0 to below n -/
theorem low_nat (x : Int) (n : Nat) (w : World) (h1 : 0 < n) (h2 : n ≤ 1000000) :
    Calls Try.prog 21 #[.int .i64 x, .int .i64 (n : Int)] w fun e w' => ∃ k : Nat, k < n ∧ e = .returned (.int .i64 (k : Int)) ∧ w = w' := by
  refine (low_any x n w (by omega) (by omega)).mono fun e w' ⟨he, hw⟩ => ?_
  have hb := lowN_bd x (n := (n : Int)) (by omega)
  exact ⟨(lowN x n).toNat, by omega, by rw [he]; congr 2; omega, hw⟩
theorem low_c (x C : Int) (n : Nat) (w : World) (hC : C = (n : Int)) (h1 : 0 < n) (h2 : n ≤ 1000000) :
    Calls Try.prog 21 #[.int .i64 x, .int .i64 C] w fun e w' => ∃ k : Nat, k < n ∧ e = .returned (.int .i64 (k : Int)) ∧ w = w' := by
  subst hC; exact low_nat x n w h1 h2
end Go.Proofs.Ytnfaeejeipbciaa
end
