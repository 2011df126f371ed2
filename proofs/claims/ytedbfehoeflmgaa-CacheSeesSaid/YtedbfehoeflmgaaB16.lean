/-
  A cache: Put.
  A cache: Put of a sector that is held.
  So many bytes of a number.
  What the laws share over bytes: are two lists the same?
  Are two lists of integers the same (where they are)?
  Numbers from 0 to below n.
  Bytes made with room behind them; a row known whole as a slice of one's own; an append where there is room.
-/
import Derived.Test.YtedbfehoeflmgaaB15
import Derived.Test.YtedbfehoeflmgaaB10
import Derived.Deep.LoopGhost
import Derived.Test.YtedbfehoeflmgaaB3
import Derived.Test.YtedbfehoeflmgaaB1

section
set_option linter.unusedVariables false
set_option linter.unusedSimpArgs false
namespace Go.Proofs.Ytedbfehoeflmgaa
open Go.RowKit BigFrame
set_option maxRecDepth 100000

section
variable {w w1 w' : World} {B : Nat} {c c' : Ck} {L L' : List Sx} {A A' : Lies} {d d' : Dk}
def PutPost (B : Nat) (A : Lies) (d : Dk) (c : Ck) (p : Nat) (l : List Nat) (pn : Bool) (w : World) (e : Ending) (w' : World) : Prop :=
  ∃ c' blk, e = .returned (.int .i64 0) ∧ DidPost B A d c (c.uses + 1) (trim c.most (nw c.H ⟨blk, p, l, c.uses + 1, true, pn⟩)) w w' c'
/-- a sector to be put, held at last -/
structure PutPre (w w2 : World) (B : Nat) (c c1 : Ck) (x : Sx) (p : Nat) (pn : Bool) (K : Nat) : Prop where
  mem : CkM w2 B c1 (fr c.H)
  step : Step w c.foot w2 c1.foot
  ok : CkOk c1 (fr c.H)
  mx : x ∈ c1.H
  lif : but x (fr c.H) = frx x c1.H
  C : c1.C = c.C
  G : c1.G = c.G
  most : c1.most = c.most
  uses : c1.uses = c.uses
  one : ∀ y ∈ c1.H, y.used = x.used ∨ 1 ≤ y.used
  fin : but x c1.H = c.H.filter fun y => decide (y.pos ≠ p)
  pos : x.pos = p
  pin : x.pin = pn
  blk : x.blk = K
theorem PutPre.okx {w2 : World} {c1 : Ck} {x : Sx} {p K : Nat} {pn : Bool} (P : PutPre w w2 B c c1 x p pn K) : CkOk c1 (frx x c1.H) := ⟨P.ok.srt, P.ok.top, P.ok.pos, P.ok.low, P.ok.len, frx_sub _ _⟩
theorem PutPre.done {w2 w3 w5 w6 w7 : World} {c1 : Ck} {x : Sx} {p K : Nat} {pn : Bool} {l : List Nat} {v3 v7 : Value} (P : PutPre w w2 B c c1 x p pn K) (h : CkD w B A d c) (hl : l.length = 128)
    (hS3 : Step w2 c1.foot w3 (c1.list v3).foot) (hS5 : Step w3 (c1.list v3).foot w5 ((c1.put (x.got l)).list v3).foot) (hS6 : Step w5 ((c1.put (x.got l)).list v3).foot w6 (((c1.put (x.got l)).newest (x.got l)).list v3).foot)
    (hM7 : CkM w7 B (((c1.put (x.got l)).newest (x.got l)).trim.list v7) (fr ((c1.put (x.got l)).newest (x.got l)).trim.H)) (hS7 : Step w6 (((c1.put (x.got l)).newest (x.got l)).list v3).foot w7 (((c1.put (x.got l)).newest (x.got l)).trim.list v7).foot) : PutPost B A d c p l pn w (.returned (.int .i64 0)) w7 := by
  have hO2 : CkOk (c1.put (x.got l)) (frx (x.got l) (c1.put (x.got l)).H) := put_okx P.okx P.mx rfl rfl hl
  have hx2 : x.got l ∈ (c1.put (x.got l)).H := put_self P.mx rfl
  have hN7 := trim_n (newest_ok hO2 hx2) (newest_one (L := [x.got l]) (fun y hy => by
    rcases put_mem hy with e | ⟨hy, hne⟩
    · exact .inl (by rw [e]; exact List.mem_cons_self)
    · rcases P.one y hy with e | e
      · exact absurd e hne
      · exact .inr e) (x.got l) (fun y hy => by rw [List.mem_singleton] at hy; rw [hy])) hM7
  have hS : Step w c.foot w7 (((c1.put (x.got l)).newest (x.got l)).trim.list v7).foot := P.step.trans (hS3.trans (hS5.trans (hS6.trans hS7)))
  obtain ⟨hD, hF⟩ := h.turn hN7 P.G hS
  refine ⟨_, K, rfl, hD, hF, ⟨P.C, P.G, P.most, ?_, ?_⟩⟩
  · show c1.uses + 1 = c.uses + 1
    rw [P.uses]
  · show trim c1.most (but (x.got l) (putS (x.got l) c1.H) ++ [(x.got l).at (c1.uses + 1)]) = _
    rw [but_put (x := x) (y := x.got l) rfl, P.fin, P.most, P.uses]
    unfold nw
    congr 3
    show (⟨x.blk, x.pos, l, c.uses + 1, true, x.pin⟩ : Sx) = _
    rw [P.blk, P.pos, P.pin]
set_option maxHeartbeats 2000000 in
theorem put_miss (h : CkD w B A d c) (hmo : c.most ≤ 100000) (hu : c.uses < 100000) (hB : B ≤ w.heap.size) {p : Nat} (hpd : p < d.n) (hn : get c.H (p : Int) = none) {l : List Nat} {bb bo bcap : Nat} (hl : l.length = 128) (hbc : 128 ≤ bcap) (hx : BAt w (some ⟨bb, bo, none⟩) l) (hoff : bb < w.heap.size ∧ bb ∉ foots A c) :
    Calls Try.prog 22 #[pv c.C, .int .i64 ((p : Nat) : Int), .slice (some ⟨bb, bo, none⟩) 128 bcap] w (PutPost B A d c p l false w) := by
  have hO := h.n.ok
  have hlow : p < 2048 := by have := (IsDkS.fine h.dk).n; omega
  have hse0 := Lib.hid (fun (w1 : World) (h1 : CkD w1 B A d c) => sectors_any w1 B c.G A d h1.dk)
  have h' := Lib.hid h
  have hl' := Lib.hid hl
  have c0 := h.n.mem.hdr.cell (k := 0) rfl
  obtain ⟨cs, hcs⟩ : ∃ cs, bv l = cs := ⟨_, rfl⟩
  have hcs' := Lib.hid hcs
  have hsz := Try.sizeA
  have hus := Try.underlying84
  have hcl : cs.length = 128 := by rw [← hcs, bv_length, hl]
  have hc1 : ∀ v ∈ cs, v.oneCell' = true := by rw [← hcs]; exact bv_one l
  have hci : (Try.prog.info? 84).map (·.size) = some cs.length := by rw [hcl]; exact hsz
  have hcs2 : cs.toArray.size = 128 := by simp [hcl]
  have hci2 : (Try.prog.info? 84).map (·.size) = some cs.toArray.size := by rw [hcs2]; exact hsz
  have hall : cs.toArray.all (·.oneCell') = true := all_oneCell_toArray hc1
  have harr : ∀ w, (Instr.arrayAt 84 (.slice (some ⟨bb, bo, none⟩) 128 bcap)).run Try.prog w = .ok (.pointer (some ⟨bb, bo, none⟩)) w := fun w => by apply run_arrayAt; exact hus; omega
  have hx' := Lib.hid hx
  have hoff' := Lib.hid hoff
  have hp0 : ¬ ((p : Int) < 0) := by omega
  have hp1 : ¬ ((d.n : Int) ≤ (p : Int)) := by omega
  obtain ⟨dn, hdn⟩ : ∃ dn, d.n = dn := ⟨_, rfl⟩
  rw [hdn] at hse0 hp1
  have hfi := Lib.hid (find_c h.n.mem ((p : Nat) : Int) ⟨by omega, by omega⟩)
  rw [hn] at hfi
  have hho := Lib.hid (fun (w2 : World) (hM : CkM w2 B c (fr c.H)) => hold_c hM hO hM.there p hlow hn)
  have hse1 := Lib.hid (hse0.out w h)
  have hn' := Lib.hid hn
  unfold pv
  unfold pv at hfi hho c0
  simp only [found] at hfi
  clear h hO hn hpd hl hcs hx hoff hdn hse0
  go_enter Try.func22, Try.ntmps22
  go_upto_region 8 with (first
    | (go_at_call 50; refine hfi.out.mono ?_; rintro e w1 ⟨rfl, rfl⟩)
    | (go_at_call 51; refine hse1.out.mono ?_; rintro e w1 ⟨rfl, rfl⟩)
    | (go_at_call 52; refine (hho.out _ h'.out.n.mem).mono ?_; rintro e w2 ⟨rfl, hM2, hS2⟩; have M2 := Lib.hid hM2; have S2 := Lib.hid hS2; clear hM2 hS2))
  obtain ⟨K, hK⟩ : ∃ K, w.heap.size = K := ⟨_, rfl⟩
  rw [hK] at M2 S2 ⊢
  have P := Lib.hid (show PutPre w w2 B c (c.hold (sx0 K p)) (sx0 K p) p false K from
    ⟨M2.out, S2.out, hold_ok h'.out.n.ok h'.out.n.one (x := sx0 K p) rfl hlow (zs_length 128) hn'.out ((fr_sub c.H).cons _), List.mem_cons_self, by rw [(frx_new h'.out.n.one (x := sx0 K p) rfl).2.1]; exact ((frx_new h'.out.n.one (x := sx0 K p) rfl).1).symm, rfl, rfl, rfl, rfl, fun y hy => by
      rcases List.mem_cons.1 hy with e | hy
      · exact .inl (by rw [e])
      · exact .inr (h'.out.n.one y hy), by
      rw [show (c.hold (sx0 K p)).H = sx0 K p :: c.H from rfl, (frx_new h'.out.n.one (x := sx0 K p) rfl).2.2, List.filter_eq_self.2]
      intro y hy
      have := get_none hn'.out y hy
      simp; omega, rfl, rfl, rfl⟩)
  obtain ⟨c1, hc1e⟩ : ∃ c1, c.hold (sx0 K p) = c1 := ⟨_, rfl⟩
  obtain ⟨x, hxe⟩ : ∃ x, sx0 K p = x := ⟨_, rfl⟩
  rw [hc1e, hxe] at P
  clear M2 S2 hc1e hxe hK
  have hS2 := P.out.step
  have hbx : BAt w2 (some ⟨bb, bo, none⟩) l := by
    rcases hx'.out with h0 | ⟨b2, o2, e, hc⟩
    · exact .inl h0
    · cases e
      exact .inr ⟨bb, bo, rfl, fun k hk => by rw [World.cell?_of_block (w := w) (a := ⟨bb, bo + k, none⟩) (hS2.block bb hoff'.out.1 (fun e => hoff'.out.2 (List.mem_append_right _ e)))]; exact hc k hk⟩
  have hbf : bb ∉ c1.foot := fun e => by
    rcases hS2.foot bb e with e | e
    · exact hoff'.out.2 (List.mem_append_right _ e)
    · have := hoff'.out.1; omega
  have hb2 : bb < w2.heap.size := Nat.lt_of_lt_of_le hoff'.out.1 hS2.size
  have hli := Lib.hid (lift_c P.out.mem P.out.ok P.out.mx)
  rw [P.out.C, P.out.blk] at hli
  have hbx' := Lib.hid hbx
  unfold pv at hli
  clear hS2 hbx
  go_upto_region 9 with (go_at_call 53; refine hli.out.mono ?_; rintro e w3 ⟨rfl, v3, hM3, hS3⟩; have M3 := Lib.hid hM3; have S3 := Lib.hid hS3; clear hM3 hS3)
  have hM3 := M3.out
  rw [P.out.lif] at hM3
  have hm := put_mid (l := l) hM3 P.out.okx P.out.mx hl'.out
  rw [P.out.blk, hcs'.out] at hm
  have k2 : w3.rangeAt bb bo cs := by
    rw [← hcs'.out]
    exact rangeAt_block (bat_range hbx'.out) (S3.out.block bb hb2 hbf)
  have hx3 : x ∈ (c1.list v3).H := P.out.mx
  have k3 : w3.there K 1 cs.toArray.size := by rw [hcs2, ← P.out.blk]; exact there_x (M3.out.sec _ hx3) (P.out.ok.len _ P.out.mx)
  have hwl : (x.withB l).b.length = 128 := hl'.out
  have j3 := hm.2.2.cell (Sx.c130 hwl)
  have j4 := hm.2.2.frozen 130
  have hM5 := Lib.hid hm.1
  have hS5 := Lib.hid hm.2.1
  clear hm hM3
  go_upto_region 11 with (first
    | (refine wpList_load_mid rfl 84 (.tmp 47) rfl bb bo rfl cs _ k2 hus rfl hci ?_)
    | (refine wpList_store_mid rfl 84 (.tmp 50) (.tmp 48) rfl K 1 cs.toArray rfl rfl k3 hci2 hall ?_))
  obtain ⟨w5, hw5⟩ : ∃ w5, (w3.setCells K 1 cs).setCell ⟨K, 130, none⟩ (.bool true) = w5 := ⟨_, rfl⟩
  rw [hw5] at hM5 hS5 ⊢
  have hO2 := Lib.hid (put_okx (y := x.got l) P.out.okx P.out.mx rfl rfl hl'.out)
  have hx2 := Lib.hid (put_self (x := x.got l) P.out.mx rfl)
  have hre := Lib.hid (renew_l (c := c1.put (x.got l)) hM5.out hO2.out hx2.out (by show c1.uses < 100000; rw [P.out.uses]; exact hu))
  have hse := Lib.hid (fun (w6 : World) (v : Value) (hM : CkM w6 B (((c1.put (x.got l)).newest (x.got l)).list v) (frx (x.got l) (c1.put (x.got l)).H)) => show Calls Try.prog 55 #[pv c.C, pv K] w6 fun e w' => e = .returned (.tuple #[]) ∧ ∃ v', CkM w' B (((c1.put (x.got l)).newest (x.got l)).trim.list v') (fr ((c1.put (x.got l)).newest (x.got l)).trim.H) ∧ Step w6 (((c1.put (x.got l)).newest (x.got l)).list v).foot w' (((c1.put (x.got l)).newest (x.got l)).trim.list v').foot from by
    have h1 := settle_l (c := c1.put (x.got l)) hM hO2.out hx2.out (by show c1.most ≤ 100000; rw [P.out.most]; exact hmo)
    rw [show (c1.put (x.got l)).C = c.C from P.out.C, show (x.got l).blk = K from P.out.blk] at h1
    exact h1.mono fun e w' ⟨h2, v', h3, h4, _⟩ => ⟨h2, v', h3, h4⟩)
  rw [show (c1.put (x.got l)).C = c.C from P.out.C, show (x.got l).blk = K from P.out.blk] at hre
  unfold pv at hre hse
  clear k2 k3 j3 j4 harr hall hci2 hcs2 hci hc1 hcl hus hsz hw5
  go_wp2_with (first
    | (go_at_call 54; refine hre.out.mono ?_; rintro e w6 ⟨rfl, hM6, hS6⟩; have M6 := Lib.hid hM6; have S6 := Lib.hid hS6; clear hM6 hS6)
    | (go_at_call 55; refine (hse.out _ _ M6.out).mono ?_; rintro e w7 ⟨rfl, v7, hM7, hS7⟩; have M7 := Lib.hid hM7; have S7 := Lib.hid hS7; clear hM7 hS7))
  go_ret
  exact P.out.done h'.out hl'.out S3.out hS5.out S6.out M7.out S7.out
end
end Go.Proofs.Ytedbfehoeflmgaa
end

section
set_option linter.unusedVariables false
set_option linter.unusedSimpArgs false
namespace Go.Proofs.Ytedbfehoeflmgaa
open Go.RowKit BigFrame
set_option maxRecDepth 100000

section
variable {w w1 w' : World} {B : Nat} {c c' : Ck} {L L' : List Sx} {A A' : Lies} {d d' : Dk}
set_option maxHeartbeats 2000000 in
theorem put_hit (h : CkD w B A d c) (hmo : c.most ≤ 100000) (hu : c.uses < 100000) (hB : B ≤ w.heap.size) {p : Nat} (hpd : p < d.n) {x : Sx} (hxm : x ∈ c.H) (hxp : x.pos = p) {l : List Nat} {bb bo bcap : Nat} (hl : l.length = 128) (hbc : 128 ≤ bcap) (hx : BAt w (some ⟨bb, bo, none⟩) l) (hoff : bb < w.heap.size ∧ bb ∉ foots A c) :
    Calls Try.prog 22 #[pv c.C, .int .i64 ((p : Nat) : Int), .slice (some ⟨bb, bo, none⟩) 128 bcap] w (PutPost B A d c p l x.pin w) := by
  have hO := h.n.ok
  have hlow : p < 2048 := by have := (IsDkS.fine h.dk).n; omega
  have hse0 := Lib.hid (fun (w1 : World) (h1 : CkD w1 B A d c) => sectors_any w1 B c.G A d h1.dk)
  have h' := Lib.hid h
  have hl' := Lib.hid hl
  have c0 := h.n.mem.hdr.cell (k := 0) rfl
  obtain ⟨cs, hcs⟩ : ∃ cs, bv l = cs := ⟨_, rfl⟩
  have hcs' := Lib.hid hcs
  have hsz := Try.sizeA
  have hus := Try.underlying84
  have hcl : cs.length = 128 := by rw [← hcs, bv_length, hl]
  have hc1 : ∀ v ∈ cs, v.oneCell' = true := by rw [← hcs]; exact bv_one l
  have hci : (Try.prog.info? 84).map (·.size) = some cs.length := by rw [hcl]; exact hsz
  have hcs2 : cs.toArray.size = 128 := by simp [hcl]
  have hci2 : (Try.prog.info? 84).map (·.size) = some cs.toArray.size := by rw [hcs2]; exact hsz
  have hall : cs.toArray.all (·.oneCell') = true := all_oneCell_toArray hc1
  have harr : ∀ w, (Instr.arrayAt 84 (.slice (some ⟨bb, bo, none⟩) 128 bcap)).run Try.prog w = .ok (.pointer (some ⟨bb, bo, none⟩)) w := fun w => by apply run_arrayAt; exact hus; omega
  have hx' := Lib.hid hx
  have hoff' := Lib.hid hoff
  have hp0 : ¬ ((p : Int) < 0) := by omega
  have hp1 : ¬ ((d.n : Int) ≤ (p : Int)) := by omega
  obtain ⟨dn, hdn⟩ : ∃ dn, d.n = dn := ⟨_, rfl⟩
  rw [hdn] at hse0 hp1
  have hfi := Lib.hid (find_c h.n.mem ((p : Nat) : Int) ⟨by omega, by omega⟩)
  rw [← hxp, get_at hO.pos hxm, hxp] at hfi
  have hse1 := Lib.hid (hse0.out w h)
  have hxm' := Lib.hid hxm
  have hxp' := Lib.hid hxp
  unfold pv
  unfold pv at hfi c0
  simp only [found, pv] at hfi
  clear h hO hxm hxp hpd hl hcs hx hoff hdn hse0
  go_enter Try.func22, Try.ntmps22
  go_upto_region 8 with (first
    | (go_at_call 50; refine hfi.out.mono ?_; rintro e w1 ⟨rfl, rfl⟩)
    | (go_at_call 51; refine hse1.out.mono ?_; rintro e w1 ⟨rfl, rfl⟩))
  obtain ⟨K, hK⟩ : ∃ K, x.blk = K := ⟨_, rfl⟩
  have P := Lib.hid (show PutPre w w B c c x p x.pin K from
    ⟨h'.out.n.mem, Step.refl _ _, h'.out.n.ok, hxm'.out, but_fr _ _, rfl, rfl, rfl, rfl, fun y hy => .inr (h'.out.n.one y hy), by rw [← hxp'.out]; exact but_pos h'.out.n.ok.srt h'.out.n.ok.pos hxm'.out, hxp'.out, rfl, hK⟩)
  rw [hK]
  clear hK
  have hS2 := P.out.step
  have hbx : BAt w (some ⟨bb, bo, none⟩) l := by
    rcases hx'.out with h0 | ⟨b2, o2, e, hc⟩
    · exact .inl h0
    · cases e
      exact .inr ⟨bb, bo, rfl, fun k hk => by rw [World.cell?_of_block (w := w) (a := ⟨bb, bo + k, none⟩) (hS2.block bb hoff'.out.1 (fun e => hoff'.out.2 (List.mem_append_right _ e)))]; exact hc k hk⟩
  have hbf : bb ∉ c.foot := fun e => by
    rcases hS2.foot bb e with e | e
    · exact hoff'.out.2 (List.mem_append_right _ e)
    · have := hoff'.out.1; omega
  have hb2 : bb < w.heap.size := Nat.lt_of_lt_of_le hoff'.out.1 hS2.size
  have hli := Lib.hid (lift_c P.out.mem P.out.ok P.out.mx)
  rw [P.out.C, P.out.blk] at hli
  have hbx' := Lib.hid hbx
  unfold pv at hli
  clear hS2 hbx
  go_upto_region 9 with (go_at_call 53; refine hli.out.mono ?_; rintro e w3 ⟨rfl, v3, hM3, hS3⟩; have M3 := Lib.hid hM3; have S3 := Lib.hid hS3; clear hM3 hS3)
  have hM3 := M3.out
  rw [P.out.lif] at hM3
  have hm := put_mid (l := l) hM3 P.out.okx P.out.mx hl'.out
  rw [P.out.blk, hcs'.out] at hm
  have k2 : w3.rangeAt bb bo cs := by
    rw [← hcs'.out]
    exact rangeAt_block (bat_range hbx'.out) (S3.out.block bb hb2 hbf)
  have hx3 : x ∈ (c.list v3).H := P.out.mx
  have k3 : w3.there K 1 cs.toArray.size := by rw [hcs2, ← P.out.blk]; exact there_x (M3.out.sec _ hx3) (P.out.ok.len _ P.out.mx)
  have hwl : (x.withB l).b.length = 128 := hl'.out
  have j3 := hm.2.2.cell (Sx.c130 hwl)
  have j4 := hm.2.2.frozen 130
  have hM5 := Lib.hid hm.1
  have hS5 := Lib.hid hm.2.1
  clear hm hM3
  go_upto_region 11 with (first
    | (refine wpList_load_mid rfl 84 (.tmp 47) rfl bb bo rfl cs _ k2 hus rfl hci ?_)
    | (refine wpList_store_mid rfl 84 (.tmp 50) (.tmp 48) rfl K 1 cs.toArray rfl rfl k3 hci2 hall ?_))
  obtain ⟨w5, hw5⟩ : ∃ w5, (w3.setCells K 1 cs).setCell ⟨K, 130, none⟩ (.bool true) = w5 := ⟨_, rfl⟩
  rw [hw5] at hM5 hS5 ⊢
  have hO2 := Lib.hid (put_okx (y := x.got l) P.out.okx P.out.mx rfl rfl hl'.out)
  have hx2 := Lib.hid (put_self (x := x.got l) P.out.mx rfl)
  have hre := Lib.hid (renew_l (c := c.put (x.got l)) hM5.out hO2.out hx2.out (by show c.uses < 100000; rw [P.out.uses]; exact hu))
  have hse := Lib.hid (fun (w6 : World) (v : Value) (hM : CkM w6 B (((c.put (x.got l)).newest (x.got l)).list v) (frx (x.got l) (c.put (x.got l)).H)) => show Calls Try.prog 55 #[pv c.C, pv K] w6 fun e w' => e = .returned (.tuple #[]) ∧ ∃ v', CkM w' B (((c.put (x.got l)).newest (x.got l)).trim.list v') (fr ((c.put (x.got l)).newest (x.got l)).trim.H) ∧ Step w6 (((c.put (x.got l)).newest (x.got l)).list v).foot w' (((c.put (x.got l)).newest (x.got l)).trim.list v').foot from by
    have h1 := settle_l (c := c.put (x.got l)) hM hO2.out hx2.out (by show c.most ≤ 100000; rw [P.out.most]; exact hmo)
    rw [show (c.put (x.got l)).C = c.C from P.out.C, show (x.got l).blk = K from P.out.blk] at h1
    exact h1.mono fun e w' ⟨h2, v', h3, h4, _⟩ => ⟨h2, v', h3, h4⟩)
  rw [show (c.put (x.got l)).C = c.C from P.out.C, show (x.got l).blk = K from P.out.blk] at hre
  unfold pv at hre hse
  clear k2 k3 j3 j4 harr hall hci2 hcs2 hci hc1 hcl hus hsz hw5
  go_wp2_with (first
    | (go_at_call 54; refine hre.out.mono ?_; rintro e w6 ⟨rfl, hM6, hS6⟩; have M6 := Lib.hid hM6; have S6 := Lib.hid hS6; clear hM6 hS6)
    | (go_at_call 55; refine (hse.out _ _ M6.out).mono ?_; rintro e w7 ⟨rfl, v7, hM7, hS7⟩; have M7 := Lib.hid hM7; have S7 := Lib.hid hS7; clear hM7 hS7))
  go_ret
  exact P.out.done h'.out hl'.out S3.out hS5.out S6.out M7.out S7.out
end
end Go.Proofs.Ytedbfehoeflmgaa
end

section
set_option linter.unusedVariables false
set_option linter.unusedSimpArgs false
namespace Go.Proofs.Ytedbfehoeflmgaa
open Go.RowKit BigFrame

/-- the i-th byte of a number's -/
def fillB (n : Int) (i : Nat) : Nat := ((n / 2 ^ (8 * (i % 4)) + (i : Int) * 7) % 256).toNat
def fillN (n : Int) (s : Nat) : List Nat := (List.range s).map (fillB n)
theorem fillN_length (n : Int) (s : Nat) : (fillN n s).length = s := by simp [fillN]
theorem fillN_succ (n : Int) (k : Nat) : fillN n (k + 1) = fillN n k ++ [fillB n k] := by simp [fillN, List.range_succ]
def FillRel (n : Int) (s : Nat) (w : World) (g : Nat) (v i : Value) (wr : World) : Prop :=
  ∃ k : Nat, k + g = s ∧ i = .int .i64 k ∧ OwnB wr w.heap.size v (fillN n k) ∧ Below w.heap.size w wr

set_option maxHeartbeats 1000000 in
theorem fill_any (n : Int) (s : Nat) (w : World) (hs : s ≤ 30000) :
    Calls Try.prog 23 #[.int .i64 n, .int .i64 (s : Int)] w (GivesB (fillN n s) w) := by
  go_enter Try.func23, Try.ntmps23
  go_wp2_with fail
  go_loopg [5, 6] s (fun g v i wr => FillRel n s w g v i wr)
  case atStart => exact ⟨0, by omega, rfl, OwnB.nil _ _, Below.refl _ _⟩
  case round =>
    obtain ⟨k, hk, rfl, hO, hB⟩ := hrel
    have hO' := Lib.hid hO
    have hB' := Lib.hid hB
    have hkb : k ≤ 30000 := by omega
    clear hO hB
    by_cases hlt : k < s
    · obtain ⟨g, rfl⟩ : ∃ g, gk = g + 1 := ⟨gk - 1, by omega⟩
      obtain ⟨b, hb0⟩ : ∃ b, fillB n k = b := ⟨_, rfl⟩
      have hb : (n / 2 ^ (8 * (k % 4)) + (k : Int) * 7) % 256 = (b : Int) := by
        rw [← hb0, fillB]
        have := Int.emod_nonneg (n / 2 ^ (8 * (k % 4)) + (k : Int) * 7) (show (256 : Int) ≠ 0 by omega)
        omega
      have hb' := Lib.hid hb0
      have hl1 := Lib.hid (fillN_length n k)
      have B1 := Lib.hid (hB'.out.alloc hB'.out.size (.cells #[.int .u8 (b : Int)] 5))
      have O1 := Lib.hid (hO'.out.on ((Below.refl wr.heap.size wr).alloc (Nat.le_refl _) (.cells #[.int .u8 (b : Int)] 5)) (Nat.le_refl _))
      have N1 := Lib.hid (show BAt (wr.alloc (.cells #[.int .u8 (b : Int)] 5)) (some ⟨wr.heap.size, 0, none⟩) [b] from (row_alloc wr [b]).bat)
      clear hb0
      go_wp2_with (at_builtin; refine wpList_append_bytes rfl (.tmp 16) (.tmp 27) rfl w.heap.size _ (fillN n k) rfl O1.out _ 1 1 [b] rfl rfl N1.out (fun h => by cases h) (by rw [hl1.out]; omega) B1.out.size ?_; intro v2 w2 ho2 hg2 hb2; have B2 := Lib.hid (B1.out.trans hb2); clear hb2 hg2)
      go_roundg g
      case measure => omega
      case rel =>
        refine ⟨k + 1, by omega, by go_num, ?_, B2.out⟩
        rw [fillN_succ, hb'.out]; exact ho2.out
    · obtain rfl : k = s := by omega
      go_wp2_with fail
      go_ret
      exact ⟨_, rfl, hO'.out, hB'.out⟩
theorem fill_c (n C : Int) (s : Nat) (w : World) (hC : C = (s : Int)) (hs : s ≤ 30000) :
    Calls Try.prog 23 #[.int .i64 n, .int .i64 C] w (GivesB (fillN n s) w) := by
  subst hC; exact fill_any n s w hs
end Go.Proofs.Ytedbfehoeflmgaa
end

section
set_option linter.unusedVariables false
set_option linter.unusedSimpArgs false
namespace Go.Proofs.Ytedbfehoeflmgaa
open Go.RowKit BigFrame

theorem same_len (a b : Option Addr) (c1 c2 n m : Nat) (w : World) (h : n ≠ m) :
    Calls Try.prog 27 #[.slice a n c1, .slice b m c2] w fun e w' => e = .returned (.bool false) ∧ w = w' := by
  have t : ((n : Int) != (m : Int)) = true := by rw [bne_iff_ne]; omega
  go_enter Try.func27, Try.ntmps27
  go_wp2_with fail
  go_ret
  exact ⟨rfl, rfl⟩

def SameRel (l m : List Nat) (w : World) (i : Value) (wr : World) : Prop :=
  ∃ k q : Nat, k ≤ l.length ∧ i = .int .i64 k ∧ wr = w.drewN q ∧ ∀ j, j < k → bz l j = bz m j

set_option maxHeartbeats 400000 in
theorem same_eq (a b : Option Addr) (c1 c2 n : Nat) (l m : List Nat) (w : World) (hl : l.length = n) (hm : m.length = n) (hn : n ≤ 100000) (ha : BAt w a l) (hb : BAt w b m) :
    Calls Try.prog 27 #[.slice a n c1, .slice b n c2] w (Told (.bool (decide (l = m))) w) := by
  have ha' := Lib.hid ha
  have hb' := Lib.hid hb
  have hl' := Lib.hid hl
  have hm' := Lib.hid hm
  have hn' := Lib.hid hn
  clear ha hb hl hm
  go_enter Try.func27, Try.ntmps27
  go_wp2_with fail
  go_loopw [5] (fun i wr => SameRel l m w i wr) (fun i _ => n - (intOf i).toNat)
  case atStart => exact ⟨0, 0, by omega, rfl, rfl, fun j h => by omega⟩
  case round =>
    obtain ⟨k, q, hk, rfl, rfl, heq⟩ := hrel
    rw [hl'.out] at hk
    have heq' := Lib.hid heq
    clear heq
    by_cases hlt : k < n
    · obtain ⟨b1, o1, rfl⟩ := ha'.out.addr (by rw [hl'.out]; omega)
      obtain ⟨b2, o2, rfl⟩ := hb'.out.addr (by rw [hm'.out]; omega)
      have q1 := ha'.out.cell (k := k) (by rw [hl'.out]; omega)
      have q2 := hb'.out.cell (k := k) (by rw [hm'.out]; omega)
      by_cases he : bz l k = bz m k
      · have t : (((bz l k : Nat) : Int) != ((bz m k : Nat) : Int)) = false := by rw [bne_eq_false_iff_eq, he]
        have hend := Lib.hid (fun p => show SameRel l m w (.int .i64 ((k : Int) + 1)) (w.drewN p) from ⟨k + 1, p, by rw [hl'.out]; omega, by go_num, rfl, fun j hj => by
          by_cases e : j = k
          · subst e; exact he
          · exact heq'.out j (by omega)⟩)
        clear he
        go_wp2_with fail
        go_big_quiet (fail)
        go_wp2_with fail
        exact ⟨hend.out _, by simp [intOf]; omega⟩
      · have t : (((bz l k : Nat) : Int) != ((bz m k : Nat) : Int)) = true := by rw [bne_iff_ne]; omega
        have hend := Lib.hid (show decide (l = m) = false by rw [decide_eq_false_iff_not]; intro e; exact he (by rw [e]))
        clear he
        go_wp2_with fail
        go_big_quiet (fail)
        go_wp2_with fail
        go_ret
        exact ⟨by rw [hend.out]; rfl, _, World.drewN_drewN _ _ _⟩
    · have hend := Lib.hid (show decide (l = m) = true by
        rw [decide_eq_true_eq]
        exact bz_ext (by rw [hl'.out, hm'.out]) (fun j hj => heq'.out j (by rw [hl'.out] at hj; omega)))
      go_wp2_with fail
      go_ret
      exact ⟨by rw [hend.out]; rfl, _, rfl⟩
/-- are two lists the same? -/
theorem same_any (a b : Option Addr) (c1 c2 n1 n2 : Nat) (l m : List Nat) (w : World) (hl : l.length = n1) (hm : m.length = n2) (hn : n1 ≤ 100000) (ha : BAt w a l) (hb : BAt w b m) :
    Calls Try.prog 27 #[.slice a n1 c1, .slice b n2 c2] w (Told (.bool (decide (l = m))) w) := by
  by_cases h : n1 = n2
  · subst h; exact same_eq a b c1 c2 n1 l m w hl hm hn ha hb
  · have e : decide (l = m) = false := by rw [decide_eq_false_iff_not]; intro e; rw [e] at hl; omega
    rw [e]
    exact (same_len a b c1 c2 n1 n2 w h).mono fun _ _ ⟨he, hw⟩ => ⟨he, 0, hw.symm⟩
theorem same_same (a b : Option Addr) (c1 c2 n : Nat) (l m : List Nat) (w : World) (hl : l.length = n) (hlm : l = m) (hn : n ≤ 100000) (ha : BAt w a l) (hb : BAt w b m) :
    Calls Try.prog 27 #[.slice a n c1, .slice b n c2] w fun e w' => e = .returned (.bool true) ∧ Below w.heap.size w w' := by
  subst hlm
  refine (same_any a b c1 c2 n n l l w hl hl hn ha hb).mono fun e w' h => ?_
  have := h.below
  rwa [show decide (l = l) = true by simp] at this
theorem same_diff (a b : Option Addr) (c1 c2 n : Nat) (l m : List Nat) (w : World) (hl : l.length = n) (hm : m.length = n) (hlm : l ≠ m) (hn : n ≤ 100000) (ha : BAt w a l) (hb : BAt w b m) :
    Calls Try.prog 27 #[.slice a n c1, .slice b n c2] w fun e w' => e = .returned (.bool false) ∧ Below w.heap.size w w' := by
  refine (same_any a b c1 c2 n n l m w hl hm hn ha hb).mono fun e w' h => ?_
  have := h.below
  rwa [show decide (l = m) = false by simpa using hlm] at this
theorem same_r (a b : Option Addr) (c1 c2 n : Nat) (l m : List Nat) (r : Bool) (w : World) (hl : l.length = n) (hm : m.length = n) (hr : decide (l = m) = r) (hn : n ≤ 100000) (ha : BAt w a l) (hb : BAt w b m) :
    Calls Try.prog 27 #[.slice a n c1, .slice b n c2] w fun e w' => e = .returned (.bool r) ∧ Below w.heap.size w w' := by
  subst hr
  exact (same_any a b c1 c2 n n l m w hl hm hn ha hb).mono fun e w' h => h.below
end Go.Proofs.Ytedbfehoeflmgaa
end

section
set_option linter.unusedVariables false
set_option linter.unusedSimpArgs false
namespace Go.Proofs.Ytedbfehoeflmgaa
open Go.RowKit BigFrame

theorem blI_drew {B m : Nat} {a w : World} (h : Below B a w) : Below B a (w.drewN m) := ⟨h.os, h.tape, h.output, h.size, h.block⟩
def SameIRel (a b : Option Addr) (n : Nat) (R C : Nat → Int) (w : World) (i : Value) (wr : World) : Prop :=
  ∃ k : Nat, k ≤ n ∧ i = .int .i64 k ∧ IntsAt wr a n R ∧ IntsAt wr b n C ∧ Below w.heap.size w wr
theorem sameI_any (a b : Option Addr) (c1 c2 n : Nat) (R C : Nat → Int) (w : World) (hn : n ≤ 1000) (ha : IntsAt w a n R) (hb : IntsAt w b n C) (he : ∀ k, k < n → R k = C k) :
    Calls Try.prog 14 #[.slice a n c1, .slice b n c2] w fun e w' => e = .returned (.bool true) ∧ Below w.heap.size w w' := by
  have ha' := Lib.hid ha
  have hb' := Lib.hid hb
  have he' := Lib.hid he
  clear ha hb he
  go_enter Try.func14, Try.ntmps14
  go_wp2_with fail
  go_loopw [5] (fun i wr => SameIRel a b n R C w i wr) (fun i _ => n - (intOf i).toNat)
  case atStart => exact ⟨0, by omega, rfl, ha'.out, hb'.out, Below.refl _ _⟩
  case round =>
    obtain ⟨k, hk, rfl, hA, hB, hbel⟩ := hrel
    by_cases hlt : k < n
    · have hA' := hA
      have hB' := hB
      rcases hA' with h | ⟨b1, o1, rfl, h1⟩
      · omega
      · rcases hB' with h | ⟨b2, o2, rfl, h2⟩
        · omega
        · have q1 := h1 k hlt
          have q2 := h2 k hlt
          rw [he'.out k hlt] at q1
          have hend := Lib.hid (fun m => show SameIRel (some ⟨b1, o1, none⟩) (some ⟨b2, o2, none⟩) n R C w (.int .i64 ((k : Int) + 1)) (World.drewN _ m) from ⟨k + 1, by omega, by go_num, hA.drew, hB.drew, blI_drew hbel⟩)
          clear h1 h2 hA hB hbel
          go_wp2_with fail
          go_big_quiet (fail)
          go_wp2_with fail
          exact ⟨hend.out _, by simp [intOf]; omega⟩
    · have hbel' := Lib.hid hbel
      clear hA hB hbel
      go_wp2_with fail
      go_ret
      exact ⟨rfl, hbel'.out⟩

end Go.Proofs.Ytedbfehoeflmgaa
end

section
set_option linter.unusedVariables false
set_option linter.unusedSimpArgs false
namespace Go.Proofs.Ytedbfehoeflmgaa
open Go.RowKit

theorem u64_wrap (x : Int) : IntKind.u64.wrap x = x % 18446744073709551616 := IntKind.wrap_u64 x
/-- x as an unsigned number, by n, what is left -/
def lowN (x n : Int) : Int := (x % 18446744073709551616) % n
theorem lowN_bd (x : Int) {n : Int} (hn : 0 < n) : 0 ≤ lowN x n ∧ lowN x n < n := ⟨Int.emod_nonneg _ (by omega), Int.emod_lt_of_pos _ hn⟩

set_option maxHeartbeats 400000 in
theorem low_any (x n : Int) (w : World) (h1 : 0 < n) (h2 : n ≤ 4611686018427387904) :
    Calls Try.prog 21 #[.int .i64 x, .int .i64 n] w fun e w' => e = .returned (.int .i64 (lowN x n)) ∧ w = w' := by
  have hb := Lib.hid (lowN_bd x h1)
  have hn0 : ¬ n = 0 := by omega
  go_enter Try.func21, Try.ntmps21
  go_wp2
  go_ret
  refine ⟨ret_int ?_, rfl⟩
  have h := hb.out
  rw [u64_wrap, tmod_of_emod]
  unfold lowN at *
  generalize x % 18446744073709551616 % n = y at *
  unfold wrap64
  omega
/-- a number from 0 to below n -/
theorem low_nat (x : Int) (n : Nat) (w : World) (h1 : 0 < n) (h2 : n ≤ 1000000) :
    Calls Try.prog 21 #[.int .i64 x, .int .i64 (n : Int)] w fun e w' => ∃ k : Nat, k < n ∧ e = .returned (.int .i64 (k : Int)) ∧ w = w' := by
  refine (low_any x n w (by omega) (by omega)).mono fun e w' ⟨he, hw⟩ => ?_
  have hb := lowN_bd x (n := (n : Int)) (by omega)
  exact ⟨(lowN x n).toNat, by omega, by rw [he]; congr 2; omega, hw⟩
theorem low_c (x C : Int) (n : Nat) (w : World) (hC : C = (n : Int)) (h1 : 0 < n) (h2 : n ≤ 1000000) :
    Calls Try.prog 21 #[.int .i64 x, .int .i64 C] w fun e w' => ∃ k : Nat, k < n ∧ e = .returned (.int .i64 (k : Int)) ∧ w = w' := by
  subst hC; exact low_nat x n w h1 h2
end Go.Proofs.Ytedbfehoeflmgaa
end

section
set_option linter.unusedVariables false
set_option linter.unusedSimpArgs false
namespace Go.Proofs.Ytedbfehoeflmgaa
open Go.RowKit BigFrame

theorem wpList_make_cap_bytes {w : World} {ops : Array Oper} {rest : List Oper} {o : Oper} {a : Act} {Q : Exit → Act → World → Prop} (hg : o.guard = none) (l c : Operand) (hop : o.op = Op.makeSlice 54 l c)
    (m n : Nat) (C : Int) (hl : a.eval l = .int .i64 (m : Int)) (hc : a.eval c = .int .i64 C) (hC : C = (n : Int)) (hmn : m ≤ n) (hn : n ≤ 1000000)
    (hK : ∀ g w1, Hid (Row w1 g (zs n)) → w.heap.size ≤ g → Below w.heap.size w w1 → wpList Try.prog ops Q rest (a.put o.dst (.slice (some ⟨g, 0, none⟩) m n)) w1) :
    wpList Try.prog ops Q (o :: rest) a w := by
  obtain ⟨i, hi, hz0, hz1, hz2⟩ := info_parts Try.infoB
  subst hC
  refine wpList_plain hg fun K hK' => ?_
  have hrun := run_make (P := Try.prog) w 54 5 i (.int .u8 0) Try.underlying54 hi hz0 .i64 .i64 (m : Int) (n : Int) (by omega) (by omega) (by rw [hz2]; omega) (by omega)
  simp only [Int.toNat_natCast, hz1, Nat.mul_one] at hrun
  have e : madeCells (Value.int .u8 0).cells n = (bv (zs n)).toArray := made_bytes n
  rw [e] at hrun
  unfold Oper.wp
  simp [execOp, hop, hl, hc, hrun, Result.andThen]
  exact hK' _ _ (hK _ _ (heap_alloc_new w _) (Nat.le_refl _) ((Below.refl _ _).alloc (Nat.le_refl _) _))

/-- the first k of a row, as a slice of the call's own -/
theorem Row.own {w : World} {g base k cap : Nat} {L : List Nat} (h : Row w g L) (hc : L.length = cap) (hcm : cap ≤ 1000000) (hk : k ≤ cap) (hb : base ≤ g) : OwnB w base (.slice (some ⟨g, 0, none⟩) k cap) (L.take k) := by
  refine ⟨by rw [bv_length, Nat.mul_one], .inr ⟨g, cap, (bv L).toArray, by rw [List.length_take, Nat.min_eq_left (by omega)], hb, h, by rw [List.length_take]; omega, by unfold maxLen; omega, by simp [bv_length, hc], ?_⟩⟩
  rw [Nat.mul_one, List.length_take, Nat.min_eq_left (by omega), bv_take]

theorem wpList_append_room {w : World} {ops : Array Oper} {rest : List Oper} {o : Oper} {a : Act} {Q : Exit → Act → World → Prop} (hgd : o.guard = none) (s x : Operand)
    (ho : o.op = .call { callee := .builtin .append, args := #[s, x], argTypes := #[54, 54] })
    (g k cap : Nat) (L : List Nat) (hs : a.eval s = .slice (some ⟨g, 0, none⟩) k cap) (hrow : Row w g L) (hcap : L.length = cap) (hcm : cap ≤ 1000000)
    (sp : Option Addr) (n sCap : Nat) (m : List Nat) (hx : a.eval x = .slice sp n sCap) (hm : m.length = n) (hsrc : BAt w sp m) (hnil : sp = none → sCap = 0) (hroom : k + n ≤ cap)
    (h : ∀ w', Hid (Row w' g (splice L k m)) → (∀ B, B ≤ g → Below B w w') → wpList Try.prog ops Q rest (a.put o.dst (.slice (some ⟨g, 0, none⟩) (k + n) cap)) w') : wpList Try.prog ops Q (o :: rest) a w := by
  obtain ⟨i, hi, hz0, hz1, hz2⟩ := info_parts Try.infoB
  subst hm
  have own := hrow.own (base := 0) hcap hcm (show k ≤ cap by omega) (Nat.zero_le _)
  cases sp with
  | none =>
    obtain rfl := hnil rfl
    have hm : m = [] := by
      rcases hsrc with h | ⟨b, off, e, _⟩
      · exact List.eq_nil_of_length_eq_zero h
      · cases e
    subst hm
    refine wpList_append_own_none hgd s x _ ho 0 5 i 1 Try.underlying54 hi _ _ _ hs own hx (h _ ?_ (fun B _ => Below.refl _ _))
    show Row w g (splice L k [])
    unfold splice
    simpa using hrow
  | some ad =>
    refine wpList_plain hgd fun K hK => ?_
    have hrun := run_append_room (P := Try.prog) w 54 o.type 5 i Try.underlying54 hi g k cap (bv L).toArray hrow ad m.length sCap (bv m) (by rw [bv_length, hz1, Nat.mul_one]) (by
      intro j u hu
      obtain ⟨hj, rfl⟩ := bv_at hu
      obtain ⟨b, off, e⟩ := hsrc.addr (by omega)
      obtain rfl := Option.some.inj e
      rw [addr_add]; exact hsrc.cell hj) (bv_one m) hroom (by simp [bv_length, hz1]; omega)
    have e : ((bv L).toArray.toList.take (k * i.size) ++ bv m ++ (bv L).toArray.toList.drop (k * i.size + (bv m).length)) = bv (splice L k m) := by
      rw [hz1, Nat.mul_one, ← bv_splice]
      simp [splice]
    rw [e] at hrun
    unfold Oper.wp
    simp [execOp, ho, resolve, invoke, builtin, hs, hx, hrun, Result.andThen]
    refine hK _ _ (h _ ?_ (fun B hB => below_setRow (Below.refl _ _) hB _))
    exact setRow_heap w g _ _ _ _ hrow
end Go.Proofs.Ytedbfehoeflmgaa
end
