/-
  A cache: Get of a sector that is not held.
  A cache: a sector's bytes, its marks, turned where it lies.
  A cache: Pin, Drop; what is refused.
  A cache: Clean of a sector that is dirty.
-/
import Derived.Test.YtedbfehoeflmgaaB13

section
set_option linter.unusedVariables false
set_option linter.unusedSimpArgs false
namespace Go.Proofs.Ytedbfehoeflmgaa
open Go.RowKit BigFrame
set_option maxRecDepth 100000

section
variable {w w1 w' : World} {B : Nat} {c c' : Ck} {L L' : List Sx} {A A' : Lies} {d d' : Dk}
def Sx.withB (x : Sx) (l : List Nat) : Sx := { x with b := l }
theorem put_new {H : List Sx} (h1 : ∀ y ∈ H, 1 ≤ y.used) (x z : Sx) (hx : x.used = 0) (hz : z.used = 0) : putS x (z :: H) = x :: H := by
  unfold putS
  rw [List.map_cons, if_pos (by omega)]
  congr 1
  refine (List.map_congr_left fun y hy => ?_).trans (List.map_id _)
  have := h1 y hy
  rw [if_neg (by omega)]; rfl
theorem hold_ok (hO : CkOk c L) (h1 : ∀ y ∈ c.H, 1 ≤ y.used) {x : Sx} (hx : x.used = 0) (hp : x.pos < 2048) (hl : x.b.length = 128) (hn : get c.H (x.pos : Int) = none) {L' : List Sx} (hL : L'.Sublist (x :: c.H)) : CkOk (c.hold x) L' where
  srt := List.pairwise_cons.2 ⟨fun y hy => by have := h1 y hy; omega, hO.srt⟩
  top := fun y hy => by
    rcases List.mem_cons.1 hy with e | hy
    · rw [e, hx]; exact Nat.zero_le _
    · exact hO.top y hy
  pos := by
    show (x.pos :: c.H.map Sx.pos).Nodup
    refine List.nodup_cons.2 ⟨fun hm => ?_, hO.pos⟩
    obtain ⟨y, hy, e⟩ := List.mem_map.1 hm
    exact get_none hn y hy (by rw [e])
  low := fun y hy => by
    rcases List.mem_cons.1 hy with e | hy
    · rw [e]; exact hp
    · exact hO.low y hy
  len := fun y hy => by
    rcases List.mem_cons.1 hy with e | hy
    · rw [e]; exact hl
    · exact hO.len y hy
  sub := hL
theorem frx_new {H : List Sx} (h1 : ∀ y ∈ H, 1 ≤ y.used) {x : Sx} (hx : x.used = 0) : frx x (x :: H) = fr H ∧ but x (fr H) = fr H ∧ but x (x :: H) = H := by
  have e : ∀ y ∈ H, y.used ≠ x.used := fun y hy => by have := h1 y hy; omega
  refine ⟨?_, but_none fun y hy => e y (List.mem_filter.1 hy).1, ?_⟩
  · unfold frx fr
    rw [List.filter_cons, if_neg (by simp)]
    refine List.filter_congr fun y hy => ?_
    rw [decide_eq_true (e y hy), Bool.and_true]
  · unfold but
    rw [List.filter_cons, if_neg (by simp), List.filter_eq_self.2]
    intro y hy
    simpa using e y hy
/-- other bytes in a sector -/
theorem CkM.setB (h : CkM w B c L) (hO : CkOk c L') {x : Sx} (hx : x ∈ c.H) {l : List Nat} (hl : l.length = 128) : CkM (w.setCells x.blk 1 (bv l)) B (c.put (x.withB l)) L ∧ Step w c.foot (w.setCells x.blk 1 (bv l)) (c.put (x.withB l)).foot := by
  have hV := Vw.put (bv l) 1 (h.sec x hx) (by rw [bv_length, hl, Sx.csize (hO.len x hx)]; omega)
  rw [Sx.setb (hO.len x hx) hl] at hV
  refine ⟨h.putX hO.srt (x := x.withB l) hx rfl rfl rfl (fun k hk => setCells_block _ _ _ _ _ hk) hV, ?_⟩
  rw [put_foot (x := x.withB l) hO.srt hx rfl rfl]
  exact (Step.refl w c.foot).setCells x.blk 1 (bv l) (foot_x hx)
theorem there_x {x : Sx} (h : Vw w 86 x.blk x.cells) (hl : x.b.length = 128) : w.there x.blk 1 128 := h.there (by rw [Sx.csize hl]; omega)
theorem Try.sizeA : (Try.prog.info? 84).map (·.size) = some 128 := by kernel_rfl
theorem bat_range {b o : Nat} {l : List Nat} (h : BAt w (some ⟨b, o, none⟩) l) : w.rangeAt b o (bv l) := fun j v hv => by
  obtain ⟨hj, rfl⟩ := bv_at hv
  exact h.cell hj
theorem OwnB.cut {base : Nat} {v : Value} {l : List Nat} (h : OwnB w base v l) (hs : ∀ k, v.ownBlock = some k → w'.heap[k]? = w.heap[k]?) : OwnB w' base v l := OwnB.block h hs
theorem hold_put (h1 : ∀ y ∈ c.H, 1 ≤ y.used) (k p : Nat) (l : List Nat) : (c.hold (sx0 k p)).put ((sx0 k p).withB l) = c.hold ((sx0 k p).withB l) := by
  unfold Ck.put Ck.hold
  rw [put_new h1 ((sx0 k p).withB l) (sx0 k p) rfl rfl]
theorem nw_none {H : List Sx} {p : Nat} (hn : get H (p : Int) = none) (x : Sx) (hx : x.pos = p) : nw H x = H ++ [x] := by
  unfold nw
  rw [List.filter_eq_self.2]
  intro y hy
  have := get_none hn y hy
  simp; omega
set_option maxHeartbeats 2000000 in
theorem get_miss (h : CkD w B A d c) (hmo : c.most ≤ 100000) (hu : c.uses < 100000) (hB : B ≤ w.heap.size) {p : Nat} (hp : p < 2048) (hn : get c.H (p : Int) = none) (hon : d.on = true) (hpd : p < d.n) :
    Calls Try.prog 26 #[pv c.C, .int .i64 ((p : Nat) : Int)] w (GetPost B A d c p (d.seen p) false false w) := by
  have hO := h.n.ok
  have hfi := Lib.hid (find_c h.n.mem ((p : Nat) : Int) ⟨by omega, by omega⟩)
  rw [hn] at hfi
  obtain ⟨l, hl0⟩ : ∃ l, d.seen p = l := ⟨_, rfl⟩
  have hl := Lib.hid (show l.length = 128 by rw [← hl0]; exact (IsDkS.fine h.dk).seen hpd)
  have hrd := Lib.hid (read_c w B c.G A d ((p : Nat) : Int) p l rfl h.dk hon hpd hl0)
  have hn' := Lib.hid hn
  have h' := Lib.hid h
  have c0 := h.n.mem.hdr.cell (k := 0) rfl
  have hho := Lib.hid (fun (w2 : World) (hM : CkM w2 B c (fr c.H)) => hold_c hM hO hM.there p hp hn)
  obtain ⟨cs, hcs⟩ : ∃ cs, bv l = cs := ⟨_, rfl⟩
  have hcs' := Lib.hid hcs
  have hsz := Try.sizeA
  have hus := Try.underlying84
  have hcl : cs.length = 128 := by rw [← hcs, bv_length, hl.out]
  have hc1 : ∀ v ∈ cs, v.oneCell' = true := by rw [← hcs]; exact bv_one l
  have hci : (Try.prog.info? 84).map (·.size) = some cs.length := by rw [hcl]; exact hsz
  rw [hl0]
  unfold pv
  unfold pv at hfi hho c0
  simp only [found] at hfi
  clear h hO hn hon hpd hl0 hcs
  go_enter Try.func26, Try.ntmps26
  go_upto_region 10 with (first
    | (go_at_call 50; refine hfi.out.mono ?_; rintro e w1 ⟨rfl, rfl⟩)
    | (go_at_call 28; refine hrd.out.mono ?_; rintro e w1 ⟨v1, rfl, ho1, hb1⟩; obtain ⟨g1, cap1, rfl, hc1', _, _⟩ := ho1.at hl.out (by omega); have O1 := Lib.hid ho1; have B1 := Lib.hid hb1; have M1 := Lib.hid (h'.out.n.mem.on hb1 (Nat.le_refl _)); clear ho1 hb1)
    | (go_at_call 52; refine (hho.out _ M1.out).mono ?_; rintro e w2 ⟨rfl, hM2, hS2⟩; have M2 := Lib.hid hM2; have S2 := Lib.hid hS2; clear hM2 hS2))
  obtain ⟨K, hK⟩ : ∃ K, w1.heap.size = K := ⟨_, rfl⟩
  have hK' := Lib.hid hK
  rw [hK] at M2 S2 ⊢
  have hOh := Lib.hid (hold_ok h'.out.n.ok h'.out.n.one (x := sx0 K p) rfl hp (zs_length 128) hn'.out (L' := fr c.H) ((fr_sub c.H).cons _))
  have hg1 : g1 ∉ c.foot := fun e => by have := (h'.out.clt g1 e).2; omega
  have hx0 : sx0 K p ∈ (c.hold (sx0 K p)).H := List.mem_cons_self
  have hbt : BAt w1 (some ⟨g1, 0, none⟩) l := by
    obtain ⟨g, cap, e, _, _, _, hb⟩ := O1.out.form (by rw [hl.out]; omega)
    rw [hl.out] at e
    cases e
    exact hb
  have k2 : w2.rangeAt g1 0 cs := by
    rw [← hcs'.out]
    exact rangeAt_block (bat_range hbt) (S2.out.block g1 (by omega) hg1)
  have hcs2 : cs.toArray.size = 128 := by simp [hcl]
  have k3 : w2.there K 1 cs.toArray.size := by rw [hcs2]; exact there_x (M2.out.sec _ hx0) (zs_length 128)
  have hci2 : (Try.prog.info? 84).map (·.size) = some cs.toArray.size := by rw [hcs2]; exact hsz
  have hall : cs.toArray.all (·.oneCell') = true := all_oneCell_toArray hc1
  have harr : ∀ w, (Instr.arrayAt 84 (.slice (some ⟨g1, 0, none⟩) 128 cap1)).run Try.prog w = .ok (.pointer (some ⟨g1, 0, none⟩)) w := fun w => by apply run_arrayAt; exact hus; omega
  obtain ⟨hM3, hS3⟩ := M2.out.setB hOh.out hx0 hl.out
  rw [hcs'.out, hold_put h'.out.n.one, show (sx0 K p).blk = K from rfl] at hM3 hS3
  have M3 := Lib.hid hM3
  have S3 := Lib.hid hS3
  have hOk := Lib.hid (hold_ok h'.out.n.ok h'.out.n.one (x := (sx0 K p).withB l) rfl hp hl.out hn'.out (L' := fr c.H) ((fr_sub c.H).cons _))
  have hOx := Lib.hid (hold_ok h'.out.n.ok h'.out.n.one (x := (sx0 K p).withB l) rfl hp hl.out hn'.out (L' := frx ((sx0 K p).withB l) ((sx0 K p).withB l :: c.H)) (frx_sub _ _))
  have hfx := Lib.hid (frx_new h'.out.n.one (x := (sx0 K p).withB l) rfl)
  have hx1 : (sx0 K p).withB l ∈ (c.hold ((sx0 K p).withB l)).H := List.mem_cons_self
  clear hK hM3 hS3 hbt hg1
  go_upto_region 11 with (first
    | (refine wpList_load_mid rfl 84 (.tmp 39) rfl g1 0 rfl cs _ k2 hus rfl hci ?_)
    | (refine wpList_store_mid rfl 84 (.tmp 42) (.tmp 40) rfl K 1 cs.toArray rfl rfl k3 hci2 hall ?_))
  obtain ⟨x1, hx1e⟩ : ∃ x1, (sx0 K p).withB l = x1 := ⟨_, rfl⟩
  have hx1' := Lib.hid hx1e
  have hxb : x1.blk = K := by rw [← hx1e]; rfl
  rw [hx1e] at M3 S3 hOk hOx hfx hx1
  obtain ⟨w3, hw3⟩ : ∃ w3, w2.setCells K 1 cs = w3 := ⟨_, rfl⟩
  rw [hw3] at M3 S3 ⊢
  have hli := Lib.hid (lift_c M3.out hOk.out hx1)
  have hre := Lib.hid (fun (w4 : World) (v : Value) (hM : CkM w4 B ((c.hold x1).list v) (but x1 (fr c.H))) => renew_l (c := c.hold x1) (x := x1) (by rw [hfx.out.2.1] at hM; rw [show frx x1 (c.hold x1).H = fr c.H from hfx.out.1]; exact hM) hOx.out hx1 hu)
  have hse := Lib.hid (fun (w4 : World) (v : Value) (hM : CkM w4 B (((c.hold x1).newest x1).list v) (frx x1 (c.hold x1).H)) => settle_l (c := c.hold x1) hM hOx.out hx1 hmo)
  have hbx := Lib.hid (fun (w6 : World) (hV : Vw w6 86 x1.blk (x1.at (c.uses + 1)).cells) => show BAt w6 (some ⟨K, 1, none⟩) l from by
    have := bat_x (x := x1.at (c.uses + 1)) hV
    have e1 : (x1.at (c.uses + 1)).b = l := by rw [← hx1e]; rfl
    rw [e1] at this
    rw [← hxb]; exact this)
  rw [hxb] at hli hre
  have hse := Lib.hid (fun w4 v hM => (hse.out w4 v hM))
  unfold pv at hse
  simp only [hxb] at hse
  unfold pv at hli hre
  clear k2 k3 harr hall hci2 hcs2 hci hc1 hcl hus hsz hw3 hx1e
  go_wp2_with (first
    | (go_at_call 53; refine hli.out.mono ?_; rintro e w4 ⟨rfl, v4, hM4, hS4⟩; have M4 := Lib.hid hM4; have S4 := Lib.hid hS4; clear hM4 hS4)
    | (go_at_call 54; refine (hre.out _ _ M4.out).mono ?_; rintro e w5 ⟨rfl, hM5, hS5⟩; have M5 := Lib.hid hM5; have S5 := Lib.hid hS5; clear hM5 hS5)
    | (go_at_call 55; refine (hse.out _ _ M5.out).mono ?_; rintro e w6 ⟨rfl, v6, hM6, hS6, hV6⟩; have M6 := Lib.hid hM6; have S6 := Lib.hid hS6; have V6 := Lib.hid hV6; clear hM6 hS6 hV6)
    | (go_at_call 49; refine (clone_b _ _ 128 l _ hl.out (by omega) (hbx.out _ (by rw [hxb]; exact V6.out)) (fun h => by cases h)).mono ?_; rintro e w7 ⟨v7, rfl, ho7, hb7⟩; obtain ⟨g7, cap7, rfl, _, _, _⟩ := ho7.at hl.out (by omega); have O7 := Lib.hid ho7; have B7 := Lib.hid hb7; clear ho7 hb7))
  go_ret2
  have hN6 : CkN w6 B (((c.hold x1).newest x1).trim.list v6) := trim_n (newest_ok hOx.out hx1) (newest_one (L := [x1]) (fun y hy => by
    rcases List.mem_cons.1 hy with e | hy
    · exact .inl (by rw [e]; exact List.mem_cons_self)
    · exact .inr (h'.out.n.one y hy)) x1 (fun y hy => by rw [List.mem_singleton] at hy; rw [hy])) M6.out
  have hS : Step w c.foot w6 (((c.hold x1).newest x1).trim.list v6).foot := (Step.of_below B1.out c.foot).trans (S2.out.trans (S3.out.trans (S4.out.trans (S5.out.trans S6.out))))
  obtain ⟨hD, hF⟩ := h'.out.turn hN6 rfl hS
  refine ⟨_, _, K, rfl, ⟨hD.on B7.out (Nat.le_refl _), hF.trans (Step.of_below B7.out _), ⟨rfl, rfl, rfl, rfl, ?_⟩⟩, O7.out.lower hS.size, fun k hk hk2 => ?_⟩
  · show trim c.most (but x1 (x1 :: c.H) ++ [x1.at (c.uses + 1)]) = _
    rw [hfx.out.2.2, nw_none hn'.out _ rfl, ← hx1'.out]; rfl
  · have h1 := (hD.lt k hk2).2
    have h2 := (OwnB.lt O7.out k hk).1
    omega
end
end Go.Proofs.Ytedbfehoeflmgaa
end

section
set_option linter.unusedVariables false
set_option linter.unusedSimpArgs false
namespace Go.Proofs.Ytedbfehoeflmgaa
open Go.RowKit BigFrame
set_option maxRecDepth 100000

section
variable {w w1 w' : World} {B : Nat} {c c' : Ck} {L L' : List Sx} {A A' : Lies} {d d' : Dk}
def Sx.withD (x : Sx) (b : Bool) : Sx := { x with dirty := b }
def Sx.withP (x : Sx) (b : Bool) : Sx := { x with pin := b }
theorem put_put {x y : Sx} (h : x.used = y.used) (H : List Sx) : putS y (putS x H) = putS y H := by
  unfold putS
  rw [List.map_map]
  refine List.map_congr_left fun z _ => ?_
  show (if (if z.used = x.used then x else z).used = y.used then y else (if z.used = x.used then x else z)) = _
  by_cases e : z.used = x.used
  · rw [if_pos e, if_pos h, if_pos (by omega)]
  · rw [if_neg e]
theorem but_put {x y : Sx} (h : x.used = y.used) (H : List Sx) : but y (putS y H) = but x H := by
  rw [but_used h.symm]
  unfold but putS
  induction H with
  | nil => rfl
  | cons a r ih =>
    rw [List.map_cons, List.filter_cons, List.filter_cons, ih]
    by_cases e : a.used = y.used
    · rw [if_pos e, if_neg (by simp [h]), if_neg (by simp [e, h])]
    · rw [if_neg e]
theorem CkM.setD (h : CkM w B c L) (hO : CkOk c L') {x : Sx} (hx : x ∈ c.H) (b : Bool) : CkM (w.setCell ⟨x.blk, 130, none⟩ (.bool b)) B (c.put (x.withD b)) L ∧ Step w c.foot (w.setCell ⟨x.blk, 130, none⟩ (.bool b)) (c.put (x.withD b)).foot := by
  have hV := (h.sec x hx).set 130 (.bool b)
  rw [Sx.set130 (hO.len x hx)] at hV
  refine ⟨h.putX hO.srt (x := x.withD b) hx rfl rfl rfl (fun k hk => heap_set_other _ ⟨x.blk, 130, none⟩ _ hk) hV, ?_⟩
  rw [put_foot (x := x.withD b) hO.srt hx rfl rfl]
  exact (Step.refl w c.foot).setCell x.blk 130 (.bool b) (foot_x hx)
theorem CkM.setP (h : CkM w B c L) (hO : CkOk c L') {x : Sx} (hx : x ∈ c.H) (b : Bool) : CkM (w.setCell ⟨x.blk, 131, none⟩ (.bool b)) B (c.put (x.withP b)) L ∧ Step w c.foot (w.setCell ⟨x.blk, 131, none⟩ (.bool b)) (c.put (x.withP b)).foot := by
  have hV := (h.sec x hx).set 131 (.bool b)
  rw [Sx.set131 (hO.len x hx)] at hV
  refine ⟨h.putX hO.srt (x := x.withP b) hx rfl rfl rfl (fun k hk => heap_set_other _ ⟨x.blk, 131, none⟩ _ hk) hV, ?_⟩
  rw [put_foot (x := x.withP b) hO.srt hx rfl rfl]
  exact (Step.refl w c.foot).setCell x.blk 131 (.bool b) (foot_x hx)
theorem put_okx (hO : CkOk c L) {x y : Sx} (hx : x ∈ c.H) (hu : x.used = y.used) (hp : y.pos = x.pos) (hl : y.b.length = 128) : CkOk (c.put y) (frx y (c.put y).H) := hO.put hx hu hp hl (frx_sub _ _)
theorem put_mem2 {x y : Sx} (hx : x ∈ c.H) (hu : x.used = y.used) : y ∈ (c.put y).H := put_self hx hu
theorem put_frx {x y : Sx} (hu : x.used = y.used) : frx y (c.put y).H = frx x c.H := (put_fr (x := y) c.H).trans (frx_used hu.symm c.H)
/-- what Put makes of a sector ahead of renew -/
def Sx.got (x : Sx) (l : List Nat) : Sx := (x.withB l).withD true
theorem put_mid {x : Sx} {v : Value} {l : List Nat} (hM : CkM w B (c.list v) (frx x c.H)) (hO : CkOk c (frx x c.H)) (hx : x ∈ c.H) (hl : l.length = 128) :
    CkM ((w.setCells x.blk 1 (bv l)).setCell ⟨x.blk, 130, none⟩ (.bool true)) B ((c.put (x.got l)).list v) (frx (x.got l) (c.put (x.got l)).H) ∧ Step w (c.list v).foot ((w.setCells x.blk 1 (bv l)).setCell ⟨x.blk, 130, none⟩ (.bool true)) ((c.put (x.got l)).list v).foot ∧
      Vw (w.setCells x.blk 1 (bv l)) 86 x.blk (x.withB l).cells := by
  have hO1 : CkOk (c.list v) (frx x c.H) := ⟨hO.srt, hO.top, hO.pos, hO.low, hO.len, hO.sub⟩
  obtain ⟨h1, h2⟩ := hM.setB hO1 hx hl
  have hx1 : x.withB l ∈ ((c.list v).put (x.withB l)).H := put_self hx rfl
  have hO2 : CkOk ((c.list v).put (x.withB l)) (frx (x.withB l) ((c.list v).put (x.withB l)).H) := put_okx hO1 hx rfl rfl hl
  obtain ⟨h3, h4⟩ := h1.setD hO2 hx1 true
  have e : ((c.list v).put (x.withB l)).put ((x.withB l).withD true) = (c.put (x.got l)).list v := by
    show ({ (c.list v) with H := putS ((x.withB l).withD true) (putS (x.withB l) c.H) } : Ck) = { (c.list v) with H := putS (x.got l) c.H }
    have e0 : putS ((x.withB l).withD true) (putS (x.withB l) c.H) = putS (x.got l) c.H := put_put (x := x.withB l) (y := (x.withB l).withD true) rfl c.H
    rw [e0]
  rw [e] at h3 h4
  rw [put_frx (x := x) (y := x.got l) rfl]
  exact ⟨h3, h2.trans h4, h1.sec _ hx1⟩
end
end Go.Proofs.Ytedbfehoeflmgaa
end

section
set_option linter.unusedVariables false
set_option linter.unusedSimpArgs false
namespace Go.Proofs.Ytedbfehoeflmgaa
open Go.RowKit BigFrame
set_option maxRecDepth 100000

section
variable {w w1 w' : World} {B : Nat} {c c' : Ck} {L L' : List Sx} {A A' : Lies} {d d' : Dk}
/-- the calls of a nil cache -/
theorem get_nil (a : Int) (w : World) : Calls Try.prog 26 #[.pointer none, .int .i64 a] w fun e w' => e = .returned (.tuple #[.slice none 0 0, .int .i64 1]) ∧ w = w' := by
  go_enter Try.func26, Try.ntmps26
  go_wp2_with (go_at_call 50; refine (find_nil _ _).mono ?_; rintro e w1 ⟨rfl, rfl⟩)
  go_ret2
  exact ⟨rfl, rfl⟩
theorem put_nil (a : Int) (v : Value) (w : World) : Calls Try.prog 22 #[.pointer none, .int .i64 a, v] w fun e w' => e = .returned (.int .i64 1) ∧ w = w' := by
  go_enter Try.func22, Try.ntmps22
  go_wp2_with (go_at_call 50; refine (find_nil _ _).mono ?_; rintro e w1 ⟨rfl, rfl⟩)
  go_ret
  exact ⟨rfl, rfl⟩
theorem drop_nil (a : Int) (w : World) : Calls Try.prog 25 #[.pointer none, .int .i64 a] w fun e w' => e = .returned (.int .i64 0) ∧ w = w' := by
  go_enter Try.func25, Try.ntmps25
  go_wp2_with fail
  go_ret
  exact ⟨rfl, rfl⟩
/-- what is not held -/
theorem pin_none (h : CkN w B c) (a : Int) (ha : I64 a) (b : Bool) (hn : get c.H a = none) : Calls Try.prog 29 #[pv c.C, .int .i64 a, .bool b] w fun e w' => e = .returned (.int .i64 5) ∧ w = w' := by
  have hf := Lib.hid (find_c h.mem a ha)
  rw [hn] at hf
  unfold pv at hf ⊢
  simp only [found] at hf
  clear h hn
  go_enter Try.func29, Try.ntmps29
  go_wp2_with (go_at_call 50; refine hf.out.mono ?_; rintro e w1 ⟨rfl, rfl⟩)
  go_ret
  exact ⟨rfl, rfl⟩
theorem clean_none (h : CkN w B c) (a : Int) (ha : I64 a) (hn : get c.H a = none) : Calls Try.prog 24 #[pv c.C, .int .i64 a] w fun e w' => e = .returned (.int .i64 5) ∧ w = w' := by
  have hf := Lib.hid (find_c h.mem a ha)
  rw [hn] at hf
  unfold pv at hf ⊢
  simp only [found] at hf
  clear h hn
  go_enter Try.func24, Try.ntmps24
  go_wp2_with (go_at_call 50; refine hf.out.mono ?_; rintro e w1 ⟨rfl, rfl⟩)
  go_ret
  exact ⟨rfl, rfl⟩
theorem clean_not (h : CkN w B c) {x : Sx} (hx : x ∈ c.H) (hd : x.dirty = false) : Calls Try.prog 24 #[pv c.C, .int .i64 ((x.pos : Nat) : Int)] w fun e w' => e = .returned (.int .i64 0) ∧ w = w' := by
  have hlow := h.ok.low x hx
  have hf := Lib.hid (find_c h.mem ((x.pos : Nat) : Int) ⟨by omega, by omega⟩)
  rw [get_at h.ok.pos hx] at hf
  have k := (h.mem.sec x hx).cell (Sx.c130 (h.ok.len x hx))
  rw [hd] at k
  unfold pv
  simp only [found, pv] at hf
  clear h hx hd
  go_enter Try.func24, Try.ntmps24
  go_wp2_with (go_at_call 50; refine hf.out.mono ?_; rintro e w1 ⟨rfl, rfl⟩)
  all_goals (go_ret; exact ⟨rfl, rfl⟩)
/-- behind a call that answers a code -/
def ActPost (B : Nat) (A : Lies) (d : Dk) (c : Ck) (r : Int) (u : Nat) (H' : List Sx) (w : World) (e : Ending) (w' : World) : Prop := ∃ c', e = .returned (.int .i64 r) ∧ DidPost B A d c u H' w w' c'
theorem drop_c (h : CkD w B A d c) (many : Int) (hm : -1000000 ≤ many ∧ many ≤ 1000000) (n : Nat) (hn : n = min many.toNat (fr c.H).length) :
    Calls Try.prog 25 #[pv c.C, .int .i64 many] w (ActPost B A d c n c.uses (dropN c.H n) w) := by
  have hf := Lib.hid (forget_c h.n.mem h.n.ok many hm n hn)
  have hfin := Lib.hid (fun (w' : World) (v : Value) (hM : CkM w' B ((c.drop n).list v) (fr (dropN c.H n))) (hS : Step w c.foot w' ((c.drop n).list v).foot) => show ActPost B A d c n c.uses (dropN c.H n) w (.returned (.int .i64 (n : Int))) w' from by
    have hs : ∀ x, x ∈ dropN c.H n → x ∈ c.H := fun x hx => (dropN_sub _ _).subset hx
    have hN : CkN w' B ((c.drop n).list v) := ⟨hM, ⟨h.n.ok.srt.sublist (dropN_sub _ _), fun x hx => h.n.ok.top x (hs x hx), h.n.ok.pos.sub (dropN_sub _ _), fun x hx => h.n.ok.low x (hs x hx), fun x hx => h.n.ok.len x (hs x hx), fr_sub _⟩, fun x hx => h.n.one x (hs x hx)⟩
    obtain ⟨hD, hF⟩ := h.turn hN rfl hS
    exact ⟨_, rfl, hD, hF, ⟨rfl, rfl, rfl, rfl, rfl⟩⟩)
  unfold pv
  unfold pv at hf
  clear h hn
  go_enter Try.func25, Try.ntmps25
  go_wp2_with (go_at_call 57; refine hf.out.mono ?_; rintro e w1 ⟨rfl, v1, hM, hS, _⟩; have F := Lib.hid (hfin.out _ _ hM hS); clear hM hS)
  go_ret
  exact F.out
set_option maxHeartbeats 1000000 in
theorem pin_hit (h : CkD w B A d c) (hmo : c.most ≤ 100000) {x : Sx} (hx : x ∈ c.H) (b : Bool) :
    Calls Try.prog 29 #[pv c.C, .int .i64 ((x.pos : Nat) : Int), .bool b] w (ActPost B A d c 0 c.uses (trim c.most (putS (x.withP b) c.H)) w) := by
  have hO := h.n.ok
  have hlow := hO.low x hx
  have hfi := Lib.hid (find_c h.n.mem ((x.pos : Nat) : Int) ⟨by omega, by omega⟩)
  rw [get_at hO.pos hx] at hfi
  have hli := Lib.hid (lift_c h.n.mem hO hx)
  have hO1 : CkOk c (frx x c.H) := ⟨hO.srt, hO.top, hO.pos, hO.low, hO.len, frx_sub _ _⟩
  have h' := Lib.hid h
  have hO1' := Lib.hid hO1
  have hx' := Lib.hid hx
  have hmid := Lib.hid (fun (w2 : World) (v2 : Value) (hM : CkM w2 B (c.list v2) (but x (fr c.H))) => show CkM (w2.setCell ⟨x.blk, 131, none⟩ (.bool b)) B ((c.put (x.withP b)).list v2) (frx (x.withP b) (c.put (x.withP b)).H) ∧ Step w2 (c.list v2).foot (w2.setCell ⟨x.blk, 131, none⟩ (.bool b)) ((c.put (x.withP b)).list v2).foot ∧ Vw w2 86 x.blk x.cells from by
    have hV := hM.sec x hx
    rw [but_fr] at hM
    obtain ⟨h1, h2⟩ := hM.setP (c := c.list v2) (L' := frx x c.H) ⟨hO.srt, hO.top, hO.pos, hO.low, hO.len, frx_sub _ _⟩ hx b
    rw [put_frx (x := x) (y := x.withP b) rfl]
    exact ⟨h1, h2, hV⟩)
  have hO2 := Lib.hid (put_okx (y := x.withP b) hO1 hx rfl rfl (hO.len x hx))
  have hx2 := Lib.hid (put_self (x := x.withP b) hx rfl)
  have hse := Lib.hid (fun (w3 : World) (v2 : Value) (hM : CkM w3 B ((c.put (x.withP b)).list v2) (frx (x.withP b) (c.put (x.withP b)).H)) => show Calls Try.prog 55 #[pv c.C, pv x.blk] w3 fun e w' => e = .returned (.tuple #[]) ∧ ∃ v, CkM w' B ((c.put (x.withP b)).trim.list v) (fr (c.put (x.withP b)).trim.H) ∧ Step w3 ((c.put (x.withP b)).list v2).foot w' ((c.put (x.withP b)).trim.list v).foot from by
    have h1 := settle_c (c := (c.put (x.withP b)).list v2) (x := x.withP b) hM ⟨hO2.out.srt, hO2.out.top, hO2.out.pos, hO2.out.low, hO2.out.len, hO2.out.sub⟩ hx2.out hmo
    exact h1.mono fun e w' ⟨h2, v', h3, h4, _⟩ => ⟨h2, v', h3, h4⟩)
  have hone : ∀ y ∈ (c.put (x.withP b)).H, 1 ≤ y.used := fun y hy => by
    rcases put_mem hy with e | ⟨hy, _⟩
    · rw [e]; exact h.n.one x hx
    · exact h.n.one y hy
  have hone' := Lib.hid hone
  have l1 := Lib.hid (hO.len x hx)
  unfold pv
  unfold pv at hfi hli hse
  simp only [found, pv] at hfi
  clear h hO hx hO1 hone
  go_enter Try.func29, Try.ntmps29
  go_wp2_with (first
    | (go_at_call 50; refine hfi.out.mono ?_; rintro e w1 ⟨rfl, rfl⟩)
    | (go_at_call 53; refine hli.out.mono ?_; rintro e w2 ⟨rfl, v2, hM2, hS2⟩; have M2 := Lib.hid (hmid.out _ _ hM2); have S2 := Lib.hid hS2; have k5 := M2.out.2.2.cell (Sx.c131 l1.out); have f5 := M2.out.2.2.frozen 131; clear hM2 hS2)
    | (go_at_call 55; refine (hse.out _ _ M2.out.1).mono ?_; rintro e w4 ⟨rfl, v4, hM4, hS4⟩; have M4 := Lib.hid hM4; have S4 := Lib.hid hS4; clear hM4 hS4))
  go_ret
  have hN := trim_n hO2.out hone'.out M4.out
  obtain ⟨hD, hF⟩ := h'.out.turn hN rfl (S2.out.trans (M2.out.2.1.trans S4.out))
  exact ⟨_, rfl, hD, hF, ⟨rfl, rfl, rfl, rfl, rfl⟩⟩
end
end Go.Proofs.Ytedbfehoeflmgaa
end

section
set_option linter.unusedVariables false
set_option linter.unusedSimpArgs false
namespace Go.Proofs.Ytedbfehoeflmgaa
open Go.RowKit BigFrame
set_option maxRecDepth 100000

section
variable {w w1 w' : World} {B : Nat} {c c' : Ck} {L L' : List Sx} {A A' : Lies} {d d' : Dk}
/-- what a cleaned sector makes of it -/
structure ClPre (w w3 : World) (B : Nat) (A A' : Lies) (d d' : Dk) (c : Ck) (x : Sx) : Prop where
  dk : CkD w3 B A' d' c
  step : Step w (foots A c) w3 (foots A' c)
theorem CkD.foot_off (h : CkD w B A d c) {x : Sx} (hx : x ∈ c.H) : Off w (A.foot c.G) x.blk := ⟨h.ap _ (foot_x hx), h.n.mem.lt _ (foot_x hx)⟩
set_option maxHeartbeats 1000000 in
theorem clean_off (h : CkD w B A d c) {x : Sx} (hx : x ∈ c.H) (hd : x.dirty = true) (hon : d.on = false) :
    Calls Try.prog 24 #[pv c.C, .int .i64 ((x.pos : Nat) : Int)] w fun e w' => e = .returned (.int .i64 4) ∧ ∃ A', CkD w' B A' d c ∧ Step w (foots A c) w' (foots A' c) := by
  have hO := h.n.ok
  have hlow := hO.low x hx
  have hfi := Lib.hid (find_c h.n.mem ((x.pos : Nat) : Int) ⟨by omega, by omega⟩)
  rw [get_at hO.pos hx] at hfi
  have k := (h.n.mem.sec x hx).cell (Sx.c130 (hO.len x hx))
  rw [hd] at k
  have c0 := h.n.mem.hdr.cell (k := 0) rfl
  change w.cell? ⟨c.C, 0, none⟩ = some (.pointer (some ⟨c.G, 0, none⟩)) at c0
  have hwr := Lib.hid (fun (v : Value) => write_off w.drew B c.G A d ((x.pos : Nat) : Int) v h.drew.dk hon)
  have h' := Lib.hid h
  unfold pv
  simp only [found, pv] at hfi
  clear h hO hx hd hon
  go_enter Try.func24, Try.ntmps24
  go_upto_region 4 with (go_at_call 50; refine hfi.out.mono ?_; rintro e w1 ⟨rfl, rfl⟩)
  go_still_tail 9, (by kernel_rfl)
  change wpList _ _ _ _ _ w.drew
  go_wp2_with (go_at_call 56; refine (hwr.out _).mono ?_; rintro e w2 ⟨rfl, A2, hD, hS⟩; have D2 := Lib.hid hD; have S2 := Lib.hid hS; clear hD hS)
  go_ret
  obtain ⟨h1, h2⟩ := (h'.out.drew (m := 1)).turnD D2.out S2.out
  exact ⟨rfl, A2, h1, (Step.of_below (below_drewN w 1) _).trans h2⟩
set_option maxHeartbeats 2000000 in
theorem clean_go (h : CkD w B A d c) (hmo : c.most ≤ 100000) {x : Sx} (hx : x ∈ c.H) (hd : x.dirty = true) (hon : d.on = true) (hset : d.set = false) (hp : x.pos < d.n) (hm1 : d.waits.length < 1000) (hm2 : d.log.length < 1000) :
    Calls Try.prog 24 #[pv c.C, .int .i64 ((x.pos : Nat) : Int)] w fun e w' => ∃ A' c', e = .returned (.int .i64 0) ∧ CkD w' B A' (d.wrote x.pos x.b) c' ∧ Step w (foots A c) w' (foots A' c') ∧ Same c c' c.uses (trim c.most (putS (x.withD false) c.H)) := by
  have hO := h.n.ok
  have hlow := hO.low x hx
  have hfi := Lib.hid (find_c h.n.mem ((x.pos : Nat) : Int) ⟨by omega, by omega⟩)
  rw [get_at hO.pos hx] at hfi
  have k := (h.n.mem.sec x hx).cell (Sx.c130 (hO.len x hx))
  rw [hd] at k
  have c0 := h.n.mem.hdr.cell (k := 0) rfl
  change w.cell? ⟨c.C, 0, none⟩ = some (.pointer (some ⟨c.G, 0, none⟩)) at c0
  have hwr := Lib.hid (write_ns w.drew B c.G A d ((x.pos : Nat) : Int) x.pos x.blk 1 128 128 x.b rfl rfl h.drew.dk hon hset hp (hO.len x hx) (Nat.le_refl _) (bat_x (h.drew (m := 1) |>.n.mem.sec x hx)) (h.drew.foot_off hx) hm1 hm2)
  have h' := Lib.hid h
  have hx' := Lib.hid hx
  have hO1 : CkOk c (frx x c.H) := ⟨hO.srt, hO.top, hO.pos, hO.low, hO.len, frx_sub _ _⟩
  have hli := Lib.hid (fun (w2 : World) (hM : CkM w2 B c (fr c.H)) => lift_c hM hO hx)
  have hmid := Lib.hid (fun (w2 : World) (v2 : Value) (hM : CkM w2 B (c.list v2) (but x (fr c.H))) => show CkM (w2.setCell ⟨x.blk, 130, none⟩ (.bool false)) B ((c.put (x.withD false)).list v2) (frx (x.withD false) (c.put (x.withD false)).H) ∧ Step w2 (c.list v2).foot (w2.setCell ⟨x.blk, 130, none⟩ (.bool false)) ((c.put (x.withD false)).list v2).foot ∧ Vw w2 86 x.blk x.cells from by
    have hV := hM.sec x hx
    rw [but_fr] at hM
    obtain ⟨h1, h2⟩ := hM.setD (c := c.list v2) (L' := frx x c.H) ⟨hO.srt, hO.top, hO.pos, hO.low, hO.len, frx_sub _ _⟩ hx false
    rw [put_frx (x := x) (y := x.withD false) rfl]
    exact ⟨h1, h2, hV⟩)
  have hO2 := Lib.hid (put_okx (y := x.withD false) hO1 hx rfl rfl (hO.len x hx))
  have hx2 := Lib.hid (put_self (x := x.withD false) hx rfl)
  have hse := Lib.hid (fun (w3 : World) (v2 : Value) (hM : CkM w3 B ((c.put (x.withD false)).list v2) (frx (x.withD false) (c.put (x.withD false)).H)) => show Calls Try.prog 55 #[pv c.C, pv x.blk] w3 fun e w' => e = .returned (.tuple #[]) ∧ ∃ v, CkM w' B ((c.put (x.withD false)).trim.list v) (fr (c.put (x.withD false)).trim.H) ∧ Step w3 ((c.put (x.withD false)).list v2).foot w' ((c.put (x.withD false)).trim.list v).foot from by
    have h1 := settle_c (c := (c.put (x.withD false)).list v2) (x := x.withD false) hM ⟨hO2.out.srt, hO2.out.top, hO2.out.pos, hO2.out.low, hO2.out.len, hO2.out.sub⟩ hx2.out hmo
    exact h1.mono fun e w' ⟨h2, v', h3, h4, _⟩ => ⟨h2, v', h3, h4⟩)
  have hone : ∀ y ∈ (c.put (x.withD false)).H, 1 ≤ y.used := fun y hy => by
    rcases put_mem hy with e | ⟨hy, _⟩
    · rw [e]; exact h.n.one x hx
    · exact h.n.one y hy
  have hone' := Lib.hid hone
  have l1 := Lib.hid (hO.len x hx)
  unfold pv
  unfold pv at hli hse
  simp only [found, pv] at hfi
  clear h hO hx hO1 hone hd hon hset
  go_enter Try.func24, Try.ntmps24
  go_upto_region 4 with (go_at_call 50; refine hfi.out.mono ?_; rintro e w1 ⟨rfl, rfl⟩)
  go_still_tail 9, (by kernel_rfl)
  change wpList _ _ _ _ _ w.drew
  go_wp2_with (first
    | (go_at_call 56; refine hwr.out.mono ?_; rintro e w2 ⟨rfl, A2, hD, hS⟩; have T2 := Lib.hid ((h'.out.drew (m := 1)).turnD hD hS); clear hD hS)
    | (go_at_call 53; refine (hli.out _ T2.out.1.n.mem).mono ?_; rintro e w3 ⟨rfl, v3, hM3, hS3⟩; have M3 := Lib.hid (hmid.out _ _ hM3); have S3 := Lib.hid hS3; have k5 := M3.out.2.2.cell (Sx.c130 l1.out); have f5 := M3.out.2.2.frozen 130; clear hM3 hS3)
    | (go_at_call 55; refine (hse.out _ _ M3.out.1).mono ?_; rintro e w4 ⟨rfl, v4, hM4, hS4⟩; have M4 := Lib.hid hM4; have S4 := Lib.hid hS4; clear hM4 hS4))
  go_ret
  have hN := trim_n hO2.out hone'.out M4.out
  obtain ⟨hD, hF⟩ := T2.out.1.turn hN rfl (S3.out.trans (M3.out.2.1.trans S4.out))
  exact ⟨A2, _, rfl, hD, (Step.of_below (below_drewN w 1) _).trans (T2.out.2.trans hF), ⟨rfl, rfl, rfl, rfl, rfl⟩⟩
end
end Go.Proofs.Ytedbfehoeflmgaa
end
