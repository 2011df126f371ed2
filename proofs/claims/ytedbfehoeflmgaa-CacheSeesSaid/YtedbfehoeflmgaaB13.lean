/-
  A disk of the call's own, from call to call; a disk that is nothing.
  A cache with its disk: what each call makes of it, in lists.
  A cache: Get.
  Numbers of one's own; a map gone through; a list of sectors sorted.
-/
import Derived.Test.YtedbfehoeflmgaaB12
import Derived.Test.YtedbfehoeflmgaaB9
import Derived.Sort.OwnSorted

section
set_option linter.unusedVariables false
set_option linter.unusedSimpArgs false
namespace Go.Proofs.Ytedbfehoeflmgaa
open Go.RowKit BigFrame

def Woke (w : World) (e : Ending) (w' : World) : Prop := e = .returned (.bool true) ∧ Below w.heap.size w w'
/-- since w0 nothing that was there has turned; and the disk stands -/
structure Live (w0 w : World) (G : Nat) (A : Lies) (d : Dk) : Prop where
  below : Below w0.heap.size w0 w
  disk : IsDk w w0.heap.size G A d
theorem Live.call {w0 w w' : World} {G : Nat} {A A' : Lies} {d d' : Dk} (h : Live w0 w G A d) (hd : IsDk w' w0.heap.size G A' d') (hs : Step w (A.foot G) w' (A'.foot G)) : Live w0 w' G A' d' :=
  ⟨h.below.trans (hs.below h.below.size (fun k hk => (IsDkS.over h.disk k hk).1)), hd⟩
theorem Live.read {w0 w w' : World} {G : Nat} {A : Lies} {d : Dk} (h : Live w0 w G A d) (hb : Below w.heap.size w w') : Live w0 w' G A d :=
  ⟨h.below.trans (hb.mono h.below.size), IsDkS.on h.disk hb (Nat.le_refl _)⟩
theorem Live.drewN {w0 w : World} {G m : Nat} {A : Lies} {d : Dk} (h : Live w0 w G A d) : Live w0 (w.drewN m) G A d := h.read (below_drewN w m)
theorem Live.new {w0 w w' : World} {G : Nat} {A : Lies} {d : Dk} (h : Below w0.heap.size w0 w) (hd : IsDk w' w.heap.size G A d) (hb : Below w.heap.size w w') : Live w0 w' G A d :=
  ⟨h.trans (hb.mono h.size), ⟨IsDkS.fine hd, IsDkS.hdr hd, IsDkS.firm hd, IsDkS.seen hd, own_lower (IsDkS.waits hd) h.size, own_lower (IsDkS.log hd) h.size, own_lower (IsDkS.keep hd) h.size, IsDkS.apart hd, fun k hk => ⟨Nat.le_trans h.size (IsDkS.over hd k hk).1, (IsDkS.over hd k hk).2⟩⟩⟩
theorem Live.base {w0 w : World} {G : Nat} {A : Lies} {d : Dk} (h : Live w0 w G A d) : w0.heap.size ≤ w.heap.size := h.below.size
theorem Live.fresh {w0 w w' : World} {G g : Nat} {A : Lies} {d : Dk} (h : Live w0 w G A d) (hg : w.heap.size ≤ g) (hlt : g < w'.heap.size) : Off w' (A.foot G) g :=
  ⟨fun e => by have := (IsDkS.over h.disk g e).2; omega, hlt⟩
/-- another cell is written -/
theorem Live.set {w0 w : World} {G g k : Nat} {A : Lies} {d : Dk} (h : Live w0 w G A d) (ho : Off w (A.foot G) g) (hg : w0.heap.size ≤ g) (v : Value) : Live w0 (w.setCell ⟨g, k, none⟩ v) G A d :=
  ⟨h.below.setCell (p := ⟨g, k, none⟩) hg v, IsDkS.setOther h.disk (a := ⟨g, k, none⟩) ho.1 v⟩
theorem fell_noset {d : Dk} (h : d.set = false) : d.fell = d := by simp [Dk.fell, h]
theorem fall_noset {d : Dk} (h : d.set = false) : d.fall = false := by simp [Dk.fall, h]
theorem OwnB.off {w w' : World} {F F' : List Nat} {base : Nat} {v : Value} {l : List Nat} (h : OwnB w base v l) (hs : Step w F w' F') (ho : ∀ k, v.ownBlock = some k → Off w F k) : OwnB w' base v l :=
  h.block (fun k hk => hs.same (ho k hk))
theorem write_ns (w : World) (B : Nat) (G : Nat) (A : Lies) (d : Dk) (C : Int) (a : Nat) (bb bo bn bcap : Nat) (l : List Nat) (hC : C = (a : Int)) (hbn : bn = 128) (h : IsDk w B G A d) (hon : d.on = true) (hset : d.set = false) (ha : a < d.n) (hl : l.length = 128) (hbc : 128 ≤ bcap) (hx : BAt w (some ⟨bb, bo, none⟩) l) (hoff : Off w (A.foot G) bb) (hm1 : d.waits.length < 1000) (hm2 : d.log.length < 1000) :
    Calls Try.prog 56 #[.pointer (some ⟨G, 0, none⟩), .int .i64 C, .slice (some ⟨bb, bo, none⟩) bn bcap] w (GivesS (.int .i64 0) (d.wrote a l) B G A w) := by
  subst hC
  subst hbn
  have := write_go w B G A d a bb bo bcap l h hon ha hl hbc hx hoff (fall_noset hset) (by rw [fell_noset hset]; exact hm1) (by rw [fell_noset hset]; exact hm2)
  rwa [fell_noset hset] at this
theorem crash_nil (w : World) (B : Nat) (G : Nat) (A : Lies) (d : Dk) (h : IsDk w B G A d) :
    Calls Try.prog 39 #[.pointer (some ⟨G, 0, none⟩), .slice none 0 0] w (GivesS (.tuple #[]) (d.crashed []) B G A w) :=
  crash_any w B G A d h none 0 0 [] rfl (Nat.le_refl _) (by omega) (.inl rfl) (fun b o h => by omega)
theorem boot_off (w : World) (B : Nat) (G : Nat) (A : Lies) (d : Dk) (h : IsDk w B G A d) (hon : d.on = false) :
    Calls Try.prog 37 #[.pointer (some ⟨G, 0, none⟩)] w (GivesS (.int .i64 0) d.booted B G A w) := by
  have := boot_any w B G A d h
  rwa [hon] at this
theorem boot_on (w : World) (B : Nat) (G : Nat) (A : Lies) (d : Dk) (h : IsDk w B G A d) (hon : d.on = true) :
    Calls Try.prog 37 #[.pointer (some ⟨G, 0, none⟩)] w (GivesS (.int .i64 19) d B G A w) := by
  have := boot_any w B G A d h
  rw [hon] at this
  rwa [show d.booted = d by unfold Dk.booted; cases d; simp only at hon; subst hon; rfl] at this
theorem read_c (w : World) (B : Nat) (G : Nat) (A : Lies) (d : Dk) (C : Int) (a : Nat) (l : List Nat) (hC : C = (a : Int)) (h : IsDk w B G A d) (hon : d.on = true) (ha : a < d.n) (hl : d.seen a = l) :
    Calls Try.prog 28 #[.pointer (some ⟨G, 0, none⟩), .int .i64 C] w (GivesR l 0 w) := by
  subst hC; subst hl; exact read_go w B G A d a h hon ha
theorem rowIs_ints {w : World} {g n : Nat} {D : Nat → Int} (h : w.rowIs g 3 n (fun j => .int .i64 (D j))) : IntsAt w (some ⟨g, 0, none⟩) n D := .inr ⟨g, 0, rfl, fun k hk => by rw [Nat.zero_add]; exact h.cell hk⟩
end Go.Proofs.Ytedbfehoeflmgaa
end

section
set_option linter.unusedVariables false
set_option linter.unusedSimpArgs false
namespace Go.Proofs.Ytedbfehoeflmgaa
open Go.RowKit BigFrame
set_option maxRecDepth 100000

section
variable {w w1 w' : World} {B : Nat} {c : Ck} {L L' : List Sx}
/-- a cache between its calls -/
structure CkN (w : World) (B : Nat) (c : Ck) : Prop where
  mem : CkM w B c (fr c.H)
  ok : CkOk c (fr c.H)
  one : ∀ x ∈ c.H, 1 ≤ x.used
/-- a sector that is the newest now -/
def nw (H : List Sx) (x : Sx) : List Sx := H.filter (fun y => decide (y.pos ≠ x.pos)) ++ [x]
theorem but_pos {H : List Sx} (hs : Srt H) (hA : Apart H) {x : Sx} (hx : x ∈ H) : but x H = H.filter fun y => decide (y.pos ≠ x.pos) := by
  unfold but
  refine List.filter_congr fun y hy => ?_
  by_cases e : y.used = x.used
  · have := hs.uniq hy hx e
    subst this
    simp
  · have : y.pos ≠ x.pos := fun e2 => e (by rw [hA.uniq hy hx e2])
    rw [decide_eq_true e, decide_eq_true this]
theorem frx_newest (hO : CkOk c L) (x : Sx) : frx (x.at (c.uses + 1)) (c.newest x).H = frx x c.H := by
  show frx (x.at (c.uses + 1)) (but x c.H ++ [x.at (c.uses + 1)]) = _
  unfold frx but
  rw [List.filter_append, List.filter_filter]
  have e1 : ([x.at (c.uses + 1)] : List Sx).filter (fun y => y.free && decide (y.used ≠ (x.at (c.uses + 1)).used)) = [] := by
    rw [List.filter_cons, if_neg (by simp)]; rfl
  rw [e1, List.append_nil]
  refine List.filter_congr fun y hy => ?_
  have := hO.top y hy
  have h2 : decide (y.used ≠ (x.at (c.uses + 1)).used) = true := decide_eq_true (show y.used ≠ c.uses + 1 by omega)
  rw [h2, Bool.and_true]
theorem newest_ok (hO : CkOk c L) {x : Sx} (hx : x ∈ c.H) : CkOk (c.newest x) (frx x c.H) where
  srt := by
    show (but x c.H ++ [x.at (c.uses + 1)]).Pairwise _
    rw [List.pairwise_append]
    refine ⟨hO.srt.sublist List.filter_sublist, by simp, fun a ha b hb => ?_⟩
    rw [List.mem_singleton] at hb
    subst hb
    have := hO.top a (mem_but.1 ha).1
    show a.used < c.uses + 1
    omega
  top := fun y hy => by
    show y.used ≤ c.uses + 1
    rcases List.mem_append.1 hy with hy | hy
    · have := hO.top y (mem_but.1 hy).1; omega
    · rw [List.mem_singleton] at hy; subst hy; exact Nat.le_refl _
  pos := (newest_map Sx.pos hO.srt hx (c.uses + 1) rfl).symm.nodup hO.pos
  low := fun y hy => by
    rcases List.mem_append.1 hy with hy | hy
    · exact hO.low y (mem_but.1 hy).1
    · rw [List.mem_singleton] at hy; subst hy; exact hO.low x hx
  len := fun y hy => by
    rcases List.mem_append.1 hy with hy | hy
    · exact hO.len y (mem_but.1 hy).1
    · rw [List.mem_singleton] at hy; subst hy; exact hO.len x hx
  sub := by
    show (frx x c.H).Sublist (but x c.H ++ [x.at (c.uses + 1)])
    have e : frx x c.H = (but x c.H).filter Sx.free := by
      unfold frx but
      rw [List.filter_filter]
    rw [e]
    exact List.filter_sublist.trans (List.sublist_append_left _ _)
theorem trim_sub (m : Nat) (H : List Sx) : (trim m H).Sublist H := dropN_sub _ _
theorem trim_n (hO : CkOk c L) (h1 : ∀ x ∈ c.H, 1 ≤ x.used) {v : Value} (hM : CkM w B (c.trim.list v) (fr c.trim.H)) : CkN w B (c.trim.list v) := by
  have hs : ∀ x, x ∈ c.trim.H → x ∈ c.H := fun x hx => (trim_sub _ _).subset hx
  exact ⟨hM, ⟨hO.srt.sublist (trim_sub _ _), fun x hx => hO.top x (hs x hx), hO.pos.sub (trim_sub _ _), fun x hx => hO.low x (hs x hx), fun x hx => hO.len x (hs x hx), fr_sub _⟩, fun x hx => h1 x (hs x hx)⟩
/-- a cache and its disk -/
structure CkD (w : World) (B : Nat) (A : Lies) (d : Dk) (c : Ck) : Prop where
  dk : IsDk w B c.G A d
  n : CkN w B c
  ap : ∀ k ∈ c.foot, k ∉ A.foot c.G
def foots (A : Lies) (c : Ck) : List Nat := A.foot c.G ++ c.foot
variable {A A' : Lies} {d d' : Dk} {c' : Ck}
theorem CkD.dlt (h : CkD w B A d c) : ∀ k ∈ A.foot c.G, B ≤ k ∧ k < w.heap.size := fun k hk => IsDkS.over h.dk k hk
theorem CkD.clt (h : CkD w B A d c) : ∀ k ∈ c.foot, B ≤ k ∧ k < w.heap.size := fun k hk => ⟨h.n.mem.over k hk, h.n.mem.lt k hk⟩
theorem CkD.lt (h : CkD w B A d c) : ∀ k ∈ foots A c, B ≤ k ∧ k < w.heap.size := fun k hk => by
  rcases List.mem_append.1 hk with hk | hk
  · exact h.dlt k hk
  · exact h.clt k hk
/-- the cache alone has turned -/
theorem CkD.turn (h : CkD w B A d c) (hn : CkN w' B c') (hG : c'.G = c.G) (hs : Step w c.foot w' c'.foot) : CkD w' B A d c' ∧ Step w (foots A c) w' (foots A c') := by
  refine ⟨⟨?_, hn, fun k hk hk2 => ?_⟩, ⟨hs.os, hs.tape, hs.output, hs.size, fun k hk hf => hs.block k hk (fun e => hf (List.mem_append_right _ e)), fun k hk => ?_⟩⟩
  · rw [hG]
    exact IsDkS.carry h.dk hs.size fun k hk => hs.block k (h.dlt k hk).2 (fun e => h.ap k e hk)
  · rw [hG] at hk2
    rcases hs.foot k hk with e | e
    · exact h.ap k e hk2
    · have := (h.dlt k hk2).2; omega
  · rcases List.mem_append.1 hk with hk | hk
    · rw [hG] at hk; exact .inl (List.mem_append_left _ hk)
    · rcases hs.foot k hk with e | e
      · exact .inl (List.mem_append_right _ e)
      · exact .inr e
/-- the disk alone has turned -/
theorem CkD.turnD (h : CkD w B A d c) (hd : IsDk w' B c.G A' d') (hs : Step w (A.foot c.G) w' (A'.foot c.G)) : CkD w' B A' d' c ∧ Step w (foots A c) w' (foots A' c) := by
  refine ⟨⟨hd, ⟨h.n.mem.carry fun k hk => hs.block k (h.clt k hk).2 (h.ap k hk), h.n.ok, h.n.one⟩, fun k hk hk2 => ?_⟩, ⟨hs.os, hs.tape, hs.output, hs.size, fun k hk hf => hs.block k hk (fun e => hf (List.mem_append_left _ e)), fun k hk => ?_⟩⟩
  · rcases hs.foot k hk2 with e | e
    · exact h.ap k hk e
    · have := (h.clt k hk).2; omega
  · rcases List.mem_append.1 hk with hk | hk
    · rcases hs.foot k hk with e | e
      · exact .inl (List.mem_append_left _ e)
      · exact .inr e
    · exact .inl (List.mem_append_right _ hk)
theorem CkN.on {B' : Nat} (h : CkN w B c) (hb : Below B' w w') (hB : w.heap.size ≤ B') : CkN w' B c := ⟨h.mem.on hb hB, h.ok, h.one⟩
theorem CkD.on {B' : Nat} (h : CkD w B A d c) (hb : Below B' w w') (hB : w.heap.size ≤ B') : CkD w' B A d c := ⟨IsDkS.on h.dk hb hB, h.n.on hb hB, h.ap⟩
theorem CkD.drew (h : CkD w B A d c) {m : Nat} : CkD (w.drewN m) B A d c := h.on (below_drewN w m) (Nat.le_refl _)
end
end Go.Proofs.Ytedbfehoeflmgaa
end

section
set_option linter.unusedVariables false
set_option linter.unusedSimpArgs false
namespace Go.Proofs.Ytedbfehoeflmgaa
open Go.RowKit BigFrame
set_option maxRecDepth 100000

section
variable {w w1 w' : World} {B : Nat} {c c' : Ck} {L L' : List Sx} {A A' : Lies} {d d' : Dk}
theorem bat_x {x : Sx} (h : Vw w 86 x.blk x.cells) : BAt w (some ⟨x.blk, 1, none⟩) x.b := .inr ⟨x.blk, 1, rfl, fun k hk => by
  refine h.cell ?_
  unfold Sx.cells
  rw [Nat.add_comm 1 k, List.getElem?_cons_succ, List.getElem?_append_left (by rw [bv_length]; exact hk)]
  exact bv_get hk⟩
structure Same (c c' : Ck) (u : Nat) (H' : List Sx) : Prop where
  C : c'.C = c.C
  G : c'.G = c.G
  most : c'.most = c.most
  uses : c'.uses = u
  H : c'.H = H'
/-- behind a call that answers v -/
def DidPost (B : Nat) (A : Lies) (d : Dk) (c : Ck) (u : Nat) (H' : List Sx) (w w' : World) (c' : Ck) : Prop := CkD w' B A d c' ∧ Step w (foots A c) w' (foots A c') ∧ Same c c' u H'
/-- behind a Get: a sector's bytes, one's own -/
def GetPost (B : Nat) (A : Lies) (d : Dk) (c : Ck) (p : Nat) (l : List Nat) (dt pn : Bool) (w : World) (e : Ending) (w' : World) : Prop :=
  ∃ v c' blk, e = .returned (.tuple #[v, .int .i64 0]) ∧ DidPost B A d c (c.uses + 1) (trim c.most (nw c.H ⟨blk, p, l, c.uses + 1, dt, pn⟩)) w w' c' ∧ OwnB w' w.heap.size v l ∧ ∀ k, v.ownBlock = some k → k ∉ foots A c'
theorem renew_l {x : Sx} {v : Value} (hM : CkM w B (c.list v) (frx x c.H)) (hO : CkOk c (frx x c.H)) (hx : x ∈ c.H) (hu : c.uses < 100000) :
    Calls Try.prog 54 #[pv c.C, pv x.blk] w fun e w' => e = .returned (.tuple #[]) ∧ CkM w' B ((c.newest x).list v) (frx x c.H) ∧ Step w (c.list v).foot w' ((c.newest x).list v).foot :=
  renew_c (c := c.list v) hM ⟨hO.srt, hO.top, hO.pos, hO.low, hO.len, hO.sub⟩ hx (by show c.uses < 1000000; omega)
theorem settle_l {x : Sx} {v : Value} (hM : CkM w B ((c.newest x).list v) (frx x c.H)) (hO : CkOk c (frx x c.H)) (hx : x ∈ c.H) (hmo : c.most ≤ 100000) :
    Calls Try.prog 55 #[pv c.C, pv x.blk] w fun e w' => e = .returned (.tuple #[]) ∧ ∃ v', CkM w' B ((c.newest x).trim.list v') (fr (c.newest x).trim.H) ∧ Step w ((c.newest x).list v).foot w' ((c.newest x).trim.list v').foot ∧ Vw w' 86 x.blk (x.at (c.uses + 1)).cells := by
  have hx2 : x.at (c.uses + 1) ∈ (c.newest x).H := List.mem_append_right _ List.mem_cons_self
  have hsec := hM.sec _ hx2
  rw [← frx_newest hO x] at hM
  have h1 := settle_c (c := (c.newest x).list v) (x := x.at (c.uses + 1)) hM (by
    have := newest_ok hO hx
    exact ⟨this.srt, this.top, this.pos, this.low, this.len, frx_sub _ _⟩) hx2 hmo
  refine h1.mono ?_
  rintro e w' ⟨he, v', h2, h3, h4⟩
  exact ⟨he, v', h2, h3, (h4 _ hx2).trans hsec⟩
theorem newest_one (h1 : ∀ y ∈ c.H, y ∈ L ∨ 1 ≤ y.used) (x : Sx) (hL : ∀ y ∈ L, y.used = x.used) : ∀ y ∈ (c.newest x).H, 1 ≤ y.used := fun y hy => by
  rcases List.mem_append.1 hy with hy | hy
  · obtain ⟨h2, h3⟩ := mem_but.1 hy
    rcases h1 y h2 with h | h
    · exact absurd (hL y h) h3
    · exact h
  · rw [List.mem_singleton] at hy; subst hy; show 1 ≤ c.uses + 1; omega
set_option maxHeartbeats 1000000 in
theorem get_hit (h : CkD w B A d c) (hmo : c.most ≤ 100000) (hu : c.uses < 100000) {x : Sx} (hx : x ∈ c.H) :
    Calls Try.prog 26 #[pv c.C, .int .i64 ((x.pos : Nat) : Int)] w (GetPost B A d c x.pos x.b x.dirty x.pin w) := by
  have hO := h.n.ok
  have hlow := hO.low x hx
  have hfi := Lib.hid (find_c h.n.mem ((x.pos : Nat) : Int) ⟨by omega, by omega⟩)
  rw [get_at hO.pos hx] at hfi
  have hli := Lib.hid (lift_c h.n.mem hO hx)
  have hl := Lib.hid (hO.len x hx)
  have hO1 : CkOk c (frx x c.H) := ⟨hO.srt, hO.top, hO.pos, hO.low, hO.len, frx_sub _ _⟩
  have hre := Lib.hid (fun (w2 : World) (v : Value) (hM : CkM w2 B (c.list v) (but x (fr c.H))) => renew_l (x := x) (by rw [← but_fr]; exact hM) hO1 hx hu)
  have hse := Lib.hid (fun (w3 : World) (v : Value) (hM : CkM w3 B ((c.newest x).list v) (frx x c.H)) => settle_l hM hO1 hx hmo)
  have hfin := Lib.hid (fun (w2 w3 w4 w5 : World) (v2 v4 v5 : Value) (hS2 : Step w c.foot w2 (c.list v2).foot) (hS3 : Step w2 (c.list v2).foot w3 ((c.newest x).list v2).foot) (hM4 : CkM w4 B ((c.newest x).trim.list v4) (fr (c.newest x).trim.H)) (hS4 : Step w3 ((c.newest x).list v2).foot w4 ((c.newest x).trim.list v4).foot) (hb5 : Below w4.heap.size w4 w5) (ho : OwnB w5 w4.heap.size v5 x.b) =>
      show GetPost B A d c x.pos x.b x.dirty x.pin w (.returned (.tuple #[v5, .int .i64 0])) w5 from by
    have hN4 : CkN w4 B ((c.newest x).trim.list v4) := trim_n (newest_ok hO hx) (newest_one (L := []) (fun y hy => .inr (h.n.one y hy)) x (fun y hy => by cases hy)) hM4
    have hS := (hS2.trans hS3).trans hS4
    obtain ⟨hD, hF⟩ := h.turn hN4 rfl hS
    refine ⟨v5, _, x.blk, rfl, ⟨hD.on hb5 (Nat.le_refl _), hF.trans (Step.of_below hb5 _), ⟨rfl, rfl, rfl, rfl, ?_⟩⟩, ho.lower hS.size, fun k hk hk2 => ?_⟩
    · show trim c.most (but x c.H ++ [x.at (c.uses + 1)]) = _
      rw [but_pos hO.srt hO.pos hx]; rfl
    · have h1 := (hD.lt k hk2).2
      have h2 := (OwnB.lt ho k hk).1
      omega)
  clear h hO hx hO1
  unfold pv
  unfold pv at hfi hli hre hse
  simp only [found, pv] at hfi
  go_enter Try.func26, Try.ntmps26
  go_wp2_with (first
    | (go_at_call 50; refine hfi.out.mono ?_; rintro e w1 ⟨rfl, rfl⟩)
    | (go_at_call 53; refine hli.out.mono ?_; rintro e w2 ⟨rfl, v2, hM2, hS2⟩; have M2 := Lib.hid hM2; have S2 := Lib.hid hS2; clear hM2 hS2)
    | (go_at_call 54; refine (hre.out _ _ M2.out).mono ?_; rintro e w3 ⟨rfl, hM3, hS3⟩; have M3 := Lib.hid hM3; have S3 := Lib.hid hS3; clear hM3 hS3)
    | (go_at_call 55; refine (hse.out _ _ M3.out).mono ?_; rintro e w4 ⟨rfl, v4, hM4, hS4, hV4⟩; have M4 := Lib.hid hM4; have S4 := Lib.hid hS4; have V4 := Lib.hid hV4; clear hM4 hS4 hV4)
    | (go_at_call 49; refine (clone_b _ _ 128 x.b _ hl.out (by omega) (bat_x (x := x.at (c.uses + 1)) V4.out) (fun h => by cases h)).mono ?_; rintro e w5 ⟨v5, rfl, ho5, hb5⟩; obtain ⟨g5, cap5, rfl, _, _, _⟩ := ho5.at hl.out (by omega); have F5 := Lib.hid (hfin.out _ _ _ _ _ _ _ S2.out S3.out M4.out S4.out hb5 ho5); clear ho5 hb5))
  go_ret2
  exact F5.out
end
end Go.Proofs.Ytedbfehoeflmgaa
end

section
set_option linter.unusedVariables false
set_option linter.unusedSimpArgs false
namespace Go.Proofs.Ytedbfehoeflmgaa
open Go.RowKit BigFrame
set_option maxRecDepth 100000
section
variable {w w' wr : World} {W B : Nat}
def nv (l : List Nat) : List Value := l.map fun (x : Nat) => .int .i64 (x : Int)
theorem nv_len (l : List Nat) : (nv l).length = l.length := by simp [nv]
theorem nv_one (l : List Nat) : ∀ v ∈ nv l, v.oneCell' = true := by
  intro v hv
  obtain ⟨k, _, rfl⟩ := List.mem_map.1 hv
  rfl
/-- numbers of one's own -/
def OwnZ (w : World) (B : Nat) (v : Value) (l : List Nat) : Prop := w.ownsRow B 3 1 v l.length (nv l)
theorem OwnZ.nil (w : World) (B : Nat) : OwnZ w B (.slice none 0 0) [] := World.ownsRow_nil _ _ _ _
theorem OwnZ.blk {v : Value} {l : List Nat} (h : OwnZ w B v l) (e : ∀ k, v.ownBlock = some k → w'.heap[k]? = w.heap[k]?) : OwnZ w' B v l := by
  obtain ⟨h1, h2⟩ := h
  refine ⟨h1, ?_⟩
  rcases h2 with h2 | ⟨g, cap, cur, rfl, hb, hg, r⟩
  · exact .inl h2
  · exact .inr ⟨g, cap, cur, rfl, hb, (e g rfl).trans hg, r⟩
theorem OwnZ.block {v : Value} {l : List Nat} (h : OwnZ w B v l) : ∀ k, v.ownBlock = some k → B ≤ k ∧ k < w.heap.size := fun k hk => World.ownsRow.lt h k hk
theorem OwnZ.on {v : Value} {l : List Nat} (h : OwnZ w B v l) (hb : Below w.heap.size w w') : OwnZ w' B v l := h.blk fun k hk => hb.block k (h.block k hk).2
theorem OwnZ.alloc {v : Value} {l : List Nat} (h : OwnZ w B v l) (x : Obj) : OwnZ (w.alloc x) B v l := h.blk fun k hk => old_alloc w x k (h.block k hk).2
theorem OwnZ.lower {v : Value} {l : List Nat} {B' : Nat} (h : OwnZ w B v l) (hb : B' ≤ B) : OwnZ w B' v l := by
  obtain ⟨h1, h2⟩ := h
  refine ⟨h1, ?_⟩
  rcases h2 with h2 | ⟨g, cap, cur, e, hg, rest⟩
  · exact .inl h2
  · exact .inr ⟨g, cap, cur, e, Nat.le_trans hb hg, rest⟩
theorem OwnZ.ints {v : Value} {l : List Nat} (h : OwnZ w B v l) : ∃ a cap, v = .slice a l.length cap ∧ (a = none → cap = 0) ∧ IntsAt w a l.length (fun k => ((l.getD k 0 : Nat) : Int)) := by
  have h' := h
  rcases h.2 with ⟨rfl, h0⟩ | ⟨g, cap, cur, rfl, _⟩
  · exact ⟨none, 0, by rw [h0], fun _ => rfl, .inl h0⟩
  · refine ⟨_, cap, rfl, (fun h => by cases h), .inr ⟨g, 0, rfl, fun k hk => ?_⟩⟩
    rw [Nat.zero_add, World.ownsRow.cellAt h' k (by omega)]
    simp [nv, hk, List.getD]
theorem nat_new (w : World) (x : Int) : (w.alloc (.cells #[.int .i64 x] 3)).cell? ⟨w.heap.size, 0, none⟩ = some (.int .i64 x) := by
  rw [cell_of_row _ w.heap.size _ _ _ _ (heap_alloc_new w _)]; rfl
theorem wpList_append_nat {w : World} {ops : Array Oper} {rest : List Oper} {o : Oper} {a : Act} {Q : Exit → Act → World → Prop} (hgd : o.guard = none) (s x : Operand)
    (ho : o.op = .call { callee := .builtin .append, args := #[s, x], argTypes := #[37, 37] })
    (B : Nat) (v : Value) (L : List Nat) (hs : a.eval s = v) (hown : OwnZ w B v L) (ad : Addr) (cap : Nat) (y : Nat) (hx : a.eval x = .slice (some ad) 1 cap) (hsrc : w.cell? ad = some (.int .i64 (y : Int)))
    (hlen : L.length + 1 ≤ 1000000) (hbase : B ≤ w.heap.size)
    (h : ∀ v' w', Hid (OwnZ w' B v' (L ++ [y])) → Hid (w.grownBy w' v.ownBlock) → Hid (v'.ownBlock = v.ownBlock ∨ v'.ownBlock = some w.heap.size) → wpList Try.prog ops Q rest (a.put o.dst v') w') : wpList Try.prog ops Q (o :: rest) a w := by
  obtain ⟨i, hi, hz0, hz1, hz2⟩ := info_parts Try.infoI
  refine wpList_append_own_at w hgd s x 37 ho B 3 i (.int .i64 0) 1 8 Try.underlying37 hi hz0 hz1 hz2 rfl (by decide) v L.length (nv L) hs hown ad 1 cap (nv [y]) hx (by rw [nv_len]; rfl) ?_ (nv_one [y]) (by unfold maxLen; omega) (by omega) hbase ?_
  · intro j u hu
    have hj : j = 0 := by
      have := (List.getElem?_eq_some_iff.1 hu).1
      rw [nv_len] at this
      simp at this
      omega
    subst hj
    have hadd : ad.add 0 = ad := by unfold Addr.add; split <;> simp_all
    rw [hadd, hsrc]
    simpa [nv] using hu
  · intro v' w' h1 h2 _ h4
    refine h v' w' ?_ h2 h4
    show OwnZ w' B v' (L ++ [y])
    unfold OwnZ
    have e : nv (L ++ [y]) = nv L ++ nv [y] := by simp [nv]
    rw [e, List.length_append]; exact h1
theorem fndL_mem {l : List (Lit × Value)} {p : Lit × Value} (hk : WideAt.IsKeyLit p.1) (ha : l.Pairwise fun p q => p.1 ≠ q.1) (hp : p ∈ l) : fndL l p.1 = some p.2 := by
  unfold fndL
  cases hf : l.find? fun q => q.1.sameKey p.1 with
  | none =>
    have := List.find?_eq_none.1 hf p hp
    exact absurd (WideAt.sameKey_self hk) this
  | some q =>
    have hq := WideAt.sameKey_eq (List.find?_some (p := fun q : Lit × Value => q.1.sameKey p.1) hf)
    have hqm := List.mem_of_find?_eq_some hf
    by_cases e : q = p
    · rw [e]; rfl
    · exact absurd hq (apart_ne ha hqm hp e)
theorem key_inv {key : Value} {l : Lit} (h : keyOf Try.prog 3 key = some l) : ∃ k, key = .int .i64 k ∧ l = .int .i64 k := by
  rw [keyOf_int Try.underlying3] at h
  cases key <;> simp [mapKey, Try.underlying3] at h
  obtain ⟨⟨rfl, _⟩, rfl⟩ := h
  exact ⟨_, rfl, rfl⟩
theorem map_row {b : Nat} {l : List (Lit × Value)} (hm : MapAt 3 wr b l) {t : TypeId} {s n : Nat} {u : Value} {X : List Value} (h : wr.ownsRow W t s u n X) : u.ownBlock ≠ some b := fun hk => by
  rcases h.2 with ⟨rfl, _⟩ | ⟨g, cap, cur, rfl, hb, hg, r⟩
  · cases hk
  · cases hk
    obtain ⟨es, c', e', _⟩ := hm
    rw [hg] at e'
    cases e'
theorem iter_row {b r : Nat} {l left : List (Lit × Value)} (hm : MapOn 3 wr b r l left) {t : TypeId} {s n : Nat} {u : Value} {X : List Value} (h : wr.ownsRow W t s u n X) : u.ownBlock ≠ some r := fun hk => by
  obtain ⟨c, hr, _⟩ := hm
  exact row_ne_iter h hr hk.symm
/-- the step of a loop over what is held -/
theorem wpList_held_next {w : World} {H : List Sx} {ops : Array Oper} {rest : List Oper} {o : Oper} {a : Act} {Q : Exit → Act → World → Prop} (hg : o.guard = none) (it : Operand) (hop : o.op = Op.next it false) (b r : Nat) (l left : List (Lit × Value))
    (hl : ∀ p ∈ left, ∀ k, p.1 = .int .i64 k → ∃ x ∈ H, p = (.int .i64 (x.pos : Int), pv x.blk))
    (hit : a.eval it = .pointer (some ⟨r, 0, none⟩)) (h : MapOn 3 w b r l left)
    (hDone : left = [] → wpList Try.prog ops Q rest (a.put o.dst (.tuple #[.bool false])) w)
    (hMore : ∀ (x : Sx) w', x ∈ H → Hid ((.int .i64 (x.pos : Int), pv x.blk) ∈ left) → Hid (MapOn 3 w' b r l (strL left (.int .i64 (x.pos : Int)))) → Hid (left.length = (strL left (.int .i64 (x.pos : Int))).length + 1) → Hid (w.grownBy w' (some r)) → Hid (w'.heap.size = w.heap.size) →
      (Instr.entry (.pointer (some ⟨r, 0, none⟩))).run Try.prog w' = .ok (.tuple #[.int .i64 (x.pos : Int), .pointer (some ⟨x.blk, 0, none⟩)]) w' → wpList Try.prog ops Q rest (a.put o.dst (.tuple #[.bool true, .int .i64 (x.pos : Int), .pointer (some ⟨x.blk, 0, none⟩)])) w') : wpList Try.prog ops Q (o :: rest) a w := by
  refine wpList_map_next hg it hop law_int b r l left hit h hDone fun key p w' hp hkey hm hpm hg2 hs2 hen => ?_
  obtain ⟨k, rfl, hk⟩ := key_inv hkey
  obtain ⟨x, hx, rfl⟩ := hl p hp k hk
  have hkx : (x.pos : Int) = k := by
    have := (Lit.int.inj hk).2
    exact this
  subst hkx
  exact hMore x w' hx hp hm (Lib.hid (by have := hpm.out.length_eq; simpa using this.symm)) hg2 hs2 hen
end

/-! ### Sorted -/
def sortS (key : Sx → Nat) (T : List Sx) : List Sx := T.mergeSort fun x y => decide (key x ≤ key y)
theorem sortS_perm (key : Sx → Nat) (T : List Sx) : (sortS key T).Perm T := List.mergeSort_perm _ _
theorem sortS_le (key : Sx → Nat) (T : List Sx) : (sortS key T).Pairwise fun x y => key x ≤ key y := by
  have h := List.pairwise_mergeSort (le := fun x y : Sx => decide (key x ≤ key y)) (fun a b c h1 h2 => by simp only [decide_eq_true_eq] at *; omega) (fun a b => by simp only [Bool.or_eq_true, decide_eq_true_eq]; omega) T
  exact h.imp fun h => by simpa using h
theorem sorted_same {key : Sx → Nat} : ∀ {P Q : List Sx}, P.Pairwise (fun x y => key x < key y) → Q.Pairwise (fun x y => key x < key y) → (∀ x, x ∈ P ↔ x ∈ Q) → P = Q
  | [], [], _, _, _ => rfl
  | [], y :: _, _, _, h => absurd ((h y).2 List.mem_cons_self) (by simp)
  | x :: _, [], _, _, h => absurd ((h x).1 List.mem_cons_self) (by simp)
  | x :: P, y :: Q, hp, hq, h => by
    obtain ⟨p1, p2⟩ := List.pairwise_cons.1 hp
    obtain ⟨q1, q2⟩ := List.pairwise_cons.1 hq
    have e : x = y := by
      rcases List.mem_cons.1 ((h x).1 List.mem_cons_self) with e | hx
      · exact e
      · rcases List.mem_cons.1 ((h y).2 List.mem_cons_self) with e | hy
        · exact e.symm
        · have := q1 x hx; have := p1 y hy; omega
    subst e
    rw [sorted_same p2 q2 fun z => ?_]
    constructor
    · intro hz
      rcases List.mem_cons.1 ((h z).1 (List.mem_cons_of_mem _ hz)) with e | hz2
      · subst e; have := p1 z hz; omega
      · exact hz2
    · intro hz
      rcases List.mem_cons.1 ((h z).2 (List.mem_cons_of_mem _ hz)) with e | hz2
      · subst e; have := q1 z hz; omega
      · exact hz2
theorem sortS_lt {key : Sx → Nat} {T : List Sx} (hn : T.Nodup) (hinj : ∀ x ∈ T, ∀ y ∈ T, key x = key y → x = y) : (sortS key T).Pairwise fun x y => key x < key y := by
  have h1 := sortS_le key T
  have h2 : (sortS key T).Nodup := (sortS_perm key T).symm.nodup hn
  have h3 := h1.and h2
  refine List.Pairwise.imp_of_mem (fun {a b} ha hb hab => ?_) h3
  rcases Nat.lt_or_eq_of_le hab.1 with h | h
  · exact h
  · exact absurd (hinj a ((sortS_perm key T).mem_iff.1 ha) b ((sortS_perm key T).mem_iff.1 hb) h) hab.2
section
variable {w : World} {B : Nat} {H T : List Sx}
open Go.Lib Go.Sort
theorem sort_row (g : Nat) (key : Sx → Nat) (eg : ∀ args w, (callFunc g args).run Try.prog w = .ok (.enter g args) w)
    (hcm : ∀ (W : World) (x y : Sx), x.b.length = 128 → y.b.length = 128 → Vw W 86 x.blk x.cells → Vw W 86 y.blk y.cells → Calls Try.prog g #[pv x.blk, pv y.blk] W fun e w' => e = .returned (.int .i64 (cmpI (key x) (key y))) ∧ ∃ n, w' = W.drewN n)
    (hinj : ∀ x ∈ H, ∀ y ∈ H, key x = key y → x = y) (hs : ∀ x ∈ H, Vw w 86 x.blk x.cells ∧ x.b.length = 128) (hT : ∀ x ∈ T, x ∈ H) (hTl : T.length ≤ 100000) {v : Value} (ho : w.ownsRow B 81 1 v T.length (pvs T)) :
    Calls Try.prog 62 #[v, .func (.func g) #[] #[]] w fun e w' => e = .returned (.tuple #[]) ∧ w'.ownsRow B 81 1 v (sortS key T).length (pvs (sortS key T)) ∧ TurnS (fun k => v.ownBlock = some k) w w' := by
  rcases own_form1 ho with ⟨e, e0⟩ | ⟨q, cap, cur, e, hcu, hcl, hn, hm, hB, hcx⟩
  · subst e0 e
    have h1 := AnyF.slices_SortFunc_none { Try.sortOf with } none 0 (.func (.func g) #[] #[]) w
    refine h1.mono ?_
    rintro e w' ⟨rfl, rfl⟩
    have e2 : sortS key [] = [] := (sortS_perm key []).eq_nil
    rw [e2]
    exact ⟨rfl, ho, TurnS.refl _ _⟩
  · subst e
    cases T with
    | nil =>
      have h1 := AnyF.slices_SortFunc_none { Try.sortOf with } (some ⟨q, 0, none⟩) cap (.func (.func g) #[] #[]) w
      refine h1.mono ?_
      rintro e w' ⟨rfl, rfl⟩
      have e2 : sortS key [] = [] := (sortS_perm key []).eq_nil
      rw [e2]
      exact ⟨rfl, ho, TurnS.refl _ _⟩
    | cons t0 T0 =>
      obtain ⟨T, hTe⟩ : ∃ T, t0 :: T0 = T := ⟨_, rfl⟩
      have ht0 : t0 ∈ H := hT t0 List.mem_cons_self
      rw [hTe] at hT hTl hn hcx ⊢
      haveI : Inhabited (InH H) := ⟨⟨t0, ht0⟩⟩
      have hgx : ∀ y ∈ H, y.blk ≠ q := fun y hy e => absurd (vw_type (hs y hy).1 (e ▸ hcu)) (by decide)
      have hsz := rowH_size hT
      have hH : Holds encH w q 0 (rowH T hT) := fun j hj => by
        rw [hsz] at hj
        have hj' := List.getElem?_eq_getElem hj
        rw [Nat.zero_add]
        refine ⟨?_, hcu.frozen j⟩
        unfold encH
        rw [rowH_get hT hj']
        exact hcu.cell (hcx j _ hj')
      have hcmp : CmpLays1 Try.prog g #[] encH (fun x y : InH H => cmpI (key x.1 : Int) (key y.1 : Int)) q 0 (rowH T hT).size w := by
        intro m os dk hdk x y
        have k1 : ∀ z : Sx, z ∈ H → Vw (sortWorld encH w q 0 m dk os) 86 z.blk z.cells := fun z hz => by
          unfold sortWorld Vw
          rw [row_same (hs z hz).1.lt (hgx z hz)]
          exact (hs z hz).1
        refine (hcm _ x.1 y.1 (hs _ x.2).2 (hs _ y.2).2 (k1 _ x.2) (k1 _ y.2)).mono ?_
        rintro e w' ⟨rfl, n, rfl⟩
        exact ⟨rfl, n, #[], by rw [grow_empty]⟩
      have hlt : ∀ x y : InH H, ltOf (fun x y : InH H => cmpI (key x.1 : Int) (key y.1 : Int)) x y = decide (key x.1 < key y.1) := fun x y => cmp_neg _ _
      have hcon := Any.slices_SortFunc_total Try.sortOf encH (fun _ => rfl) (fun x y : InH H => cmpI (key x.1 : Int) (key y.1 : Int)) ⟨fun x => by rw [hlt]; simp, fun x y z h1 h2 => by rw [hlt] at *; simp only [decide_eq_true_eq] at *; omega, fun x y z h1 h2 => by rw [hlt] at *; simp only [decide_eq_false_iff_not] at *; omega⟩ g #[] q 0 cap (rowH T hT) w eg hcmp hH hcu.lt (by rw [hsz]; omega) (fun x y h1 h2 => by
        rw [hlt] at h1 h2
        simp only [decide_eq_false_iff_not] at h1 h2
        exact Subtype.ext (hinj x.1 x.2 y.1 y.2 (by omega)))
      rw [hsz] at hcon
      refine hcon.mono ?_
      rintro e w' ⟨rfl, n, os, rfl⟩
      obtain ⟨D, hD⟩ : ∃ D, ((rowH T hT).toList.mergeSort fun x y => !(ltOf (fun x y : InH H => cmpI (key x.1 : Int) (key y.1 : Int))) y x) = D := ⟨_, rfl⟩
      have hDv : D.map Subtype.val = sortS key T := by
        rw [← hD]
        have := List.map_mergeSort (f := (Subtype.val : InH H → Sx)) (r := fun x y => !(ltOf (fun x y : InH H => cmpI (key x.1 : Int) (key y.1 : Int))) y x) (s := fun x y => decide (key x ≤ key y)) (l := (rowH T hT).toList) (fun a _ b _ => by
          show (!(ltOf _) b a) = _
          rw [hlt]
          by_cases hk : key b.1 < key a.1
          · rw [decide_eq_true hk, decide_eq_false (by omega)]; rfl
          · rw [decide_eq_false hk, decide_eq_true (by omega)]; rfl)
        rw [this, rowH_val]; rfl
      rw [hD]
      have hlen : (sortS key T).length = T.length := (sortS_perm key T).length_eq
      have hDl : D.length = T.length := by rw [← hlen, ← hDv, List.length_map]
      unfold sortWorld
      refine ⟨rfl, ?_, row_turn encH w q 0 n D.toArray os (by rfl)⟩
      have hV : Vw (grow (putRow encH (Sort.ahead w n) q 0 D.toArray) os) 81 q (putCells encH 0 D.toArray cur.toArray).toList := by
        unfold Vw
        rw [row_at hcu]
      rw [← hlen]
      refine own_of_cur hV ?_ (by omega) hm hB fun k x hk => ?_
      · rw [Array.length_toList, ← hcl]; simp [putCells]
      · have hkl := (List.getElem?_eq_some_iff.1 hk).1
        have hkD : k < D.length := by omega
        have hD2 : (D.toArray[k]!).1 = x := by
          rw [getElem!_pos D.toArray k (by simpa using hkD)]
          rw [← hDv, List.getElem?_map, List.getElem?_eq_getElem hkD] at hk
          simpa using hk
        rw [Array.getElem?_toList]
        unfold putCells
        rw [Array.getElem?_mapIdx, List.getElem?_toArray, List.getElem?_eq_getElem (show k < cur.length by omega)]
        simp only [Option.map_some, Nat.zero_le, Nat.zero_add, true_and, Nat.sub_zero]
        rw [if_pos (by simpa using hkD)]
        unfold encH
        rw [hD2]
end
end Go.Proofs.Ytedbfehoeflmgaa
end
