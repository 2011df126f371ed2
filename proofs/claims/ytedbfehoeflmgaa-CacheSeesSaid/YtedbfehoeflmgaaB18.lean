/-
  A cache of the call's own, from call to call; what every program answers that is one.
  What every program answers that is one.
  How a law is closed: a walk that answers true, and leaves all that was there as it was, gives the given statement; bytes that come in.
-/
import Derived.Test.YtedbfehoeflmgaaB14
import Derived.Test.YtedbfehoeflmgaaB15
import Derived.Test.YtedbfehoeflmgaaB16
import Derived.Test.YtedbfehoeflmgaaB12
import Derived.Test.YtedbfehoeflmgaaB17
import Derived.Test.YtedbfehoeflmgaaB1
import Derived.WalkKit
import Derived.ProofKit
import Derived.OpenShut
import Derived.Deep.DeepHandedRow
import Derived.LaidMore
import Derived.Stop.LaidErr
import Derived.SizedLaws

section
set_option linter.unusedVariables false
set_option linter.unusedSimpArgs false
namespace Go.Proofs.Ytedbfehoeflmgaa
open Go.RowKit BigFrame
set_option maxRecDepth 100000

section
variable {w0 w w' : World} {B : Nat} {c c' : Ck} {A A' : Lies} {d d' : Dk}
/-- since w0 nothing that was there has turned; and the cache stands, with its disk -/
structure CkL (w0 w : World) (A : Lies) (d : Dk) (c : Ck) : Prop where
  below : Below w0.heap.size w0 w
  ck : CkD w w0.heap.size A d c
theorem CkL.base (h : CkL w0 w A d c) : w0.heap.size ≤ w.heap.size := h.below.size
theorem CkL.call (h : CkL w0 w A d c) (hd : CkD w' w0.heap.size A' d' c') (hs : Step w (foots A c) w' (foots A' c')) : CkL w0 w' A' d' c' :=
  ⟨h.below.trans (hs.below h.below.size fun k hk => (h.ck.lt k hk).1), hd⟩
theorem CkL.read (h : CkL w0 w A d c) (hb : Below w.heap.size w w') : CkL w0 w' A d c := ⟨h.below.trans (hb.mono h.below.size), h.ck.on hb (Nat.le_refl _)⟩
/-- what is new lies off it -/
theorem CkL.off (h : CkL w0 w A d c) {k : Nat} (hk : w.heap.size ≤ k) : k ∉ foots A c := fun e => by have := (h.ck.lt k e).2; omega
/-- a new disk, a new cache -/
theorem CkL.new {G m : Nat} {w1 w2 : World} (h : Below w0.heap.size w0 w) (hd : IsDk w1 w.heap.size G A d) (hb1 : Below w.heap.size w w1) (hn : CkN w2 w1.heap.size (ck0 w1 G m)) (hb2 : Below w1.heap.size w1 w2) : CkL w0 w2 A d (ck0 w1 G m) := by
  have hL := Live.new h hd hb1
  have hz := hb1.size
  have hz0 := h.size
  refine ⟨(h.trans (hb1.mono h.size)).trans (hb2.mono (by omega)), ⟨IsDkS.on hL.disk hb2 (Nat.le_refl _), ⟨⟨hn.mem.hdr, hn.mem.map, hn.mem.sec, own_lower hn.mem.own (by omega), hn.mem.blk, fun k hk => by have := hn.mem.over k hk; omega⟩, hn.ok, hn.one⟩, fun k hk hk2 => ?_⟩⟩
  have h1 := hn.mem.over k hk
  have h2 := (IsDkS.over hL.disk k hk2).2
  omega
/-- a row of one's own that is none of a cache's -/
def OffC (A : Lies) (c : Ck) (v : Value) : Prop := ∀ k, v.ownBlock = some k → k ∉ foots A c
theorem OffC.call {v : Value} (h : OffC A c v) (hs : Step w (foots A c) w' (foots A' c')) (hv : ∀ k, v.ownBlock = some k → k < w.heap.size) : OffC A' c' v := fun k hk e => by
  rcases hs.foot k e with e | e
  · exact h k hk e
  · have := hv k hk; omega
theorem OwnB.call {b : Nat} {v : Value} {l : List Nat} (h : OwnB w b v l) (ho : OffC A c v) (hs : Step w (foots A c) w' (foots A' c')) : OwnB w' b v l := h.block fun k hk => hs.block k (OwnB.lt h k hk).2 (ho k hk)
theorem OwnZ.call {b : Nat} {v : Value} {l : List Nat} (h : OwnZ w b v l) (ho : OffC A c v) (hs : Step w (foots A c) w' (foots A' c')) : OwnZ w' b v l := h.blk fun k hk => hs.block k (h.block k hk).2 (ho k hk)
theorem CkL.offB {w1 : World} {v : Value} {l : List Nat} (h : CkL w0 w A d c) (ho : OwnB w1 w.heap.size v l) : OffC A c v := fun k hk => h.off (OwnB.lt ho k hk).1
theorem CkL.offZ {w1 : World} {v : Value} {l : List Nat} (h : CkL w0 w A d c) (ho : OwnZ w1 w.heap.size v l) : OffC A c v := fun k hk => h.off (ho.block k hk).1

/-- a live cache: where it is, its disk, how many it may hold, how many Gets and Puts there were, what it holds -/
structure Cv (w0 w : World) (A : Lies) (d : Dk) (c : Ck) (C G m u : Nat) (H : List Sx) : Prop where
  l : CkL w0 w A d c
  C : c.C = C
  G : c.G = G
  most : c.most = m
  uses : c.uses = u
  H : c.H = H
variable {C G m u : Nat} {H H' : List Sx}
theorem Cv.dk (h : Cv w0 w A d c C G m u H) : IsDk w w0.heap.size G A d := h.G ▸ h.l.ck.dk
theorem Cv.below (h : Cv w0 w A d c C G m u H) : Below w0.heap.size w0 w := h.l.below
theorem Cv.read (h : Cv w0 w A d c C G m u H) (hb : Below w.heap.size w w') : Cv w0 w' A d c C G m u H := ⟨h.l.read hb, h.C, h.G, h.most, h.uses, h.H⟩
theorem Cv.did (h : Cv w0 w A d c C G m u H) {u' : Nat} (hd : CkD w' w0.heap.size A' d' c') (hs : Step w (foots A c) w' (foots A' c')) (hS : Same c c' u' H') : Cv w0 w' A' d' c' C G m u' H' :=
  ⟨h.l.call hd hs, hS.C.trans h.C, hS.G.trans h.G, hS.most.trans h.most, hS.uses, hS.H⟩
theorem Cv.srt (h : Cv w0 w A d c C G m u H) : Srt H := h.H ▸ h.l.ck.n.ok.srt
theorem Cv.pos (h : Cv w0 w A d c C G m u H) : Apart H := h.H ▸ h.l.ck.n.ok.pos
theorem Cv.len (h : Cv w0 w A d c C G m u H) {x : Sx} (hx : x ∈ H) : x.b.length = 128 := h.l.ck.n.ok.len x (by rw [h.H]; exact hx)
theorem newc_v {w1 : World} {n : Int} (h : Below w0.heap.size w0 w) (hd : IsDk w1 w.heap.size G A d) (hb1 : Below w.heap.size w w1) (hn : n = (m : Int)) (hm : 1 ≤ m) :
    Calls Try.prog 10 #[.pointer (some ⟨G, 0, none⟩), .int .i64 n] w1 fun e w2 => ∃ C c, e = .returned (.pointer (some ⟨C, 0, none⟩)) ∧ Cv w0 w2 A d c C G m 0 [] ∧ w1.heap.size ≤ C := by
  subst hn
  refine (newc_c G m hm w1).mono ?_
  rintro e w2 ⟨rfl, hN2, hb2⟩
  exact ⟨_, _, rfl, ⟨CkL.new h hd hb1 hN2 hb2, rfl, rfl, rfl, rfl, rfl⟩, by omega⟩
/-- what Get tells -/
def GotV (w0 : World) (A : Lies) (d : Dk) (c : Ck) (C G m u : Nat) (H : List Sx) (p : Nat) (l : List Nat) (dt pn : Bool) (w : World) (e : Ending) (w' : World) : Prop :=
  ∃ v c' blk, e = .returned (.tuple #[v, .int .i64 0]) ∧ Cv w0 w' A d c' C G m (u + 1) (trim m (nw H ⟨blk, p, l, u + 1, dt, pn⟩)) ∧ OwnB w' w.heap.size v l ∧ OffC A c' v ∧ Step w (foots A c) w' (foots A c')
theorem getv_hit (h : Cv w0 w A d c C G m u H) (hm : m ≤ 100000) (hu : u < 100000) {x : Sx} (hx : x ∈ H) {a : Int} (ha : a = (x.pos : Int)) :
    Calls Try.prog 26 #[.pointer (some ⟨C, 0, none⟩), .int .i64 a] w (GotV w0 A d c C G m u H x.pos x.b x.dirty x.pin w) := by
  subst ha
  have h1 := get_hit h.l.ck (by rw [h.most]; exact hm) (by rw [h.uses]; exact hu) (x := x) (by rw [h.H]; exact hx)
  unfold pv at h1
  rw [h.C] at h1
  refine h1.mono ?_
  rintro e w' ⟨v, c', blk, rfl, ⟨hD, hS, hs⟩, ho, hf⟩
  rw [h.uses, h.most, h.H] at hs
  exact ⟨v, c', blk, rfl, h.did hD hS hs, ho, hf, hS⟩
theorem getv_miss (h : Cv w0 w A d c C G m u H) (hm : m ≤ 100000) (hu : u < 100000) {p : Nat} (hn : get H (p : Int) = none) (hon : d.on = true) (hpd : p < d.n) {a : Int} (ha : a = (p : Int)) :
    Calls Try.prog 26 #[.pointer (some ⟨C, 0, none⟩), .int .i64 a] w (GotV w0 A d c C G m u H p (d.seen p) false false w) := by
  subst ha
  have h1 := get_miss h.l.ck (by rw [h.most]; exact hm) (by rw [h.uses]; exact hu) h.l.base (by have := (IsDkS.fine h.dk).n; omega) (by rw [h.H]; exact hn) hon hpd
  unfold pv at h1
  rw [h.C] at h1
  refine h1.mono ?_
  rintro e w' ⟨v, c', blk, rfl, ⟨hD, hS, hs⟩, ho, hf⟩
  rw [h.uses, h.most, h.H] at hs
  exact ⟨v, c', blk, rfl, h.did hD hS hs, ho, hf, hS⟩
/-- what Put leaves -/
def PutV (w0 : World) (A : Lies) (d : Dk) (c : Ck) (C G m u : Nat) (H : List Sx) (p : Nat) (l : List Nat) (pn : Bool) (w : World) (e : Ending) (w' : World) : Prop :=
  ∃ c' blk, e = .returned (.int .i64 0) ∧ Cv w0 w' A d c' C G m (u + 1) (trim m (nw H ⟨blk, p, l, u + 1, true, pn⟩)) ∧ Step w (foots A c) w' (foots A c')
theorem putv_miss (h : Cv w0 w A d c C G m u H) (hm : m ≤ 100000) (hu : u < 100000) {p : Nat} (hn : get H (p : Int) = none) (hpd : p < d.n) {a : Int} (ha : a = (p : Int)) {l : List Nat} {bb bo bcap : Nat} (hl : l.length = 128) (hbc : 128 ≤ bcap) (hx : BAt w (some ⟨bb, bo, none⟩) l) (hoff : bb < w.heap.size ∧ bb ∉ foots A c) :
    Calls Try.prog 22 #[.pointer (some ⟨C, 0, none⟩), .int .i64 a, .slice (some ⟨bb, bo, none⟩) 128 bcap] w (PutV w0 A d c C G m u H p l false w) := by
  subst ha
  have h1 := put_miss h.l.ck (by rw [h.most]; exact hm) (by rw [h.uses]; exact hu) h.l.base hpd (by rw [h.H]; exact hn) hl hbc hx hoff
  unfold pv at h1
  rw [h.C] at h1
  refine h1.mono ?_
  rintro e w' ⟨c', blk, rfl, hD, hS, hs⟩
  rw [h.uses, h.most, h.H] at hs
  exact ⟨c', blk, rfl, h.did hD hS hs, hS⟩
theorem putv_hit (h : Cv w0 w A d c C G m u H) (hm : m ≤ 100000) (hu : u < 100000) {x : Sx} (hxm : x ∈ H) (hpd : x.pos < d.n) {a : Int} (ha : a = (x.pos : Int)) {l : List Nat} {bb bo bcap : Nat} (hl : l.length = 128) (hbc : 128 ≤ bcap) (hx : BAt w (some ⟨bb, bo, none⟩) l) (hoff : bb < w.heap.size ∧ bb ∉ foots A c) :
    Calls Try.prog 22 #[.pointer (some ⟨C, 0, none⟩), .int .i64 a, .slice (some ⟨bb, bo, none⟩) 128 bcap] w (PutV w0 A d c C G m u H x.pos l x.pin w) := by
  subst ha
  have h1 := put_hit h.l.ck (by rw [h.most]; exact hm) (by rw [h.uses]; exact hu) h.l.base hpd (x := x) (by rw [h.H]; exact hxm) rfl hl hbc hx hoff
  unfold pv at h1
  rw [h.C] at h1
  refine h1.mono ?_
  rintro e w' ⟨c', blk, rfl, hD, hS, hs⟩
  rw [h.uses, h.most, h.H] at hs
  exact ⟨c', blk, rfl, h.did hD hS hs, hS⟩
/-- what a call leaves that answers a number -/
def ActV (w0 : World) (d' : Dk) (A : Lies) (c : Ck) (C G m u : Nat) (r : Int) (H' : List Sx) (w : World) (e : Ending) (w' : World) : Prop :=
  ∃ A' c', e = .returned (.int .i64 r) ∧ Cv w0 w' A' d' c' C G m u H' ∧ Step w (foots A c) w' (foots A' c')
theorem dropv (h : Cv w0 w A d c C G m u H) {a : Int} (ha : -1000000 ≤ a ∧ a ≤ 1000000) {n : Nat} (hn : n = min a.toNat (fr H).length) :
    Calls Try.prog 25 #[.pointer (some ⟨C, 0, none⟩), .int .i64 a] w (ActV w0 d A c C G m u n (dropN H n) w) := by
  have h1 := drop_c h.l.ck a ha n (by rw [h.H]; exact hn)
  unfold pv at h1
  rw [h.C] at h1
  refine h1.mono ?_
  rintro e w' ⟨c', rfl, hD, hS, hs⟩
  rw [h.uses, h.H] at hs
  exact ⟨A, c', rfl, h.did hD hS hs, hS⟩
theorem pinv_hit (h : Cv w0 w A d c C G m u H) (hm : m ≤ 100000) {x : Sx} (hx : x ∈ H) (b : Bool) {a : Int} (ha : a = (x.pos : Int)) :
    Calls Try.prog 29 #[.pointer (some ⟨C, 0, none⟩), .int .i64 a, .bool b] w (ActV w0 d A c C G m u 0 (trim m (putS (x.withP b) H)) w) := by
  subst ha
  have h1 := pin_hit h.l.ck (by rw [h.most]; exact hm) (x := x) (by rw [h.H]; exact hx) b
  unfold pv at h1
  rw [h.C] at h1
  refine h1.mono ?_
  rintro e w' ⟨c', rfl, hD, hS, hs⟩
  rw [h.uses, h.H, h.most] at hs
  exact ⟨A, c', rfl, h.did hD hS hs, hS⟩
theorem pinv_none (h : Cv w0 w A d c C G m u H) {a : Int} (ha : I64 a) (b : Bool) (hn : get H a = none) :
    Calls Try.prog 29 #[.pointer (some ⟨C, 0, none⟩), .int .i64 a, .bool b] w fun e w' => e = .returned (.int .i64 5) ∧ w = w' := by
  have h1 := pin_none h.l.ck.n a ha b (by rw [h.H]; exact hn)
  unfold pv at h1
  rw [h.C] at h1
  exact h1
theorem cleanv_none (h : Cv w0 w A d c C G m u H) {a : Int} (ha : I64 a) (hn : get H a = none) :
    Calls Try.prog 24 #[.pointer (some ⟨C, 0, none⟩), .int .i64 a] w fun e w' => e = .returned (.int .i64 5) ∧ w = w' := by
  have h1 := clean_none h.l.ck.n a ha (by rw [h.H]; exact hn)
  unfold pv at h1
  rw [h.C] at h1
  exact h1
theorem cleanv_not (h : Cv w0 w A d c C G m u H) {x : Sx} (hx : x ∈ H) (hd : x.dirty = false) {a : Int} (ha : a = (x.pos : Int)) :
    Calls Try.prog 24 #[.pointer (some ⟨C, 0, none⟩), .int .i64 a] w fun e w' => e = .returned (.int .i64 0) ∧ w = w' := by
  subst ha
  have h1 := clean_not h.l.ck.n (x := x) (by rw [h.H]; exact hx) hd
  unfold pv at h1
  rw [h.C] at h1
  exact h1
theorem cleanv_off (h : Cv w0 w A d c C G m u H) {x : Sx} (hx : x ∈ H) (hd : x.dirty = true) (hon : d.on = false) {a : Int} (ha : a = (x.pos : Int)) :
    Calls Try.prog 24 #[.pointer (some ⟨C, 0, none⟩), .int .i64 a] w (ActV w0 d A c C G m u 4 H w) := by
  subst ha
  have h1 := clean_off h.l.ck (x := x) (by rw [h.H]; exact hx) hd hon
  unfold pv at h1
  rw [h.C] at h1
  refine h1.mono ?_
  rintro e w' ⟨rfl, A', hD, hS⟩
  exact ⟨A', c, rfl, ⟨h.l.call hD hS, h.C, h.G, h.most, h.uses, h.H⟩, hS⟩
theorem cleanv_go (h : Cv w0 w A d c C G m u H) (hm : m ≤ 100000) {x : Sx} (hx : x ∈ H) (hd : x.dirty = true) (hon : d.on = true) (hset : d.set = false) (hp : x.pos < d.n) (hm1 : d.waits.length < 1000) (hm2 : d.log.length < 1000) {a : Int} (ha : a = (x.pos : Int)) :
    Calls Try.prog 24 #[.pointer (some ⟨C, 0, none⟩), .int .i64 a] w (ActV w0 (d.wrote x.pos x.b) A c C G m u 0 (trim m (putS (x.withD false) H)) w) := by
  subst ha
  have h1 := clean_go h.l.ck (by rw [h.most]; exact hm) (x := x) (by rw [h.H]; exact hx) hd hon hset hp hm1 hm2
  unfold pv at h1
  rw [h.C] at h1
  refine h1.mono ?_
  rintro e w' ⟨A', c', rfl, hD, hS, hs⟩
  rw [h.uses, h.H, h.most] at hs
  exact ⟨A', c', rfl, h.did hD hS hs, hS⟩
theorem heldv (h : Cv w0 w A d c C G m u H) : Calls Try.prog 12 #[.pointer (some ⟨C, 0, none⟩)] w (TellZ (H.map Sx.pos) w) := by
  have h1 := held_c h.l.ck.n
  unfold pv at h1
  rw [h.C, h.H] at h1
  exact h1
theorem dirtyv (h : Cv w0 w A d c C G m u H) : Calls Try.prog 13 #[.pointer (some ⟨C, 0, none⟩)] w fun e w' => ∃ S, DirtyS H S ∧ TellZ (S.map Sx.pos) w e w' := by
  have h1 := dirties_c h.l.ck.n
  unfold pv at h1
  rw [h.C, h.H] at h1
  exact h1
theorem dirtyv_none (h : Cv w0 w A d c C G m u H) (hn : ∀ x ∈ H, x.dirty = false) : Calls Try.prog 13 #[.pointer (some ⟨C, 0, none⟩)] w fun e w' => ∃ a cap, e = .returned (.slice a 0 cap) ∧ Below w.heap.size w w' := by
  refine (dirtyv h).mono ?_
  rintro e w' ⟨S, ⟨_, hS⟩, v, rfl, ho, hb⟩
  have e0 : S = [] := by
    cases S with
    | nil => rfl
    | cons y r =>
      have := (hS y).1 List.mem_cons_self
      rw [hn y this.1] at this
      exact absurd this.2 (by decide)
  subst e0
  obtain ⟨a, cap, rfl, _, _⟩ := OwnZ.ints ho
  exact ⟨a, cap, rfl, hb⟩
end
end Go.Proofs.Ytedbfehoeflmgaa
end

section
set_option linter.unusedVariables false
set_option linter.unusedSimpArgs false
namespace Go.Proofs.Ytedbfehoeflmgaa
open Go.RowKit BigFrame
set_option maxRecDepth 100000

theorem nw_one (x y : Sx) (h : x.pos = y.pos) : nw [x] y = [y] := by
  unfold nw
  rw [List.filter_cons, if_neg (by simp [h])]; rfl
theorem trim_one (x : Sx) (m : Nat) (h : 1 ≤ m) : trim m [x] = [x] := by
  unfold trim
  rw [show [x].length - m = 0 by simp; omega, dropN_zero]
theorem nw_nil (y : Sx) : nw [] y = [y] := rfl
theorem OwnZ.one {w : World} {B x : Nat} {v : Value} (h : OwnZ w B v [x]) : ∃ a cap, v = .slice a 1 cap ∧ IntsAt w a 1 (fun _ => (x : Int)) := by
  obtain ⟨a, cap, e, _, hi⟩ := h.ints
  refine ⟨a, cap, e, ?_⟩
  rcases hi with h | ⟨b, off, e2, h2⟩
  · cases h
  · exact .inr ⟨b, off, e2, fun k hk => by
      have := h2 k hk
      have hk1 : k < 1 := hk
      obtain rfl : k = 0 := by omega
      exact this⟩
set_option maxHeartbeats 4000000 in
theorem awake_any (w : World) : Calls Try.prog 7 #[] w (Woke w) := by
  obtain ⟨d0, hd0⟩ : ∃ d0, (Dk.fresh 4 fun _ => zs 128) = d0 := ⟨_, rfl⟩
  have h0 := Lib.hid (show d0.on = true ∧ d0.set = false ∧ d0.n = 4 ∧ d0.waits.length = 0 ∧ d0.log = [] by rw [← hd0]; exact ⟨rfl, rfl, rfl, rfl, rfl⟩)
  obtain ⟨l, hl0⟩ : ∃ l, fillN 3 128 = l := ⟨_, rfl⟩
  have hl := Lib.hid (show l.length = 128 by rw [← hl0]; exact fillN_length _ _)
  have e0 := Lib.hid hd0
  have el := Lib.hid hl0
  clear hd0 hl0
  go_enter Try.func7, Try.ntmps7
  go_wp2_with (go_at_call 8; refine (new_c _ 4 _ rfl (by omega) (by omega)).mono ?_; rw [e0.out]; rintro e w1 ⟨G, A1, rfl, hD1, hb1⟩; have D1 := Lib.hid hD1; have B1 := Lib.hid hb1; clear hD1 hb1)
  go_wp2_with (go_at_call 10; refine (newc_v (m := 1) (Below.refl w.heap.size w) D1.out B1.out rfl (by omega)).mono ?_; rintro e w2 ⟨C, c2, rfl, hC2, _⟩; have C2 := Lib.hid hC2; clear hC2)
  go_wp2_with (go_at_call 23; refine (fill_c 3 _ 128 _ rfl (by omega)).mono ?_; rw [el.out]; rintro e w3 ⟨v3, rfl, ho3, hb3⟩; obtain ⟨g3, cap3, rfl, hc3, hg3, hlt3⟩ := ho3.at hl.out (by omega); have C3 := Lib.hid (C2.out.read hb3); have O3 := Lib.hid ho3; have F3 := Lib.hid (C2.out.l.off hg3); clear ho3 hb3)
  go_wp2_with (go_at_call 22; refine (putv_miss C3.out (by omega) (by omega) (p := 2) rfl (by rw [h0.out.2.2.1]; omega) rfl hl.out hc3 O3.out.bat ⟨hlt3, F3.out⟩).mono ?_; rintro e w4 ⟨c4, b4, rfl, hC4, hS4⟩; rw [nw_nil, trim_one _ _ (Nat.le_refl _)] at hC4; obtain ⟨x4, hx4⟩ : ∃ x4, (⟨b4, 2, l, 0 + 1, true, false⟩ : Sx) = x4 := ⟨_, rfl⟩; have X4 := Lib.hid (show x4.pos = 2 ∧ x4.b = l ∧ x4.dirty = true ∧ x4.pin = false by rw [← hx4]; exact ⟨rfl, rfl, rfl, rfl⟩); rw [hx4] at hC4; have C4 := Lib.hid hC4; clear hC4 hS4 hx4)
  go_wp2_with (go_at_call 26; refine (getv_hit C4.out (by omega) (by omega) (x := x4) List.mem_cons_self (by rw [X4.out.1]; rfl)).mono ?_; rw [X4.out.1, X4.out.2.1, X4.out.2.2.1, X4.out.2.2.2]; rintro e w5 ⟨v5, c5, b5, rfl, hC5, ho5, hf5, hS5⟩; rw [nw_one _ _ X4.out.1, trim_one _ _ (Nat.le_refl _)] at hC5; obtain ⟨x5, hx5⟩ : ∃ x5, (⟨b5, 2, l, 0 + 1 + 1, true, false⟩ : Sx) = x5 := ⟨_, rfl⟩; have X5 := Lib.hid (show x5.pos = 2 ∧ x5.b = l ∧ x5.dirty = true ∧ x5.pin = false by rw [← hx5]; exact ⟨rfl, rfl, rfl, rfl⟩); rw [hx5] at hC5; have fr5 := Lib.hid (show fr [x5] = [] from by unfold fr; rw [List.filter_cons, if_neg (by unfold Sx.free; rw [X5.out.2.2.1]; simp)]; rfl); obtain ⟨g5, cap5, rfl, hc5, hg5, hlt5⟩ := ho5.at hl.out (by omega); have C5 := Lib.hid hC5; have O5 := Lib.hid ho5; have F5 := Lib.hid hf5; clear hC5 hS5 ho5 hf5 hx5)
  go_wp2_with (go_at_call 12; refine (heldv C5.out).mono ?_; rw [show [x5].map Sx.pos = [2] from by rw [List.map_singleton, X5.out.1]]; rintro e w6 ⟨v6, rfl, ho6, hb6⟩; have C6 := Lib.hid (C5.out.read hb6); have O6 := Lib.hid (OwnB.on O5.out hb6 (Nat.le_refl _)); have Z6 := Lib.hid ho6; have Y6 := Lib.hid (C5.out.l.offZ ho6); clear ho6 hb6)
  go_wp2_with (go_at_call 25; refine (dropv C6.out (by omega) (n := 0) (by rw [fr5.out, List.length_nil, Nat.min_zero])).mono ?_; rintro e w7 ⟨A7, c7, rfl, hC7, hS7⟩; rw [dropN_zero] at hC7; have C7 := Lib.hid hC7; have O7 := Lib.hid (OwnB.call O6.out F5.out hS7); have F7 := Lib.hid (F5.out.call hS7 (fun k hk => (OwnB.lt O6.out k hk).2)); have Z7 := Lib.hid (OwnZ.call Z6.out Y6.out hS7); have Y7 := Lib.hid (Y6.out.call hS7 (fun k hk => (OwnZ.block Z6.out k hk).2)); clear hC7 hS7)
  go_wp2_with (go_at_call 24; refine (cleanv_go C7.out (by omega) (x := x5) List.mem_cons_self X5.out.2.2.1 h0.out.1 h0.out.2.1 (by rw [h0.out.2.2.1, X5.out.1]; decide) (by rw [h0.out.2.2.2.1]; omega) (by rw [h0.out.2.2.2.2]; decide) (by rw [X5.out.1]; rfl)).mono ?_; rintro e w8 ⟨A8, c8, rfl, hC8, hS8⟩; rw [show putS (x5.withD false) [x5] = [x5.withD false] from by unfold putS; rw [List.map_singleton]; exact congrArg (fun z => [z]) (if_pos rfl), trim_one _ _ (Nat.le_refl _)] at hC8; obtain ⟨d8, hd8⟩ : ∃ d8, d0.wrote x5.pos x5.b = d8 := ⟨_, rfl⟩; have K8 := Lib.hid (show d8.log = [2] by rw [← hd8]; show d0.log ++ [x5.pos] = _; rw [h0.out.2.2.2.2, X5.out.1]; rfl); rw [hd8] at hC8; have C8 := Lib.hid hC8; have O8 := Lib.hid (OwnB.call O7.out F7.out hS8); have Z8 := Lib.hid (OwnZ.call Z7.out Y7.out hS8); clear hC8 hS8 hd8)
  go_wp2_with (go_at_call 23; refine (fill_c 3 _ 128 _ rfl (by omega)).mono ?_; rw [el.out]; rintro e w9 ⟨v9, rfl, ho9, hb9⟩; obtain ⟨g9, cap9, rfl, hc9, hg9, hlt9⟩ := ho9.at hl.out (by omega); have C9 := Lib.hid (C8.out.read hb9); have P9 := Lib.hid ho9; have O9 := Lib.hid (OwnB.on O8.out hb9 (Nat.le_refl _)); have Z9 := Lib.hid (OwnZ.on Z8.out hb9); clear ho9 hb9)
  go_wp2_with (go_at_call 27; refine (same_same _ _ _ _ 128 l l _ hl.out rfl (by omega) O9.out.bat P9.out.bat).mono ?_; rintro e w10 ⟨rfl, hb10⟩; have C10 := Lib.hid (C9.out.read hb10); have Z10 := Lib.hid (OwnZ.on Z9.out hb10); obtain ⟨a6, cap6, rfl, hi10⟩ := OwnZ.one Z10.out; have b11 := Lib.hid ((Below.refl w10.heap.size w10).alloc (Nat.le_refl _) (.cells #[.int .i64 2] 3)); have I11 := Lib.hid (hi10.on b11.out rfl); have N11 := Lib.hid (int_new w10 2 3); have C11 := Lib.hid (C10.out.read b11.out); clear hb10 hi10)
  go_wp2_with (go_at_call 14; refine (sameI_any _ _ _ _ 1 (fun _ => 2) (fun _ => 2) _ (by omega) I11.out N11.out (fun _ _ => rfl)).mono ?_; rintro e w12 ⟨rfl, hb12⟩; have C12 := Lib.hid (C11.out.read hb12); clear hb12)
  go_wp2_with (go_at_call 13; refine (dirtyv_none C12.out (fun x hx => by rw [List.mem_singleton] at hx; rw [hx]; rfl)).mono ?_; rintro e w13 ⟨a13, cap13, rfl, hb13⟩; have C13 := Lib.hid (C12.out.read hb13); clear hb13)
  go_wp2_with (go_at_call 17; refine (writes_n _ _ _ A8 d8 1 C13.out.dk (congrArg List.length K8.out)).mono ?_; rintro e w14 ⟨v14, rfl, hi14, hb14⟩; have C14 := Lib.hid (C13.out.read hb14); obtain ⟨a14, cap14, rfl, hx14, _, _, _⟩ := hi14.slice; have b15 := Lib.hid ((Below.refl w14.heap.size w14).alloc (Nat.le_refl _) (.cells #[.int .i64 2] 3)); have I15 := Lib.hid (hx14.on b15.out rfl); have N15 := Lib.hid (int_new w14 2 3); have C15 := Lib.hid (C14.out.read b15.out); clear hi14 hb14 hx14)
  go_wp2_with (go_at_call 14; refine (sameI_any _ _ _ _ 1 (logD d8) (fun _ => 2) _ (by omega) I15.out N15.out (fun k hk => (by have hk0 : k = 0 := (by omega); subst hk0; unfold logD; rw [K8.out]; rfl))).mono ?_; rintro e w16 ⟨rfl, hb16⟩; have C16 := Lib.hid (C15.out.read hb16); clear hb16)
  have tk : True := trivial
  have hlo := Lib.hid (fun w => new_low G 0 (by omega) w)
  unfold pv at hlo
  go_wp2_with (first
    | (have _t := tk; go_at_call 10; refine (new_nod 1 _).mono ?_; clear tk; rintro e w17 ⟨rfl, rfl⟩)
    | (go_at_call 10; refine (hlo.out _).mono ?_; rintro e w18 ⟨rfl, rfl⟩))
  go_ret
  exact ⟨rfl, C16.out.below⟩
end Go.Proofs.Ytedbfehoeflmgaa
end

section
set_option linter.unusedVariables false
set_option linter.unusedSimpArgs false
namespace Go.Proofs.Ytedbfehoeflmgaa
open Go.ChangeShapes Go.WideShapes Go.ChangeAt Go.RowKit

section
variable {H : Type} {enc : TypeId × Value → H} {P : Program}

theorem trodAll_stays (hl : laidOutB P = true) {W W' : World} (hb : Below W.heap.size W W') {sp : Nat → Bool} :
    ∀ {ts : List TypeId} {vs : List Value} {ds : List (DataW H)} {p : List MemPlace}, (ts.all fun t => P.readableRec t && decide (t < P.types.size)) = true →
      DataW.TrodAll enc P W 0 (fun _ => true) true ts vs ds p → (∀ x ∈ p, x.block < W.heap.size) → (∀ x ∈ p, sp x.block = true) → DataW.TrodAll enc P W' 0 sp true ts vs ds p
  | [], _, _, _, _, h, _, _ => by
    obtain ⟨rfl, rfl, rfl⟩ := trodAll_nil h
    exact rfl
  | t :: ts, _, _, _, ht, h, hlt, hs => by
    obtain ⟨v, vs', d, ds', p, q, rfl, rfl, rfl, h1, h2⟩ := trodAll_cons h
    simp only [List.all_cons, Bool.and_eq_true, decide_eq_true_eq] at ht
    exact ⟨p, q, WideElems.Trod_stays hl ht.1.1 ht.1.2 h1 (fun x hx => hb.same (hlt x (List.mem_append_left _ hx))) (fun x hx => hs x (List.mem_append_left _ hx)),
      trodAll_stays hl hb ht.2 h2 (fun x hx => hlt x (List.mem_append_right _ hx)) (fun x hx => hs x (List.mem_append_right _ hx)), rfl⟩

theorem trodAll_length {W : World} {b : Nat} {sp : Nat → Bool} {hd : Bool} : ∀ {ts : List TypeId} {vs : List Value} {ds : List (DataW H)} {p : List MemPlace}, DataW.TrodAll enc P W b sp hd ts vs ds p → ds.length = ts.length
  | [], _, _, _, h => by
    obtain ⟨rfl, rfl, rfl⟩ := trodAll_nil h
    rfl
  | _ :: _, _, _, _, h => by
    obtain ⟨v, vs', d, ds', p, q, rfl, rfl, rfl, _, h2⟩ := trodAll_cons h
    simp [trodAll_length h2]

/-- A LAW's POST out of 'true, and below the old heap nothing has turned'. -/
theorem law_post (hl : laidOutB P = true) {f : Func} {s : ChangeSpec} {tb : TypeId} (hread : (f.params.toList.all fun t => P.readableRec t && decide (t < P.types.size)) = true)
    (hr : f.resultTypes = #[tb]) (htb : P.underlying tb = some .bool) (hv : s.vars = [])
    (hfn : ∀ ds : List (DataW H), ds.length = f.params.toList.length → s.fn H ds = { results := [.lit (.bool true)], args := ds })
    {W W' : World} {args : Array Value} {ds gs : List (DataW H)} {before : List MemPlace}
    (hW : DataW.Whole enc P f.params.toList s.vars false W args.toList ds gs before) (hb : Below W.heap.size W W') :
    s.post enc P f false true false false W args (.bool true) W' := by
  have hW' := hW
  obtain ⟨p, q, hA, hV, rfl, _, _⟩ := hW
  rw [hv] at hV
  obtain ⟨rfl, rfl⟩ := trodVars_none hV
  have hlen := trodAll_length hA
  have hlt : ∀ x ∈ p, x.block < W.heap.size := fun x hx => hW'.lt x (List.mem_append_left _ hx)
  have e := hfn (ds ++ []) (by simpa using hlen)
  refine ⟨ds, [], p ++ [], [], p, [], hW', ?_, ?_, ?_, ?_, fun h => by cases h⟩
  · rw [e, hr]
    exact trodAll_mk1 (shut_bool htb _)
  · rw [e]
    show DataW.TrodAll enc P W' 0 _ true f.params.toList args.toList (ds ++ []) p
    rw [List.append_nil]
    exact trodAll_stays hl hb hread hA hlt (fun x hx => by simpa using hlt x hx)
  · rw [e, hv]
    exact rfl
  · exact hb.frame _

end

theorem own : ownKnob Try.prog.godebug = none := by kernel_rfl
theorem laidOut : laidOutB Try.prog = true := by kernel_rfl

/-- a slice of bytes that came in -/
def BSlice (w : World) (v : Value) (l : List Nat) : Prop :=
  ∃ a cap, v = .slice a l.length cap ∧ Octs l ∧ l.length ≤ cap ∧ BAt w a l ∧ (a = none → cap = 0)

theorem open_bytes {H : Type} {enc : TypeId × Value → H} {P : Program} {W : World} {t e : TypeId} {base : Nat} {v : Value} {d : DataW H} {ps : List MemPlace} (ht : P.underlying t = some (.slice e)) (he : P.underlying e = some (.int .u8)) (hc : P.cellsOf e = 1)
    (hval : Value.okWide P W .any base t v) (h : DataW.Trod enc P W 0 (fun _ => true) true t v d ps) : ∃ l, BSlice W v l := by
  obtain ⟨a0, len, cap, rfl⟩ := okWide_slice ht hval
  obtain ⟨fuel, hf⟩ := h
  rcases open_ints ht he hc hf with ⟨hcs, _⟩ | ⟨a, len', cap', zs, hcs, _, hl, hm, hz, hx, hcell, hwz⟩
  · simp [Value.cells] at hcs
    obtain ⟨rfl, rfl, rfl⟩ := hcs
    exact ⟨[], none, 0, rfl, .nil, by simp, .inl rfl, fun _ => rfl⟩
  · simp [Value.cells] at hcs
    obtain ⟨rfl, rfl, rfl⟩ := hcs
    simp only [if_true] at hz
    have hlen : ((zs.take len).map Int.toNat).length = len := by rw [List.length_map, List.length_take]; omega
    have hok : ∀ n ∈ zs.take len, 0 ≤ n ∧ n < 256 := by
      intro n hn
      have h1 := hwz n (List.mem_of_mem_take hn)
      simp only [Lit.wf, Bool.and_eq_true, decide_eq_true_eq] at h1
      have h2 : (0 : Int) ≤ n := h1.1
      have h3 : n ≤ 255 := h1.2
      omega
    refine ⟨(zs.take len).map Int.toNat, some a, cap, by rw [hlen], octs_mem ?_, by rw [hlen]; omega, ?_, fun h => by cases h⟩
    · intro x hx
      obtain ⟨n, hn, rfl⟩ := List.mem_map.1 hx
      have := hok n hn
      omega
    · by_cases h0 : len = 0
      · exact .inl (by rw [hlen, h0])
      · obtain ⟨b, off, rfl, hat⟩ := ints_at hcell (by omega)
        refine .inr ⟨b, off, rfl, fun k hk => ?_⟩
        rw [hlen] at hk
        rw [hat k (by omega)]
        have hk2 : k < (zs.take len).length := by rw [List.length_take]; omega
        have e1 : bz ((zs.take len).map Int.toNat) k = ((zs.take len)[k]).toNat := by
          rw [bz_get (by rw [hlen]; exact hk), List.getElem_map]
        have e2 : zs.getD k 0 = (zs.take len)[k] := by
          rw [List.getElem_take]
          simp [List.getD, List.getElem?_eq_getElem (show k < zs.length by omega)]
        rw [e1, e2]
        have := hok _ (List.getElem_mem hk2)
        congr 2
        omega
theorem open_u8 {n : Int} (h : (Lit.int .u8 n).wf = true) : ∃ k : Nat, n = (k : Int) ∧ k < 256 := by
  simp only [Lit.wf, Bool.and_eq_true, decide_eq_true_eq] at h
  have h2 : (0 : Int) ≤ n := h.1
  have h3 : n ≤ 255 := h.2
  exact ⟨n.toNat, by omega, by omega⟩
end Go.Proofs.Ytedbfehoeflmgaa
end
