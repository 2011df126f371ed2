/-
  A cache of the call's own, from call to call; what every program answers that is one.
  The program's sectors and the document's rows, alike; no memory here.
  The program's cache: Get where its disk reads nothing; Put of a place that isn't there.
  The document's own disk: Waiting.
  Arm, of both disks.
-/
import Derived.Test.YtnfaeejeipbciaaB17
import Derived.Test.YtnfaeejeipbciaaB18
import Derived.Test.YtnfaeejeipbciaaB8
import Derived.Test.YtnfaeejeipbciaaB9
import Derived.Test.YtnfaeejeipbciaaB5
import Derived.Test.YtnfaeejeipbciaaB15

section
set_option linter.unusedVariables false
set_option linter.unusedSimpArgs false
namespace Go.Proofs.Ytnfaeejeipbciaa
open Go.RowKit BigFrame
set_option maxRecDepth 100000

section
variable {w0 w w' : World} {B : Nat} {c c' : Ck} {A A' : Lies} {d d' : Dk}
/-- since w0 nothing that was there has turned; and the cache stands, with its disk -/
structure CkL (w0 w : World) (A : Lies) (d : Dk) (c : Ck) : Prop where
  below : Below w0.heap.size w0 w
  ck : CkD w w0.heap.size A d c
theorem CkL.base (h : CkL w0 w A d c) : w0.heap.size ≤ w.heap.size := h.below.size
theorem CkL.call (h : CkL w0 w A d c) (hd : CkD w' w0.heap.size A' d' c') (hs : Step w (foots A c) w' (foots A' c')) : CkL w0 w' A' d' c' :=
  ⟨h.below.trans (hs.below h.below.size fun k hk => (h.ck.lt k hk).1), hd⟩
theorem CkL.read (h : CkL w0 w A d c) (hb : Below w.heap.size w w') : CkL w0 w' A d c := ⟨h.below.trans (hb.mono h.below.size), h.ck.on hb (Nat.le_refl _)⟩
/-- what is new lies off it -/
theorem CkL.off (h : CkL w0 w A d c) {k : Nat} (hk : w.heap.size ≤ k) : k ∉ foots A c := fun e => by have := (h.ck.lt k e).2; omega
/-- a new disk, a new cache -/
theorem CkL.new {G m : Nat} {w1 w2 : World} (h : Below w0.heap.size w0 w) (hd : IsDk w1 w.heap.size G A d) (hb1 : Below w.heap.size w w1) (hn : CkN w2 w1.heap.size (ck0 w1 G m)) (hb2 : Below w1.heap.size w1 w2) : CkL w0 w2 A d (ck0 w1 G m) := by
  have hL := Live.new h hd hb1
  have hz := hb1.size
  have hz0 := h.size
  refine ⟨(h.trans (hb1.mono h.size)).trans (hb2.mono (by omega)), ⟨IsDkS.on hL.disk hb2 (Nat.le_refl _), ⟨⟨hn.mem.hdr, hn.mem.map, hn.mem.sec, own_lower hn.mem.own (by omega), hn.mem.blk, fun k hk => by have := hn.mem.over k hk; omega⟩, hn.ok, hn.one⟩, fun k hk hk2 => ?_⟩⟩
  have h1 := hn.mem.over k hk
  have h2 := (IsDkS.over hL.disk k hk2).2
  omega
/-- a row of one's own that is none of a cache's -/
def OffC (A : Lies) (c : Ck) (v : Value) : Prop := ∀ k, v.ownBlock = some k → k ∉ foots A c
theorem OffC.call {v : Value} (h : OffC A c v) (hs : Step w (foots A c) w' (foots A' c')) (hv : ∀ k, v.ownBlock = some k → k < w.heap.size) : OffC A' c' v := fun k hk e => by
  rcases hs.foot k e with e | e
  · exact h k hk e
  · have := hv k hk; omega
theorem OwnB.call {b : Nat} {v : Value} {l : List Nat} (h : OwnB w b v l) (ho : OffC A c v) (hs : Step w (foots A c) w' (foots A' c')) : OwnB w' b v l := h.block fun k hk => hs.block k (OwnB.lt h k hk).2 (ho k hk)
theorem OwnZ.call {b : Nat} {v : Value} {l : List Nat} (h : OwnZ w b v l) (ho : OffC A c v) (hs : Step w (foots A c) w' (foots A' c')) : OwnZ w' b v l := h.blk fun k hk => hs.block k (h.block k hk).2 (ho k hk)
theorem CkL.offB {w1 : World} {v : Value} {l : List Nat} (h : CkL w0 w A d c) (ho : OwnB w1 w.heap.size v l) : OffC A c v := fun k hk => h.off (OwnB.lt ho k hk).1
theorem CkL.offZ {w1 : World} {v : Value} {l : List Nat} (h : CkL w0 w A d c) (ho : OwnZ w1 w.heap.size v l) : OffC A c v := fun k hk => h.off (ho.block k hk).1

/-- a live cache: where it is, its disk, how many it may hold, how many Gets and Puts there were, what it holds -/
structure Cv (w0 w : World) (A : Lies) (d : Dk) (c : Ck) (C G m u : Nat) (H : List Sx) : Prop where
  l : CkL w0 w A d c
  C : c.C = C
  G : c.G = G
  most : c.most = m
  uses : c.uses = u
  H : c.H = H
variable {C G m u : Nat} {H H' : List Sx}
theorem Cv.dk (h : Cv w0 w A d c C G m u H) : IsDk w w0.heap.size G A d := h.G ▸ h.l.ck.dk
theorem Cv.below (h : Cv w0 w A d c C G m u H) : Below w0.heap.size w0 w := h.l.below
theorem Cv.read (h : Cv w0 w A d c C G m u H) (hb : Below w.heap.size w w') : Cv w0 w' A d c C G m u H := ⟨h.l.read hb, h.C, h.G, h.most, h.uses, h.H⟩
theorem Cv.did (h : Cv w0 w A d c C G m u H) {u' : Nat} (hd : CkD w' w0.heap.size A' d' c') (hs : Step w (foots A c) w' (foots A' c')) (hS : Same c c' u' H') : Cv w0 w' A' d' c' C G m u' H' :=
  ⟨h.l.call hd hs, hS.C.trans h.C, hS.G.trans h.G, hS.most.trans h.most, hS.uses, hS.H⟩
theorem Cv.srt (h : Cv w0 w A d c C G m u H) : Srt H := h.H ▸ h.l.ck.n.ok.srt
theorem Cv.pos (h : Cv w0 w A d c C G m u H) : Apart H := h.H ▸ h.l.ck.n.ok.pos
theorem Cv.len (h : Cv w0 w A d c C G m u H) {x : Sx} (hx : x ∈ H) : x.b.length = 128 := h.l.ck.n.ok.len x (by rw [h.H]; exact hx)
theorem newc_v {w1 : World} {n : Int} (h : Below w0.heap.size w0 w) (hd : IsDk w1 w.heap.size G A d) (hb1 : Below w.heap.size w w1) (hn : n = (m : Int)) (hm : 1 ≤ m) :
    Calls Try.prog 10 #[.pointer (some ⟨G, 0, none⟩), .int .i64 n] w1 fun e w2 => ∃ C c, e = .returned (.pointer (some ⟨C, 0, none⟩)) ∧ Cv w0 w2 A d c C G m 0 [] ∧ w1.heap.size ≤ C := by
  subst hn
  refine (newc_c G m hm w1).mono ?_
  rintro e w2 ⟨rfl, hN2, hb2⟩
  exact ⟨_, _, rfl, ⟨CkL.new h hd hb1 hN2 hb2, rfl, rfl, rfl, rfl, rfl⟩, by omega⟩
/-- what Get tells -/
def GotV (w0 : World) (A : Lies) (d : Dk) (c : Ck) (C G m u : Nat) (H : List Sx) (p : Nat) (l : List Nat) (dt pn : Bool) (w : World) (e : Ending) (w' : World) : Prop :=
  ∃ v c' blk, e = .returned (.tuple #[v, .int .i64 0]) ∧ Cv w0 w' A d c' C G m (u + 1) (trim m (nw H ⟨blk, p, l, u + 1, dt, pn⟩)) ∧ OwnB w' w.heap.size v l ∧ OffC A c' v ∧ Step w (foots A c) w' (foots A c')
theorem getv_hit (h : Cv w0 w A d c C G m u H) (hm : m ≤ 100000) (hu : u < 100000) {x : Sx} (hx : x ∈ H) {a : Int} (ha : a = (x.pos : Int)) :
    Calls Try.prog 26 #[.pointer (some ⟨C, 0, none⟩), .int .i64 a] w (GotV w0 A d c C G m u H x.pos x.b x.dirty x.pin w) := by
  subst ha
  have h1 := get_hit h.l.ck (by rw [h.most]; exact hm) (by rw [h.uses]; exact hu) (x := x) (by rw [h.H]; exact hx)
  unfold pv at h1
  rw [h.C] at h1
  refine h1.mono ?_
  rintro e w' ⟨v, c', blk, rfl, ⟨hD, hS, hs⟩, ho, hf⟩
  rw [h.uses, h.most, h.H] at hs
  exact ⟨v, c', blk, rfl, h.did hD hS hs, ho, hf, hS⟩
theorem getv_miss (h : Cv w0 w A d c C G m u H) (hm : m ≤ 100000) (hu : u < 100000) {p : Nat} (hn : get H (p : Int) = none) (hon : d.on = true) (hpd : p < d.n) {a : Int} (ha : a = (p : Int)) :
    Calls Try.prog 26 #[.pointer (some ⟨C, 0, none⟩), .int .i64 a] w (GotV w0 A d c C G m u H p (d.seen p) false false w) := by
  subst ha
  have h1 := get_miss h.l.ck (by rw [h.most]; exact hm) (by rw [h.uses]; exact hu) h.l.base (by have := (IsDkS.fine h.dk).n; omega) (by rw [h.H]; exact hn) hon hpd
  unfold pv at h1
  rw [h.C] at h1
  refine h1.mono ?_
  rintro e w' ⟨v, c', blk, rfl, ⟨hD, hS, hs⟩, ho, hf⟩
  rw [h.uses, h.most, h.H] at hs
  exact ⟨v, c', blk, rfl, h.did hD hS hs, ho, hf, hS⟩
/-- what Put leaves -/
def PutV (w0 : World) (A : Lies) (d : Dk) (c : Ck) (C G m u : Nat) (H : List Sx) (p : Nat) (l : List Nat) (pn : Bool) (w : World) (e : Ending) (w' : World) : Prop :=
  ∃ c' blk, e = .returned (.int .i64 0) ∧ Cv w0 w' A d c' C G m (u + 1) (trim m (nw H ⟨blk, p, l, u + 1, true, pn⟩)) ∧ Step w (foots A c) w' (foots A c')
theorem putv_miss (h : Cv w0 w A d c C G m u H) (hm : m ≤ 100000) (hu : u < 100000) {p : Nat} (hn : get H (p : Int) = none) (hpd : p < d.n) {a : Int} (ha : a = (p : Int)) {l : List Nat} {bb bo bcap : Nat} (hl : l.length = 128) (hbc : 128 ≤ bcap) (hx : BAt w (some ⟨bb, bo, none⟩) l) (hoff : bb < w.heap.size ∧ bb ∉ foots A c) :
    Calls Try.prog 22 #[.pointer (some ⟨C, 0, none⟩), .int .i64 a, .slice (some ⟨bb, bo, none⟩) 128 bcap] w (PutV w0 A d c C G m u H p l false w) := by
  subst ha
  have h1 := put_miss h.l.ck (by rw [h.most]; exact hm) (by rw [h.uses]; exact hu) h.l.base hpd (by rw [h.H]; exact hn) hl hbc hx hoff
  unfold pv at h1
  rw [h.C] at h1
  refine h1.mono ?_
  rintro e w' ⟨c', blk, rfl, hD, hS, hs⟩
  rw [h.uses, h.most, h.H] at hs
  exact ⟨c', blk, rfl, h.did hD hS hs, hS⟩
theorem putv_hit (h : Cv w0 w A d c C G m u H) (hm : m ≤ 100000) (hu : u < 100000) {x : Sx} (hxm : x ∈ H) (hpd : x.pos < d.n) {a : Int} (ha : a = (x.pos : Int)) {l : List Nat} {bb bo bcap : Nat} (hl : l.length = 128) (hbc : 128 ≤ bcap) (hx : BAt w (some ⟨bb, bo, none⟩) l) (hoff : bb < w.heap.size ∧ bb ∉ foots A c) :
    Calls Try.prog 22 #[.pointer (some ⟨C, 0, none⟩), .int .i64 a, .slice (some ⟨bb, bo, none⟩) 128 bcap] w (PutV w0 A d c C G m u H x.pos l x.pin w) := by
  subst ha
  have h1 := put_hit h.l.ck (by rw [h.most]; exact hm) (by rw [h.uses]; exact hu) h.l.base hpd (x := x) (by rw [h.H]; exact hxm) rfl hl hbc hx hoff
  unfold pv at h1
  rw [h.C] at h1
  refine h1.mono ?_
  rintro e w' ⟨c', blk, rfl, hD, hS, hs⟩
  rw [h.uses, h.most, h.H] at hs
  exact ⟨c', blk, rfl, h.did hD hS hs, hS⟩
/-- what a call leaves that answers a number -/
def ActV (w0 : World) (d' : Dk) (A : Lies) (c : Ck) (C G m u : Nat) (r : Int) (H' : List Sx) (w : World) (e : Ending) (w' : World) : Prop :=
  ∃ A' c', e = .returned (.int .i64 r) ∧ Cv w0 w' A' d' c' C G m u H' ∧ Step w (foots A c) w' (foots A' c')
theorem dropv (h : Cv w0 w A d c C G m u H) {a : Int} (ha : -1000000 ≤ a ∧ a ≤ 1000000) {n : Nat} (hn : n = min a.toNat (fr H).length) :
    Calls Try.prog 25 #[.pointer (some ⟨C, 0, none⟩), .int .i64 a] w (ActV w0 d A c C G m u n (dropN H n) w) := by
  have h1 := drop_c h.l.ck a ha n (by rw [h.H]; exact hn)
  unfold pv at h1
  rw [h.C] at h1
  refine h1.mono ?_
  rintro e w' ⟨c', rfl, hD, hS, hs⟩
  rw [h.uses, h.H] at hs
  exact ⟨A, c', rfl, h.did hD hS hs, hS⟩
theorem pinv_hit (h : Cv w0 w A d c C G m u H) (hm : m ≤ 100000) {x : Sx} (hx : x ∈ H) (b : Bool) {a : Int} (ha : a = (x.pos : Int)) :
    Calls Try.prog 29 #[.pointer (some ⟨C, 0, none⟩), .int .i64 a, .bool b] w (ActV w0 d A c C G m u 0 (trim m (putS (x.withP b) H)) w) := by
  subst ha
  have h1 := pin_hit h.l.ck (by rw [h.most]; exact hm) (x := x) (by rw [h.H]; exact hx) b
  unfold pv at h1
  rw [h.C] at h1
  refine h1.mono ?_
  rintro e w' ⟨c', rfl, hD, hS, hs⟩
  rw [h.uses, h.H, h.most] at hs
  exact ⟨A, c', rfl, h.did hD hS hs, hS⟩
theorem pinv_none (h : Cv w0 w A d c C G m u H) {a : Int} (ha : I64 a) (b : Bool) (hn : get H a = none) :
    Calls Try.prog 29 #[.pointer (some ⟨C, 0, none⟩), .int .i64 a, .bool b] w fun e w' => e = .returned (.int .i64 5) ∧ w = w' := by
  have h1 := pin_none h.l.ck.n a ha b (by rw [h.H]; exact hn)
  unfold pv at h1
  rw [h.C] at h1
  exact h1
theorem cleanv_none (h : Cv w0 w A d c C G m u H) {a : Int} (ha : I64 a) (hn : get H a = none) :
    Calls Try.prog 24 #[.pointer (some ⟨C, 0, none⟩), .int .i64 a] w fun e w' => e = .returned (.int .i64 5) ∧ w = w' := by
  have h1 := clean_none h.l.ck.n a ha (by rw [h.H]; exact hn)
  unfold pv at h1
  rw [h.C] at h1
  exact h1
theorem cleanv_not (h : Cv w0 w A d c C G m u H) {x : Sx} (hx : x ∈ H) (hd : x.dirty = false) {a : Int} (ha : a = (x.pos : Int)) :
    Calls Try.prog 24 #[.pointer (some ⟨C, 0, none⟩), .int .i64 a] w fun e w' => e = .returned (.int .i64 0) ∧ w = w' := by
  subst ha
  have h1 := clean_not h.l.ck.n (x := x) (by rw [h.H]; exact hx) hd
  unfold pv at h1
  rw [h.C] at h1
  exact h1
theorem cleanv_off (h : Cv w0 w A d c C G m u H) {x : Sx} (hx : x ∈ H) (hd : x.dirty = true) (hon : d.on = false) {a : Int} (ha : a = (x.pos : Int)) :
    Calls Try.prog 24 #[.pointer (some ⟨C, 0, none⟩), .int .i64 a] w (ActV w0 d A c C G m u 4 H w) := by
  subst ha
  have h1 := clean_off h.l.ck (x := x) (by rw [h.H]; exact hx) hd hon
  unfold pv at h1
  rw [h.C] at h1
  refine h1.mono ?_
  rintro e w' ⟨rfl, A', hD, hS⟩
  exact ⟨A', c, rfl, ⟨h.l.call hD hS, h.C, h.G, h.most, h.uses, h.H⟩, hS⟩
theorem cleanv_go (h : Cv w0 w A d c C G m u H) (hm : m ≤ 100000) {x : Sx} (hx : x ∈ H) (hd : x.dirty = true) (hon : d.on = true) (hset : d.set = false) (hp : x.pos < d.n) (hm1 : d.waits.length < 1000) (hm2 : d.log.length < 1000) {a : Int} (ha : a = (x.pos : Int)) :
    Calls Try.prog 24 #[.pointer (some ⟨C, 0, none⟩), .int .i64 a] w (ActV w0 (d.wrote x.pos x.b) A c C G m u 0 (trim m (putS (x.withD false) H)) w) := by
  subst ha
  have h1 := clean_go h.l.ck (by rw [h.most]; exact hm) (x := x) (by rw [h.H]; exact hx) hd hon hset hp hm1 hm2
  unfold pv at h1
  rw [h.C] at h1
  refine h1.mono ?_
  rintro e w' ⟨A', c', rfl, hD, hS, hs⟩
  rw [h.uses, h.H, h.most] at hs
  exact ⟨A', c', rfl, h.did hD hS hs, hS⟩
theorem heldv (h : Cv w0 w A d c C G m u H) : Calls Try.prog 12 #[.pointer (some ⟨C, 0, none⟩)] w (TellZ (H.map Sx.pos) w) := by
  have h1 := held_c h.l.ck.n
  unfold pv at h1
  rw [h.C, h.H] at h1
  exact h1
theorem dirtyv (h : Cv w0 w A d c C G m u H) : Calls Try.prog 13 #[.pointer (some ⟨C, 0, none⟩)] w fun e w' => ∃ S, DirtyS H S ∧ TellZ (S.map Sx.pos) w e w' := by
  have h1 := dirties_c h.l.ck.n
  unfold pv at h1
  rw [h.C, h.H] at h1
  exact h1
theorem dirtyv_none (h : Cv w0 w A d c C G m u H) (hn : ∀ x ∈ H, x.dirty = false) : Calls Try.prog 13 #[.pointer (some ⟨C, 0, none⟩)] w fun e w' => ∃ a cap, e = .returned (.slice a 0 cap) ∧ Below w.heap.size w w' := by
  refine (dirtyv h).mono ?_
  rintro e w' ⟨S, ⟨_, hS⟩, v, rfl, ho, hb⟩
  have e0 : S = [] := by
    cases S with
    | nil => rfl
    | cons y r =>
      have := (hS y).1 List.mem_cons_self
      rw [hn y this.1] at this
      exact absurd this.2 (by decide)
  subst e0
  obtain ⟨a, cap, rfl, _, _⟩ := OwnZ.ints ho
  exact ⟨a, cap, rfl, hb⟩
end
end Go.Proofs.Ytnfaeejeipbciaa
end

section
set_option linter.unusedVariables false
set_option linter.unusedSimpArgs false
namespace Go.Proofs.Ytnfaeejeipbciaa
open Go.RowKit BigFrame Go.Lib

/-- what is seen of a sector that is held -/
def Sx.key (x : Sx) : Nat × List Nat × Bool × Bool := (x.pos, x.b, x.dirty, x.pin)
def Rr.key (x : Rr) : Nat × List Nat × Bool × Bool := (x.pos, x.b, x.dirty, x.pin)
def Alk (H : List Sx) (L : List Rr) : Prop := H.map Sx.key = L.map Rr.key
theorem key_free {x : Sx} {r : Rr} (h : x.key = r.key) : x.free = r.free ∧ x.pos = r.pos ∧ x.b = r.b ∧ x.dirty = r.dirty ∧ x.pin = r.pin := by
  simp only [Sx.key, Rr.key, Prod.mk.injEq] at h
  obtain ⟨h1, h2, h3, h4⟩ := h
  exact ⟨by unfold Sx.free Rr.free; rw [h3, h4], h1, h2, h3, h4⟩
theorem Alk.len {H : List Sx} {L : List Rr} (h : Alk H L) : H.length = L.length := by
  have := congrArg List.length h
  simpa using this
theorem Alk.nil : Alk [] [] := rfl
theorem Alk.cons {x : Sx} {r : Rr} {H : List Sx} {L : List Rr} : Alk (x :: H) (r :: L) ↔ x.key = r.key ∧ Alk H L := by
  unfold Alk
  rw [List.map_cons, List.map_cons, List.cons.injEq]
theorem Alk.drop : ∀ {H : List Sx} {L : List Rr} (n : Nat), Alk H L → Alk (dropN H n) (dropR L n) ∧ goneR L n = min n (fr H).length
  | [], [], n, _ => ⟨rfl, by simp [goneR, fr]⟩
  | [], _ :: _, _, h => by simp [Alk] at h
  | _ :: _, [], _, h => by simp [Alk] at h
  | x :: H, r :: L, n, h => by
    obtain ⟨h1, h2⟩ := Alk.cons.1 h
    have hf := (key_free h1).1
    rw [dropN, dropR, goneR, fr_cons, hf]
    by_cases hc : r.free = true
    · by_cases hn : 0 < n
      · rw [if_pos ⟨hc, hn⟩, if_pos ⟨hc, hn⟩, if_pos ⟨hc, hn⟩, if_pos hc]
        obtain ⟨h3, h4⟩ := Alk.drop (n - 1) h2
        refine ⟨h3, ?_⟩
        rw [h4, List.length_cons]; omega
      · have : n = 0 := by omega
        subst this
        rw [if_neg (by omega), if_neg (by omega), if_neg (by omega)]
        obtain ⟨h3, h4⟩ := Alk.drop 0 h2
        refine ⟨Alk.cons.2 ⟨h1, h3⟩, ?_⟩
        rw [h4]; simp
    · rw [if_neg (fun e => hc e.1), if_neg (fun e => hc e.1), if_neg (fun e => hc e.1), if_neg hc]
      obtain ⟨h3, h4⟩ := Alk.drop n h2
      exact ⟨Alk.cons.2 ⟨h1, h3⟩, h4⟩
theorem Alk.trim {H : List Sx} {L : List Rr} (h : Alk H L) (m : Nat) : Alk (Go.Proofs.Ytnfaeejeipbciaa.trim m H) (trimR m L) := by
  unfold Go.Proofs.Ytnfaeejeipbciaa.trim trimR
  rw [h.len]
  exact (h.drop _).1
theorem Alk.filter : ∀ {H : List Sx} {L : List Rr} (p : Nat), Alk H L → Alk (H.filter fun y => decide (y.pos ≠ p)) (L.filter fun y => decide (y.pos ≠ p))
  | [], [], _, _ => rfl
  | [], _ :: _, _, h => by simp [Alk] at h
  | _ :: _, [], _, h => by simp [Alk] at h
  | x :: H, r :: L, p, h => by
    obtain ⟨h1, h2⟩ := Alk.cons.1 h
    have hp := (key_free h1).2.1
    have ih := Alk.filter p h2
    rw [List.filter_cons, List.filter_cons, hp]
    by_cases e : decide (r.pos ≠ p) = true
    · rw [if_pos e, if_pos e]; exact Alk.cons.2 ⟨h1, ih⟩
    · rw [if_neg e, if_neg e]; exact ih
theorem Alk.nw {H : List Sx} {L : List Rr} (h : Alk H L) {x : Sx} {r : Rr} (hx : x.key = r.key) : Alk (Go.Proofs.Ytnfaeejeipbciaa.nw H x) (newR r L) := by
  unfold Go.Proofs.Ytnfaeejeipbciaa.nw newR
  have := h.filter r.pos
  rw [(key_free hx).2.1]
  unfold Alk at this ⊢
  rw [List.map_append, List.map_append, this, List.map_cons, List.map_cons, hx]; rfl
theorem Alk.pos {H : List Sx} {L : List Rr} (h : Alk H L) : H.map Sx.pos = L.map Rr.pos := by
  have := congrArg (List.map Prod.fst) h
  rw [List.map_map, List.map_map] at this
  exact this
theorem Alk.at {H : List Sx} {L : List Rr} (h : Alk H L) {k : Nat} {x : Sx} (hx : H[k]? = some x) : ∃ r, L[k]? = some r ∧ x.key = r.key := by
  have h1 : (H.map Sx.key)[k]? = some x.key := by simp [hx]
  rw [h, List.getElem?_map] at h1
  cases hr : L[k]? with
  | none => rw [hr] at h1; cases h1
  | some r => rw [hr] at h1; exact ⟨r, rfl, (Option.some.inj h1).symm⟩
theorem Alk.at' {H : List Sx} {L : List Rr} (h : Alk H L) {k : Nat} {r : Rr} (hr : L[k]? = some r) : ∃ x, H[k]? = some x ∧ x.key = r.key := by
  have h1 : (L.map Rr.key)[k]? = some r.key := by simp [hr]
  rw [← h, List.getElem?_map] at h1
  cases hx : H[k]? with
  | none => rw [hx] at h1; cases h1
  | some x => rw [hx] at h1; exact ⟨x, rfl, Option.some.inj h1⟩
theorem Alk.out {H : List Sx} {L : List Rr} (h : Alk H L) {a : Int} (hn : get H a = none) : ∀ r ∈ L, (r.pos : Int) ≠ a := fun r hr => by
  obtain ⟨k, hk⟩ := List.getElem?_of_mem hr
  obtain ⟨x, hx, e⟩ := h.at' hk
  rw [← (key_free e).2.1]
  exact get_none hn x (List.mem_of_getElem? hx)
theorem Alk.hit {H : List Sx} {L : List Rr} (h : Alk H L) {a : Int} {x : Sx} (hx : get H a = some x) : x ∈ H ∧ (x.pos : Int) = a ∧ ∃ (k : Nat) (r : Rr), H[k]? = some x ∧ L[k]? = some r ∧ x.key = r.key := by
  obtain ⟨h1, h2⟩ := get_some hx
  obtain ⟨k, hk⟩ := List.getElem?_of_mem h1
  obtain ⟨r, hr, e⟩ := h.at hk
  exact ⟨h1, h2, k, r, hk, hr, e⟩
/-- one is turned, its age and its place as they were -/
theorem Alk.put {H : List Sx} {L : List Rr} (h : Alk H L) (hs : Srt H) {k : Nat} {x y : Sx} {r' : Rr} (hx : H[k]? = some x) (hu : y.used = x.used) (hk : y.key = r'.key) : Alk (putS y H) (L.set k r') := by
  unfold Alk putS
  apply List.ext_getElem?
  intro j
  rw [List.map_map, List.getElem?_map, List.getElem?_map, List.getElem?_set]
  have hkl := (List.getElem?_eq_some_iff.1 hx).1
  by_cases e : k = j
  · subst e
    rw [if_pos rfl, if_pos (by rw [← h.len]; exact hkl), hx]
    simp [hu, hk]
  · rw [if_neg e]
    cases hz : H[j]? with
    | none =>
      have : L[j]? = none := by
        rw [List.getElem?_eq_none_iff] at hz ⊢
        rw [← h.len]; exact hz
      rw [this]; rfl
    | some z =>
      obtain ⟨r, hr, ez⟩ := h.at hz
      rw [hr]
      have hne : z.used ≠ y.used := fun e2 => by
        have hz2 := (List.getElem?_eq_some_iff.1 hz)
        have hx2 := (List.getElem?_eq_some_iff.1 hx)
        obtain ⟨hj, ej⟩ := hz2
        obtain ⟨hk2, ek⟩ := hx2
        rcases Nat.lt_trichotomy k j with e' | e' | e'
        · have := List.pairwise_iff_getElem.1 hs k j hk2 hj e'
          rw [ek, ej] at this; omega
        · exact e e'
        · have := List.pairwise_iff_getElem.1 hs j k hj hk2 e'
          rw [ek, ej] at this; omega
      simp [hne, ez]
/-- two rising lists of the same numbers -/
theorem rise_eq : ∀ {l m : List Nat}, l.Pairwise (· < ·) → m.Pairwise (· < ·) → (∀ a, a ∈ l ↔ a ∈ m) → l = m
  | [], [], _, _, _ => rfl
  | [], b :: m, _, _, h => absurd ((h b).2 List.mem_cons_self) (by simp)
  | a :: l, [], _, _, h => absurd ((h a).1 List.mem_cons_self) (by simp)
  | a :: l, b :: m, hl, hm, h => by
    obtain ⟨h1, h2⟩ := List.pairwise_cons.1 hl
    obtain ⟨h3, h4⟩ := List.pairwise_cons.1 hm
    have hab : a = b := by
      rcases List.mem_cons.1 ((h a).1 List.mem_cons_self) with e | e
      · exact e
      · rcases List.mem_cons.1 ((h b).2 List.mem_cons_self) with e' | e'
        · exact e'.symm
        · have := h1 b e'; have := h3 a e; omega
    subst hab
    rw [rise_eq h2 h4 fun x => ?_]
    constructor
    · intro hx
      rcases List.mem_cons.1 ((h x).1 (List.mem_cons_of_mem _ hx)) with e | e
      · have := h1 x hx; omega
      · exact e
    · intro hx
      rcases List.mem_cons.1 ((h x).2 (List.mem_cons_of_mem _ hx)) with e | e
      · have := h3 x hx; omega
      · exact e
theorem Alk.dirty {H S : List Sx} {L : List Rr} {n : Nat} (h : Alk H L) (hS : DirtyS H S) (hn : ∀ x ∈ H, x.pos < n) : S.map Sx.pos = dirtL L n := by
  refine rise_eq ?_ ?_ fun a => ?_
  · rw [List.pairwise_map]; exact hS.1
  · exact List.pairwise_lt_range.sublist List.filter_sublist
  · unfold dirtL dirtAt
    rw [List.mem_map, List.mem_filter, List.mem_range, List.any_eq_true]
    constructor
    · rintro ⟨x, hx, rfl⟩
      obtain ⟨h1, h2⟩ := (hS.2 x).1 hx
      obtain ⟨k, hk⟩ := List.getElem?_of_mem h1
      obtain ⟨r, hr, e⟩ := h.at hk
      obtain ⟨_, e1, _, e2, _⟩ := key_free e
      exact ⟨hn x h1, r, List.mem_of_getElem? hr, by rw [decide_eq_true e1.symm, ← e2, h2]; rfl⟩
    · rintro ⟨_, r, hr, hd⟩
      rw [Bool.and_eq_true, decide_eq_true_eq] at hd
      obtain ⟨k, hk⟩ := List.getElem?_of_mem hr
      obtain ⟨x, hx, e⟩ := h.at' hk
      obtain ⟨_, e1, _, e2, _⟩ := key_free e
      exact ⟨x, (hS.2 x).2 ⟨List.mem_of_getElem? hx, by rw [e2]; exact hd.2⟩, by rw [e1]; exact hd.1⟩
/-- no more than may be, or none that may go -/
def Settled (m : Nat) (L : List Rr) : Prop := L.length ≤ m ∨ ∀ r ∈ L, r.free = false
theorem dropR_none : ∀ {L : List Rr} (n : Nat), (∀ r ∈ L, r.free = false) → dropR L n = L
  | [], _, _ => rfl
  | r :: L, n, h => by
    have hr := h r List.mem_cons_self
    rw [dropR, if_neg (by rw [hr]; simp), dropR_none n fun y hy => h y (List.mem_cons_of_mem _ hy)]
theorem dropR_zero (L : List Rr) : dropR L 0 = L := by
  induction L with
  | nil => rfl
  | cons r L ih => rw [dropR, if_neg (by omega), ih]
theorem Settled.trim {m : Nat} {L : List Rr} (h : Settled m L) : trimR m L = L := by
  unfold trimR
  rcases h with h | h
  · rw [show L.length - m = 0 by omega]; exact dropR_zero L
  · exact dropR_none _ h
theorem dropR_settles : ∀ (L : List Rr) (n : Nat), (dropR L n).length + n ≤ L.length ∨ ∀ r ∈ dropR L n, r.free = false
  | [], _ => .inr (by simp [dropR])
  | r :: L, n => by
    rw [dropR]
    by_cases hc : r.free = true ∧ 0 < n
    · rw [if_pos hc]
      refine (dropR_settles L (n - 1)).imp (fun h => ?_) id
      rw [List.length_cons]; omega
    · rw [if_neg hc]
      by_cases hn : n = 0
      · subst hn
        rw [dropR_zero]
        exact .inl (Nat.le_refl _)
      · have hf : r.free = false := by
          cases hr : r.free with
          | false => rfl
          | true => exact absurd ⟨hr, by omega⟩ hc
        refine (dropR_settles L n).imp (fun h => ?_) fun h y hy => ?_
        · rw [List.length_cons, List.length_cons]; omega
        · rcases List.mem_cons.1 hy with rfl | hy
          · exact hf
          · exact h y hy
theorem trimR_settled (m : Nat) (L : List Rr) : Settled m (trimR m L) := by
  unfold trimR
  rcases dropR_settles L (L.length - m) with h | h
  · refine .inl ?_
    have := (dropR_sub L (L.length - m)).length_le
    omega
  · exact .inr h
theorem Settled.drop {m : Nat} {L : List Rr} (h : Settled m L) (n : Nat) : Settled m (dropR L n) := by
  have hs := dropR_sub L n
  rcases h with h | h
  · exact .inl (Nat.le_trans hs.length_le h)
  · exact .inr fun r hr => h r (hs.subset hr)
end Go.Proofs.Ytnfaeejeipbciaa
end

section
set_option linter.unusedVariables false
set_option linter.unusedSimpArgs false
namespace Go.Proofs.Ytnfaeejeipbciaa
open Go.RowKit BigFrame Go.Lib
set_option maxRecDepth 100000

section
variable {w0 w w' : World} {A : Lies} {d : Dk} {c : Ck} {C G m u : Nat} {H : List Sx}
set_option maxHeartbeats 2000000 in
theorem getv_no (h : Cv w0 w A d c C G m u H) {a : Int} (ha : I64 a) (hn : get H a = none) {z : Int} (hz : z ≠ 0) (hrd : Calls Try.prog 28 #[.pointer (some ⟨G, 0, none⟩), .int .i64 a] w (GivesR [] z w)) :
    Calls Try.prog 26 #[.pointer (some ⟨C, 0, none⟩), .int .i64 a] w fun e w' => e = .returned (.tuple #[.slice none 0 0, .int .i64 z]) ∧ Below w.heap.size w w' := by
  have hfi := Lib.hid (find_c h.l.ck.n.mem a ha)
  rw [h.H, hn] at hfi
  have c0 := h.l.ck.n.mem.hdr.cell (k := 0) rfl
  change w.cell? ⟨c.C, 0, none⟩ = some (pv c.G) at c0
  rw [h.C, h.G] at c0
  unfold pv at hfi c0
  rw [h.C] at hfi
  simp only [found] at hfi
  have hrd' := Lib.hid hrd
  have t1 : (z != 0) = true := by simpa using hz
  clear h hrd hn hz
  go_enter Try.func26, Try.ntmps26
  go_wp2_with (first
    | (go_at_call 50; refine hfi.out.mono ?_; rintro e w1 ⟨rfl, rfl⟩)
    | (go_at_call 28; refine hrd'.out.mono ?_; rintro e w1 ⟨v1, rfl, ho1, hb1⟩; have B1 := Lib.hid hb1; clear ho1 hb1))
  go_ret2
  exact ⟨rfl, B1.out⟩
set_option maxHeartbeats 2000000 in
theorem putv_bad (h : Cv w0 w A d c C G m u H) {a : Int} (ha : I64 a) (hn : get H a = none) {bp : Option Addr} {bn bcap : Nat} (hbad : a < 0 ∨ (d.n : Int) ≤ a) :
    Calls Try.prog 22 #[.pointer (some ⟨C, 0, none⟩), .int .i64 a, .slice bp bn bcap] w fun e w' => e = .returned (.int .i64 2) ∧ w = w' := by
  have hfi := Lib.hid (find_c h.l.ck.n.mem a ha)
  rw [h.H, hn] at hfi
  have c0 := h.l.ck.n.mem.hdr.cell (k := 0) rfl
  change w.cell? ⟨c.C, 0, none⟩ = some (pv c.G) at c0
  rw [h.C, h.G] at c0
  have hse := Lib.hid (sectors_any w _ G A d h.dk)
  obtain ⟨n, hdn⟩ : ∃ n, d.n = n := ⟨_, rfl⟩
  rw [hdn] at hse hbad
  unfold pv at hfi c0
  rw [h.C] at hfi
  simp only [found] at hfi
  clear h hn hdn
  by_cases h0 : a < 0
  · have t1 : decide (a < 0) = true := decide_eq_true h0
    go_enter Try.func22, Try.ntmps22
    go_wp2_with (first
      | (go_at_call 50; refine hfi.out.mono ?_; rintro e w1 ⟨rfl, rfl⟩)
      | (go_at_call 51; refine hse.out.mono ?_; rintro e w1 ⟨rfl, rfl⟩))
    go_ret
    exact ⟨rfl, rfl⟩
  · have t1 : decide (a < 0) = false := decide_eq_false h0
    have t2 : decide ((n : Int) ≤ a) = true := decide_eq_true (by omega)
    go_enter Try.func22, Try.ntmps22
    go_wp2_with (first
      | (go_at_call 50; refine hfi.out.mono ?_; rintro e w1 ⟨rfl, rfl⟩)
      | (go_at_call 51; refine hse.out.mono ?_; rintro e w1 ⟨rfl, rfl⟩))
    go_ret
    exact ⟨rfl, rfl⟩
end
end Go.Proofs.Ytnfaeejeipbciaa
end

section
set_option linter.unusedVariables false
set_option linter.unusedSimpArgs false
namespace Go.Proofs.Ytnfaeejeipbciaa
open Go.RowKit BigFrame

def GivesIo (n : Nat) (D : Nat → Int) (w : World) (e : Ending) (w' : World) : Prop := ∃ v, e = .returned v ∧ OwnI w' w.heap.size v n D ∧ Below w.heap.size w w'
def RwRel (w : World) (d : Dk) (nw : Nat) (g : Nat) (v i : Value) (wr : World) : Prop :=
  ∃ k : Nat, k + g = nw ∧ i = .int .i64 k ∧ OwnI wr w.heap.size v k (waitD d) ∧ Below w.heap.size w wr
end Go.Proofs.Ytnfaeejeipbciaa
end

section
set_option linter.unusedVariables false
set_option linter.unusedSimpArgs false
namespace Go.Proofs.Ytnfaeejeipbciaa
open Go.RowKit BigFrame

theorem wpList_append_k {w : World} {ops : Array Oper} {rest : List Oper} {o : Oper} {a : Act} {Q : Exit → Act → World → Prop} (hgd : o.guard = none) (s x : Operand)
    (ho : o.op = .call { callee := .builtin .append, args := #[s, x], argTypes := #[42, 42] })
    (base : Nat) (hs : a.eval s = .slice none 0 0) (sp : Option Addr) (n sCap : Nat) (K : List Bool) (hx : a.eval x = .slice sp n sCap) (hm : K.length = n) (hsrc : KAt w sp K) (hnil : sp = none → sCap = 0)
    (hlen : n ≤ 1000000) (hbase : base ≤ w.heap.size)
    (h : ∀ v' w', Hid (w'.ownsRow base 4 1 v' K.length (kcells K)) → Below base w w' → wpList Try.prog ops Q rest (a.put o.dst v') w') : wpList Try.prog ops Q (o :: rest) a w := by
  subst hm
  obtain ⟨i, hi, hz0, hz1, hz2⟩ := info_parts Try.infoK
  cases sp with
  | none =>
    obtain rfl := hnil rfl
    have hm : K = [] := by
      rcases hsrc with h | ⟨b, off, e, _⟩
      · exact List.eq_nil_of_length_eq_zero h
      · cases e
    subst hm
    exact wpList_append_own_none hgd s x _ ho base 4 i 1 Try.underlying42 hi (.slice none 0 0) 0 [] hs (World.ownsRow_nil _ _ _ _) hx (h _ _ (Lib.hid (World.ownsRow_nil _ _ _ _)) (Below.refl _ _))
  | some ad =>
    refine wpList_append_own w hgd s x _ ho base 4 i (.bool false) 1 1 Try.underlying42 hi hz0 hz1 hz2 rfl (by decide) (.slice none 0 0) 0 [] hs (World.ownsRow_nil _ _ _ _) ad K.length sCap (kcells K) hx (by rw [kcells_length, Nat.mul_one]) ?_ (kcells_one K) (by unfold maxLen; omega) (by omega) hbase ?_
    · intro j u hu
      obtain ⟨hj, rfl⟩ := kcells_at hu
      rcases hsrc with h | ⟨b, off, e, h⟩
      · omega
      · obtain rfl := Option.some.inj e
        rw [addr_add]; exact h j hj
    · intro v' w' hv hg _
      refine h v' w' ?_ ((Below.refl _ _).grown hg hbase (fun k hk => by cases hk))
      have := hv
      rw [Nat.zero_add, List.nil_append] at this
      exact Lib.hid this
theorem rarm_end {w w1 : World} {B G : Nat} {A : RLies} {R : List Nat} {d : Dk} {af : Nat} {K : List Bool} {v : Value} (h : IsRf w B G A R d) (hk : w1.ownsRow w.heap.size 4 1 v K.length (kcells K)) (hb : Below w.heap.size w w1) (ha : af < 9223372036854775808) (hK : K.length ≤ 1000) :
    IsRf ((w1.setCell ⟨G, 3, none⟩ (.int .i64 (af : Int))).setCell ⟨G, 5, none⟩ v) B G { A with vK := v } R (d.armed af K) ∧ Step w (A.foot G) ((w1.setCell ⟨G, 3, none⟩ (.int .i64 (af : Int))).setCell ⟨G, 5, none⟩ v) (A.foot G) := by
  have h1 := h.read hb
  have hst : Step w1 (A.foot G) ((w1.setCell ⟨G, 3, none⟩ (.int .i64 (af : Int))).setCell ⟨G, 5, none⟩ v) (A.foot G) := ((Step.refl _ _).setCell _ _ _ (RLies.mem_G G A)).setCell _ _ _ (RLies.mem_G G A)
  have hlt := World.ownsRow.lt hk
  obtain ⟨a, cap, rfl, hc, hka, hbl⟩ := own_kat hk rfl
  refine ⟨h1.head (A' := { A with vK := _ }) ?_ hst (fun k hk => by rw [Below.heap_setCell _ _ _ _ hk, Below.heap_setCell _ _ _ _ hk]) rfl rfl rfl rfl rfl (h1.waits.step (hst.beside R)) (fun _ => ?_) (h.fine.armed ha hK) rfl (fun _ _ => rfl), (Step.of_below hb _).trans hst⟩
  · rw [heap_setCell_same _ _ _ _ _ _ (heap_setCell_same _ _ _ _ _ _ h1.hdr)]
    simp [rcells, Dk.armed, leftN]
  · have hk1 : KeepAt w1 (A.foot G ++ R) (.slice a K.length cap) K := ⟨a, cap, rfl, hc, hka, fun b o h0 e => by
      have h2 := hlt b (hbl b o h0 e)
      refine ⟨fun hm => ?_, h2.2⟩
      rcases List.mem_append.1 hm with hm | hm
      · have := (h.over b hm).2.2; omega
      · have := h.under b hm; omega⟩
    exact hk1.step (hst.beside R)
end Go.Proofs.Ytnfaeejeipbciaa
end
