/-
  Both disks in one memory, side by side.
  The program's cache over its disk, the document's over its own: side by side in one memory.
  What is written over an answer that has room behind it, and beyond it.
  An act of both caches: Get, whatever the two tell alike.
  An act of both caches: Drop, whatever the two tell alike.
  A copy that is lent, with spare room that is marked.
  An act of both caches: Put, whatever the two tell alike.
  An act of both disks beneath the caches: the power goes, or comes.
  Both caches over both disks, alike; what is beside them may turn.
-/
import Derived.Test.YtnfaeejeipbciaaB20
import Derived.Test.YtnfaeejeipbciaaB19
import Derived.Test.YtnfaeejeipbciaaB9
import Derived.Test.YtnfaeejeipbciaaB6
import Derived.Deep.RegionHeld3

section
set_option linter.unusedVariables false
set_option linter.unusedSimpArgs false
namespace Go.Proofs.Ytnfaeejeipbciaa
open Go.RowKit BigFrame

structure Both (w0 w : World) (G : Nat) (A : Lies) (d : Dk) (H : Nat) (C : RLies) (e : Dk) : Prop where
  live : Live w0 w G A d
  ref : IsRf w w0.heap.size H C (A.foot G) e
theorem Both.disk {w0 w w' : World} {G H : Nat} {A A' : Lies} {C : RLies} {d d' e : Dk} (h : Both w0 w G A d H C e) (hd : IsDk w' w0.heap.size G A' d') (hs : Step w (A.foot G) w' (A'.foot G)) : Both w0 w' G A' d' H C e :=
  ⟨h.live.call hd hs, h.ref.other hs (fun k hk => (IsDkS.over hd k hk).2)⟩
theorem Both.doc {w0 w w' : World} {G H : Nat} {A : Lies} {C C' : RLies} {d e e' : Dk} (h : Both w0 w G A d H C e) (hr : IsRf w' w0.heap.size H C' (A.foot G) e') (hs : Step w (C.foot H) w' (C'.foot H)) : Both w0 w' G A d H C' e' :=
  ⟨h.live.many hs (fun k hk => ⟨(h.ref.over k hk).2, (h.ref.over k hk).1⟩), hr⟩
theorem Both.read {w0 w w' : World} {G H : Nat} {A : Lies} {C : RLies} {d e : Dk} (h : Both w0 w G A d H C e) (hb : Below w.heap.size w w') : Both w0 w' G A d H C e := ⟨h.live.read hb, h.ref.read hb⟩
theorem Both.drewN {w0 w : World} {G H m : Nat} {A : Lies} {C : RLies} {d e : Dk} (h : Both w0 w G A d H C e) : Both w0 (w.drewN m) G A d H C e := h.read (below_drewN w m)
theorem Both.base {w0 w : World} {G H : Nat} {A : Lies} {C : RLies} {d e : Dk} (h : Both w0 w G A d H C e) : w0.heap.size ≤ w.heap.size := h.live.base
/-- memory of the law's own that is made behind both -/
theorem Both.start {w0 w w' : World} {G H : Nat} {A : Lies} {C : RLies} {d e : Dk} (h : Live w0 w G A d) (hr : IsRf w' w.heap.size H C (A.foot G) e) (hb : Below w.heap.size w w') : Both w0 w' G A d H C e :=
  ⟨h.read hb, ⟨hr.fine, hr.hdr, hr.slots, hr.room, hr.rows, hr.waits, hr.keep, own_lower hr.log h.base, hr.apart, fun k hk => ⟨Nat.le_trans h.base (hr.over k hk).1, (hr.over k hk).2⟩, hr.under⟩⟩
/-- blocks of the law's own turn: none that was there at w1, where both stood -/
theorem Both.beside {w0 w w1 w' : World} {G H : Nat} {A : Lies} {C : RLies} {d e : Dk} (h : Both w0 w1 G A d H C e) (_hb : Below w1.heap.size w1 w) (hs : Below w1.heap.size w1 w') : Both w0 w' G A d H C e := h.read hs
/-- the rows that are firm -/
theorem IsRf.parts {w : World} {B G : Nat} {A : RLies} {R : List Nat} {d : Dk} (h : IsRf w B G A R d) : Parts w (some ⟨A.g, 0, none⟩) d.n d.firm :=
  .inr ⟨A.g, 0, rfl, fun i hi => ⟨A.V i, by rw [Nat.zero_add]; exact (h.slots i hi).1, by
    obtain ⟨g, cap, e, _, hl, hx, _⟩ := h.rows i hi
    exact ⟨_, 128, cap, e, hl, hx⟩, by
    obtain ⟨g, cap, e, _, hl, _⟩ := h.rows i hi
    omega⟩⟩
end Go.Proofs.Ytnfaeejeipbciaa
end

section
set_option linter.unusedVariables false
set_option linter.unusedSimpArgs false
namespace Go.Proofs.Ytnfaeejeipbciaa
open Go.RowKit BigFrame Go.Lib
set_option maxRecDepth 100000

section
variable {w0 w w' : World} {A A' : Lies} {d d' e e' : Dk} {c c' : Ck} {C G m u u' : Nat} {H H' : List Sx} {Gr : Nat} {Ar Ar' : RLies} {rc rc' : RC}
/-- what it lies in stands -/
theorem Cv.carry (h : Cv w0 w A d c C G m u H) (hB : Below w0.heap.size w0 w') (hs : w.heap.size ≤ w'.heap.size) (hb : ∀ k ∈ foots A c, w'.heap[k]? = w.heap[k]?) : Cv w0 w' A d c C G m u H :=
  ⟨⟨hB, ⟨IsDkS.carry h.l.ck.dk hs fun k hk => hb k (List.mem_append_left _ hk), ⟨h.l.ck.n.mem.carry fun k hk => hb k (List.mem_append_right _ hk), h.l.ck.n.ok, h.l.ck.n.one⟩, h.l.ck.ap⟩⟩, h.C, h.G, h.most, h.uses, h.H⟩
/-- all four -/
structure Quad (w0 w : World) (A : Lies) (d : Dk) (c : Ck) (C G m u : Nat) (H : List Sx) (Gr : Nat) (Ar : RLies) (e : Dk) (rc : RC) : Prop where
  cv : Cv w0 w A d c C G m u H
  rf : IsRf w w0.heap.size Gr Ar (foots A c ++ rc.foot) e
  g : rc.G = Gr
  ca : RcAt w w0.heap.size (Ar.foot Gr ++ foots A c) rc
theorem step_pre {F F' : List Nat} (h : Step w F w' F') (R : List Nat) : Step w (R ++ F) w' (R ++ F') :=
  ⟨h.os, h.tape, h.output, h.size, fun k hk hf => h.block k hk (fun e => hf (List.mem_append_right _ e)), fun k hk => by
    rcases List.mem_append.1 hk with hk | hk
    · exact .inl (List.mem_append_left _ hk)
    · exact (h.foot k hk).imp (List.mem_append_right _) id⟩
theorem Quad.base (q : Quad w0 w A d c C G m u H Gr Ar e rc) : w0.heap.size ≤ w.heap.size := q.cv.l.base
/-- the program's turns -/
theorem Quad.prog (q : Quad w0 w A d c C G m u H Gr Ar e rc) (h : Cv w0 w' A' d' c' C G m u' H') (hs : Step w (foots A c) w' (foots A' c')) : Quad w0 w' A' d' c' C G m u' H' Gr Ar e rc :=
  ⟨h, q.rf.other (hs.beside rc.foot) (fun k hk => by
    rcases List.mem_append.1 hk with hk | hk
    · exact (h.l.ck.lt k hk).2
    · exact Nat.lt_of_lt_of_le (q.ca.lt k hk) hs.size), q.g, q.ca.other (step_pre hs _)⟩
/-- the document's cache turns -/
theorem Quad.doc (q : Quad w0 w A d c C G m u H Gr Ar e rc) (h : RcAt w' w0.heap.size (Ar.foot Gr ++ foots A c) rc') (hs : Step w rc.foot w' rc'.foot) (hG : rc'.G = rc.G) : Quad w0 w' A d c C G m u H Gr Ar e rc' := by
  have hoff : ∀ k ∈ rc.foot, w0.heap.size ≤ k ∧ k ∉ foots A c := fun k hk => ⟨(q.ca.over k hk).1, fun e => (q.ca.over k hk).2 (List.mem_append_right _ e)⟩
  refine ⟨q.cv.carry (q.cv.below.trans (hs.below q.base fun k hk => (hoff k hk).1)) hs.size fun k hk => hs.block k (q.cv.l.ck.lt k hk).2 fun e => (hoff k e).2 hk, q.rf.other (step_pre hs _) fun k hk => ?_, hG.trans q.g, h⟩
  rcases List.mem_append.1 hk with hk | hk
  · exact Nat.lt_of_lt_of_le (q.cv.l.ck.lt k hk).2 hs.size
  · exact h.lt k hk
/-- the document's disk turns -/
theorem Quad.dsk (q : Quad w0 w A d c C G m u H Gr Ar e rc) (h : IsRf w' w0.heap.size Gr Ar' (foots A c ++ rc.foot) e') (hs : Step w (Ar.foot Gr) w' (Ar'.foot Gr)) : Quad w0 w' A d c C G m u H Gr Ar' e' rc := by
  have hoff : ∀ k ∈ Ar.foot Gr, w0.heap.size ≤ k ∧ k ∉ foots A c := fun k hk => ⟨(q.rf.over k hk).1, fun e => (q.rf.over k hk).2.1 (List.mem_append_left _ e)⟩
  exact ⟨q.cv.carry (q.cv.below.trans (hs.below q.base fun k hk => (hoff k hk).1)) hs.size fun k hk => hs.block k (q.cv.l.ck.lt k hk).2 fun e => (hoff k e).2 hk, h, q.g, q.ca.other (hs.beside _)⟩
/-- memory is made beside -/
theorem Quad.read (q : Quad w0 w A d c C G m u H Gr Ar e rc) (hb : Below w.heap.size w w') : Quad w0 w' A d c C G m u H Gr Ar e rc :=
  ⟨q.cv.read hb, q.rf.read hb, q.g, q.ca.read hb⟩
/-- what may turn: all below the next block, all of it new since w0 -/
theorem Quad.under (q : Quad w0 w A d c C G m u H Gr Ar e rc) : ∀ k ∈ Ar.foot Gr ++ foots A c, k < w.heap.size := fun k hk => by
  rcases List.mem_append.1 hk with hk | hk
  · exact (q.rf.over k hk).2.2
  · exact (q.cv.l.ck.lt k hk).2
end
end Go.Proofs.Ytnfaeejeipbciaa
end

section
set_option linter.unusedVariables false
set_option linter.unusedSimpArgs false
namespace Go.Proofs.Ytnfaeejeipbciaa
open Go.RowKit BigFrame

def OverRelO (base g n cap : Nat) (w : World) (i : Value) (wr : World) : Prop :=
  ∃ (k : Nat) (L : List Nat), k ≤ n ∧ i = .int .i64 k ∧ OwnB wr base (.slice (some ⟨g, 0, none⟩) n cap) L ∧ L.length = n ∧ w.grownBy wr (some g)
set_option maxHeartbeats 400000 in
theorem over_some (base g n cap : Nat) (L : List Nat) (w : World) (hn : L.length = n) (hl : n ≤ 100000) (hr : OwnB w base (.slice (some ⟨g, 0, none⟩) n cap) L) :
    Calls Try.prog 31 #[.slice (some ⟨g, 0, none⟩) n cap] w (OverPost (some g) w) := by
  have hn' := Lib.hid hn
  have hr' := Lib.hid hr
  have hcap : n ≤ cap := by
    rcases hr.2 with ⟨e, _⟩ | ⟨_, _, _, e, _, _, h, _⟩
    · cases e
    · cases e; omega
  clear hn hr
  go_enter Try.func31, Try.ntmps31
  go_wp2_with fail
  go_loopw [2] (fun i wr => OverRelO base g n cap w i wr) (fun i _ => n - (intOf i).toNat)
  case atStart => exact ⟨0, L, by omega, rfl, hr'.out, hn'.out, World.grownBy.refl _ _⟩
  case round =>
    obtain ⟨k, M, hk, rfl, hR, hM, hB⟩ := hrel
    by_cases hlt : k < n
    · have c1 := hR.cell (k := k) (by omega)
      have c2 := hR.frozen k
      have hend := Lib.hid (show OverRelO base g n cap w (.int .i64 ((k : Int) + 1)) (wr.setCell ⟨g, k, none⟩ (.int .u8 238)) from ⟨k + 1, M.set k 238, by omega, by go_num, hR.set k 238, by rw [List.length_set, hM], grownBy_trans hB (grownBy_setCell _ _ _ _)⟩)
      clear hR hB hM
      go_wp2_with fail
      exact ⟨hend.out, by simp [intOf]; omega⟩
    · have e1 : (bv [238]).toArray = #[Value.int .u8 238] := rfl
      have hO : OwnB (wr.alloc (.cells (bv [238]).toArray 5)) base (.slice (some ⟨g, 0, none⟩) n cap) M := World.ownsRow.alloc hR _
      have hN := (row_alloc wr [238]).bat
      have hz : base ≤ (wr.alloc (.cells (bv [238]).toArray 5)).heap.size := by have := hR.base; simp; omega
      have hBB : w.grownBy (wr.alloc (.cells (bv [238]).toArray 5)) (some g) := grownBy_trans hB (World.grownBy_alloc _ _ _)
      rw [e1] at hO hN hz hBB
      have hO' := Lib.hid hO
      have hN' := Lib.hid hN
      have hz' := Lib.hid hz
      have hB' := Lib.hid hBB
      have hM' := Lib.hid hM
      clear hR hB hO hN e1 hBB hM hz
      go_wp2_with (at_builtin; refine wpList_append_bytes rfl (.tmp 12) (.tmp 13) rfl base (.slice (some ⟨g, 0, none⟩) n cap) M rfl hO'.out _ 1 1 [238] rfl rfl hN'.out (by simp) (by rw [hM'.out]; omega) hz'.out ?_)
      intro v' w' _ hg2 _
      have hend := Lib.hid (grownBy_trans hB'.out hg2)
      clear hg2
      go_wp2_with fail
      go_end0
      exact ⟨rfl, hend.out⟩
/-- any slice of one's own -/
theorem over_own (base : Nat) (v : Value) (L : List Nat) (w : World) (hl : L.length ≤ 100000) (hr : OwnB w base v L) :
    Calls Try.prog 31 #[v] w (OverPost v.ownBlock w) := by
  rcases hr.2 with ⟨rfl, _⟩ | ⟨g, cap, cur, rfl, _⟩
  · exact over_nil w
  · exact over_some base g L.length cap L w rfl hl hr
end Go.Proofs.Ytnfaeejeipbciaa
end

section
set_option linter.unusedVariables false
set_option linter.unusedSimpArgs false
namespace Go.Proofs.Ytnfaeejeipbciaa
open Go.RowKit BigFrame Go.Lib
set_option maxRecDepth 100000

set_option maxHeartbeats 4000000 in
theorem done_get {w : World} {C W G : Nat} {P Q : World → World → Value → Prop} {R : World → Prop} (x y z : Int) (on : Bool) (l : List Nat) (hl : l.length ≤ 100000)
    (h1 : ∀ wb, Below w.heap.size w wb → Calls Try.prog 26 #[.pointer (some ⟨C, 0, none⟩), .int .i64 x] wb fun e w1 => ∃ v, e = .returned (.tuple #[v, .int .i64 z]) ∧ OwnB w1 wb.heap.size v l ∧ (w.heap.size < wb.heap.size → w1.heap[w.heap.size]? = wb.heap[w.heap.size]?) ∧ P wb w1 v)
    (h2 : ∀ wb w1 v, P wb w1 v → OwnB w1 wb.heap.size v l → Calls Try.prog 30 #[.pointer (some ⟨W, 0, none⟩), .int .i64 x] w1 fun e w2 => ∃ v2, e = .returned (.tuple #[v2, .int .i64 z]) ∧ OwnB w2 w1.heap.size v2 l ∧ OwnB w2 wb.heap.size v l ∧ Q wb w2 v)
    (h3 : ∀ wb w2 w3 w4 v, Q wb w2 v → OwnB w3 wb.heap.size v l → Below w2.heap.size w2 w3 → w3.grownBy w4 v.ownBlock → R w4) :
    Calls Try.prog 11 #[.pointer (some ⟨C, 0, none⟩), .pointer (some ⟨W, 0, none⟩), .pointer (some ⟨G, 0, none⟩), .agg #[.int .i64 0, .int .i64 x, .int .i64 y, .bool on]] w fun e w' => e = .returned (.bool true) ∧ R w' := by
  obtain ⟨wb, hwb⟩ : ∃ wb, (w.alloc (.cells #[.int .i64 0, .int .i64 x, .int .i64 y, .bool on] 36)) = wb := ⟨_, rfl⟩
  have k1 : wb.cell? ⟨w.heap.size, 1, none⟩ = some (.int .i64 x) := by rw [← hwb]; exact cell_of_row _ _ 1 _ _ _ (heap_alloc_new _ _)
  have k0 : wb.cell? ⟨w.heap.size, 0, none⟩ = some (.int .i64 0) := by rw [← hwb]; exact cell_of_row _ _ 0 _ _ _ (heap_alloc_new _ _)
  have hs := Lib.hid (show w.heap.size < wb.heap.size by rw [← hwb]; simp)
  have h1' := Lib.hid (h1 wb (by rw [← hwb]; exact (Below.refl w.heap.size w).alloc (Nat.le_refl _) _))
  have h2' := Lib.hid h2
  have h3' := Lib.hid h3
  subst hwb
  clear h1 h2 h3
  go_enter Try.func11, Try.ntmps11
  go_wp2_with (first
    | (go_at_call 26; refine h1'.out.mono ?_; rintro e w1 ⟨v1, rfl, ho1, hk, hP⟩; obtain ⟨a1, c1, rfl, hx1, _, _⟩ := ho1.slice; have O1 := Lib.hid ho1; have P1 := Lib.hid hP; have k2 : w1.cell? ⟨w.heap.size, 1, none⟩ = some (.int .i64 x) := (by rw [World.cell?_of_block (a := ⟨w.heap.size, 1, none⟩) (hk hs.out)]; exact k1); clear ho1 hx1 hP hk k1)
    | (go_at_call 30; refine (h2'.out _ _ _ P1.out O1.out).mono ?_; rintro e w2 ⟨v2, rfl, ho2, ho1, hQ⟩; obtain ⟨a2, c2, rfl, hx2, _, _⟩ := ho2.slice; obtain ⟨a1', c1', e1, hx1, _, _⟩ := ho1.slice; simp only [Value.slice.injEq] at e1; obtain ⟨rfl, _, rfl⟩ := e1; have X2 := Lib.hid hx2; have X1 := Lib.hid hx1; have O2 := Lib.hid ho1; have Q2 := Lib.hid hQ; clear ho2 hx2 ho1 hx1 hQ k2)
    | (go_at_call 27; refine (same_same _ _ _ _ _ l l _ rfl rfl hl X1.out X2.out).mono ?_; rintro e w3 ⟨rfl, hb3⟩; have O3 := Lib.hid (OwnB.block (w' := w3) O2.out (fun k hk => hb3.block k (OwnB.lt O2.out k hk).2)); have B3 := Lib.hid hb3; clear hb3)
    | (go_at_call 31; refine (over_own _ _ l _ hl O3.out).mono ?_; rintro e w4 ⟨rfl, hg4⟩; have R4 := Lib.hid (h3'.out _ _ _ _ _ Q2.out O3.out B3.out hg4); clear hg4))
  go_ret
  exact ⟨by simp, R4.out⟩
end Go.Proofs.Ytnfaeejeipbciaa
end

section
set_option linter.unusedVariables false
set_option linter.unusedSimpArgs false
namespace Go.Proofs.Ytnfaeejeipbciaa
open Go.RowKit BigFrame Go.Lib
set_option maxRecDepth 100000

set_option maxHeartbeats 4000000 in
theorem done_drop {w : World} {C W G : Nat} {P : World → Prop} {R : World → Prop} (x y z : Int) (on : Bool)
    (h1 : ∀ wb, Below w.heap.size w wb → w.heap.size < wb.heap.size → Calls Try.prog 25 #[.pointer (some ⟨C, 0, none⟩), .int .i64 (y.tmod 9)] wb fun e w1 => e = .returned (.int .i64 z) ∧ w1.heap[w.heap.size]? = wb.heap[w.heap.size]? ∧ P w1)
    (h2 : ∀ w1, P w1 → Calls Try.prog 36 #[.pointer (some ⟨W, 0, none⟩), .int .i64 (y.tmod 9)] w1 fun e w2 => e = .returned (.int .i64 z) ∧ w2.heap[w.heap.size]? = w1.heap[w.heap.size]? ∧ R w2) :
    Calls Try.prog 11 #[.pointer (some ⟨C, 0, none⟩), .pointer (some ⟨W, 0, none⟩), .pointer (some ⟨G, 0, none⟩), .agg #[.int .i64 4, .int .i64 x, .int .i64 y, .bool on]] w fun e w' => e = .returned (.bool true) ∧ R w' := by
  obtain ⟨wb, hwb⟩ : ∃ wb, (w.alloc (.cells #[.int .i64 4, .int .i64 x, .int .i64 y, .bool on] 36)) = wb := ⟨_, rfl⟩
  have k0 : wb.cell? ⟨w.heap.size, 0, none⟩ = some (.int .i64 4) := by rw [← hwb]; exact cell_of_row _ _ 0 _ _ _ (heap_alloc_new _ _)
  have k2 : wb.cell? ⟨w.heap.size, 2, none⟩ = some (.int .i64 y) := by rw [← hwb]; exact cell_of_row _ _ 2 _ _ _ (heap_alloc_new _ _)
  have hs : w.heap.size < wb.heap.size := by rw [← hwb]; simp
  have h1' := Lib.hid (h1 wb.drew (by rw [← hwb]; exact ((Below.refl w.heap.size w).alloc (Nat.le_refl _) _).drew) hs)
  have h2' := Lib.hid h2
  clear h1 h2
  go_enter Try.func11, Try.ntmps11
  go_upto_region 1 with fail
  go_upto_region 18 with fail
  have d2 : wb.drew.cell? ⟨w.heap.size, 2, none⟩ = some (.int .i64 y) := k2
  clear hwb
  go_region_held3 (fun w' => w'.cell? ⟨w.heap.size, 2, none⟩ = some (.int .i64 y)) (first | exact d2 | exact a2 | exact b2) (first
    | (go_at_call 25; refine h1'.out.mono ?_; rintro e w1 ⟨rfl, hk, hP⟩; have P1 := Lib.hid hP; have a2 : w1.cell? ⟨w.heap.size, 2, none⟩ = some (.int .i64 y) := (by rw [World.cell?_of_block (a := ⟨w.heap.size, 2, none⟩) hk]; exact d2); clear hP hk)
    | (go_at_call 36; refine (h2'.out _ P1.out).mono ?_; rintro e w2 ⟨rfl, hk, hR⟩; have R2 := Lib.hid hR; have b2 : w2.cell? ⟨w.heap.size, 2, none⟩ = some (.int .i64 y) := (by rw [World.cell?_of_block (a := ⟨w.heap.size, 2, none⟩) hk]; exact a2); clear hR hk))
  go_wp2_with fail
  go_ret
  exact ⟨by simp, R2.out⟩
end Go.Proofs.Ytnfaeejeipbciaa
end

section
set_option linter.unusedVariables false
set_option linter.unusedSimpArgs false
namespace Go.Proofs.Ytnfaeejeipbciaa
open Go.RowKit BigFrame

def spare (l : List Nat) (k : Nat) : List Nat := l ++ (List.replicate k 119 ++ zs (3 - k))
theorem spare_length {l : List Nat} {k : Nat} (h : k ≤ 3) : (spare l k).length = l.length + 3 := by simp [spare, zs]; omega
theorem spare_set {l : List Nat} {k : Nat} (h : k < 3) : (spare l k).set (l.length + k) 119 = spare l (k + 1) := by
  unfold spare
  rw [List.set_append, if_neg (by omega), Nat.add_sub_cancel_left]
  congr 1
  match k, h with
  | 0, _ => rfl
  | 1, _ => rfl
  | 2, _ => rfl
def marked (l : List Nat) : List Nat := l ++ [119, 119, 119]
theorem spare_three (l : List Nat) : spare l 3 = marked l := rfl
theorem spare_none (l : List Nat) : splice (zs (l.length + 3)) 0 l = spare l 0 := by
  unfold splice spare zs
  simp

def LendRel (g : Nat) (l : List Nat) (w : World) (i : Value) (wr : World) : Prop :=
  ∃ k : Nat, k ≤ 3 ∧ i = .int .i64 k ∧ Row wr g (spare l k) ∧ Below w.heap.size w wr
def LendPost (n : Nat) (l : List Nat) (w : World) (e : Ending) (w' : World) : Prop :=
  ∃ g, e = .returned (.slice (some ⟨g, 0, none⟩) n (n + 3)) ∧ w.heap.size ≤ g ∧ Row w' g (marked l) ∧ Below w.heap.size w w'

set_option maxHeartbeats 400000 in
theorem lend_any (a : Option Addr) (cap n : Nat) (l : List Nat) (w : World) (hn : l.length = n) (hl : n ≤ 100000) (hx : BAt w a l) (hnil : a = none → cap = 0) :
    Calls Try.prog 32 #[.slice a n cap] w (LendPost n l w) := by
  have hx' := Lib.hid hx
  have hn' := Lib.hid hn
  have hnil' := Lib.hid hnil
  clear hx hn hnil
  go_enter Try.func32, Try.ntmps32
  go_wp2_with (at_make; refine wpList_make_cap_bytes rfl _ _ rfl 0 (n + 3) _ rfl rfl (by omega) (by omega) (by omega) ?_)
  intro g w1 hr hg hb
  have hb' := Lib.hid hb
  clear hb
  go_wp2_with (at_builtin; refine wpList_append_room rfl (.tmp 10) (.tmp 11) rfl g 0 (n + 3) (zs (n + 3)) rfl hr.out (zs_length _) (by omega) a n cap l rfl hn'.out (hx'.out.on hb'.out (Nat.le_refl _)) hnil'.out (by omega) ?_)
  intro w2 hr2 hb2
  have hr2' := Lib.hid (show Row w2 g (spare l 0) by rw [← spare_none, hn'.out]; exact hr2.out)
  have hb2' := Lib.hid (hb'.out.trans (hb2 _ hg))
  clear hr2 hb2 hr
  go_wp2_with fail
  rw [show n + 3 - n = 3 by omega]
  go_loopw [5] (fun i wr => LendRel g l w i wr) (fun i _ => 3 - (intOf i).toNat)
  case atStart => exact ⟨0, by omega, rfl, hr2'.out, hb2'.out⟩
  case round =>
    obtain ⟨k, hk, rfl, hR, hB⟩ := hrel
    by_cases hlt : k < 3
    · have c1 := hR.cell (k := n + k) (by rw [spare_length hk, hn'.out]; omega)
      have c2 := hR.frozen (n + k)
      have hend := Lib.hid (show LendRel g l w (.int .i64 ((k : Int) + 1)) (wr.setCell ⟨g, n + k, none⟩ (.int .u8 119)) from ⟨k + 1, by omega, by go_num, by
        have h1 := hR.set (n + k) 119
        rw [← hn'.out, spare_set hlt] at h1
        rw [← hn'.out]
        exact h1, hB.setCell (p := ⟨g, n + k, none⟩) hg _⟩)
      clear hR hB
      go_wp2_with fail
      exact ⟨hend.out, by simp [intOf]; omega⟩
    · obtain rfl : k = 3 := by omega
      have hR' := Lib.hid hR
      have hB' := Lib.hid hB
      clear hR hB
      go_wp2_with fail
      go_ret
      exact ⟨g, rfl, hg, hR'.out, hB'.out⟩

theorem marked_length (l : List Nat) : (marked l).length = l.length + 3 := by simp [marked]
theorem marked_at (l : List Nat) {k : Nat} (h : k < 3) : bz (marked l) (l.length + k) = 119 := by
  unfold marked
  rw [bz_append_right (by omega), Nat.add_sub_cancel_left]
  match k, h with
  | 0, _ => rfl
  | 1, _ => rfl
  | 2, _ => rfl
theorem Row.bat_front {w : World} {g : Nat} {l m : List Nat} (h : Row w g (l ++ m)) : BAt w (some ⟨g, 0, none⟩) l := by
  have := h.bat.sub 0 l.length
  rwa [List.drop_zero, List.take_append_of_le_length (Nat.le_refl _), List.take_of_length_le (Nat.le_refl _)] at this

end Go.Proofs.Ytnfaeejeipbciaa
end

section
set_option linter.unusedVariables false
set_option linter.unusedSimpArgs false
namespace Go.Proofs.Ytnfaeejeipbciaa
open Go.RowKit BigFrame Go.Lib
set_option maxRecDepth 100000

/-- what was lent is a slice of one's own, with room behind it -/
theorem lent_own {w : World} {g base n : Nat} {l : List Nat} (h : Row w g (marked l)) (hn : l.length = n) (hl : n ≤ 100000) (hb : base ≤ g) : OwnB w base (.slice (some ⟨g, 0, none⟩) n (n + 3)) l := by
  subst hn
  refine ⟨by simp [bv], .inr ⟨g, l.length + 3, (bv (marked l)).toArray, rfl, hb, h, by omega, by unfold maxLen; omega, by simp [bv, marked], ?_⟩⟩
  simp [bv, marked]
set_option maxHeartbeats 4000000 in
theorem done_put {w : World} {C W G : Nat} {P : World → Nat → Prop} {P2 : World → Prop} {R : World → Prop} (x y z : Int) (on : Bool) (L : List Nat) (hL : fillN y 128 = L)
    (h1 : ∀ w3 g, Below w.heap.size w w3 → w.heap.size < g → g < w3.heap.size → BAt w3 (some ⟨g, 0, none⟩) L → Calls Try.prog 22 #[.pointer (some ⟨C, 0, none⟩), .int .i64 x, .slice (some ⟨g, 0, none⟩) 128 131] w3 fun e w4 => e = .returned (.int .i64 z) ∧ w4.heap[w.heap.size]? = w3.heap[w.heap.size]? ∧ w4.heap[g]? = w3.heap[g]? ∧ w3.heap.size ≤ w4.heap.size ∧ P w4 g)
    (h2 : ∀ w4 w5 g, P w4 g → w4.grownBy w5 (some g) → P2 w5)
    (h3 : ∀ w5 w8 g cap, P2 w5 → Below w5.heap.size w5 w8 → w5.heap.size ≤ g → g < w8.heap.size → BAt w8 (some ⟨g, 0, none⟩) L → Calls Try.prog 33 #[.pointer (some ⟨W, 0, none⟩), .int .i64 x, .slice (some ⟨g, 0, none⟩) 128 cap] w8 fun e w9 => e = .returned (.int .i64 z) ∧ w9.heap[w.heap.size]? = w8.heap[w.heap.size]? ∧ R w9) :
    Calls Try.prog 11 #[.pointer (some ⟨C, 0, none⟩), .pointer (some ⟨W, 0, none⟩), .pointer (some ⟨G, 0, none⟩), .agg #[.int .i64 1, .int .i64 x, .int .i64 y, .bool on]] w fun e w' => e = .returned (.bool true) ∧ R w' := by
  obtain ⟨wb, hwb⟩ : ∃ wb, (w.alloc (.cells #[.int .i64 1, .int .i64 x, .int .i64 y, .bool on] 36)) = wb := ⟨_, rfl⟩
  have k0 : wb.cell? ⟨w.heap.size, 0, none⟩ = some (.int .i64 1) := by rw [← hwb]; exact cell_of_row _ _ 0 _ _ _ (heap_alloc_new _ _)
  have k1 : wb.cell? ⟨w.heap.size, 1, none⟩ = some (.int .i64 x) := by rw [← hwb]; exact cell_of_row _ _ 1 _ _ _ (heap_alloc_new _ _)
  have k2 : wb.cell? ⟨w.heap.size, 2, none⟩ = some (.int .i64 y) := by rw [← hwb]; exact cell_of_row _ _ 2 _ _ _ (heap_alloc_new _ _)
  have hs := Lib.hid (show w.heap.size < wb.heap.size by rw [← hwb]; simp)
  have hB := Lib.hid (show Below w.heap.size w wb by rw [← hwb]; exact (Below.refl w.heap.size w).alloc (Nat.le_refl _) _)
  have h1' := Lib.hid h1
  have h2' := Lib.hid h2
  have h3' := Lib.hid h3
  have hL' := Lib.hid hL
  have hLm := Lib.hid (show L.length = 128 by rw [← hL]; exact fillN_length _ _)
  subst hwb
  clear h1 h2 h3 hL
  go_enter Try.func11, Try.ntmps11
  go_upto_region 12 with (first
    | (go_at_call 23; refine (fill_c y _ 128 _ rfl (by omega)).mono ?_; rw [hL'.out]; rintro e w2 ⟨v2, rfl, ho2, hb2⟩; obtain ⟨g2, cap2, rfl, hc2, hg2, hlt2⟩ := ho2.at hLm.out (by omega); have X2 := Lib.hid ho2.bat; have B2 := Lib.hid hb2; clear ho2 hb2)
    | (go_at_call 32; refine (lend_any _ cap2 128 L _ hLm.out (by omega) X2.out (fun h => by cases h)).mono ?_; rintro e w3 ⟨g3, rfl, hg3, hr3, hb3⟩; have R3 := Lib.hid hr3; have B3 := Lib.hid (B2.out.trans (hb3.mono B2.out.size)); have G3 := Lib.hid (show w.heap.size < g3 from Nat.lt_of_lt_of_le hs.out (Nat.le_trans B2.out.size hg3)); have j1 : w3.cell? ⟨w.heap.size, 1, none⟩ = some (.int .i64 x) := (by rw [B3.out.cell (p := ⟨w.heap.size, 1, none⟩) hs.out]; exact k1); have j2 : w3.cell? ⟨w.heap.size, 2, none⟩ = some (.int .i64 y) := (by rw [B3.out.cell (p := ⟨w.heap.size, 2, none⟩) hs.out]; exact k2); clear hr3 hb3 X2)
    | (go_at_call 22; refine (h1'.out _ g3 (hB.out.trans (B3.out.mono hB.out.size)) G3.out R3.out.lt R3.out.bat_front).mono ?_; rintro e w4 ⟨rfl, hk, hkg, hz4, hP⟩; have P4 := Lib.hid hP; have R4 := Lib.hid (show Row w4 g3 (marked L) by unfold Row; rw [hkg]; exact R3.out); have i1 : w4.cell? ⟨w.heap.size, 1, none⟩ = some (.int .i64 x) := (by rw [World.cell?_of_block (a := ⟨w.heap.size, 1, none⟩) hk]; exact j1); have i2 : w4.cell? ⟨w.heap.size, 2, none⟩ = some (.int .i64 y) := (by rw [World.cell?_of_block (a := ⟨w.heap.size, 2, none⟩) hk]; exact j2); have Z4 := Lib.hid (show w.heap.size < w4.heap.size from Nat.lt_of_lt_of_le (Nat.lt_of_lt_of_le hs.out B3.out.size) hz4); clear hP hk hkg hz4 j1 j2)
    | (go_at_call 31; go_loud (refine (over_own 0 _ L _ (by rw [hLm.out]; omega) (lent_own R4.out hLm.out (by omega) (Nat.zero_le _))).mono ?_; rintro e w5 ⟨rfl, hg5'⟩; have hg5 : w4.grownBy w5 (some g3) := hg5'; have P5 := Lib.hid (h2'.out _ _ _ P4.out hg5); have hk5 := hg5.block w.heap.size Z4.out (by intro e; have := Option.some.inj e; have := G3.out; omega); have d1 : w5.cell? ⟨w.heap.size, 1, none⟩ = some (.int .i64 x) := (by rw [World.cell?_of_block (a := ⟨w.heap.size, 1, none⟩) hk5]; exact i1); have d2 : w5.cell? ⟨w.heap.size, 2, none⟩ = some (.int .i64 y) := (by rw [World.cell?_of_block (a := ⟨w.heap.size, 2, none⟩) hk5]; exact i2); have Z5 := Lib.hid (Nat.lt_of_lt_of_le Z4.out hg5.size); clear hg5 hg5' hk5 i1 i2)))
  go_region_held3 (fun w' => w'.cell? ⟨w.heap.size, 1, none⟩ = some (.int .i64 x) ∧ w'.cell? ⟨w.heap.size, 2, none⟩ = some (.int .i64 y)) (first | exact ⟨cell_drew1 d1, cell_drew1 d2⟩ | exact ⟨m1, m2⟩ | exact ⟨n1, n2⟩) (first
    | (go_at_call 23; refine (fill_c y _ 128 _ rfl (by omega)).mono ?_; rw [hL'.out]; rintro e w8 ⟨v8, rfl, ho8, hb8⟩; obtain ⟨g8, cap8, rfl, hc8, hg8, hlt8⟩ := ho8.at hLm.out (by omega); have X8 := Lib.hid ho8.bat; have B8 := Lib.hid ((below_drewN w5 1).trans hb8); have m1 : w8.cell? ⟨w.heap.size, 1, none⟩ = some (.int .i64 x) := (by rw [hb8.cell (p := ⟨w.heap.size, 1, none⟩) Z5.out]; exact d1); have m2 : w8.cell? ⟨w.heap.size, 2, none⟩ = some (.int .i64 y) := (by rw [hb8.cell (p := ⟨w.heap.size, 2, none⟩) Z5.out]; exact d2); clear ho8 hb8)
    | (go_at_call 33; refine (h3'.out _ _ g8 cap8 P5.out B8.out hg8 hlt8 X8.out).mono ?_; rintro e w9 ⟨rfl, hk, hR⟩; have R9 := Lib.hid hR; have n1 : w9.cell? ⟨w.heap.size, 1, none⟩ = some (.int .i64 x) := (by rw [World.cell?_of_block (a := ⟨w.heap.size, 1, none⟩) hk]; exact m1); have n2 : w9.cell? ⟨w.heap.size, 2, none⟩ = some (.int .i64 y) := (by rw [World.cell?_of_block (a := ⟨w.heap.size, 2, none⟩) hk]; exact m2); clear hR hk))
  go_wp2_with fail
  go_ret
  exact ⟨by simp, R9.out⟩
end Go.Proofs.Ytnfaeejeipbciaa
end

section
set_option linter.unusedVariables false
set_option linter.unusedSimpArgs false
namespace Go.Proofs.Ytnfaeejeipbciaa
open Go.RowKit BigFrame Go.Lib
set_option maxRecDepth 100000

set_option maxHeartbeats 4000000 in
theorem done_on {w : World} {C W G Gr : Nat} {P : World → Prop} {R : World → Prop} (x y z : Int) (hW : w.cell? ⟨W, 0, none⟩ = some (.pointer (some ⟨Gr, 0, none⟩)))
    (h1 : ∀ wb, Below w.heap.size w wb → Calls Try.prog 37 #[.pointer (some ⟨G, 0, none⟩)] wb fun e w1 => e = .returned (.int .i64 z) ∧ w1.cell? ⟨W, 0, none⟩ = some (.pointer (some ⟨Gr, 0, none⟩)) ∧ P w1)
    (h2 : ∀ w1, P w1 → Calls Try.prog 38 #[.pointer (some ⟨Gr, 0, none⟩)] w1 fun e w2 => e = .returned (.int .i64 z) ∧ w2.cell? ⟨W, 0, none⟩ = some (.pointer (some ⟨Gr, 0, none⟩)) ∧ R w2) :
    Calls Try.prog 11 #[.pointer (some ⟨C, 0, none⟩), .pointer (some ⟨W, 0, none⟩), .pointer (some ⟨G, 0, none⟩), .agg #[.int .i64 5, .int .i64 x, .int .i64 y, .bool true]] w fun e w' => e = .returned (.bool true) ∧ R w' := by
  obtain ⟨wb, hwb⟩ : ∃ wb, (w.alloc (.cells #[.int .i64 5, .int .i64 x, .int .i64 y, .bool true] 36)) = wb := ⟨_, rfl⟩
  have k0 : wb.cell? ⟨w.heap.size, 0, none⟩ = some (.int .i64 5) := by rw [← hwb]; exact cell_of_row _ _ 0 _ _ _ (heap_alloc_new _ _)
  have k3 : wb.cell? ⟨w.heap.size, 3, none⟩ = some (.bool true) := by rw [← hwb]; exact cell_of_row _ _ 3 _ _ _ (heap_alloc_new _ _)
  have hB : Below w.heap.size w wb := by rw [← hwb]; exact (Below.refl w.heap.size w).alloc (Nat.le_refl _) _
  have kW : wb.cell? ⟨W, 0, none⟩ = some (.pointer (some ⟨Gr, 0, none⟩)) := by rw [hB.cell (p := ⟨W, 0, none⟩) (World.block_lt_of_cell? w _ hW)]; exact hW
  have h1' := Lib.hid (h1 wb.drew hB.drew)
  have h2' := Lib.hid h2
  clear h1 h2 hB hW
  go_enter Try.func11, Try.ntmps11
  go_upto_region 1 with fail
  go_upto_region 21 with fail
  have dW : wb.drew.cell? ⟨W, 0, none⟩ = some (.pointer (some ⟨Gr, 0, none⟩)) := kW
  clear hwb
  go_region_held3 (fun w' => w'.cell? ⟨W, 0, none⟩ = some (.pointer (some ⟨Gr, 0, none⟩))) (first | exact dW | exact aW | exact bW) (first
    | (go_at_call 37; refine h1'.out.mono ?_; rintro e w1 ⟨rfl, aW, hP⟩; have P1 := Lib.hid hP; clear hP)
    | (go_at_call 38; refine (h2'.out _ P1.out).mono ?_; rintro e w2 ⟨rfl, bW, hR⟩; have R2 := Lib.hid hR; clear hR))
  go_wp2_with fail
  go_ret
  exact ⟨by simp, R2.out⟩
set_option maxHeartbeats 4000000 in
theorem done_off {w : World} {C W G Gr : Nat} {P : World → Prop} {R : World → Prop} (x y : Int) (hW : w.cell? ⟨W, 0, none⟩ = some (.pointer (some ⟨Gr, 0, none⟩)))
    (h1 : ∀ wb, Below w.heap.size w wb → Calls Try.prog 39 #[.pointer (some ⟨G, 0, none⟩), .slice none 0 0] wb fun e w1 => e = .returned (.tuple #[]) ∧ w1.cell? ⟨W, 0, none⟩ = some (.pointer (some ⟨Gr, 0, none⟩)) ∧ P w1)
    (h2 : ∀ w1, P w1 → Calls Try.prog 40 #[.pointer (some ⟨Gr, 0, none⟩), .slice none 0 0] w1 fun e w2 => e = .returned (.tuple #[]) ∧ R w2) :
    Calls Try.prog 11 #[.pointer (some ⟨C, 0, none⟩), .pointer (some ⟨W, 0, none⟩), .pointer (some ⟨G, 0, none⟩), .agg #[.int .i64 5, .int .i64 x, .int .i64 y, .bool false]] w fun e w' => e = .returned (.bool true) ∧ R w' := by
  obtain ⟨wb, hwb⟩ : ∃ wb, (w.alloc (.cells #[.int .i64 5, .int .i64 x, .int .i64 y, .bool false] 36)) = wb := ⟨_, rfl⟩
  have k0 : wb.cell? ⟨w.heap.size, 0, none⟩ = some (.int .i64 5) := by rw [← hwb]; exact cell_of_row _ _ 0 _ _ _ (heap_alloc_new _ _)
  have k3 : wb.cell? ⟨w.heap.size, 3, none⟩ = some (.bool false) := by rw [← hwb]; exact cell_of_row _ _ 3 _ _ _ (heap_alloc_new _ _)
  have hB : Below w.heap.size w wb := by rw [← hwb]; exact (Below.refl w.heap.size w).alloc (Nat.le_refl _) _
  have h1' := Lib.hid (h1 wb hB)
  have h2' := Lib.hid h2
  clear h1 h2 hB hW
  go_enter Try.func11, Try.ntmps11
  go_wp2_with (first
    | (go_at_call 39; refine h1'.out.mono ?_; rintro e w1 ⟨rfl, aW, hP⟩; have P1 := Lib.hid hP; clear hP)
    | (go_at_call 40; refine (h2'.out _ P1.out).mono ?_; rintro e w2 ⟨rfl, hR⟩; have R2 := Lib.hid hR; clear hR))
  go_ret
  exact ⟨rfl, R2.out⟩
end Go.Proofs.Ytnfaeejeipbciaa
end

section
set_option linter.unusedVariables false
set_option linter.unusedSimpArgs false
namespace Go.Proofs.Ytnfaeejeipbciaa
open Go.RowKit BigFrame Go.Lib
set_option maxRecDepth 100000

section
variable {w0 w w' : World} {A A' : Lies} {d d' e e' : Dk} {c c' : Ck} {C G m u u' : Nat} {H H' : List Sx} {Gr W : Nat} {Ar Ar' : RLies} {rc rc' : RC} {X X' : List Nat}
theorem step_w {F F' F2 F2' : List Nat} (h : Step w F w' F') (h1 : ∀ k ∈ F, k ∈ F2) (h2 : ∀ k ∈ F2', k ∈ F2 ∨ w.heap.size ≤ k) : Step w F2 w' F2' :=
  ⟨h.os, h.tape, h.output, h.size, fun k hk hf => h.block k hk fun e => hf (h1 k e), h2⟩
/-- all four; X may turn beside -/
structure Quo (w0 w : World) (A : Lies) (d : Dk) (c : Ck) (C G m u : Nat) (H : List Sx) (Gr : Nat) (Ar : RLies) (e : Dk) (rc : RC) (X : List Nat) : Prop where
  cv : Cv w0 w A d c C G m u H
  rf : IsRf w w0.heap.size Gr Ar (X ++ (foots A c ++ rc.foot)) e
  g : rc.G = Gr
  ca : RcAt w w0.heap.size (X ++ (Ar.foot Gr ++ foots A c)) rc
  off : ∀ k ∈ X, k ∉ foots A c ∧ w0.heap.size ≤ k ∧ k < w.heap.size
theorem Quad.quo (q : Quad w0 w A d c C G m u H Gr Ar e rc) : Quo w0 w A d c C G m u H Gr Ar e rc [] := ⟨q.cv, q.rf, q.g, q.ca, fun _ h => by cases h⟩
theorem Quo.quad (q : Quo w0 w A d c C G m u H Gr Ar e rc []) : Quad w0 w A d c C G m u H Gr Ar e rc := ⟨q.cv, q.rf, q.g, q.ca⟩
theorem Quo.base (q : Quo w0 w A d c C G m u H Gr Ar e rc X) : w0.heap.size ≤ w.heap.size := q.cv.l.base
theorem Quo.under (q : Quo w0 w A d c C G m u H Gr Ar e rc X) : ∀ k ∈ X ++ (Ar.foot Gr ++ foots A c), k < w.heap.size := fun k hk => by
  rcases List.mem_append.1 hk with hk | hk
  · exact (q.off k hk).2.2
  rcases List.mem_append.1 hk with hk | hk
  · exact (q.rf.over k hk).2.2
  · exact (q.cv.l.ck.lt k hk).2
/-- the program's side turns, or what is beside -/
theorem Quo.turn (q : Quo w0 w A d c C G m u H Gr Ar e rc X) (h : Cv w0 w' A' d' c' C G m u' H') (hs : Step w (X ++ foots A c) w' (X' ++ foots A' c')) (hX : ∀ k ∈ X', k ∉ foots A' c' ∧ w0.heap.size ≤ k ∧ k < w'.heap.size) : Quo w0 w' A' d' c' C G m u' H' Gr Ar e rc X' := by
  have hf : ∀ k ∈ X' ++ foots A' c', k ∈ X ++ foots A c ∨ w.heap.size ≤ k := hs.foot
  refine ⟨h, q.rf.other (step_w hs (F2 := X ++ (foots A c ++ rc.foot)) (F2' := X' ++ (foots A' c' ++ rc.foot)) ?_ ?_) ?_, q.g, q.ca.other (step_w hs (F2 := X ++ (Ar.foot Gr ++ foots A c)) (F2' := X' ++ (Ar.foot Gr ++ foots A' c')) ?_ ?_), hX⟩
  · intro k hk
    simp only [List.mem_append] at hk ⊢
    exact hk.imp id .inl
  · intro k hk
    have := hf k
    simp only [List.mem_append] at hk this ⊢
    rcases hk with hk | hk | hk
    · rcases this (.inl hk) with (h | h) | h
      · exact .inl (.inl h)
      · exact .inl (.inr (.inl h))
      · exact .inr h
    · rcases this (.inr hk) with (h | h) | h
      · exact .inl (.inl h)
      · exact .inl (.inr (.inl h))
      · exact .inr h
    · exact .inl (.inr (.inr hk))
  · intro k hk
    simp only [List.mem_append] at hk
    rcases hk with hk | hk | hk
    · exact (hX k hk).2.2
    · exact (h.l.ck.lt k hk).2
    · exact Nat.lt_of_lt_of_le (q.ca.lt k hk) hs.size
  · intro k hk
    simp only [List.mem_append] at hk ⊢
    exact hk.imp id .inr
  · intro k hk
    have := hf k
    simp only [List.mem_append] at hk this ⊢
    rcases hk with hk | hk | hk
    · rcases this (.inl hk) with (h | h) | h
      · exact .inl (.inl h)
      · exact .inl (.inr (.inr h))
      · exact .inr h
    · exact .inl (.inr (.inl hk))
    · rcases this (.inr hk) with (h | h) | h
      · exact .inl (.inl h)
      · exact .inl (.inr (.inr h))
      · exact .inr h
/-- memory is made beside; some of it may turn from now on -/
theorem Quo.made (q : Quo w0 w A d c C G m u H Gr Ar e rc X) (hb : Below w.heap.size w w') (hX : ∀ k ∈ X', k ∈ X ∨ w.heap.size ≤ k ∧ k < w'.heap.size) : Quo w0 w' A d c C G m u H Gr Ar e rc X' :=
  q.turn (q.cv.read hb) ⟨hb.os, hb.tape, hb.output, hb.size, fun k hk _ => hb.block k hk, fun k hk => by
    rcases List.mem_append.1 hk with hk | hk
    · exact (hX k hk).imp (List.mem_append_left _) And.left
    · exact .inl (List.mem_append_right _ hk)⟩ fun k hk => by
    rcases hX k hk with h | h
    · exact ⟨(q.off k h).1, (q.off k h).2.1, Nat.lt_of_lt_of_le (q.off k h).2.2 hb.size⟩
    · exact ⟨q.cv.l.off h.1, Nat.le_trans q.base h.1, h.2⟩
/-- what was beside has turned, and may turn no more -/
theorem Quo.gone {r : Option Nat} (q : Quo w0 w A d c C G m u H Gr Ar e rc X) (hg : w.grownBy w' r) (hr : ∀ k, r = some k → k ∈ X) : Quad w0 w' A d c C G m u H Gr Ar e rc := by
  refine (q.turn (X' := []) (q.cv.carry (q.cv.below.trans ⟨hg.os, hg.tape, hg.output, hg.size, fun k hk => hg.block k (Nat.lt_of_lt_of_le hk q.base) fun e => ?_⟩) hg.size fun k hk => hg.block k (q.cv.l.ck.lt k hk).2 fun e => ?_) ⟨hg.os, hg.tape, hg.output, hg.size, fun k hk hf => hg.block k hk fun e => ?_, ?_⟩ ?_).quad
  · have := (q.off k (hr k e.symm)).2.1; omega
  · exact (q.off k (hr k e.symm)).1 hk
  · exact hf (List.mem_append_left _ (hr k e.symm))
  · intro k hk; exact .inl (List.mem_append_right _ hk)
  · intro k hk; cases hk
/-- the document's cache turns -/
theorem Quo.doc (q : Quo w0 w A d c C G m u H Gr Ar e rc X) (h : RcAt w' w0.heap.size (X ++ (Ar.foot Gr ++ foots A c)) rc') (hs : Step w rc.foot w' rc'.foot) (hG : rc'.G = rc.G) : Quo w0 w' A d c C G m u H Gr Ar e rc' X := by
  have hoff : ∀ k ∈ rc.foot, w0.heap.size ≤ k ∧ k ∉ foots A c := fun k hk => ⟨(q.ca.over k hk).1, fun e => (q.ca.over k hk).2 (List.mem_append_right _ (List.mem_append_right _ e))⟩
  refine ⟨q.cv.carry (q.cv.below.trans (hs.below q.base fun k hk => (hoff k hk).1)) hs.size fun k hk => hs.block k (q.cv.l.ck.lt k hk).2 fun e => (hoff k e).2 hk, q.rf.other (step_w hs (fun k hk => by simp only [List.mem_append]; exact .inr (.inr hk)) fun k hk => ?_) fun k hk => ?_, hG.trans q.g, h, fun k hk => ?_⟩
  · have := hs.foot k
    simp only [List.mem_append] at hk ⊢
    rcases hk with hk | hk | hk
    · exact .inl (.inl hk)
    · exact .inl (.inr (.inl hk))
    · exact (this hk).imp (fun h => .inr (.inr h)) id
  · simp only [List.mem_append] at hk
    rcases hk with hk | hk | hk
    · exact Nat.lt_of_lt_of_le (q.off k hk).2.2 hs.size
    · exact Nat.lt_of_lt_of_le (q.cv.l.ck.lt k hk).2 hs.size
    · exact h.lt k hk
  · exact ⟨(q.off k hk).1, (q.off k hk).2.1, Nat.lt_of_lt_of_le (q.off k hk).2.2 hs.size⟩
/-- the document's disk, its sectors -/
theorem Quo.secs (q : Quo w0 w A d c C G m u H Gr Ar e rc X) : w.cell? ⟨rc.G, 0, none⟩ = some (.slice (some ⟨Ar.g, 0, none⟩) e.n Ar.c) ∧ rc.G < w.heap.size := by
  have h0 : w.cell? ⟨Gr, 0, none⟩ = some (.slice (some ⟨Ar.g, 0, none⟩) e.n Ar.c) := q.rf.cell 0
  rw [q.g]
  exact ⟨h0, World.block_lt_of_cell? w _ h0⟩
/-- both sides are alike -/
structure Duo (w0 : World) (A : Lies) (d : Dk) (c : Ck) (C G m u : Nat) (H : List Sx) (Gr W : Nat) (Ar : RLies) (rc : RC) (X : List Nat) (w : World) : Prop where
  q : Quo w0 w A d c C G m u H Gr Ar d rc X
  at' : rc.W = W
  most : rc.most = m
  alk : Alk H rc.L
  set : Settled m rc.L
  low : ∀ x ∈ H, x.pos < 12
  n : d.n = 12
  arm : d.set = false
  few : 1 ≤ m ∧ m ≤ 20
/-- after t acts -/
def Sd (w0 : World) (C G m Gr W t : Nat) (w : World) : Prop := ∃ A d c u H Ar rc, Duo w0 A d c C G m u H Gr W Ar rc [] w ∧ u ≤ t ∧ d.waits.length ≤ t ∧ d.log.length ≤ t
theorem Duo.made (q : Duo w0 A d c C G m u H Gr W Ar rc X w) (hb : Below w.heap.size w w') (hX : ∀ k ∈ X', k ∈ X ∨ w.heap.size ≤ k ∧ k < w'.heap.size) : Duo w0 A d c C G m u H Gr W Ar rc X' w' :=
  ⟨q.q.made hb hX, q.at', q.most, q.alk, q.set, q.low, q.n, q.arm, q.few⟩
theorem Sd.read {t : Nat} (h : Sd w0 C G m Gr W t w) (hb : Below w.heap.size w w') : Sd w0 C G m Gr W t w' := by
  obtain ⟨A, d, c, u, H, Ar, rc, q, h⟩ := h
  exact ⟨A, d, c, u, H, Ar, rc, q.made (X' := []) hb (fun _ h => by cases h), h⟩
theorem Sd.more {t t' : Nat} (h : Sd w0 C G m Gr W t w) (ht : t ≤ t') : Sd w0 C G m Gr W t' w := by
  obtain ⟨A, d, c, u, H, Ar, rc, q, h1, h2, h3⟩ := h
  exact ⟨A, d, c, u, H, Ar, rc, q, by omega, by omega, by omega⟩
theorem trimR_L {r : Rr} {x : Sx} (h : Alk H rc.L) (hk : x.key = r.key) : Alk (trim m (nw H x)) (trimR m (newR r rc.L)) := (h.nw hk).trim m
theorem trim_low {n : Nat} (h : ∀ x ∈ H, x.pos < n) : ∀ x ∈ trim m H, x.pos < n := fun x hx => h x ((dropN_sub _ _).subset hx)
theorem nw_low {n : Nat} {y : Sx} (h : ∀ x ∈ H, x.pos < n) (hy : y.pos < n) : ∀ x ∈ nw H y, x.pos < n := fun x hx => by
  unfold nw at hx
  rcases List.mem_append.1 hx with hx | hx
  · exact h x (List.mem_filter.1 hx).1
  · rw [List.mem_singleton] at hx; rw [hx]; exact hy
end
end Go.Proofs.Ytnfaeejeipbciaa
end
