/-
  Both disks in one memory, side by side.
-/
import Derived.Test.YtmaodnidodoadaaRn
namespace Go.Proofs.Ytmaodnidodoadaa
open Go.RowKit BigFrame

structure Both (w0 w : World) (G : Nat) (A : Lies) (d : Dk) (H : Nat) (C : RLies) (e : Dk) : Prop where
  live : Live w0 w G A d
  ref : IsRf w w0.heap.size H C (A.foot G) e
theorem Both.disk {w0 w w' : World} {G H : Nat} {A A' : Lies} {C : RLies} {d d' e : Dk} (h : Both w0 w G A d H C e) (hd : IsDk w' w0.heap.size G A' d') (hs : Step w (A.foot G) w' (A'.foot G)) : Both w0 w' G A' d' H C e :=
  ⟨h.live.call hd hs, h.ref.other hs (fun k hk => (IsDkS.over hd k hk).2)⟩
theorem Both.doc {w0 w w' : World} {G H : Nat} {A : Lies} {C C' : RLies} {d e e' : Dk} (h : Both w0 w G A d H C e) (hr : IsRf w' w0.heap.size H C' (A.foot G) e') (hs : Step w (C.foot H) w' (C'.foot H)) : Both w0 w' G A d H C' e' :=
  ⟨h.live.many hs (fun k hk => ⟨(h.ref.over k hk).2, (h.ref.over k hk).1⟩), hr⟩
theorem Both.read {w0 w w' : World} {G H : Nat} {A : Lies} {C : RLies} {d e : Dk} (h : Both w0 w G A d H C e) (hb : Below w.heap.size w w') : Both w0 w' G A d H C e := ⟨h.live.read hb, h.ref.read hb⟩
theorem Both.drewN {w0 w : World} {G H m : Nat} {A : Lies} {C : RLies} {d e : Dk} (h : Both w0 w G A d H C e) : Both w0 (w.drewN m) G A d H C e := h.read (below_drewN w m)
theorem Both.base {w0 w : World} {G H : Nat} {A : Lies} {C : RLies} {d e : Dk} (h : Both w0 w G A d H C e) : w0.heap.size ≤ w.heap.size := h.live.base
/-- memory of the law's own that is made behind both -/
theorem Both.start {w0 w w' : World} {G H : Nat} {A : Lies} {C : RLies} {d e : Dk} (h : Live w0 w G A d) (hr : IsRf w' w.heap.size H C (A.foot G) e) (hb : Below w.heap.size w w') : Both w0 w' G A d H C e :=
  ⟨h.read hb, ⟨hr.fine, hr.hdr, hr.slots, hr.room, hr.rows, hr.waits, hr.keep, own_lower hr.log h.base, hr.apart, fun k hk => ⟨Nat.le_trans h.base (hr.over k hk).1, (hr.over k hk).2⟩, hr.under⟩⟩
/-- blocks of the law's own turn: none that was there at w1, where both stood -/
theorem Both.beside {w0 w w1 w' : World} {G H : Nat} {A : Lies} {C : RLies} {d e : Dk} (h : Both w0 w1 G A d H C e) (_hb : Below w1.heap.size w1 w) (hs : Below w1.heap.size w1 w') : Both w0 w' G A d H C e := h.read hs
/-- the rows that are firm -/
theorem IsRf.parts {w : World} {B G : Nat} {A : RLies} {R : List Nat} {d : Dk} (h : IsRf w B G A R d) : Parts w (some ⟨A.g, 0, none⟩) d.n d.firm :=
  .inr ⟨A.g, 0, rfl, fun i hi => ⟨A.V i, by rw [Nat.zero_add]; exact (h.slots i hi).1, by
    obtain ⟨g, cap, e, _, hl, hx, _⟩ := h.rows i hi
    exact ⟨_, 128, cap, e, hl, hx⟩, by
    obtain ⟨g, cap, e, _, hl, _⟩ := h.rows i hi
    omega⟩⟩
end Go.Proofs.Ytmaodnidodoadaa
