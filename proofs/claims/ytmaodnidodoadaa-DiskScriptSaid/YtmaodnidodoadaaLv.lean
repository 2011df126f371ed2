/-
  A disk of the call's own, from call to call; a disk that is nothing.
-/
import Derived.Test.YtmaodnidodoadaaWr
import Derived.Test.YtmaodnidodoadaaRd
import Derived.Test.YtmaodnidodoadaaNw
namespace Go.Proofs.Ytmaodnidodoadaa
open Go.RowKit BigFrame

def Woke (w : World) (e : Ending) (w' : World) : Prop := e = .returned (.bool true) ∧ Below w.heap.size w w'
/-- since w0 nothing that was there has turned; and the disk stands -/
structure Live (w0 w : World) (G : Nat) (A : Lies) (d : Dk) : Prop where
  below : Below w0.heap.size w0 w
  disk : IsDk w w0.heap.size G A d
theorem Live.call {w0 w w' : World} {G : Nat} {A A' : Lies} {d d' : Dk} (h : Live w0 w G A d) (hd : IsDk w' w0.heap.size G A' d') (hs : Step w (A.foot G) w' (A'.foot G)) : Live w0 w' G A' d' :=
  ⟨h.below.trans (hs.below h.below.size (fun k hk => (IsDkS.over h.disk k hk).1)), hd⟩
theorem Live.read {w0 w w' : World} {G : Nat} {A : Lies} {d : Dk} (h : Live w0 w G A d) (hb : Below w.heap.size w w') : Live w0 w' G A d :=
  ⟨h.below.trans (hb.mono h.below.size), IsDkS.on h.disk hb (Nat.le_refl _)⟩
theorem Live.drewN {w0 w : World} {G m : Nat} {A : Lies} {d : Dk} (h : Live w0 w G A d) : Live w0 (w.drewN m) G A d := h.read (below_drewN w m)
theorem Live.new {w0 w w' : World} {G : Nat} {A : Lies} {d : Dk} (h : Below w0.heap.size w0 w) (hd : IsDk w' w.heap.size G A d) (hb : Below w.heap.size w w') : Live w0 w' G A d :=
  ⟨h.trans (hb.mono h.size), ⟨IsDkS.fine hd, IsDkS.hdr hd, IsDkS.firm hd, IsDkS.seen hd, own_lower (IsDkS.waits hd) h.size, own_lower (IsDkS.log hd) h.size, own_lower (IsDkS.keep hd) h.size, IsDkS.apart hd, fun k hk => ⟨Nat.le_trans h.size (IsDkS.over hd k hk).1, (IsDkS.over hd k hk).2⟩⟩⟩
theorem Live.base {w0 w : World} {G : Nat} {A : Lies} {d : Dk} (h : Live w0 w G A d) : w0.heap.size ≤ w.heap.size := h.below.size
theorem Live.fresh {w0 w w' : World} {G g : Nat} {A : Lies} {d : Dk} (h : Live w0 w G A d) (hg : w.heap.size ≤ g) (hlt : g < w'.heap.size) : Off w' (A.foot G) g :=
  ⟨fun e => by have := (IsDkS.over h.disk g e).2; omega, hlt⟩
/-- another cell is written -/
theorem Live.set {w0 w : World} {G g k : Nat} {A : Lies} {d : Dk} (h : Live w0 w G A d) (ho : Off w (A.foot G) g) (hg : w0.heap.size ≤ g) (v : Value) : Live w0 (w.setCell ⟨g, k, none⟩ v) G A d :=
  ⟨h.below.setCell (p := ⟨g, k, none⟩) hg v, IsDkS.setOther h.disk (a := ⟨g, k, none⟩) ho.1 v⟩
theorem fell_noset {d : Dk} (h : d.set = false) : d.fell = d := by simp [Dk.fell, h]
theorem fall_noset {d : Dk} (h : d.set = false) : d.fall = false := by simp [Dk.fall, h]
theorem OwnB.off {w w' : World} {F F' : List Nat} {base : Nat} {v : Value} {l : List Nat} (h : OwnB w base v l) (hs : Step w F w' F') (ho : ∀ k, v.ownBlock = some k → Off w F k) : OwnB w' base v l :=
  h.block (fun k hk => hs.same (ho k hk))
theorem write_ns (w : World) (B : Nat) (G : Nat) (A : Lies) (d : Dk) (C : Int) (a : Nat) (bb bo bn bcap : Nat) (l : List Nat) (hC : C = (a : Int)) (hbn : bn = 128) (h : IsDk w B G A d) (hon : d.on = true) (hset : d.set = false) (ha : a < d.n) (hl : l.length = 128) (hbc : 128 ≤ bcap) (hx : BAt w (some ⟨bb, bo, none⟩) l) (hoff : Off w (A.foot G) bb) (hm1 : d.waits.length < 1000) (hm2 : d.log.length < 1000) :
    Calls Try.prog 19 #[.pointer (some ⟨G, 0, none⟩), .int .i64 C, .slice (some ⟨bb, bo, none⟩) bn bcap] w (GivesS (.int .i64 0) (d.wrote a l) B G A w) := by
  subst hC
  subst hbn
  have := write_go w B G A d a bb bo bcap l h hon ha hl hbc hx hoff (fall_noset hset) (by rw [fell_noset hset]; exact hm1) (by rw [fell_noset hset]; exact hm2)
  rwa [fell_noset hset] at this
theorem flush_ns (w : World) (B : Nat) (G : Nat) (A : Lies) (d : Dk) (h : IsDk w B G A d) (hon : d.on = true) (hset : d.set = false) (hf : d.flushes < 1000) :
    Calls Try.prog 29 #[.pointer (some ⟨G, 0, none⟩)] w (GivesS (.int .i64 0) d.flushed B G A w) := by
  have := flush_go w B G A d h hon (fall_noset hset) (by rw [fell_noset hset]; exact hf)
  rwa [fell_noset hset] at this
theorem crash_nil (w : World) (B : Nat) (G : Nat) (A : Lies) (d : Dk) (h : IsDk w B G A d) :
    Calls Try.prog 21 #[.pointer (some ⟨G, 0, none⟩), .slice none 0 0] w (GivesS (.tuple #[]) (d.crashed []) B G A w) :=
  crash_any w B G A d h none 0 0 [] rfl (Nat.le_refl _) (by omega) (.inl rfl) (fun b o h => by omega)
theorem boot_off (w : World) (B : Nat) (G : Nat) (A : Lies) (d : Dk) (h : IsDk w B G A d) (hon : d.on = false) :
    Calls Try.prog 23 #[.pointer (some ⟨G, 0, none⟩)] w (GivesS (.int .i64 0) d.booted B G A w) := by
  have := boot_any w B G A d h
  rwa [hon] at this
theorem boot_on (w : World) (B : Nat) (G : Nat) (A : Lies) (d : Dk) (h : IsDk w B G A d) (hon : d.on = true) :
    Calls Try.prog 23 #[.pointer (some ⟨G, 0, none⟩)] w (GivesS (.int .i64 19) d B G A w) := by
  have := boot_any w B G A d h
  rw [hon] at this
  rwa [show d.booted = d by unfold Dk.booted; cases d; simp only at hon; subst hon; rfl] at this
theorem read_c (w : World) (B : Nat) (G : Nat) (A : Lies) (d : Dk) (C : Int) (a : Nat) (l : List Nat) (hC : C = (a : Int)) (h : IsDk w B G A d) (hon : d.on = true) (ha : a < d.n) (hl : d.seen a = l) :
    Calls Try.prog 22 #[.pointer (some ⟨G, 0, none⟩), .int .i64 C] w (GivesR l 0 w) := by
  subst hC; subst hl; exact read_go w B G A d a h hon ha
theorem rowIs_ints {w : World} {g n : Nat} {D : Nat → Int} (h : w.rowIs g 3 n (fun j => .int .i64 (D j))) : IntsAt w (some ⟨g, 0, none⟩) n D := .inr ⟨g, 0, rfl, fun k hk => by rw [Nat.zero_add]; exact h.cell hk⟩
theorem waiting_n (w : World) (B : Nat) (G : Nat) (A : Lies) (d : Dk) (n : Nat) (D : Nat → Int) (h : IsDk w B G A d) (hn : d.waits.length = n) (hD : ∀ j, j < n → waitD d j = D j) :
    Calls Try.prog 9 #[.pointer (some ⟨G, 0, none⟩)] w (GivesW n D w) := by
  subst hn
  refine (waiting_any w B G A d h).mono fun e w' ⟨g, he, hg, hr, hb⟩ => ⟨g, he, hg, hr.congr (fun i hi => by rw [hD i hi]), hb⟩
end Go.Proofs.Ytmaodnidodoadaa
