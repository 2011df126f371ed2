/-
  How many are free in a group, and what it is worth.
-/
import Derived.Test.YtdkjmpicdkfgoaaQa
import Derived.Test.YtdkjmpicdkfgoaaF7
import Derived.Test.YtdkjmpicdkfgoaaCount

namespace Go.Proofs.Ytdkjmpicdkfgoaa
open Go.RowKit BigFrame Fl

/-- how many of e are free in group k -/
def freeN (X : Nat → List Nat) (o e k : Nat) : Nat := e - countN (X (o + 2 + 2 * k)) e
theorem freeN_le (X : Nat → List Nat) (o e k : Nat) : freeN X o e k ≤ e := Nat.sub_le _ _
/-- a pool of a space: what is known of it -/
structure PolAt (w : World) (F : List Nat) (s g i b : Nat) (X : Nat → List Nat) (o e : Nat) : Prop where
  sp : Sp w F s g i b X
  pol : Pol o e i b
  g1 : 1 ≤ g
  g8 : g ≤ 8
  e1 : 4 ≤ e
  e96 : e ≤ 96
variable {w w' : World} {F : List Nat} {s g i b : Nat} {X : Nat → List Nat} {o e : Nat}
theorem PolAt.set (h : PolAt w F s g i b X o e) {k d : Nat} (hk : k < g) (hd : d < 2) : ∃ q cap m, w.cell? ⟨s, o + 2 + 2 * k + d, none⟩ = some (.slice (some ⟨q, 0, none⟩) m cap) ∧ (X (o + 2 + 2 * k + d)).length = m ∧ m = (e + 7) / 8 ∧ m ≤ cap ∧ q < w.heap.size ∧ q ∉ F ∧ BAt w (some ⟨q, 0, none⟩) (X (o + 2 + 2 * k + d)) ∧ Octs (X (o + 2 + 2 * k + d)) := by
  have hc := h.pol.slot (g := g) (d := d) hk hd
  obtain ⟨q, cap, h1, h2, h3, h4, h5⟩ := h.sp.slot hc
  have hs := h.sp.siz hc
  rw [h.pol.wid h.g8 hk hd] at hs
  exact ⟨q, cap, _, h1, rfl, hs, h2, h3, h4, h5, h.sp.oct hc⟩
theorem PolAt.drew (h : PolAt w F s g i b X o e) (m : Nat) : PolAt (w.drewN m) F s g i b X o e := ⟨h.sp.drew m, h.pol, h.g1, h.g8, h.e1, h.e96⟩
theorem PolAt.below (h : PolAt w F s g i b X o e) (hb : Below w.heap.size w w') : PolAt w' F s g i b X o e := ⟨h.sp.below hb, h.pol, h.g1, h.g8, h.e1, h.e96⟩

set_option maxHeartbeats 400000 in
theorem freeIn_c (k : Nat) (h : PolAt w F s g i b X o e) (hk : k < g) (r : Int) (hr : r = (freeN X o e k : Nat)) :
    Calls Try.prog 60 #[.pointer (some ⟨s, o, none⟩), .int .i64 (k : Int)] w (Told (.int .i64 r) w) := by
  obtain ⟨q, cap, m, c1, hl, hm, _, _, _, hb, ho⟩ := h.set (d := 0) hk (by omega)
  rw [Nat.add_zero] at c1 hl hb ho
  have c2 := h.sp.ce h.pol
  have k8 : (k : Int) < 8 := by have := h.g8; omega
  have k0 : (0 : Int) ≤ (k : Int) := by omega
  have hm2 : m ≤ 1000 := by have := h.e96; omega
  have he := h.e96
  have hc := countN_le (X (o + 2 + 2 * k)) e
  have hr' : Hid ((e : Int) - ((countN (X (o + 2 + 2 * k)) e : Nat) : Int) = r) := Lib.hid (by rw [hr]; unfold freeN; omega)
  have hl' := Lib.hid hl
  have hb' := Lib.hid hb
  have ho' := Lib.hid ho
  have e1 : k * 2 = 2 * k := by omega
  clear h hl hb ho hr hm
  go_enter Try.func60, Try.ntmps60
  go_wp2_with fail
  go_big_quiet ((go_at_call 76; exact quiet_toldN (count_is _ _ _ _ _ _ _ _ rfl rfl ho'.out hl'.out (by omega) hb'.out.drew (by omega))))
  go_wp2_with fail
  go_ret
  exact ⟨ret_int hr'.out, _, rfl⟩
end Go.Proofs.Ytdkjmpicdkfgoaa
