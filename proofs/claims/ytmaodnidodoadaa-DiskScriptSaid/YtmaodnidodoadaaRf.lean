/-
  The document's own disk: does the power go now?
-/
import Derived.Test.YtmaodnidodoadaaRc
namespace Go.Proofs.Ytmaodnidodoadaa
open Go.RowKit BigFrame

theorem rtick_end {w : World} {B G : Nat} {A : RLies} {R : List Nat} {d : Dk} (h : IsRf w B G A R d) (hs : d.set = true) (ha : 0 < d.after) : IsRf (w.setCell ⟨G, 3, none⟩ (.int .i64 ((d.after : Int) - 1))) B G A R d.ticked ∧ Step w (A.foot G) (w.setCell ⟨G, 3, none⟩ (.int .i64 ((d.after : Int) - 1))) (A.foot G) := by
  have hst : Step w (A.foot G) (w.setCell ⟨G, 3, none⟩ (.int .i64 ((d.after : Int) - 1))) (A.foot G) := (Step.refl _ _).setCell _ _ _ (RLies.mem_G G A)
  refine ⟨h.head (A' := A) ?_ hst (fun k hk => Below.heap_setCell _ _ _ _ hk) rfl rfl rfl rfl rfl (h.waits.step (hst.beside R)) (fun e => (h.keep e).step (hst.beside R)) h.fine.ticked rfl (fun _ _ => rfl), hst⟩
  rw [heap_setCell_same _ _ _ _ _ _ h.hdr]
  have e : ((d.after - 1 : Nat) : Int) = (d.after : Int) - 1 := by omega
  simp [rcells, Dk.ticked, leftN, hs, e]

set_option maxHeartbeats 400000 in
theorem rfalls_any (w : World) (B : Nat) (G : Nat) (A : RLies) (R : List Nat) (d : Dk) (h : IsRf w B G A R d) :
    Calls Try.prog 39 #[.pointer (some ⟨G, 0, none⟩)] w (GivesRf (.bool d.fall) d.fell B G A R w) := by
  have c3 := h.cell 3
  have c5 := h.cell 5
  have f3 := h.frozen 3
  have haft := h.fine.aft
  obtain ⟨st, hst⟩ : ∃ st, d.set = st := ⟨_, rfl⟩
  obtain ⟨af, haf⟩ : ∃ af, d.after = af := ⟨_, rfl⟩
  simp only [rcells, leftN, hst, haf, List.getElem?_toArray, List.getElem?_cons_zero, List.getElem?_cons_succ] at c3 c5
  rw [haf] at haft
  have h' := Lib.hid h
  have haf' := Lib.hid haf
  have hst' := Lib.hid hst
  cases st
  · have e1 : d.fall = false := by simp [Dk.fall, hst]
    have e2 : d.fell = d := by simp [Dk.fell, hst]
    rw [e1, e2]
    simp only [cond_false] at c3
    clear h haf hst e1 e2
    go_enter Try.func39, Try.ntmps39
    go_wp2_with fail
    go_ret
    exact ⟨rfl, A, h'.out, Step.refl _ _⟩
  · simp only [cond_true] at c3
    by_cases h0 : af = 0
    · have e1 : d.fall = true := by simp [Dk.fall, hst, haf, h0]
      have e2 : d.fell = d.crashed d.keep := by simp [Dk.fell, hst, haf, h0]
      rw [e1, e2]
      obtain ⟨ka, kcap, hvk, hkc, hkx⟩ := h.keep hst
      have hkx' := Lib.hid (show KeepAt w (A.foot G ++ R) (.slice ka d.keep.length kcap) d.keep from ⟨ka, kcap, rfl, hkc, hkx⟩)
      have hkb := h.fine.keeps
      obtain ⟨nk, hnk⟩ : ∃ nk, d.keep.length = nk := ⟨_, rfl⟩
      have hnk' := Lib.hid hnk
      rw [hvk, hnk] at c5
      rw [hnk] at hkb hkc
      subst h0
      clear h haf hst e1 e2 hvk hkx hnk
      go_enter Try.func39, Try.ntmps39
      go_wp2_with (go_at_call 33; refine (rcrash_any _ B G A R d h'.out ka nk kcap d.keep hnk'.out hkb (by rw [← hnk'.out]; exact hkx'.out)).mono ?_; rintro e w1 ⟨rfl, A1, hD1, hS1⟩; have D1 := Lib.hid hD1; have S1 := Lib.hid hS1; clear hD1 hS1)
      go_ret
      exact ⟨rfl, A1, D1.out, S1.out⟩
    · have e1 : d.fall = false := by simp [Dk.fall, hst, haf, h0]
      have e2 : d.fell = d.ticked := by simp [Dk.fell, hst, haf, h0]
      rw [e1, e2]
      have t1 : decide ((af : Int) = 0) = false := by simp; omega
      have t2 : decide (0 < (af : Int)) = true := by simp; omega
      have ht := Lib.hid (rtick_end h hst (by omega))
      rw [haf] at ht
      clear h haf hst e1 e2
      go_enter Try.func39, Try.ntmps39
      go_wp2_with fail
      go_ret
      exact ⟨rfl, A, ht.out⟩
end Go.Proofs.Ytmaodnidodoadaa
