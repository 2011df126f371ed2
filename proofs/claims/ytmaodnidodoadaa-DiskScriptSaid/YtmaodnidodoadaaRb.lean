/-
  The document's own disk: on again.
-/
import Derived.Test.YtmaodnidodoadaaRs
namespace Go.Proofs.Ytmaodnidodoadaa
open Go.RowKit BigFrame

theorem rboot_end {w : World} {B G : Nat} {A : RLies} {R : List Nat} {d : Dk} (h : IsRf w B G A R d) : IsRf (w.setCell ⟨G, 2, none⟩ (.bool false)) B G A R d.booted ∧ Step w (A.foot G) (w.setCell ⟨G, 2, none⟩ (.bool false)) (A.foot G) := by
  have hst : Step w (A.foot G) (w.setCell ⟨G, 2, none⟩ (.bool false)) (A.foot G) := (Step.refl _ _).setCell _ _ _ (RLies.mem_G G A)
  refine ⟨h.head (A' := A) ?_ hst (fun k hk => Below.heap_setCell _ _ _ _ hk) rfl rfl rfl rfl rfl (h.waits.step (hst.beside R)) (fun e => (h.keep e).step (hst.beside R)) h.fine.booted rfl (fun _ _ => rfl), hst⟩
  rw [heap_setCell_same _ _ _ _ _ _ h.hdr]
  simp [rcells, Dk.booted, leftN]
theorem rboot_any (w : World) (B : Nat) (G : Nat) (A : RLies) (R : List Nat) (d : Dk) (h : IsRf w B G A R d) :
    Calls Try.prog 34 #[.pointer (some ⟨G, 0, none⟩)] w (GivesRf (.int .i64 (if d.on then 19 else 0)) d.booted B G A R w) := by
  have c2 := h.cell 2
  have f2 := h.frozen 2
  obtain ⟨on, hon⟩ : ∃ on, d.on = on := ⟨_, rfl⟩
  simp only [rcells, hon, List.getElem?_toArray, List.getElem?_cons_zero, List.getElem?_cons_succ] at c2
  rw [hon]
  have h' := Lib.hid h
  have ht := Lib.hid (rboot_end h)
  cases on
  · clear h hon
    simp only [Bool.not_false] at c2
    go_enter Try.func34, Try.ntmps34
    go_wp2_with fail
    go_ret
    exact ⟨rfl, A, ht.out⟩
  · have e : d.booted = d := by unfold Dk.booted; cases d; simp only at hon; subst hon; rfl
    rw [e]
    clear h hon e
    simp only [Bool.not_true] at c2
    go_enter Try.func34, Try.ntmps34
    go_wp2_with fail
    go_ret
    exact ⟨rfl, A, h'.out, Step.refl _ _⟩
end Go.Proofs.Ytmaodnidodoadaa
