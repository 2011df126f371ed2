/-
  Do twelve pointers lead nowhere?
-/
import Derived.Test.YtdpmpchmbjcocaaHb
namespace Go.Proofs.Ytdpmpchmbjcocaa
open Go.RowKit BigFrame

attribute [local go_sem ↓] ldT_of bdT_of eqT_of
theorem ptrEmpty_any (L : List Int) (r : Bool) (w : World) (hL : L.length = 12) (hr : decide (L = zz 12) = r) :
    Calls Try.prog 12 #[av L] w (Tells (.bool r) w) := by
  have hV := Vi.alloc w L 22
  have hb0 := Lib.hid ((Below.refl w.heap.size w).alloc (Nat.le_refl _) (.cells (iv L).toArray 22))
  obtain ⟨Z, hZ⟩ : ∃ Z, zz 12 = Z := ⟨_, rfl⟩
  have hZl : Z.length = 12 := by rw [← hZ]; rfl
  have hld := run_ldT hV.whole hL
  have hbd := run_bd0T
  have hgd := Try.eqGuardT
  rw [hZ] at hbd hr
  have heq := fun w => run_eqT L Z w hL hZl
  rw [hr] at heq
  unfold av at hld hbd heq ⊢
  clear hV hL hr hZ hZl
  go_enter Try.func12, Try.ntmps12
  go_wp2_with fail
  go_ret
  exact ⟨rfl, hb0.out⟩
end Go.Proofs.Ytdpmpchmbjcocaa
