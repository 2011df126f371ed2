/-
  Where a pointer's bytes stand in a body.
-/
import Derived.Test.YtdpmpchmbjcocaaRw
import Derived.Test.YtdpmpchmbjcocaaTe
namespace Go.Proofs.Ytdpmpchmbjcocaa
open Go.RowKit BigFrame

theorem pointer_any (g off n cap k : Nat) (w : World) (hk : k * 2 + 2 ≤ cap) (hk2 : k ≤ 1000) :
    Calls Try.prog 18 #[.slice (some ⟨g, off, none⟩) n cap, .int .i64 (k : Int)] w fun e w' => (∃ c, 2 ≤ c ∧ e = .returned (.slice (some ⟨g, off + k * 2, none⟩) 2 c)) ∧ w = w' := by
  obtain ⟨q, hq⟩ : ∃ q, k * 2 = q := ⟨_, rfl⟩
  have e1 : (k : Int) * 2 = (q : Int) := by omega
  have hne : ¬ cap = q := by omega
  have p1 : (0 : Int) ≤ (q : Int) := by omega
  obtain ⟨r, hr⟩ : ∃ r, q + 2 = r := ⟨_, rfl⟩
  have e2 : (q : Int) + 2 = (r : Int) := by omega
  have p2 : (q : Int) ≤ (r : Int) := by omega
  have p3 : (r : Int) ≤ (cap : Int) := by omega
  have hq8 : q ≤ 2000 := by omega
  have hr' := Lib.hid hr
  rw [hq]
  have hcap : q + 2 ≤ cap := by omega
  have hq' := Lib.hid hq
  clear hq hr hk
  go_enter Try.func18, Try.ntmps18
  go_wp2_with fail
  go_ret
  exact ⟨⟨cap - q, by omega, by show Ending.returned (.slice (some ⟨g, off + q, none⟩) (r - q) (cap - q)) = _; rw [← hr'.out, Nat.add_sub_cancel_left]⟩, rfl⟩
end Go.Proofs.Ytdpmpchmbjcocaa
