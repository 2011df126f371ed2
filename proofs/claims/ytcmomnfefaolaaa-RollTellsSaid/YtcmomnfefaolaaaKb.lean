/-
  Is what was lent kept?
-/
import Derived.Test.YtcmomnfefaolaaaLb
import Derived.Test.YtcmomnfefaolaaaSb
namespace Go.Proofs.Ytcmomnfefaolaaa
open Go.RowKit BigFrame

def KeptRel (i : Value) : Prop := ∃ k : Nat, k ≤ 3 ∧ i = .int .i64 k

set_option maxHeartbeats 400000 in
theorem kept_any (g cap n : Nat) (a : Option Addr) (l m : List Nat) (w : World) (hn : l.length = n) (hm : m.length = n) (hl : n ≤ 100000) (hr : Row w g (marked l)) (hx : BAt w a m) (he : l = m) :
    Calls Try.prog 25 #[.slice (some ⟨g, 0, none⟩) n (n + 3), .slice a n cap] w (Told (.bool true) w) := by
  have hx' := Lib.hid hx
  have hn' := Lib.hid hn
  have hm' := Lib.hid hm
  have hr' := Lib.hid hr
  have hf := Lib.hid hr.bat_front
  have he' := Lib.hid (show decide (l = m) = true by simpa using he)
  clear hx hn hm hr he
  go_enter Try.func25, Try.ntmps25
  go_wp2_with fail
  rw [show n + 3 - n = 3 by omega]
  go_loop [6] (fun i => KeptRel i) (fun i => 3 - (intOf i).toNat)
  case atStart => exact ⟨0, by omega, rfl⟩
  case round =>
    obtain ⟨k, hk, rfl⟩ := hrel
    by_cases hlt : k < 3
    · have c1 := hr'.out.cell (k := n + k) (by rw [marked_length, hn'.out]; omega)
      have e : bz (marked l) (n + k) = 119 := by rw [← hn'.out]; exact marked_at l hlt
      rw [e] at c1
      clear e
      go_wp2_with fail
      exact ⟨⟨k + 1, by omega, by go_num⟩, by simp [intOf]; omega⟩
    · go_wp2_with (go_at_call 12; refine (same_any _ _ _ _ _ _ l m _ hn'.out hm'.out (by omega) hf.out hx'.out).mono ?_; rw [he'.out]; rintro e w1 ⟨rfl, q, rfl⟩)
      go_ret
      exact ⟨rfl, _, rfl⟩
theorem kept_b (g cap n : Nat) (a : Option Addr) (l : List Nat) (w : World) (hn : l.length = n) (hl : n ≤ 100000) (hr : Row w g (marked l)) (hx : BAt w a l) :
    Calls Try.prog 25 #[.slice (some ⟨g, 0, none⟩) n (n + 3), .slice a n cap] w fun e w' => e = .returned (.bool true) ∧ Below w.heap.size w w' :=
  (kept_any g cap n a l l w hn hn hl hr hx rfl).mono fun _ _ h => h.below

end Go.Proofs.Ytcmomnfefaolaaa
