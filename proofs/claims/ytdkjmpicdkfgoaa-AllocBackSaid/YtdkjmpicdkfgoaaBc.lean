/-
  bytes.Clone: a copy of its own.
-/
import Derived.Test.YtdkjmpicdkfgoaaOx
import Derived.WalkSpells
namespace Go.Proofs.Ytdkjmpicdkfgoaa
open Go.RowKit BigFrame

set_option maxHeartbeats 400000 in
theorem clone_any (a : Option Addr) (cap n : Nat) (l : List Nat) (w : World) (hl : l.length = n) (hn : n ≤ 100000) (hx : BAt w a l) (hnil : a = none → cap = 0) :
    Calls Try.prog 45 #[.slice a n cap] w (GivesB l w) := by
  have q22 : ∀ (w : World) (a : Option Addr) (n c n' c' : Nat), (binOp .eql 38 (.slice a n c) (.slice none n' c')).run Try.prog w = .ok (.bool a.isNone) w := fun w a n c n' c' => Lib.run_eql_slice_nil w _ _ a n c n' c' Try.underlying38
  cases a with
  | none =>
    have e : l = [] := by
      rcases hx with h | ⟨_, _, e, _⟩
      · exact List.eq_nil_of_length_eq_zero h
      · cases e
    subst e
    go_enter Try.func45, Try.ntmps45
    go_wp2_with fail
    go_ret
    exact ⟨_, rfl, OwnB.nil _ _, Below.refl _ _⟩
  | some ad =>
    have hx' := Lib.hid hx
    have hl' := Lib.hid hl
    have O0 := Lib.hid (show OwnB (w.alloc (.cells #[] 5)) w.heap.size (.slice (some ⟨w.heap.size, 0, none⟩) 0 0) [] from OwnB.made w [] w.heap.size (Nat.le_refl _) (by simp))
    have B0 := Lib.hid ((Below.refl w.heap.size w).alloc (Nat.le_refl _) (.cells #[] 5))
    clear hx hl
    go_enter Try.func45, Try.ntmps45
    go_wp2_with (at_builtin; refine wpList_append_bytes rfl (.tmp 5) (.tmp 6) rfl w.heap.size _ [] rfl O0.out (some ad) n cap l rfl hl'.out (hx'.out.on B0.out (Nat.le_refl _)) (fun h => by cases h) (by simpa using by omega) B0.out.size ?_; intro v2 w2 ho2 hg2 hb2; have B2 := Lib.hid (B0.out.trans hb2); clear hb2 hg2)
    go_ret
    exact ⟨_, rfl, ho2.out, B2.out⟩
end Go.Proofs.Ytdkjmpicdkfgoaa
