/-
  How long a group is.
-/
import Derived.Test.YtdkjmpicdkfgoaaGt
namespace Go.Proofs.Ytdkjmpicdkfgoaa
open Go.RowKit BigFrame

theorem span_any (g : Int) (i b : Nat) (w : World) (hi : i ≤ 1000) (hb : b ≤ 1000) :
    Calls Try.prog 48 #[geo g i b] w (Tells (.int .i64 ((spanN i b : Nat) : Int)) w) := by
  unfold geo spanN
  go_enter Try.func48, Try.ntmps48
  go_wp2_with fail
  go_ret
  exact ⟨ret_int (by omega), (Below.refl _ _).alloc (Nat.le_refl _) _⟩
end Go.Proofs.Ytdkjmpicdkfgoaa
