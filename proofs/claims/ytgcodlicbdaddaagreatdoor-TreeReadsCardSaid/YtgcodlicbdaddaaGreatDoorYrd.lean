/-
  TreeReads, of any bytes.
-/
import Derived.Test.YtgcodlicbdaddaaGreatDoorYrb
set_option linter.unusedVariables false
set_option linter.unusedSimpArgs false
namespace Go.Proofs.YtgcodlicbdaddaaGreatDoor
open Go.RowKit BigFrame

theorem treeReads_any (a : Option Addr) (c : Nat) (l : List Nat) (x y : Int) (w : World) (ho : Octs l) (hk : l.length ≤ c) (hx : BAt w a l) (hn : a = none → c = 0) (hlt : ∀ ad, a = some ad → ad.block < w.heap.size) :
    Calls Tryz.prog 14 #[.slice a l.length c, .int .i64 x, .int .i64 y] w fun e w' => e = .returned (.bool true) ∧ Below w.heap.size w w' := by
  by_cases h : 1000 < l.length
  · exact treeReads_long a c _ x y w h
  · exact treeReads_main a c _ l x y w rfl (by omega) hk hn ho hx hlt
end Go.Proofs.YtgcodlicbdaddaaGreatDoor
