/-
  Does a number fit?
-/
import Derived.Test.YtkeihpenelpblaaPf
namespace Go.Proofs.Ytkeihpenelpblaa
open Go.RowKit BigFrame

theorem fits_is (n C : Int) (s : Nat) (r : Bool) (w : World) (hC : C = (s : Int)) (hs : s ≤ 1000) (hr : fitsN n s = r) :
    Calls Try.prog 38 #[.int .i64 n, .int .i64 C] w fun e w' => e = .returned (.bool r) ∧ w = w' := by
  subst hC hr; exact fits_any n s w hs
end Go.Proofs.Ytkeihpenelpblaa
