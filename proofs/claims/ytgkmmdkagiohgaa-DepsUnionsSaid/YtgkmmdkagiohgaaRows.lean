/-
  No cell of these rows narrows 'for every input' (looked for: loops, veiled, ifaces, maps, wideKeys, modest, calm, conditions, laid).
  DERIVED. THE GIVEN ROWS OF THIS SEAT. 3 by the template 'for every input the law returns true; each argument reads behind the call as it read before'; 0 by the template 'total and deterministic' (their statements: YtgkmmdkagiohgaaTotals.lean).
  GIVEN WITH THE SEED: the statements are not yours to turn. If you find one false, say at which input.
  Laid BY PROGRAM, IN A SANDBOX (cutbox-rows.mjs): the forced cells as the released guide's own fill.sh prints them over the translation 4e8e8a4b49aaeebb… (all of the seat's roots in one cut). By AI agents, Wed Nov 11 2026. No macro, syntax, notation, axiom, sorry.
-/
import Derived.Test.YtgkmmdkagiohgaaChecked
import GoSem.Claim
import GoSem.ClaimJoined
import GoSem.ClaimMapViews
import Derived.JoinedTies
import Derived.KernelRfl
namespace Go.Proofs.Ytgkmmdkagiohgaa
/- THE CELL 'sum', in the pinned program and in every row, IS THE sha256 OF THE DUMP (.gsa) THAT YtgkmmdkagiohgaaProg.lean LOADS. Nothing in Lean hashes anything: it is a label: what it is worth is what the hold of that sum in a sandbox is worth. -/
noncomputable def Try.pinned : Pinned := { name := "ytgkmmdkagiohgaa", sum := "4e8e8a4b49aaeebba74b74636211bf93c7f7daca03460c3c138c7c6e44d6d1ab", checked := Try.checked }
namespace Rows
def none {H : Type} : Left H := { results := [], args := [] }

/-- 'purlinlaw17.DepsOrder': WHATEVER THE INPUT: true; the input reads as it did. -/
def depsOrderSpec : ChangeSpec := { name := "depsOrder", fn := fun _ => fun
  | [d1, d2, d3] => { results := [.lit (.bool true)], args := [d1, d2, d3] }
  | _ => none }
def depsOrderRow : OpenClaim := { program := "ytgkmmdkagiohgaa", sum := "4e8e8a4b49aaeebba74b74636211bf93c7f7daca03460c3c138c7c6e44d6d1ab", func := "purlin/purlinlaw17.DepsOrder", spec := "depsOrder", recurses := true, apart := false }
def DepsOrderSaid : Prop := depsOrderRow.holds Try.pinned (OpenSpec.ofChange depsOrderSpec)

/-- ITS FALSE NEIGHBOUR: 'it returns false'. Refute it at one input. -/
def depsOrderWrong : ChangeSpec := { name := "depsOrder", fn := fun _ => fun
  | [d1, d2, d3] => { results := [.lit (.bool false)], args := [d1, d2, d3] }
  | _ => none }
def DepsOrderWrongFalsely : Prop := depsOrderRow.holds Try.pinned (OpenSpec.ofChange depsOrderWrong)

/-- 'purlinlaw17.DepsDrops': WHATEVER THE INPUT: true; the input reads as it did. -/
def depsDropsSpec : ChangeSpec := { name := "depsDrops", fn := fun _ => fun
  | [d1, d2] => { results := [.lit (.bool true)], args := [d1, d2] }
  | _ => none }
def depsDropsRow : OpenClaim := { program := "ytgkmmdkagiohgaa", sum := "4e8e8a4b49aaeebba74b74636211bf93c7f7daca03460c3c138c7c6e44d6d1ab", func := "purlin/purlinlaw17.DepsDrops", spec := "depsDrops", unfollowed := true, recurses := true, apart := false }
def DepsDropsSaid : Prop := depsDropsRow.holds Try.pinned (OpenSpec.ofChange depsDropsSpec)

/-- ITS FALSE NEIGHBOUR: 'it returns false'. Refute it at one input. -/
def depsDropsWrong : ChangeSpec := { name := "depsDrops", fn := fun _ => fun
  | [d1, d2] => { results := [.lit (.bool false)], args := [d1, d2] }
  | _ => none }
def DepsDropsWrongFalsely : Prop := depsDropsRow.holds Try.pinned (OpenSpec.ofChange depsDropsWrong)

/-- 'purlinlaw17.DepsUnions': WHATEVER THE INPUT: true; the input reads as it did. -/
def depsUnionsSpec : ChangeSpec := { name := "depsUnions", fn := fun _ => fun
  | [d1, d2, d3, d4] => { results := [.lit (.bool true)], args := [d1, d2, d3, d4] }
  | _ => none }
def depsUnionsRow : OpenClaim := { program := "ytgkmmdkagiohgaa", sum := "4e8e8a4b49aaeebba74b74636211bf93c7f7daca03460c3c138c7c6e44d6d1ab", func := "purlin/purlinlaw17.DepsUnions", spec := "depsUnions", unfollowed := true, recurses := true, apart := false }
def DepsUnionsSaid : Prop := depsUnionsRow.holds Try.pinned (OpenSpec.ofChange depsUnionsSpec)

/-- ITS FALSE NEIGHBOUR: 'it returns false'. Refute it at one input. -/
def depsUnionsWrong : ChangeSpec := { name := "depsUnions", fn := fun _ => fun
  | [d1, d2, d3, d4] => { results := [.lit (.bool false)], args := [d1, d2, d3, d4] }
  | _ => none }
def DepsUnionsWrongFalsely : Prop := depsUnionsRow.holds Try.pinned (OpenSpec.ofChange depsUnionsWrong)

/- THE SECOND FORM. 'bulk': how many values and letters a reading holds, each counted each time it is reached (what is shared counts as often as it is met; a slice's spare places count too). A statement '..UptoSaid' is the law's where the arguments, and the package variables that the reading takes, are together of bulk at most 1048576: NARROWER than '..Said'. Prove '..Said' where nothing that the law and all that it calls make is longer than what came in: it says more and counts as full. Else prove '..UptoSaid'. A law counts once. -/
mutual
def uptoBulk {H : Type} : DataW H → Nat
  | .lit (.string bytes) => bytes.length + 1
  | .lit _ => 1
  | .nil => 1
  | .ptr d => uptoBulk d + 1
  | .slice elems spare => uptoBulkAll elems + uptoBulkAll spare + 1
  | .agg parts => uptoBulkAll parts + 1
  | .iface _ d => uptoBulk d + 1
  | .map entries => uptoBulkEntries entries + 1
  | .held _ => 1
def uptoBulkAll {H : Type} : List (DataW H) → Nat
  | [] => 0
  | d :: r => uptoBulk d + uptoBulkAll r
def uptoBulkEntries {H : Type} : List (Lit × DataW H) → Nat
  | [] => 0
  | x :: r => uptoBulkEntry x + uptoBulkEntries r
def uptoBulkEntry {H : Type} : Lit × DataW H → Nat
  | (.string bytes, d) => bytes.length + uptoBulk d + 1
  | (_, d) => uptoBulk d + 1
 end
def uptoSmall : (H : Type) → List (DataW H) → Bool := fun _ ds => decide (uptoBulkAll ds ≤ 1048576)
def OpenSpec.upto (s : _root_.Go.ChangeSpec) : _root_.Go.OpenSpec := { _root_.Go.OpenSpec.ofChange s with cond := some uptoSmall }

/-- 'purlinlaw17.DepsOrder', WHERE WHAT IT READS IS OF BULK AT MOST 1048576: true; the input reads as it did. -/
def depsOrderUptoRow : OpenClaim := { program := "ytgkmmdkagiohgaa", sum := "4e8e8a4b49aaeebba74b74636211bf93c7f7daca03460c3c138c7c6e44d6d1ab", func := "purlin/purlinlaw17.DepsOrder", spec := "depsOrder", recurses := true, apart := false, narrowed := true }
def DepsOrderUptoSaid : Prop := depsOrderUptoRow.holds Try.pinned (OpenSpec.upto depsOrderSpec)

/-- 'purlinlaw17.DepsDrops', WHERE WHAT IT READS IS OF BULK AT MOST 1048576: true; the input reads as it did. -/
def depsDropsUptoRow : OpenClaim := { program := "ytgkmmdkagiohgaa", sum := "4e8e8a4b49aaeebba74b74636211bf93c7f7daca03460c3c138c7c6e44d6d1ab", func := "purlin/purlinlaw17.DepsDrops", spec := "depsDrops", unfollowed := true, recurses := true, apart := false, narrowed := true }
def DepsDropsUptoSaid : Prop := depsDropsUptoRow.holds Try.pinned (OpenSpec.upto depsDropsSpec)

/-- 'purlinlaw17.DepsUnions', WHERE WHAT IT READS IS OF BULK AT MOST 1048576: true; the input reads as it did. -/
def depsUnionsUptoRow : OpenClaim := { program := "ytgkmmdkagiohgaa", sum := "4e8e8a4b49aaeebba74b74636211bf93c7f7daca03460c3c138c7c6e44d6d1ab", func := "purlin/purlinlaw17.DepsUnions", spec := "depsUnions", unfollowed := true, recurses := true, apart := false, narrowed := true }
def DepsUnionsUptoSaid : Prop := depsUnionsUptoRow.holds Try.pinned (OpenSpec.upto depsUnionsSpec)

end Rows
end Go.Proofs.Ytgkmmdkagiohgaa
