/-
  No cell of these rows narrows 'for every input' (looked for: loops, veiled, ifaces, maps, wideKeys, modest, calm, conditions, laid).
  DERIVED. THE GIVEN ROWS OF THIS SEAT. 4 by the template 'for every input the law returns true; each argument reads behind the call as it read before'; 0 by the template 'total and deterministic' (their statements: YtdkjmpicdkfgoaaTotals.lean).
  GIVEN WITH THE SEED: the statements are not yours to turn. If you find one false, say at which input.
  Laid BY PROGRAM, IN A SANDBOX (cutbox-rows.mjs): the forced cells as the released guide's own fill.sh prints them over the translation fda99723584fe983… (all of the seat's roots in one cut). By AI agents, Wed Nov 11 2026. No macro, syntax, notation, axiom, sorry.
-/
import Derived.Test.YtdkjmpicdkfgoaaChecked
import GoSem.Claim
import GoSem.ClaimJoined
import GoSem.ClaimMapViews
import Derived.JoinedTies
import Derived.KernelRfl
namespace Go.Proofs.Ytdkjmpicdkfgoaa
/- THE CELL 'sum', in the pinned program and in every row, IS THE sha256 OF THE DUMP (.gsa) THAT YtdkjmpicdkfgoaaProg.lean LOADS. Nothing in Lean hashes anything: it is a label: what it is worth is what the hold of that sum in a sandbox is worth. -/
noncomputable def Try.pinned : Pinned := { name := "ytdkjmpicdkfgoaa", sum := "fda99723584fe9837a0fb211f40624a3092244181352a4e931d8fba51fce7fe0", checked := Try.checked }
namespace Rows
def none {H : Type} : Left H := { results := [], args := [] }

/-- 'purlinlaw16.AllocScript': WHATEVER THE INPUT: true; the input reads as it did. -/
def allocScriptSpec : ChangeSpec := { name := "allocScript", fn := fun _ => fun
  | [d1, d2] => { results := [.lit (.bool true)], args := [d1, d2] }
  | _ => none }
def allocScriptRow : OpenClaim := { program := "ytdkjmpicdkfgoaa", sum := "fda99723584fe9837a0fb211f40624a3092244181352a4e931d8fba51fce7fe0", func := "purlin/purlinlaw16.AllocScript", spec := "allocScript", inPlace := ["math.Float64frombits", "math.Float64bits"], apart := false }
def AllocScriptSaid : Prop := allocScriptRow.holds Try.pinned (OpenSpec.ofChange allocScriptSpec)

/-- ITS FALSE NEIGHBOUR: 'it returns false'. Refute it at one input. -/
def allocScriptWrong : ChangeSpec := { name := "allocScript", fn := fun _ => fun
  | [d1, d2] => { results := [.lit (.bool false)], args := [d1, d2] }
  | _ => none }
def AllocScriptWrongFalsely : Prop := allocScriptRow.holds Try.pinned (OpenSpec.ofChange allocScriptWrong)

/-- 'purlinlaw16.AllocAll': WHATEVER THE INPUT: true; the input reads as it did. -/
def allocAllSpec : ChangeSpec := { name := "allocAll", fn := fun _ => fun
  | [d1, d2, d3] => { results := [.lit (.bool true)], args := [d1, d2, d3] }
  | _ => none }
def allocAllRow : OpenClaim := { program := "ytdkjmpicdkfgoaa", sum := "fda99723584fe9837a0fb211f40624a3092244181352a4e931d8fba51fce7fe0", func := "purlin/purlinlaw16.AllocAll", spec := "allocAll", inPlace := ["math.Float64frombits", "math.Float64bits"], apart := false }
def AllocAllSaid : Prop := allocAllRow.holds Try.pinned (OpenSpec.ofChange allocAllSpec)

/-- ITS FALSE NEIGHBOUR: 'it returns false'. Refute it at one input. -/
def allocAllWrong : ChangeSpec := { name := "allocAll", fn := fun _ => fun
  | [d1, d2, d3] => { results := [.lit (.bool false)], args := [d1, d2, d3] }
  | _ => none }
def AllocAllWrongFalsely : Prop := allocAllRow.holds Try.pinned (OpenSpec.ofChange allocAllWrong)

/-- 'purlinlaw16.AllocNear': WHATEVER THE INPUT: true; the input reads as it did. -/
def allocNearSpec : ChangeSpec := { name := "allocNear", fn := fun _ => fun
  | [d1, d2, d3] => { results := [.lit (.bool true)], args := [d1, d2, d3] }
  | _ => none }
def allocNearRow : OpenClaim := { program := "ytdkjmpicdkfgoaa", sum := "fda99723584fe9837a0fb211f40624a3092244181352a4e931d8fba51fce7fe0", func := "purlin/purlinlaw16.AllocNear", spec := "allocNear", inPlace := ["math.Float64frombits", "math.Float64bits"], apart := false }
def AllocNearSaid : Prop := allocNearRow.holds Try.pinned (OpenSpec.ofChange allocNearSpec)

/-- ITS FALSE NEIGHBOUR: 'it returns false'. Refute it at one input. -/
def allocNearWrong : ChangeSpec := { name := "allocNear", fn := fun _ => fun
  | [d1, d2, d3] => { results := [.lit (.bool false)], args := [d1, d2, d3] }
  | _ => none }
def AllocNearWrongFalsely : Prop := allocNearRow.holds Try.pinned (OpenSpec.ofChange allocNearWrong)

/-- 'purlinlaw16.AllocBack': WHATEVER THE INPUT: true; the input reads as it did. -/
def allocBackSpec : ChangeSpec := { name := "allocBack", fn := fun _ => fun
  | [d1, d2, d3] => { results := [.lit (.bool true)], args := [d1, d2, d3] }
  | _ => none }
def allocBackRow : OpenClaim := { program := "ytdkjmpicdkfgoaa", sum := "fda99723584fe9837a0fb211f40624a3092244181352a4e931d8fba51fce7fe0", func := "purlin/purlinlaw16.AllocBack", spec := "allocBack", inPlace := ["math.Float64frombits", "math.Float64bits"], apart := false }
def AllocBackSaid : Prop := allocBackRow.holds Try.pinned (OpenSpec.ofChange allocBackSpec)

/-- ITS FALSE NEIGHBOUR: 'it returns false'. Refute it at one input. -/
def allocBackWrong : ChangeSpec := { name := "allocBack", fn := fun _ => fun
  | [d1, d2, d3] => { results := [.lit (.bool false)], args := [d1, d2, d3] }
  | _ => none }
def AllocBackWrongFalsely : Prop := allocBackRow.holds Try.pinned (OpenSpec.ofChange allocBackWrong)

/- THE SECOND FORM. 'bulk': how many values and letters a reading holds, each counted each time it is reached (what is shared counts as often as it is met; a slice's spare places count too). A statement '..UptoSaid' is the law's where the arguments, and the package variables that the reading takes, are together of bulk at most 1048576: NARROWER than '..Said'. Prove '..Said' where nothing that the law and all that it calls make is longer than what came in: it says more and counts as full. Else prove '..UptoSaid'. A law counts once. -/
mutual
def uptoBulk {H : Type} : DataW H → Nat
  | .lit (.string bytes) => bytes.length + 1
  | .lit _ => 1
  | .nil => 1
  | .ptr d => uptoBulk d + 1
  | .slice elems spare => uptoBulkAll elems + uptoBulkAll spare + 1
  | .agg parts => uptoBulkAll parts + 1
  | .iface _ d => uptoBulk d + 1
  | .map entries => uptoBulkEntries entries + 1
  | .held _ => 1
def uptoBulkAll {H : Type} : List (DataW H) → Nat
  | [] => 0
  | d :: r => uptoBulk d + uptoBulkAll r
def uptoBulkEntries {H : Type} : List (Lit × DataW H) → Nat
  | [] => 0
  | x :: r => uptoBulkEntry x + uptoBulkEntries r
def uptoBulkEntry {H : Type} : Lit × DataW H → Nat
  | (.string bytes, d) => bytes.length + uptoBulk d + 1
  | (_, d) => uptoBulk d + 1
 end
def uptoSmall : (H : Type) → List (DataW H) → Bool := fun _ ds => decide (uptoBulkAll ds ≤ 1048576)
def OpenSpec.upto (s : _root_.Go.ChangeSpec) : _root_.Go.OpenSpec := { _root_.Go.OpenSpec.ofChange s with cond := some uptoSmall }

/-- 'purlinlaw16.AllocScript', WHERE WHAT IT READS IS OF BULK AT MOST 1048576: true; the input reads as it did. -/
def allocScriptUptoRow : OpenClaim := { program := "ytdkjmpicdkfgoaa", sum := "fda99723584fe9837a0fb211f40624a3092244181352a4e931d8fba51fce7fe0", func := "purlin/purlinlaw16.AllocScript", spec := "allocScript", inPlace := ["math.Float64frombits", "math.Float64bits"], apart := false, narrowed := true }
def AllocScriptUptoSaid : Prop := allocScriptUptoRow.holds Try.pinned (OpenSpec.upto allocScriptSpec)

/-- 'purlinlaw16.AllocAll', WHERE WHAT IT READS IS OF BULK AT MOST 1048576: true; the input reads as it did. -/
def allocAllUptoRow : OpenClaim := { program := "ytdkjmpicdkfgoaa", sum := "fda99723584fe9837a0fb211f40624a3092244181352a4e931d8fba51fce7fe0", func := "purlin/purlinlaw16.AllocAll", spec := "allocAll", inPlace := ["math.Float64frombits", "math.Float64bits"], apart := false, narrowed := true }
def AllocAllUptoSaid : Prop := allocAllUptoRow.holds Try.pinned (OpenSpec.upto allocAllSpec)

/-- 'purlinlaw16.AllocNear', WHERE WHAT IT READS IS OF BULK AT MOST 1048576: true; the input reads as it did. -/
def allocNearUptoRow : OpenClaim := { program := "ytdkjmpicdkfgoaa", sum := "fda99723584fe9837a0fb211f40624a3092244181352a4e931d8fba51fce7fe0", func := "purlin/purlinlaw16.AllocNear", spec := "allocNear", inPlace := ["math.Float64frombits", "math.Float64bits"], apart := false, narrowed := true }
def AllocNearUptoSaid : Prop := allocNearUptoRow.holds Try.pinned (OpenSpec.upto allocNearSpec)

/-- 'purlinlaw16.AllocBack', WHERE WHAT IT READS IS OF BULK AT MOST 1048576: true; the input reads as it did. -/
def allocBackUptoRow : OpenClaim := { program := "ytdkjmpicdkfgoaa", sum := "fda99723584fe9837a0fb211f40624a3092244181352a4e931d8fba51fce7fe0", func := "purlin/purlinlaw16.AllocBack", spec := "allocBack", inPlace := ["math.Float64frombits", "math.Float64bits"], apart := false, narrowed := true }
def AllocBackUptoSaid : Prop := allocBackUptoRow.holds Try.pinned (OpenSpec.upto allocBackSpec)

end Rows
end Go.Proofs.Ytdkjmpicdkfgoaa
