/-
  No cell of these rows narrows 'for every input' (looked for: loops, veiled, ifaces, maps, wideKeys, modest, calm, conditions, laid).
  DERIVED. THE GIVEN ROWS OF THIS SEAT. 9 by the template 'for every input the law returns true; each argument reads behind the call as it read before'; 0 by the template 'total and deterministic' (their statements: YthdpfmgljnmafaaTotals.lean).
  GIVEN WITH THE SEED: the statements are not yours to turn. If you find one false, say at which input.
  Laid BY PROGRAM, IN A SANDBOX (cutbox-rows.mjs): the forced cells as the released guide's own fill.sh prints them over the translation dcf91b54fedbf800… (all of the seat's roots in one cut). By AI agents, Wed Nov 11 2026. No macro, syntax, notation, axiom, sorry.
-/
import Derived.Test.YthdpfmgljnmafaaChecked
import GoSem.Claim
import GoSem.ClaimJoined
import GoSem.ClaimMapViews
import Derived.JoinedTies
import Derived.KernelRfl
namespace Go.Proofs.Ythdpfmgljnmafaa
/- THE CELL 'sum', in the pinned program and in every row, IS THE sha256 OF THE DUMP (.gsa) THAT YthdpfmgljnmafaaProg.lean LOADS. Nothing in Lean hashes anything: it is a label: what it is worth is what the hold of that sum in a sandbox is worth. -/
noncomputable def Try.pinned : Pinned := { name := "ythdpfmgljnmafaa", sum := "dcf91b54fedbf800280f673153d882e3d8df70cc4335a5a4ea55a8e00b2da8f0", checked := Try.checked }
namespace Rows
def none {H : Type} : Left H := { results := [], args := [] }

/-- 'laws.FnGraphs': WHATEVER THE INPUT: true; the input reads as it did. -/
def fnGraphsSpec : ChangeSpec := { name := "fnGraphs", fn := fun _ => fun
  | [d] => { results := [.lit (.bool true)], args := [d] }
  | _ => none }
def fnGraphsRow : OpenClaim := { program := "ythdpfmgljnmafaa", sum := "dcf91b54fedbf800280f673153d882e3d8df70cc4335a5a4ea55a8e00b2da8f0", func := "loop.example/g00841/laws.FnGraphs", spec := "fnGraphs", inPlace := ["slices.overlaps[loop.example/g00841/impl.Edge]"], unfollowed := true, recurses := true, plainKeys := false, apart := false }
def FnGraphsSaid : Prop := fnGraphsRow.holds Try.pinned (OpenSpec.ofChange fnGraphsSpec)

/-- ITS FALSE NEIGHBOUR: 'it returns false'. Refute it at one input. -/
def fnGraphsWrong : ChangeSpec := { name := "fnGraphs", fn := fun _ => fun
  | [d] => { results := [.lit (.bool false)], args := [d] }
  | _ => none }
def FnGraphsWrongFalsely : Prop := fnGraphsRow.holds Try.pinned (OpenSpec.ofChange fnGraphsWrong)

/-- 'laws.FnExactSplitAny': WHATEVER THE INPUT: true; the input reads as it did. -/
def fnExactSplitAnySpec : ChangeSpec := { name := "fnExactSplitAny", fn := fun _ => fun
  | [d1, d2] => { results := [.lit (.bool true)], args := [d1, d2] }
  | _ => none }
def fnExactSplitAnyRow : OpenClaim := { program := "ythdpfmgljnmafaa", sum := "dcf91b54fedbf800280f673153d882e3d8df70cc4335a5a4ea55a8e00b2da8f0", func := "loop.example/g00841/laws.FnExactSplitAny", spec := "fnExactSplitAny", plainKeys := false, apart := false }
def FnExactSplitAnySaid : Prop := fnExactSplitAnyRow.holds Try.pinned (OpenSpec.ofChange fnExactSplitAnySpec)

/-- ITS FALSE NEIGHBOUR: 'it returns false'. Refute it at one input. -/
def fnExactSplitAnyWrong : ChangeSpec := { name := "fnExactSplitAny", fn := fun _ => fun
  | [d1, d2] => { results := [.lit (.bool false)], args := [d1, d2] }
  | _ => none }
def FnExactSplitAnyWrongFalsely : Prop := fnExactSplitAnyRow.holds Try.pinned (OpenSpec.ofChange fnExactSplitAnyWrong)

/-- 'laws.FnExactSplitLines': WHATEVER THE INPUT: true; the input reads as it did. -/
def fnExactSplitLinesSpec : ChangeSpec := { name := "fnExactSplitLines", fn := fun _ => fun
  | [d] => { results := [.lit (.bool true)], args := [d] }
  | _ => none }
def fnExactSplitLinesRow : OpenClaim := { program := "ythdpfmgljnmafaa", sum := "dcf91b54fedbf800280f673153d882e3d8df70cc4335a5a4ea55a8e00b2da8f0", func := "loop.example/g00841/laws.FnExactSplitLines", spec := "fnExactSplitLines", plainKeys := false, apart := false }
def FnExactSplitLinesSaid : Prop := fnExactSplitLinesRow.holds Try.pinned (OpenSpec.ofChange fnExactSplitLinesSpec)

/-- ITS FALSE NEIGHBOUR: 'it returns false'. Refute it at one input. -/
def fnExactSplitLinesWrong : ChangeSpec := { name := "fnExactSplitLines", fn := fun _ => fun
  | [d] => { results := [.lit (.bool false)], args := [d] }
  | _ => none }
def FnExactSplitLinesWrongFalsely : Prop := fnExactSplitLinesRow.holds Try.pinned (OpenSpec.ofChange fnExactSplitLinesWrong)

/-- 'laws.FnExactJoin': WHATEVER THE INPUT: true; the input reads as it did. -/
def fnExactJoinSpec : ChangeSpec := { name := "fnExactJoin", fn := fun _ => fun
  | [d1, d2] => { results := [.lit (.bool true)], args := [d1, d2] }
  | _ => none }
def fnExactJoinRow : OpenClaim := { program := "ythdpfmgljnmafaa", sum := "dcf91b54fedbf800280f673153d882e3d8df70cc4335a5a4ea55a8e00b2da8f0", func := "loop.example/g00841/laws.FnExactJoin", spec := "fnExactJoin", inPlace := ["internal/abi.NoEscape", "internal/bytealg.MakeNoZero"], plainKeys := false, apart := false }
def FnExactJoinSaid : Prop := fnExactJoinRow.holds Try.pinned (OpenSpec.ofChange fnExactJoinSpec)

/-- ITS FALSE NEIGHBOUR: 'it returns false'. Refute it at one input. -/
def fnExactJoinWrong : ChangeSpec := { name := "fnExactJoin", fn := fun _ => fun
  | [d1, d2] => { results := [.lit (.bool false)], args := [d1, d2] }
  | _ => none }
def FnExactJoinWrongFalsely : Prop := fnExactJoinRow.holds Try.pinned (OpenSpec.ofChange fnExactJoinWrong)

/-- 'laws.FnExactPadZeros': WHATEVER THE INPUT: true; the input reads as it did. -/
def fnExactPadZerosSpec : ChangeSpec := { name := "fnExactPadZeros", fn := fun _ => fun
  | [d1, d2] => { results := [.lit (.bool true)], args := [d1, d2] }
  | _ => none }
def fnExactPadZerosRow : OpenClaim := { program := "ythdpfmgljnmafaa", sum := "dcf91b54fedbf800280f673153d882e3d8df70cc4335a5a4ea55a8e00b2da8f0", func := "loop.example/g00841/laws.FnExactPadZeros", spec := "fnExactPadZeros", inPlace := ["internal/abi.NoEscape", "internal/bytealg.MakeNoZero"], plainKeys := false, apart := false }
def FnExactPadZerosSaid : Prop := fnExactPadZerosRow.holds Try.pinned (OpenSpec.ofChange fnExactPadZerosSpec)

/-- ITS FALSE NEIGHBOUR: 'it returns false'. Refute it at one input. -/
def fnExactPadZerosWrong : ChangeSpec := { name := "fnExactPadZeros", fn := fun _ => fun
  | [d1, d2] => { results := [.lit (.bool false)], args := [d1, d2] }
  | _ => none }
def FnExactPadZerosWrongFalsely : Prop := fnExactPadZerosRow.holds Try.pinned (OpenSpec.ofChange fnExactPadZerosWrong)

/-- 'laws.FnExactEdgesOk': WHATEVER THE INPUT: true; the input reads as it did. -/
def fnExactEdgesOkSpec : ChangeSpec := { name := "fnExactEdgesOk", fn := fun _ => fun
  | [d] => { results := [.lit (.bool true)], args := [d] }
  | _ => none }
def fnExactEdgesOkRow : OpenClaim := { program := "ythdpfmgljnmafaa", sum := "dcf91b54fedbf800280f673153d882e3d8df70cc4335a5a4ea55a8e00b2da8f0", func := "loop.example/g00841/laws.FnExactEdgesOk", spec := "fnExactEdgesOk", plainKeys := false, apart := false }
def FnExactEdgesOkSaid : Prop := fnExactEdgesOkRow.holds Try.pinned (OpenSpec.ofChange fnExactEdgesOkSpec)

/-- ITS FALSE NEIGHBOUR: 'it returns false'. Refute it at one input. -/
def fnExactEdgesOkWrong : ChangeSpec := { name := "fnExactEdgesOk", fn := fun _ => fun
  | [d] => { results := [.lit (.bool false)], args := [d] }
  | _ => none }
def FnExactEdgesOkWrongFalsely : Prop := fnExactEdgesOkRow.holds Try.pinned (OpenSpec.ofChange fnExactEdgesOkWrong)

/-- 'laws.FnExactGraphOk': WHATEVER THE INPUT: true; the input reads as it did. -/
def fnExactGraphOkSpec : ChangeSpec := { name := "fnExactGraphOk", fn := fun _ => fun
  | [d] => { results := [.lit (.bool true)], args := [d] }
  | _ => none }
def fnExactGraphOkRow : OpenClaim := { program := "ythdpfmgljnmafaa", sum := "dcf91b54fedbf800280f673153d882e3d8df70cc4335a5a4ea55a8e00b2da8f0", func := "loop.example/g00841/laws.FnExactGraphOk", spec := "fnExactGraphOk", unfollowed := true, recurses := true, plainKeys := false, apart := false }
def FnExactGraphOkSaid : Prop := fnExactGraphOkRow.holds Try.pinned (OpenSpec.ofChange fnExactGraphOkSpec)

/-- ITS FALSE NEIGHBOUR: 'it returns false'. Refute it at one input. -/
def fnExactGraphOkWrong : ChangeSpec := { name := "fnExactGraphOk", fn := fun _ => fun
  | [d] => { results := [.lit (.bool false)], args := [d] }
  | _ => none }
def FnExactGraphOkWrongFalsely : Prop := fnExactGraphOkRow.holds Try.pinned (OpenSpec.ofChange fnExactGraphOkWrong)

/-- 'laws.FnExactMultiplicity': WHATEVER THE INPUT: true; the input reads as it did. -/
def fnExactMultiplicitySpec : ChangeSpec := { name := "fnExactMultiplicity", fn := fun _ => fun
  | [d1, d2, d3] => { results := [.lit (.bool true)], args := [d1, d2, d3] }
  | _ => none }
def fnExactMultiplicityRow : OpenClaim := { program := "ythdpfmgljnmafaa", sum := "dcf91b54fedbf800280f673153d882e3d8df70cc4335a5a4ea55a8e00b2da8f0", func := "loop.example/g00841/laws.FnExactMultiplicity", spec := "fnExactMultiplicity", plainKeys := false, apart := false }
def FnExactMultiplicitySaid : Prop := fnExactMultiplicityRow.holds Try.pinned (OpenSpec.ofChange fnExactMultiplicitySpec)

/-- ITS FALSE NEIGHBOUR: 'it returns false'. Refute it at one input. -/
def fnExactMultiplicityWrong : ChangeSpec := { name := "fnExactMultiplicity", fn := fun _ => fun
  | [d1, d2, d3] => { results := [.lit (.bool false)], args := [d1, d2, d3] }
  | _ => none }
def FnExactMultiplicityWrongFalsely : Prop := fnExactMultiplicityRow.holds Try.pinned (OpenSpec.ofChange fnExactMultiplicityWrong)

/-- 'laws.FnExactValence': WHATEVER THE INPUT: true; the input reads as it did. -/
def fnExactValenceSpec : ChangeSpec := { name := "fnExactValence", fn := fun _ => fun
  | [d1, d2] => { results := [.lit (.bool true)], args := [d1, d2] }
  | _ => none }
def fnExactValenceRow : OpenClaim := { program := "ythdpfmgljnmafaa", sum := "dcf91b54fedbf800280f673153d882e3d8df70cc4335a5a4ea55a8e00b2da8f0", func := "loop.example/g00841/laws.FnExactValence", spec := "fnExactValence", plainKeys := false, apart := false }
def FnExactValenceSaid : Prop := fnExactValenceRow.holds Try.pinned (OpenSpec.ofChange fnExactValenceSpec)

/-- ITS FALSE NEIGHBOUR: 'it returns false'. Refute it at one input. -/
def fnExactValenceWrong : ChangeSpec := { name := "fnExactValence", fn := fun _ => fun
  | [d1, d2] => { results := [.lit (.bool false)], args := [d1, d2] }
  | _ => none }
def FnExactValenceWrongFalsely : Prop := fnExactValenceRow.holds Try.pinned (OpenSpec.ofChange fnExactValenceWrong)

/- THE SECOND FORM. 'bulk': how many values and letters a reading holds, each counted each time it is reached (what is shared counts as often as it is met; a slice's spare places count too). A statement '..UptoSaid' is the law's where the arguments, and the package variables that the reading takes, are together of bulk at most 1048576: NARROWER than '..Said'. Prove '..Said' where nothing that the law and all that it calls make is longer than what came in: it says more and counts as full. Else prove '..UptoSaid'. A law counts once. -/
mutual
def uptoBulk {H : Type} : DataW H → Nat
  | .lit (.string bytes) => bytes.length + 1
  | .lit _ => 1
  | .nil => 1
  | .ptr d => uptoBulk d + 1
  | .slice elems spare => uptoBulkAll elems + uptoBulkAll spare + 1
  | .agg parts => uptoBulkAll parts + 1
  | .iface _ d => uptoBulk d + 1
  | .map entries => uptoBulkEntries entries + 1
  | .held _ => 1
def uptoBulkAll {H : Type} : List (DataW H) → Nat
  | [] => 0
  | d :: r => uptoBulk d + uptoBulkAll r
def uptoBulkEntries {H : Type} : List (Lit × DataW H) → Nat
  | [] => 0
  | x :: r => uptoBulkEntry x + uptoBulkEntries r
def uptoBulkEntry {H : Type} : Lit × DataW H → Nat
  | (.string bytes, d) => bytes.length + uptoBulk d + 1
  | (_, d) => uptoBulk d + 1
 end
def uptoSmall : (H : Type) → List (DataW H) → Bool := fun _ ds => decide (uptoBulkAll ds ≤ 1048576)
def OpenSpec.upto (s : _root_.Go.ChangeSpec) : _root_.Go.OpenSpec := { _root_.Go.OpenSpec.ofChange s with cond := some uptoSmall }

/-- 'laws.FnGraphs', WHERE WHAT IT READS IS OF BULK AT MOST 1048576: true; the input reads as it did. -/
def fnGraphsUptoRow : OpenClaim := { program := "ythdpfmgljnmafaa", sum := "dcf91b54fedbf800280f673153d882e3d8df70cc4335a5a4ea55a8e00b2da8f0", func := "loop.example/g00841/laws.FnGraphs", spec := "fnGraphs", inPlace := ["slices.overlaps[loop.example/g00841/impl.Edge]"], unfollowed := true, recurses := true, plainKeys := false, apart := false, narrowed := true }
def FnGraphsUptoSaid : Prop := fnGraphsUptoRow.holds Try.pinned (OpenSpec.upto fnGraphsSpec)

/-- 'laws.FnExactSplitAny', WHERE WHAT IT READS IS OF BULK AT MOST 1048576: true; the input reads as it did. -/
def fnExactSplitAnyUptoRow : OpenClaim := { program := "ythdpfmgljnmafaa", sum := "dcf91b54fedbf800280f673153d882e3d8df70cc4335a5a4ea55a8e00b2da8f0", func := "loop.example/g00841/laws.FnExactSplitAny", spec := "fnExactSplitAny", plainKeys := false, apart := false, narrowed := true }
def FnExactSplitAnyUptoSaid : Prop := fnExactSplitAnyUptoRow.holds Try.pinned (OpenSpec.upto fnExactSplitAnySpec)

/-- 'laws.FnExactSplitLines', WHERE WHAT IT READS IS OF BULK AT MOST 1048576: true; the input reads as it did. -/
def fnExactSplitLinesUptoRow : OpenClaim := { program := "ythdpfmgljnmafaa", sum := "dcf91b54fedbf800280f673153d882e3d8df70cc4335a5a4ea55a8e00b2da8f0", func := "loop.example/g00841/laws.FnExactSplitLines", spec := "fnExactSplitLines", plainKeys := false, apart := false, narrowed := true }
def FnExactSplitLinesUptoSaid : Prop := fnExactSplitLinesUptoRow.holds Try.pinned (OpenSpec.upto fnExactSplitLinesSpec)

/-- 'laws.FnExactJoin', WHERE WHAT IT READS IS OF BULK AT MOST 1048576: true; the input reads as it did. -/
def fnExactJoinUptoRow : OpenClaim := { program := "ythdpfmgljnmafaa", sum := "dcf91b54fedbf800280f673153d882e3d8df70cc4335a5a4ea55a8e00b2da8f0", func := "loop.example/g00841/laws.FnExactJoin", spec := "fnExactJoin", inPlace := ["internal/abi.NoEscape", "internal/bytealg.MakeNoZero"], plainKeys := false, apart := false, narrowed := true }
def FnExactJoinUptoSaid : Prop := fnExactJoinUptoRow.holds Try.pinned (OpenSpec.upto fnExactJoinSpec)

/-- 'laws.FnExactPadZeros', WHERE WHAT IT READS IS OF BULK AT MOST 1048576: true; the input reads as it did. -/
def fnExactPadZerosUptoRow : OpenClaim := { program := "ythdpfmgljnmafaa", sum := "dcf91b54fedbf800280f673153d882e3d8df70cc4335a5a4ea55a8e00b2da8f0", func := "loop.example/g00841/laws.FnExactPadZeros", spec := "fnExactPadZeros", inPlace := ["internal/abi.NoEscape", "internal/bytealg.MakeNoZero"], plainKeys := false, apart := false, narrowed := true }
def FnExactPadZerosUptoSaid : Prop := fnExactPadZerosUptoRow.holds Try.pinned (OpenSpec.upto fnExactPadZerosSpec)

/-- 'laws.FnExactEdgesOk', WHERE WHAT IT READS IS OF BULK AT MOST 1048576: true; the input reads as it did. -/
def fnExactEdgesOkUptoRow : OpenClaim := { program := "ythdpfmgljnmafaa", sum := "dcf91b54fedbf800280f673153d882e3d8df70cc4335a5a4ea55a8e00b2da8f0", func := "loop.example/g00841/laws.FnExactEdgesOk", spec := "fnExactEdgesOk", plainKeys := false, apart := false, narrowed := true }
def FnExactEdgesOkUptoSaid : Prop := fnExactEdgesOkUptoRow.holds Try.pinned (OpenSpec.upto fnExactEdgesOkSpec)

/-- 'laws.FnExactGraphOk', WHERE WHAT IT READS IS OF BULK AT MOST 1048576: true; the input reads as it did. -/
def fnExactGraphOkUptoRow : OpenClaim := { program := "ythdpfmgljnmafaa", sum := "dcf91b54fedbf800280f673153d882e3d8df70cc4335a5a4ea55a8e00b2da8f0", func := "loop.example/g00841/laws.FnExactGraphOk", spec := "fnExactGraphOk", unfollowed := true, recurses := true, plainKeys := false, apart := false, narrowed := true }
def FnExactGraphOkUptoSaid : Prop := fnExactGraphOkUptoRow.holds Try.pinned (OpenSpec.upto fnExactGraphOkSpec)

/-- 'laws.FnExactMultiplicity', WHERE WHAT IT READS IS OF BULK AT MOST 1048576: true; the input reads as it did. -/
def fnExactMultiplicityUptoRow : OpenClaim := { program := "ythdpfmgljnmafaa", sum := "dcf91b54fedbf800280f673153d882e3d8df70cc4335a5a4ea55a8e00b2da8f0", func := "loop.example/g00841/laws.FnExactMultiplicity", spec := "fnExactMultiplicity", plainKeys := false, apart := false, narrowed := true }
def FnExactMultiplicityUptoSaid : Prop := fnExactMultiplicityUptoRow.holds Try.pinned (OpenSpec.upto fnExactMultiplicitySpec)

/-- 'laws.FnExactValence', WHERE WHAT IT READS IS OF BULK AT MOST 1048576: true; the input reads as it did. -/
def fnExactValenceUptoRow : OpenClaim := { program := "ythdpfmgljnmafaa", sum := "dcf91b54fedbf800280f673153d882e3d8df70cc4335a5a4ea55a8e00b2da8f0", func := "loop.example/g00841/laws.FnExactValence", spec := "fnExactValence", plainKeys := false, apart := false, narrowed := true }
def FnExactValenceUptoSaid : Prop := fnExactValenceUptoRow.holds Try.pinned (OpenSpec.upto fnExactValenceSpec)

end Rows
end Go.Proofs.Ythdpfmgljnmafaa
