/-
  No cell of these rows narrows 'for every input' (looked for: loops, veiled, ifaces, maps, wideKeys, modest, calm, conditions, laid).
  DERIVED. THE GIVEN ROWS OF THIS SEAT. 8 by the template 'for every input the law returns true; each argument reads behind the call as it read before'; 0 by the template 'total and deterministic' (their statements: YtbmihbbpdmpmpaaTotals.lean).
  GIVEN WITH THE SEED: the statements are not yours to turn. If you find one false, say at which input.
  Laid BY PROGRAM, IN A SANDBOX (cutbox-rows.mjs): the forced cells as the released guide's own fill.sh prints them over the translation cfeef81c45936dfc… (all of the seat's roots in one cut). By AI agents, Wed Nov 11 2026. No macro, syntax, notation, axiom, sorry.
-/
import Derived.Test.YtbmihbbpdmpmpaaChecked
import GoSem.Claim
import GoSem.ClaimJoined
import GoSem.ClaimMapViews
import Derived.JoinedTies
import Derived.KernelRfl
namespace Go.Proofs.Ytbmihbbpdmpmpaa
/- THE CELL 'sum', in the pinned program and in every row, IS THE sha256 OF THE DUMP (.gsa) THAT YtbmihbbpdmpmpaaProg.lean LOADS. Nothing in Lean hashes anything: it is a label: what it is worth is what the hold of that sum in a sandbox is worth. -/
noncomputable def Try.pinned : Pinned := { name := "ytbmihbbpdmpmpaa", sum := "cfeef81c45936dfc9af7fe259d74a0cf4bb6bafc1abe2736b4c040f4d59fef05", checked := Try.checked }
namespace Rows
def none {H : Type} : Left H := { results := [], args := [] }

/-- 'laws.FnExactReducedLaplacian': WHATEVER THE INPUT: true; the input reads as it did. -/
def fnExactReducedLaplacianSpec : ChangeSpec := { name := "fnExactReducedLaplacian", fn := fun _ => fun
  | [d1, d2] => { results := [.lit (.bool true)], args := [d1, d2] }
  | _ => none }
def fnExactReducedLaplacianRow : OpenClaim := { program := "ytbmihbbpdmpmpaa", sum := "cfeef81c45936dfc9af7fe259d74a0cf4bb6bafc1abe2736b4c040f4d59fef05", func := "loop.example/g00841/laws.FnExactReducedLaplacian", spec := "fnExactReducedLaplacian", unfollowed := true, recurses := true, plainKeys := false, apart := false }
def FnExactReducedLaplacianSaid : Prop := fnExactReducedLaplacianRow.holds Try.pinned (OpenSpec.ofChange fnExactReducedLaplacianSpec)

/-- ITS FALSE NEIGHBOUR: 'it returns false'. Refute it at one input. -/
def fnExactReducedLaplacianWrong : ChangeSpec := { name := "fnExactReducedLaplacian", fn := fun _ => fun
  | [d1, d2] => { results := [.lit (.bool false)], args := [d1, d2] }
  | _ => none }
def FnExactReducedLaplacianWrongFalsely : Prop := fnExactReducedLaplacianRow.holds Try.pinned (OpenSpec.ofChange fnExactReducedLaplacianWrong)

/-- 'laws.FnExactCountTrees': WHATEVER THE INPUT: true; the input reads as it did. -/
def fnExactCountTreesSpec : ChangeSpec := { name := "fnExactCountTrees", fn := fun _ => fun
  | [d] => { results := [.lit (.bool true)], args := [d] }
  | _ => none }
def fnExactCountTreesRow : OpenClaim := { program := "ytbmihbbpdmpmpaa", sum := "cfeef81c45936dfc9af7fe259d74a0cf4bb6bafc1abe2736b4c040f4d59fef05", func := "loop.example/g00841/laws.FnExactCountTrees", spec := "fnExactCountTrees", unfollowed := true, recurses := true, plainKeys := false, apart := false }
def FnExactCountTreesSaid : Prop := fnExactCountTreesRow.holds Try.pinned (OpenSpec.ofChange fnExactCountTreesSpec)

/-- ITS FALSE NEIGHBOUR: 'it returns false'. Refute it at one input. -/
def fnExactCountTreesWrong : ChangeSpec := { name := "fnExactCountTrees", fn := fun _ => fun
  | [d] => { results := [.lit (.bool false)], args := [d] }
  | _ => none }
def FnExactCountTreesWrongFalsely : Prop := fnExactCountTreesRow.holds Try.pinned (OpenSpec.ofChange fnExactCountTreesWrong)

/-- 'laws.FnExactAddEdge': WHATEVER THE INPUT: true; the input reads as it did. -/
def fnExactAddEdgeSpec : ChangeSpec := { name := "fnExactAddEdge", fn := fun _ => fun
  | [d1, d2, d3] => { results := [.lit (.bool true)], args := [d1, d2, d3] }
  | _ => none }
def fnExactAddEdgeRow : OpenClaim := { program := "ytbmihbbpdmpmpaa", sum := "cfeef81c45936dfc9af7fe259d74a0cf4bb6bafc1abe2736b4c040f4d59fef05", func := "loop.example/g00841/laws.FnExactAddEdge", spec := "fnExactAddEdge", inPlace := ["slices.overlaps[loop.example/g00841/impl.Edge]"], unfollowed := true, recurses := true, plainKeys := false, apart := false }
def FnExactAddEdgeSaid : Prop := fnExactAddEdgeRow.holds Try.pinned (OpenSpec.ofChange fnExactAddEdgeSpec)

/-- ITS FALSE NEIGHBOUR: 'it returns false'. Refute it at one input. -/
def fnExactAddEdgeWrong : ChangeSpec := { name := "fnExactAddEdge", fn := fun _ => fun
  | [d1, d2, d3] => { results := [.lit (.bool false)], args := [d1, d2, d3] }
  | _ => none }
def FnExactAddEdgeWrongFalsely : Prop := fnExactAddEdgeRow.holds Try.pinned (OpenSpec.ofChange fnExactAddEdgeWrong)

/-- 'laws.FnExactDropEdge': WHATEVER THE INPUT: true; the input reads as it did. -/
def fnExactDropEdgeSpec : ChangeSpec := { name := "fnExactDropEdge", fn := fun _ => fun
  | [d1, d2] => { results := [.lit (.bool true)], args := [d1, d2] }
  | _ => none }
def fnExactDropEdgeRow : OpenClaim := { program := "ytbmihbbpdmpmpaa", sum := "cfeef81c45936dfc9af7fe259d74a0cf4bb6bafc1abe2736b4c040f4d59fef05", func := "loop.example/g00841/laws.FnExactDropEdge", spec := "fnExactDropEdge", unfollowed := true, recurses := true, plainKeys := false, apart := false }
def FnExactDropEdgeSaid : Prop := fnExactDropEdgeRow.holds Try.pinned (OpenSpec.ofChange fnExactDropEdgeSpec)

/-- ITS FALSE NEIGHBOUR: 'it returns false'. Refute it at one input. -/
def fnExactDropEdgeWrong : ChangeSpec := { name := "fnExactDropEdge", fn := fun _ => fun
  | [d1, d2] => { results := [.lit (.bool false)], args := [d1, d2] }
  | _ => none }
def FnExactDropEdgeWrongFalsely : Prop := fnExactDropEdgeRow.holds Try.pinned (OpenSpec.ofChange fnExactDropEdgeWrong)

/-- 'laws.FnExactInvariantFactors': WHATEVER THE INPUT: true; the input reads as it did. -/
def fnExactInvariantFactorsSpec : ChangeSpec := { name := "fnExactInvariantFactors", fn := fun _ => fun
  | [d] => { results := [.lit (.bool true)], args := [d] }
  | _ => none }
def fnExactInvariantFactorsRow : OpenClaim := { program := "ytbmihbbpdmpmpaa", sum := "cfeef81c45936dfc9af7fe259d74a0cf4bb6bafc1abe2736b4c040f4d59fef05", func := "loop.example/g00841/laws.FnExactInvariantFactors", spec := "fnExactInvariantFactors", unfollowed := true, recurses := true, plainKeys := false, apart := false }
def FnExactInvariantFactorsSaid : Prop := fnExactInvariantFactorsRow.holds Try.pinned (OpenSpec.ofChange fnExactInvariantFactorsSpec)

/-- ITS FALSE NEIGHBOUR: 'it returns false'. Refute it at one input. -/
def fnExactInvariantFactorsWrong : ChangeSpec := { name := "fnExactInvariantFactors", fn := fun _ => fun
  | [d] => { results := [.lit (.bool false)], args := [d] }
  | _ => none }
def FnExactInvariantFactorsWrongFalsely : Prop := fnExactInvariantFactorsRow.holds Try.pinned (OpenSpec.ofChange fnExactInvariantFactorsWrong)

/-- 'laws.FnExactSplitAny': WHATEVER THE INPUT: true; the input reads as it did. -/
def fnExactSplitAnySpec : ChangeSpec := { name := "fnExactSplitAny", fn := fun _ => fun
  | [d1, d2] => { results := [.lit (.bool true)], args := [d1, d2] }
  | _ => none }
def fnExactSplitAnyRow : OpenClaim := { program := "ytbmihbbpdmpmpaa", sum := "cfeef81c45936dfc9af7fe259d74a0cf4bb6bafc1abe2736b4c040f4d59fef05", func := "loop.example/g00841/laws.FnExactSplitAny", spec := "fnExactSplitAny", plainKeys := false, apart := false }
def FnExactSplitAnySaid : Prop := fnExactSplitAnyRow.holds Try.pinned (OpenSpec.ofChange fnExactSplitAnySpec)

/-- ITS FALSE NEIGHBOUR: 'it returns false'. Refute it at one input. -/
def fnExactSplitAnyWrong : ChangeSpec := { name := "fnExactSplitAny", fn := fun _ => fun
  | [d1, d2] => { results := [.lit (.bool false)], args := [d1, d2] }
  | _ => none }
def FnExactSplitAnyWrongFalsely : Prop := fnExactSplitAnyRow.holds Try.pinned (OpenSpec.ofChange fnExactSplitAnyWrong)

/-- 'laws.FnExactSplitLines': WHATEVER THE INPUT: true; the input reads as it did. -/
def fnExactSplitLinesSpec : ChangeSpec := { name := "fnExactSplitLines", fn := fun _ => fun
  | [d] => { results := [.lit (.bool true)], args := [d] }
  | _ => none }
def fnExactSplitLinesRow : OpenClaim := { program := "ytbmihbbpdmpmpaa", sum := "cfeef81c45936dfc9af7fe259d74a0cf4bb6bafc1abe2736b4c040f4d59fef05", func := "loop.example/g00841/laws.FnExactSplitLines", spec := "fnExactSplitLines", plainKeys := false, apart := false }
def FnExactSplitLinesSaid : Prop := fnExactSplitLinesRow.holds Try.pinned (OpenSpec.ofChange fnExactSplitLinesSpec)

/-- ITS FALSE NEIGHBOUR: 'it returns false'. Refute it at one input. -/
def fnExactSplitLinesWrong : ChangeSpec := { name := "fnExactSplitLines", fn := fun _ => fun
  | [d] => { results := [.lit (.bool false)], args := [d] }
  | _ => none }
def FnExactSplitLinesWrongFalsely : Prop := fnExactSplitLinesRow.holds Try.pinned (OpenSpec.ofChange fnExactSplitLinesWrong)

/-- 'laws.FnGraphs': WHATEVER THE INPUT: true; the input reads as it did. -/
def fnGraphsSpec : ChangeSpec := { name := "fnGraphs", fn := fun _ => fun
  | [d] => { results := [.lit (.bool true)], args := [d] }
  | _ => none }
def fnGraphsRow : OpenClaim := { program := "ytbmihbbpdmpmpaa", sum := "cfeef81c45936dfc9af7fe259d74a0cf4bb6bafc1abe2736b4c040f4d59fef05", func := "loop.example/g00841/laws.FnGraphs", spec := "fnGraphs", inPlace := ["slices.overlaps[loop.example/g00841/impl.Edge]"], unfollowed := true, recurses := true, plainKeys := false, apart := false }
def FnGraphsSaid : Prop := fnGraphsRow.holds Try.pinned (OpenSpec.ofChange fnGraphsSpec)

/-- ITS FALSE NEIGHBOUR: 'it returns false'. Refute it at one input. -/
def fnGraphsWrong : ChangeSpec := { name := "fnGraphs", fn := fun _ => fun
  | [d] => { results := [.lit (.bool false)], args := [d] }
  | _ => none }
def FnGraphsWrongFalsely : Prop := fnGraphsRow.holds Try.pinned (OpenSpec.ofChange fnGraphsWrong)

/- THE SECOND FORM. 'bulk': how many values and letters a reading holds, each counted each time it is reached (what is shared counts as often as it is met; a slice's spare places count too). A statement '..UptoSaid' is the law's where the arguments, and the package variables that the reading takes, are together of bulk at most 1048576: NARROWER than '..Said'. Prove '..Said' where nothing that the law and all that it calls make is longer than what came in: it says more and counts as full. Else prove '..UptoSaid'. A law counts once. -/
mutual
def uptoBulk {H : Type} : DataW H → Nat
  | .lit (.string bytes) => bytes.length + 1
  | .lit _ => 1
  | .nil => 1
  | .ptr d => uptoBulk d + 1
  | .slice elems spare => uptoBulkAll elems + uptoBulkAll spare + 1
  | .agg parts => uptoBulkAll parts + 1
  | .iface _ d => uptoBulk d + 1
  | .map entries => uptoBulkEntries entries + 1
  | .held _ => 1
def uptoBulkAll {H : Type} : List (DataW H) → Nat
  | [] => 0
  | d :: r => uptoBulk d + uptoBulkAll r
def uptoBulkEntries {H : Type} : List (Lit × DataW H) → Nat
  | [] => 0
  | x :: r => uptoBulkEntry x + uptoBulkEntries r
def uptoBulkEntry {H : Type} : Lit × DataW H → Nat
  | (.string bytes, d) => bytes.length + uptoBulk d + 1
  | (_, d) => uptoBulk d + 1
 end
def uptoSmall : (H : Type) → List (DataW H) → Bool := fun _ ds => decide (uptoBulkAll ds ≤ 1048576)
def OpenSpec.upto (s : _root_.Go.ChangeSpec) : _root_.Go.OpenSpec := { _root_.Go.OpenSpec.ofChange s with cond := some uptoSmall }

/-- 'laws.FnExactReducedLaplacian', WHERE WHAT IT READS IS OF BULK AT MOST 1048576: true; the input reads as it did. -/
def fnExactReducedLaplacianUptoRow : OpenClaim := { program := "ytbmihbbpdmpmpaa", sum := "cfeef81c45936dfc9af7fe259d74a0cf4bb6bafc1abe2736b4c040f4d59fef05", func := "loop.example/g00841/laws.FnExactReducedLaplacian", spec := "fnExactReducedLaplacian", unfollowed := true, recurses := true, plainKeys := false, apart := false, narrowed := true }
def FnExactReducedLaplacianUptoSaid : Prop := fnExactReducedLaplacianUptoRow.holds Try.pinned (OpenSpec.upto fnExactReducedLaplacianSpec)

/-- 'laws.FnExactCountTrees', WHERE WHAT IT READS IS OF BULK AT MOST 1048576: true; the input reads as it did. -/
def fnExactCountTreesUptoRow : OpenClaim := { program := "ytbmihbbpdmpmpaa", sum := "cfeef81c45936dfc9af7fe259d74a0cf4bb6bafc1abe2736b4c040f4d59fef05", func := "loop.example/g00841/laws.FnExactCountTrees", spec := "fnExactCountTrees", unfollowed := true, recurses := true, plainKeys := false, apart := false, narrowed := true }
def FnExactCountTreesUptoSaid : Prop := fnExactCountTreesUptoRow.holds Try.pinned (OpenSpec.upto fnExactCountTreesSpec)

/-- 'laws.FnExactAddEdge', WHERE WHAT IT READS IS OF BULK AT MOST 1048576: true; the input reads as it did. -/
def fnExactAddEdgeUptoRow : OpenClaim := { program := "ytbmihbbpdmpmpaa", sum := "cfeef81c45936dfc9af7fe259d74a0cf4bb6bafc1abe2736b4c040f4d59fef05", func := "loop.example/g00841/laws.FnExactAddEdge", spec := "fnExactAddEdge", inPlace := ["slices.overlaps[loop.example/g00841/impl.Edge]"], unfollowed := true, recurses := true, plainKeys := false, apart := false, narrowed := true }
def FnExactAddEdgeUptoSaid : Prop := fnExactAddEdgeUptoRow.holds Try.pinned (OpenSpec.upto fnExactAddEdgeSpec)

/-- 'laws.FnExactDropEdge', WHERE WHAT IT READS IS OF BULK AT MOST 1048576: true; the input reads as it did. -/
def fnExactDropEdgeUptoRow : OpenClaim := { program := "ytbmihbbpdmpmpaa", sum := "cfeef81c45936dfc9af7fe259d74a0cf4bb6bafc1abe2736b4c040f4d59fef05", func := "loop.example/g00841/laws.FnExactDropEdge", spec := "fnExactDropEdge", unfollowed := true, recurses := true, plainKeys := false, apart := false, narrowed := true }
def FnExactDropEdgeUptoSaid : Prop := fnExactDropEdgeUptoRow.holds Try.pinned (OpenSpec.upto fnExactDropEdgeSpec)

/-- 'laws.FnExactInvariantFactors', WHERE WHAT IT READS IS OF BULK AT MOST 1048576: true; the input reads as it did. -/
def fnExactInvariantFactorsUptoRow : OpenClaim := { program := "ytbmihbbpdmpmpaa", sum := "cfeef81c45936dfc9af7fe259d74a0cf4bb6bafc1abe2736b4c040f4d59fef05", func := "loop.example/g00841/laws.FnExactInvariantFactors", spec := "fnExactInvariantFactors", unfollowed := true, recurses := true, plainKeys := false, apart := false, narrowed := true }
def FnExactInvariantFactorsUptoSaid : Prop := fnExactInvariantFactorsUptoRow.holds Try.pinned (OpenSpec.upto fnExactInvariantFactorsSpec)

/-- 'laws.FnExactSplitAny', WHERE WHAT IT READS IS OF BULK AT MOST 1048576: true; the input reads as it did. -/
def fnExactSplitAnyUptoRow : OpenClaim := { program := "ytbmihbbpdmpmpaa", sum := "cfeef81c45936dfc9af7fe259d74a0cf4bb6bafc1abe2736b4c040f4d59fef05", func := "loop.example/g00841/laws.FnExactSplitAny", spec := "fnExactSplitAny", plainKeys := false, apart := false, narrowed := true }
def FnExactSplitAnyUptoSaid : Prop := fnExactSplitAnyUptoRow.holds Try.pinned (OpenSpec.upto fnExactSplitAnySpec)

/-- 'laws.FnExactSplitLines', WHERE WHAT IT READS IS OF BULK AT MOST 1048576: true; the input reads as it did. -/
def fnExactSplitLinesUptoRow : OpenClaim := { program := "ytbmihbbpdmpmpaa", sum := "cfeef81c45936dfc9af7fe259d74a0cf4bb6bafc1abe2736b4c040f4d59fef05", func := "loop.example/g00841/laws.FnExactSplitLines", spec := "fnExactSplitLines", plainKeys := false, apart := false, narrowed := true }
def FnExactSplitLinesUptoSaid : Prop := fnExactSplitLinesUptoRow.holds Try.pinned (OpenSpec.upto fnExactSplitLinesSpec)

/-- 'laws.FnGraphs', WHERE WHAT IT READS IS OF BULK AT MOST 1048576: true; the input reads as it did. -/
def fnGraphsUptoRow : OpenClaim := { program := "ytbmihbbpdmpmpaa", sum := "cfeef81c45936dfc9af7fe259d74a0cf4bb6bafc1abe2736b4c040f4d59fef05", func := "loop.example/g00841/laws.FnGraphs", spec := "fnGraphs", inPlace := ["slices.overlaps[loop.example/g00841/impl.Edge]"], unfollowed := true, recurses := true, plainKeys := false, apart := false, narrowed := true }
def FnGraphsUptoSaid : Prop := fnGraphsUptoRow.holds Try.pinned (OpenSpec.upto fnGraphsSpec)

end Rows
end Go.Proofs.Ytbmihbbpdmpmpaa
