/-
  No cell of these rows narrows 'for every input' (looked for: loops, veiled, ifaces, maps, wideKeys, modest, calm, conditions, laid).
  DERIVED. THE GIVEN ROWS OF THIS SEAT. 12 by the template 'for every input the law returns true; each argument reads behind the call as it read before'; 0 by the template 'total and deterministic' (their statements: YtndncmjhpbjcoaaTotals.lean).
  GIVEN WITH THE SEED: the statements are not yours to turn. If you find one false, say at which input.
  Laid BY PROGRAM, IN A SANDBOX (cutbox-rows.mjs): the forced cells as the released guide's own fill.sh prints them over the translation 349b7c1cff60c7ed… (all of the seat's roots in one cut). By AI agents, Wed Nov 11 2026. No macro, syntax, notation, axiom, sorry.
-/
import Derived.Test.YtndncmjhpbjcoaaChecked
import GoSem.Claim
import GoSem.ClaimJoined
import GoSem.ClaimMapViews
import Derived.JoinedTies
import Derived.KernelRfl
namespace Go.Proofs.Ytndncmjhpbjcoaa
/- THE CELL 'sum', in the pinned program and in every row, IS THE sha256 OF THE DUMP (.gsa) THAT YtndncmjhpbjcoaaProg.lean LOADS. Nothing in Lean hashes anything: it is a label: what it is worth is what the hold of that sum in a sandbox is worth. -/
noncomputable def Try.pinned : Pinned := { name := "ytndncmjhpbjcoaa", sum := "349b7c1cff60c7eda2169cccb4bd3062eb6551f5ac445b52798e540502db6296", checked := Try.checked }
namespace Rows
def none {H : Type} : Left H := { results := [], args := [] }

/-- 'laws.FnAbelian': WHATEVER THE INPUT: true; the input reads as it did. -/
def fnAbelianSpec : ChangeSpec := { name := "fnAbelian", fn := fun _ => fun
  | [d] => { results := [.lit (.bool true)], args := [d] }
  | _ => none }
def fnAbelianRow : OpenClaim := { program := "ytndncmjhpbjcoaa", sum := "349b7c1cff60c7eda2169cccb4bd3062eb6551f5ac445b52798e540502db6296", func := "loop.example/g00841/laws.FnAbelian", spec := "fnAbelian", unfollowed := true, recurses := true, plainKeys := false, leaving := true, apart := false }
def FnAbelianSaid : Prop := fnAbelianRow.holds Try.pinned (OpenSpec.ofChange fnAbelianSpec)

/-- ITS FALSE NEIGHBOUR: 'it returns false'. Refute it at one input. -/
def fnAbelianWrong : ChangeSpec := { name := "fnAbelian", fn := fun _ => fun
  | [d] => { results := [.lit (.bool false)], args := [d] }
  | _ => none }
def FnAbelianWrongFalsely : Prop := fnAbelianRow.holds Try.pinned (OpenSpec.ofChange fnAbelianWrong)

/-- 'laws.FnRecurrent': WHATEVER THE INPUT: true; the input reads as it did. -/
def fnRecurrentSpec : ChangeSpec := { name := "fnRecurrent", fn := fun _ => fun
  | [d] => { results := [.lit (.bool true)], args := [d] }
  | _ => none }
def fnRecurrentRow : OpenClaim := { program := "ytndncmjhpbjcoaa", sum := "349b7c1cff60c7eda2169cccb4bd3062eb6551f5ac445b52798e540502db6296", func := "loop.example/g00841/laws.FnRecurrent", spec := "fnRecurrent", unfollowed := true, recurses := true, plainKeys := false, leaving := true, apart := false }
def FnRecurrentSaid : Prop := fnRecurrentRow.holds Try.pinned (OpenSpec.ofChange fnRecurrentSpec)

/-- ITS FALSE NEIGHBOUR: 'it returns false'. Refute it at one input. -/
def fnRecurrentWrong : ChangeSpec := { name := "fnRecurrent", fn := fun _ => fun
  | [d] => { results := [.lit (.bool false)], args := [d] }
  | _ => none }
def FnRecurrentWrongFalsely : Prop := fnRecurrentRow.holds Try.pinned (OpenSpec.ofChange fnRecurrentWrong)

/-- 'laws.FnExactStabilize': WHATEVER THE INPUT: true; the input reads as it did. -/
def fnExactStabilizeSpec : ChangeSpec := { name := "fnExactStabilize", fn := fun _ => fun
  | [d1, d2, d3] => { results := [.lit (.bool true)], args := [d1, d2, d3] }
  | _ => none }
def fnExactStabilizeRow : OpenClaim := { program := "ytndncmjhpbjcoaa", sum := "349b7c1cff60c7eda2169cccb4bd3062eb6551f5ac445b52798e540502db6296", func := "loop.example/g00841/laws.FnExactStabilize", spec := "fnExactStabilize", unfollowed := true, recurses := true, plainKeys := false, leaving := true, apart := false }
def FnExactStabilizeSaid : Prop := fnExactStabilizeRow.holds Try.pinned (OpenSpec.ofChange fnExactStabilizeSpec)

/-- ITS FALSE NEIGHBOUR: 'it returns false'. Refute it at one input. -/
def fnExactStabilizeWrong : ChangeSpec := { name := "fnExactStabilize", fn := fun _ => fun
  | [d1, d2, d3] => { results := [.lit (.bool false)], args := [d1, d2, d3] }
  | _ => none }
def FnExactStabilizeWrongFalsely : Prop := fnExactStabilizeRow.holds Try.pinned (OpenSpec.ofChange fnExactStabilizeWrong)

/-- 'laws.FnExactAvalancheSize': WHATEVER THE INPUT: true; the input reads as it did. -/
def fnExactAvalancheSizeSpec : ChangeSpec := { name := "fnExactAvalancheSize", fn := fun _ => fun
  | [d1, d2, d3] => { results := [.lit (.bool true)], args := [d1, d2, d3] }
  | _ => none }
def fnExactAvalancheSizeRow : OpenClaim := { program := "ytndncmjhpbjcoaa", sum := "349b7c1cff60c7eda2169cccb4bd3062eb6551f5ac445b52798e540502db6296", func := "loop.example/g00841/laws.FnExactAvalancheSize", spec := "fnExactAvalancheSize", unfollowed := true, recurses := true, plainKeys := false, leaving := true, apart := false }
def FnExactAvalancheSizeSaid : Prop := fnExactAvalancheSizeRow.holds Try.pinned (OpenSpec.ofChange fnExactAvalancheSizeSpec)

/-- ITS FALSE NEIGHBOUR: 'it returns false'. Refute it at one input. -/
def fnExactAvalancheSizeWrong : ChangeSpec := { name := "fnExactAvalancheSize", fn := fun _ => fun
  | [d1, d2, d3] => { results := [.lit (.bool false)], args := [d1, d2, d3] }
  | _ => none }
def FnExactAvalancheSizeWrongFalsely : Prop := fnExactAvalancheSizeRow.holds Try.pinned (OpenSpec.ofChange fnExactAvalancheSizeWrong)

/-- 'laws.FnExactDropChip': WHATEVER THE INPUT: true; the input reads as it did. -/
def fnExactDropChipSpec : ChangeSpec := { name := "fnExactDropChip", fn := fun _ => fun
  | [d1, d2, d3, d4] => { results := [.lit (.bool true)], args := [d1, d2, d3, d4] }
  | _ => none }
def fnExactDropChipRow : OpenClaim := { program := "ytndncmjhpbjcoaa", sum := "349b7c1cff60c7eda2169cccb4bd3062eb6551f5ac445b52798e540502db6296", func := "loop.example/g00841/laws.FnExactDropChip", spec := "fnExactDropChip", unfollowed := true, recurses := true, plainKeys := false, leaving := true, apart := false }
def FnExactDropChipSaid : Prop := fnExactDropChipRow.holds Try.pinned (OpenSpec.ofChange fnExactDropChipSpec)

/-- ITS FALSE NEIGHBOUR: 'it returns false'. Refute it at one input. -/
def fnExactDropChipWrong : ChangeSpec := { name := "fnExactDropChip", fn := fun _ => fun
  | [d1, d2, d3, d4] => { results := [.lit (.bool false)], args := [d1, d2, d3, d4] }
  | _ => none }
def FnExactDropChipWrongFalsely : Prop := fnExactDropChipRow.holds Try.pinned (OpenSpec.ofChange fnExactDropChipWrong)

/-- 'laws.FnExactIsRecurrent': WHATEVER THE INPUT: true; the input reads as it did. -/
def fnExactIsRecurrentSpec : ChangeSpec := { name := "fnExactIsRecurrent", fn := fun _ => fun
  | [d1, d2, d3] => { results := [.lit (.bool true)], args := [d1, d2, d3] }
  | _ => none }
def fnExactIsRecurrentRow : OpenClaim := { program := "ytndncmjhpbjcoaa", sum := "349b7c1cff60c7eda2169cccb4bd3062eb6551f5ac445b52798e540502db6296", func := "loop.example/g00841/laws.FnExactIsRecurrent", spec := "fnExactIsRecurrent", unfollowed := true, recurses := true, plainKeys := false, leaving := true, apart := false }
def FnExactIsRecurrentSaid : Prop := fnExactIsRecurrentRow.holds Try.pinned (OpenSpec.ofChange fnExactIsRecurrentSpec)

/-- ITS FALSE NEIGHBOUR: 'it returns false'. Refute it at one input. -/
def fnExactIsRecurrentWrong : ChangeSpec := { name := "fnExactIsRecurrent", fn := fun _ => fun
  | [d1, d2, d3] => { results := [.lit (.bool false)], args := [d1, d2, d3] }
  | _ => none }
def FnExactIsRecurrentWrongFalsely : Prop := fnExactIsRecurrentRow.holds Try.pinned (OpenSpec.ofChange fnExactIsRecurrentWrong)

/-- 'laws.FnExactRecurrentOf': WHATEVER THE INPUT: true; the input reads as it did. -/
def fnExactRecurrentOfSpec : ChangeSpec := { name := "fnExactRecurrentOf", fn := fun _ => fun
  | [d1, d2, d3] => { results := [.lit (.bool true)], args := [d1, d2, d3] }
  | _ => none }
def fnExactRecurrentOfRow : OpenClaim := { program := "ytndncmjhpbjcoaa", sum := "349b7c1cff60c7eda2169cccb4bd3062eb6551f5ac445b52798e540502db6296", func := "loop.example/g00841/laws.FnExactRecurrentOf", spec := "fnExactRecurrentOf", unfollowed := true, recurses := true, plainKeys := false, leaving := true, apart := false }
def FnExactRecurrentOfSaid : Prop := fnExactRecurrentOfRow.holds Try.pinned (OpenSpec.ofChange fnExactRecurrentOfSpec)

/-- ITS FALSE NEIGHBOUR: 'it returns false'. Refute it at one input. -/
def fnExactRecurrentOfWrong : ChangeSpec := { name := "fnExactRecurrentOf", fn := fun _ => fun
  | [d1, d2, d3] => { results := [.lit (.bool false)], args := [d1, d2, d3] }
  | _ => none }
def FnExactRecurrentOfWrongFalsely : Prop := fnExactRecurrentOfRow.holds Try.pinned (OpenSpec.ofChange fnExactRecurrentOfWrong)

/-- 'laws.FnExactSumOfPiles': WHATEVER THE INPUT: true; the input reads as it did. -/
def fnExactSumOfPilesSpec : ChangeSpec := { name := "fnExactSumOfPiles", fn := fun _ => fun
  | [d1, d2, d3, d4] => { results := [.lit (.bool true)], args := [d1, d2, d3, d4] }
  | _ => none }
def fnExactSumOfPilesRow : OpenClaim := { program := "ytndncmjhpbjcoaa", sum := "349b7c1cff60c7eda2169cccb4bd3062eb6551f5ac445b52798e540502db6296", func := "loop.example/g00841/laws.FnExactSumOfPiles", spec := "fnExactSumOfPiles", unfollowed := true, recurses := true, plainKeys := false, leaving := true, apart := false }
def FnExactSumOfPilesSaid : Prop := fnExactSumOfPilesRow.holds Try.pinned (OpenSpec.ofChange fnExactSumOfPilesSpec)

/-- ITS FALSE NEIGHBOUR: 'it returns false'. Refute it at one input. -/
def fnExactSumOfPilesWrong : ChangeSpec := { name := "fnExactSumOfPiles", fn := fun _ => fun
  | [d1, d2, d3, d4] => { results := [.lit (.bool false)], args := [d1, d2, d3, d4] }
  | _ => none }
def FnExactSumOfPilesWrongFalsely : Prop := fnExactSumOfPilesRow.holds Try.pinned (OpenSpec.ofChange fnExactSumOfPilesWrong)

/-- 'laws.FnExactIdentityPile': WHATEVER THE INPUT: true; the input reads as it did. -/
def fnExactIdentityPileSpec : ChangeSpec := { name := "fnExactIdentityPile", fn := fun _ => fun
  | [d1, d2] => { results := [.lit (.bool true)], args := [d1, d2] }
  | _ => none }
def fnExactIdentityPileRow : OpenClaim := { program := "ytndncmjhpbjcoaa", sum := "349b7c1cff60c7eda2169cccb4bd3062eb6551f5ac445b52798e540502db6296", func := "loop.example/g00841/laws.FnExactIdentityPile", spec := "fnExactIdentityPile", unfollowed := true, recurses := true, plainKeys := false, leaving := true, apart := false }
def FnExactIdentityPileSaid : Prop := fnExactIdentityPileRow.holds Try.pinned (OpenSpec.ofChange fnExactIdentityPileSpec)

/-- ITS FALSE NEIGHBOUR: 'it returns false'. Refute it at one input. -/
def fnExactIdentityPileWrong : ChangeSpec := { name := "fnExactIdentityPile", fn := fun _ => fun
  | [d1, d2] => { results := [.lit (.bool false)], args := [d1, d2] }
  | _ => none }
def FnExactIdentityPileWrongFalsely : Prop := fnExactIdentityPileRow.holds Try.pinned (OpenSpec.ofChange fnExactIdentityPileWrong)

/-- 'laws.FnExactInversePile': WHATEVER THE INPUT: true; the input reads as it did. -/
def fnExactInversePileSpec : ChangeSpec := { name := "fnExactInversePile", fn := fun _ => fun
  | [d1, d2, d3] => { results := [.lit (.bool true)], args := [d1, d2, d3] }
  | _ => none }
def fnExactInversePileRow : OpenClaim := { program := "ytndncmjhpbjcoaa", sum := "349b7c1cff60c7eda2169cccb4bd3062eb6551f5ac445b52798e540502db6296", func := "loop.example/g00841/laws.FnExactInversePile", spec := "fnExactInversePile", unfollowed := true, recurses := true, plainKeys := false, leaving := true, apart := false }
def FnExactInversePileSaid : Prop := fnExactInversePileRow.holds Try.pinned (OpenSpec.ofChange fnExactInversePileSpec)

/-- ITS FALSE NEIGHBOUR: 'it returns false'. Refute it at one input. -/
def fnExactInversePileWrong : ChangeSpec := { name := "fnExactInversePile", fn := fun _ => fun
  | [d1, d2, d3] => { results := [.lit (.bool false)], args := [d1, d2, d3] }
  | _ => none }
def FnExactInversePileWrongFalsely : Prop := fnExactInversePileRow.holds Try.pinned (OpenSpec.ofChange fnExactInversePileWrong)

/-- 'laws.FnExactRecurrentPiles': WHATEVER THE INPUT: true; the input reads as it did. -/
def fnExactRecurrentPilesSpec : ChangeSpec := { name := "fnExactRecurrentPiles", fn := fun _ => fun
  | [d1, d2] => { results := [.lit (.bool true)], args := [d1, d2] }
  | _ => none }
def fnExactRecurrentPilesRow : OpenClaim := { program := "ytndncmjhpbjcoaa", sum := "349b7c1cff60c7eda2169cccb4bd3062eb6551f5ac445b52798e540502db6296", func := "loop.example/g00841/laws.FnExactRecurrentPiles", spec := "fnExactRecurrentPiles", unfollowed := true, recurses := true, plainKeys := false, leaving := true, apart := false }
def FnExactRecurrentPilesSaid : Prop := fnExactRecurrentPilesRow.holds Try.pinned (OpenSpec.ofChange fnExactRecurrentPilesSpec)

/-- ITS FALSE NEIGHBOUR: 'it returns false'. Refute it at one input. -/
def fnExactRecurrentPilesWrong : ChangeSpec := { name := "fnExactRecurrentPiles", fn := fun _ => fun
  | [d1, d2] => { results := [.lit (.bool false)], args := [d1, d2] }
  | _ => none }
def FnExactRecurrentPilesWrongFalsely : Prop := fnExactRecurrentPilesRow.holds Try.pinned (OpenSpec.ofChange fnExactRecurrentPilesWrong)

/-- 'laws.FnExactLevelOf': WHATEVER THE INPUT: true; the input reads as it did. -/
def fnExactLevelOfSpec : ChangeSpec := { name := "fnExactLevelOf", fn := fun _ => fun
  | [d1, d2, d3] => { results := [.lit (.bool true)], args := [d1, d2, d3] }
  | _ => none }
def fnExactLevelOfRow : OpenClaim := { program := "ytndncmjhpbjcoaa", sum := "349b7c1cff60c7eda2169cccb4bd3062eb6551f5ac445b52798e540502db6296", func := "loop.example/g00841/laws.FnExactLevelOf", spec := "fnExactLevelOf", unfollowed := true, recurses := true, plainKeys := false, leaving := true, apart := false }
def FnExactLevelOfSaid : Prop := fnExactLevelOfRow.holds Try.pinned (OpenSpec.ofChange fnExactLevelOfSpec)

/-- ITS FALSE NEIGHBOUR: 'it returns false'. Refute it at one input. -/
def fnExactLevelOfWrong : ChangeSpec := { name := "fnExactLevelOf", fn := fun _ => fun
  | [d1, d2, d3] => { results := [.lit (.bool false)], args := [d1, d2, d3] }
  | _ => none }
def FnExactLevelOfWrongFalsely : Prop := fnExactLevelOfRow.holds Try.pinned (OpenSpec.ofChange fnExactLevelOfWrong)

/- THE SECOND FORM. 'bulk': how many values and letters a reading holds, each counted each time it is reached (what is shared counts as often as it is met; a slice's spare places count too). A statement '..UptoSaid' is the law's where the arguments, and the package variables that the reading takes, are together of bulk at most 1048576: NARROWER than '..Said'. Prove '..Said' where nothing that the law and all that it calls make is longer than what came in: it says more and counts as full. Else prove '..UptoSaid'. A law counts once. -/
mutual
def uptoBulk {H : Type} : DataW H → Nat
  | .lit (.string bytes) => bytes.length + 1
  | .lit _ => 1
  | .nil => 1
  | .ptr d => uptoBulk d + 1
  | .slice elems spare => uptoBulkAll elems + uptoBulkAll spare + 1
  | .agg parts => uptoBulkAll parts + 1
  | .iface _ d => uptoBulk d + 1
  | .map entries => uptoBulkEntries entries + 1
  | .held _ => 1
def uptoBulkAll {H : Type} : List (DataW H) → Nat
  | [] => 0
  | d :: r => uptoBulk d + uptoBulkAll r
def uptoBulkEntries {H : Type} : List (Lit × DataW H) → Nat
  | [] => 0
  | x :: r => uptoBulkEntry x + uptoBulkEntries r
def uptoBulkEntry {H : Type} : Lit × DataW H → Nat
  | (.string bytes, d) => bytes.length + uptoBulk d + 1
  | (_, d) => uptoBulk d + 1
 end
def uptoSmall : (H : Type) → List (DataW H) → Bool := fun _ ds => decide (uptoBulkAll ds ≤ 1048576)
def OpenSpec.upto (s : _root_.Go.ChangeSpec) : _root_.Go.OpenSpec := { _root_.Go.OpenSpec.ofChange s with cond := some uptoSmall }

/-- 'laws.FnAbelian', WHERE WHAT IT READS IS OF BULK AT MOST 1048576: true; the input reads as it did. -/
def fnAbelianUptoRow : OpenClaim := { program := "ytndncmjhpbjcoaa", sum := "349b7c1cff60c7eda2169cccb4bd3062eb6551f5ac445b52798e540502db6296", func := "loop.example/g00841/laws.FnAbelian", spec := "fnAbelian", unfollowed := true, recurses := true, plainKeys := false, leaving := true, apart := false, narrowed := true }
def FnAbelianUptoSaid : Prop := fnAbelianUptoRow.holds Try.pinned (OpenSpec.upto fnAbelianSpec)

/-- 'laws.FnRecurrent', WHERE WHAT IT READS IS OF BULK AT MOST 1048576: true; the input reads as it did. -/
def fnRecurrentUptoRow : OpenClaim := { program := "ytndncmjhpbjcoaa", sum := "349b7c1cff60c7eda2169cccb4bd3062eb6551f5ac445b52798e540502db6296", func := "loop.example/g00841/laws.FnRecurrent", spec := "fnRecurrent", unfollowed := true, recurses := true, plainKeys := false, leaving := true, apart := false, narrowed := true }
def FnRecurrentUptoSaid : Prop := fnRecurrentUptoRow.holds Try.pinned (OpenSpec.upto fnRecurrentSpec)

/-- 'laws.FnExactStabilize', WHERE WHAT IT READS IS OF BULK AT MOST 1048576: true; the input reads as it did. -/
def fnExactStabilizeUptoRow : OpenClaim := { program := "ytndncmjhpbjcoaa", sum := "349b7c1cff60c7eda2169cccb4bd3062eb6551f5ac445b52798e540502db6296", func := "loop.example/g00841/laws.FnExactStabilize", spec := "fnExactStabilize", unfollowed := true, recurses := true, plainKeys := false, leaving := true, apart := false, narrowed := true }
def FnExactStabilizeUptoSaid : Prop := fnExactStabilizeUptoRow.holds Try.pinned (OpenSpec.upto fnExactStabilizeSpec)

/-- 'laws.FnExactAvalancheSize', WHERE WHAT IT READS IS OF BULK AT MOST 1048576: true; the input reads as it did. -/
def fnExactAvalancheSizeUptoRow : OpenClaim := { program := "ytndncmjhpbjcoaa", sum := "349b7c1cff60c7eda2169cccb4bd3062eb6551f5ac445b52798e540502db6296", func := "loop.example/g00841/laws.FnExactAvalancheSize", spec := "fnExactAvalancheSize", unfollowed := true, recurses := true, plainKeys := false, leaving := true, apart := false, narrowed := true }
def FnExactAvalancheSizeUptoSaid : Prop := fnExactAvalancheSizeUptoRow.holds Try.pinned (OpenSpec.upto fnExactAvalancheSizeSpec)

/-- 'laws.FnExactDropChip', WHERE WHAT IT READS IS OF BULK AT MOST 1048576: true; the input reads as it did. -/
def fnExactDropChipUptoRow : OpenClaim := { program := "ytndncmjhpbjcoaa", sum := "349b7c1cff60c7eda2169cccb4bd3062eb6551f5ac445b52798e540502db6296", func := "loop.example/g00841/laws.FnExactDropChip", spec := "fnExactDropChip", unfollowed := true, recurses := true, plainKeys := false, leaving := true, apart := false, narrowed := true }
def FnExactDropChipUptoSaid : Prop := fnExactDropChipUptoRow.holds Try.pinned (OpenSpec.upto fnExactDropChipSpec)

/-- 'laws.FnExactIsRecurrent', WHERE WHAT IT READS IS OF BULK AT MOST 1048576: true; the input reads as it did. -/
def fnExactIsRecurrentUptoRow : OpenClaim := { program := "ytndncmjhpbjcoaa", sum := "349b7c1cff60c7eda2169cccb4bd3062eb6551f5ac445b52798e540502db6296", func := "loop.example/g00841/laws.FnExactIsRecurrent", spec := "fnExactIsRecurrent", unfollowed := true, recurses := true, plainKeys := false, leaving := true, apart := false, narrowed := true }
def FnExactIsRecurrentUptoSaid : Prop := fnExactIsRecurrentUptoRow.holds Try.pinned (OpenSpec.upto fnExactIsRecurrentSpec)

/-- 'laws.FnExactRecurrentOf', WHERE WHAT IT READS IS OF BULK AT MOST 1048576: true; the input reads as it did. -/
def fnExactRecurrentOfUptoRow : OpenClaim := { program := "ytndncmjhpbjcoaa", sum := "349b7c1cff60c7eda2169cccb4bd3062eb6551f5ac445b52798e540502db6296", func := "loop.example/g00841/laws.FnExactRecurrentOf", spec := "fnExactRecurrentOf", unfollowed := true, recurses := true, plainKeys := false, leaving := true, apart := false, narrowed := true }
def FnExactRecurrentOfUptoSaid : Prop := fnExactRecurrentOfUptoRow.holds Try.pinned (OpenSpec.upto fnExactRecurrentOfSpec)

/-- 'laws.FnExactSumOfPiles', WHERE WHAT IT READS IS OF BULK AT MOST 1048576: true; the input reads as it did. -/
def fnExactSumOfPilesUptoRow : OpenClaim := { program := "ytndncmjhpbjcoaa", sum := "349b7c1cff60c7eda2169cccb4bd3062eb6551f5ac445b52798e540502db6296", func := "loop.example/g00841/laws.FnExactSumOfPiles", spec := "fnExactSumOfPiles", unfollowed := true, recurses := true, plainKeys := false, leaving := true, apart := false, narrowed := true }
def FnExactSumOfPilesUptoSaid : Prop := fnExactSumOfPilesUptoRow.holds Try.pinned (OpenSpec.upto fnExactSumOfPilesSpec)

/-- 'laws.FnExactIdentityPile', WHERE WHAT IT READS IS OF BULK AT MOST 1048576: true; the input reads as it did. -/
def fnExactIdentityPileUptoRow : OpenClaim := { program := "ytndncmjhpbjcoaa", sum := "349b7c1cff60c7eda2169cccb4bd3062eb6551f5ac445b52798e540502db6296", func := "loop.example/g00841/laws.FnExactIdentityPile", spec := "fnExactIdentityPile", unfollowed := true, recurses := true, plainKeys := false, leaving := true, apart := false, narrowed := true }
def FnExactIdentityPileUptoSaid : Prop := fnExactIdentityPileUptoRow.holds Try.pinned (OpenSpec.upto fnExactIdentityPileSpec)

/-- 'laws.FnExactInversePile', WHERE WHAT IT READS IS OF BULK AT MOST 1048576: true; the input reads as it did. -/
def fnExactInversePileUptoRow : OpenClaim := { program := "ytndncmjhpbjcoaa", sum := "349b7c1cff60c7eda2169cccb4bd3062eb6551f5ac445b52798e540502db6296", func := "loop.example/g00841/laws.FnExactInversePile", spec := "fnExactInversePile", unfollowed := true, recurses := true, plainKeys := false, leaving := true, apart := false, narrowed := true }
def FnExactInversePileUptoSaid : Prop := fnExactInversePileUptoRow.holds Try.pinned (OpenSpec.upto fnExactInversePileSpec)

/-- 'laws.FnExactRecurrentPiles', WHERE WHAT IT READS IS OF BULK AT MOST 1048576: true; the input reads as it did. -/
def fnExactRecurrentPilesUptoRow : OpenClaim := { program := "ytndncmjhpbjcoaa", sum := "349b7c1cff60c7eda2169cccb4bd3062eb6551f5ac445b52798e540502db6296", func := "loop.example/g00841/laws.FnExactRecurrentPiles", spec := "fnExactRecurrentPiles", unfollowed := true, recurses := true, plainKeys := false, leaving := true, apart := false, narrowed := true }
def FnExactRecurrentPilesUptoSaid : Prop := fnExactRecurrentPilesUptoRow.holds Try.pinned (OpenSpec.upto fnExactRecurrentPilesSpec)

/-- 'laws.FnExactLevelOf', WHERE WHAT IT READS IS OF BULK AT MOST 1048576: true; the input reads as it did. -/
def fnExactLevelOfUptoRow : OpenClaim := { program := "ytndncmjhpbjcoaa", sum := "349b7c1cff60c7eda2169cccb4bd3062eb6551f5ac445b52798e540502db6296", func := "loop.example/g00841/laws.FnExactLevelOf", spec := "fnExactLevelOf", unfollowed := true, recurses := true, plainKeys := false, leaving := true, apart := false, narrowed := true }
def FnExactLevelOfUptoSaid : Prop := fnExactLevelOfUptoRow.holds Try.pinned (OpenSpec.upto fnExactLevelOfSpec)

end Rows
end Go.Proofs.Ytndncmjhpbjcoaa
