/-
  No cell of these rows narrows 'for every input' (looked for: loops, veiled, ifaces, maps, wideKeys, modest, calm, conditions, laid).
  DERIVED. THE GIVEN ROWS OF THIS SEAT. 10 by the template 'for every input the law returns true; each argument reads behind the call as it read before'; 0 by the template 'total and deterministic' (their statements: YtbojbifpaecbcaaTotals.lean).
  GIVEN WITH THE SEED: the statements are not yours to turn. If you find one false, say at which input.
  Laid BY PROGRAM, IN A SANDBOX (cutbox-rows.mjs): the forced cells as the released guide's own fill.sh prints them over the translation ba4cf65ec84a3e5b… (all of the seat's roots in one cut). By AI agents, Wed Nov 11 2026. No macro, syntax, notation, axiom, sorry.
-/
import Derived.Test.YtbojbifpaecbcaaChecked
import GoSem.Claim
import GoSem.ClaimJoined
import GoSem.ClaimMapViews
import Derived.JoinedTies
import Derived.KernelRfl
namespace Go.Proofs.Ytbojbifpaecbcaa
/- THE CELL 'sum', in the pinned program and in every row, IS THE sha256 OF THE DUMP (.gsa) THAT YtbojbifpaecbcaaProg.lean LOADS. Nothing in Lean hashes anything: it is a label: what it is worth is what the hold of that sum in a sandbox is worth. -/
noncomputable def Try.pinned : Pinned := { name := "ytbojbifpaecbcaa", sum := "ba4cf65ec84a3e5b3f1d4b46bfd5980c540d5bb15987653a3a9765597329c380", checked := Try.checked }
namespace Rows
def none {H : Type} : Left H := { results := [], args := [] }

/-- 'laws.FnGraphs': WHATEVER THE INPUT: true; the input reads as it did. -/
def fnGraphsSpec : ChangeSpec := { name := "fnGraphs", fn := fun _ => fun
  | [d] => { results := [.lit (.bool true)], args := [d] }
  | _ => none }
def fnGraphsRow : OpenClaim := { program := "ytbojbifpaecbcaa", sum := "ba4cf65ec84a3e5b3f1d4b46bfd5980c540d5bb15987653a3a9765597329c380", func := "loop.example/g00841/laws.FnGraphs", spec := "fnGraphs", inPlace := ["slices.overlaps[loop.example/g00841/impl.Edge]"], unfollowed := true, recurses := true, plainKeys := false, apart := false }
def FnGraphsSaid : Prop := fnGraphsRow.holds Try.pinned (OpenSpec.ofChange fnGraphsSpec)

/-- ITS FALSE NEIGHBOUR: 'it returns false'. Refute it at one input. -/
def fnGraphsWrong : ChangeSpec := { name := "fnGraphs", fn := fun _ => fun
  | [d] => { results := [.lit (.bool false)], args := [d] }
  | _ => none }
def FnGraphsWrongFalsely : Prop := fnGraphsRow.holds Try.pinned (OpenSpec.ofChange fnGraphsWrong)

/-- 'laws.FnReduced': WHATEVER THE INPUT: true; the input reads as it did. -/
def fnReducedSpec : ChangeSpec := { name := "fnReduced", fn := fun _ => fun
  | [d] => { results := [.lit (.bool true)], args := [d] }
  | _ => none }
def fnReducedRow : OpenClaim := { program := "ytbojbifpaecbcaa", sum := "ba4cf65ec84a3e5b3f1d4b46bfd5980c540d5bb15987653a3a9765597329c380", func := "loop.example/g00841/laws.FnReduced", spec := "fnReduced", unfollowed := true, recurses := true, plainKeys := false, apart := false }
def FnReducedSaid : Prop := fnReducedRow.holds Try.pinned (OpenSpec.ofChange fnReducedSpec)

/-- ITS FALSE NEIGHBOUR: 'it returns false'. Refute it at one input. -/
def fnReducedWrong : ChangeSpec := { name := "fnReduced", fn := fun _ => fun
  | [d] => { results := [.lit (.bool false)], args := [d] }
  | _ => none }
def FnReducedWrongFalsely : Prop := fnReducedRow.holds Try.pinned (OpenSpec.ofChange fnReducedWrong)

/-- 'laws.FnLegal': WHATEVER THE INPUT: true; the input reads as it did. -/
def fnLegalSpec : ChangeSpec := { name := "fnLegal", fn := fun _ => fun
  | [d] => { results := [.lit (.bool true)], args := [d] }
  | _ => none }
def fnLegalRow : OpenClaim := { program := "ytbojbifpaecbcaa", sum := "ba4cf65ec84a3e5b3f1d4b46bfd5980c540d5bb15987653a3a9765597329c380", func := "loop.example/g00841/laws.FnLegal", spec := "fnLegal", unfollowed := true, recurses := true, plainKeys := false, apart := false }
def FnLegalSaid : Prop := fnLegalRow.holds Try.pinned (OpenSpec.ofChange fnLegalSpec)

/-- ITS FALSE NEIGHBOUR: 'it returns false'. Refute it at one input. -/
def fnLegalWrong : ChangeSpec := { name := "fnLegal", fn := fun _ => fun
  | [d] => { results := [.lit (.bool false)], args := [d] }
  | _ => none }
def FnLegalWrongFalsely : Prop := fnLegalRow.holds Try.pinned (OpenSpec.ofChange fnLegalWrong)

/-- 'laws.FnExactAddEdge': WHATEVER THE INPUT: true; the input reads as it did. -/
def fnExactAddEdgeSpec : ChangeSpec := { name := "fnExactAddEdge", fn := fun _ => fun
  | [d1, d2, d3] => { results := [.lit (.bool true)], args := [d1, d2, d3] }
  | _ => none }
def fnExactAddEdgeRow : OpenClaim := { program := "ytbojbifpaecbcaa", sum := "ba4cf65ec84a3e5b3f1d4b46bfd5980c540d5bb15987653a3a9765597329c380", func := "loop.example/g00841/laws.FnExactAddEdge", spec := "fnExactAddEdge", inPlace := ["slices.overlaps[loop.example/g00841/impl.Edge]"], unfollowed := true, recurses := true, plainKeys := false, apart := false }
def FnExactAddEdgeSaid : Prop := fnExactAddEdgeRow.holds Try.pinned (OpenSpec.ofChange fnExactAddEdgeSpec)

/-- ITS FALSE NEIGHBOUR: 'it returns false'. Refute it at one input. -/
def fnExactAddEdgeWrong : ChangeSpec := { name := "fnExactAddEdge", fn := fun _ => fun
  | [d1, d2, d3] => { results := [.lit (.bool false)], args := [d1, d2, d3] }
  | _ => none }
def FnExactAddEdgeWrongFalsely : Prop := fnExactAddEdgeRow.holds Try.pinned (OpenSpec.ofChange fnExactAddEdgeWrong)

/-- 'laws.FnExactBurnFrom': WHATEVER THE INPUT: true; the input reads as it did. -/
def fnExactBurnFromSpec : ChangeSpec := { name := "fnExactBurnFrom", fn := fun _ => fun
  | [d1, d2, d3] => { results := [.lit (.bool true)], args := [d1, d2, d3] }
  | _ => none }
def fnExactBurnFromRow : OpenClaim := { program := "ytbojbifpaecbcaa", sum := "ba4cf65ec84a3e5b3f1d4b46bfd5980c540d5bb15987653a3a9765597329c380", func := "loop.example/g00841/laws.FnExactBurnFrom", spec := "fnExactBurnFrom", unfollowed := true, recurses := true, plainKeys := false, apart := false }
def FnExactBurnFromSaid : Prop := fnExactBurnFromRow.holds Try.pinned (OpenSpec.ofChange fnExactBurnFromSpec)

/-- ITS FALSE NEIGHBOUR: 'it returns false'. Refute it at one input. -/
def fnExactBurnFromWrong : ChangeSpec := { name := "fnExactBurnFrom", fn := fun _ => fun
  | [d1, d2, d3] => { results := [.lit (.bool false)], args := [d1, d2, d3] }
  | _ => none }
def FnExactBurnFromWrongFalsely : Prop := fnExactBurnFromRow.holds Try.pinned (OpenSpec.ofChange fnExactBurnFromWrong)

/-- 'laws.FnExactIsReduced': WHATEVER THE INPUT: true; the input reads as it did. -/
def fnExactIsReducedSpec : ChangeSpec := { name := "fnExactIsReduced", fn := fun _ => fun
  | [d1, d2, d3] => { results := [.lit (.bool true)], args := [d1, d2, d3] }
  | _ => none }
def fnExactIsReducedRow : OpenClaim := { program := "ytbojbifpaecbcaa", sum := "ba4cf65ec84a3e5b3f1d4b46bfd5980c540d5bb15987653a3a9765597329c380", func := "loop.example/g00841/laws.FnExactIsReduced", spec := "fnExactIsReduced", unfollowed := true, recurses := true, plainKeys := false, apart := false }
def FnExactIsReducedSaid : Prop := fnExactIsReducedRow.holds Try.pinned (OpenSpec.ofChange fnExactIsReducedSpec)

/-- ITS FALSE NEIGHBOUR: 'it returns false'. Refute it at one input. -/
def fnExactIsReducedWrong : ChangeSpec := { name := "fnExactIsReduced", fn := fun _ => fun
  | [d1, d2, d3] => { results := [.lit (.bool false)], args := [d1, d2, d3] }
  | _ => none }
def FnExactIsReducedWrongFalsely : Prop := fnExactIsReducedRow.holds Try.pinned (OpenSpec.ofChange fnExactIsReducedWrong)

/-- 'laws.FnExactReducedOf': WHATEVER THE INPUT: true; the input reads as it did. -/
def fnExactReducedOfSpec : ChangeSpec := { name := "fnExactReducedOf", fn := fun _ => fun
  | [d1, d2, d3] => { results := [.lit (.bool true)], args := [d1, d2, d3] }
  | _ => none }
def fnExactReducedOfRow : OpenClaim := { program := "ytbojbifpaecbcaa", sum := "ba4cf65ec84a3e5b3f1d4b46bfd5980c540d5bb15987653a3a9765597329c380", func := "loop.example/g00841/laws.FnExactReducedOf", spec := "fnExactReducedOf", unfollowed := true, recurses := true, plainKeys := false, apart := false }
def FnExactReducedOfSaid : Prop := fnExactReducedOfRow.holds Try.pinned (OpenSpec.ofChange fnExactReducedOfSpec)

/-- ITS FALSE NEIGHBOUR: 'it returns false'. Refute it at one input. -/
def fnExactReducedOfWrong : ChangeSpec := { name := "fnExactReducedOf", fn := fun _ => fun
  | [d1, d2, d3] => { results := [.lit (.bool false)], args := [d1, d2, d3] }
  | _ => none }
def FnExactReducedOfWrongFalsely : Prop := fnExactReducedOfRow.holds Try.pinned (OpenSpec.ofChange fnExactReducedOfWrong)

/-- 'laws.FnExactReducingScript': WHATEVER THE INPUT: true; the input reads as it did. -/
def fnExactReducingScriptSpec : ChangeSpec := { name := "fnExactReducingScript", fn := fun _ => fun
  | [d1, d2, d3] => { results := [.lit (.bool true)], args := [d1, d2, d3] }
  | _ => none }
def fnExactReducingScriptRow : OpenClaim := { program := "ytbojbifpaecbcaa", sum := "ba4cf65ec84a3e5b3f1d4b46bfd5980c540d5bb15987653a3a9765597329c380", func := "loop.example/g00841/laws.FnExactReducingScript", spec := "fnExactReducingScript", unfollowed := true, recurses := true, plainKeys := false, apart := false }
def FnExactReducingScriptSaid : Prop := fnExactReducingScriptRow.holds Try.pinned (OpenSpec.ofChange fnExactReducingScriptSpec)

/-- ITS FALSE NEIGHBOUR: 'it returns false'. Refute it at one input. -/
def fnExactReducingScriptWrong : ChangeSpec := { name := "fnExactReducingScript", fn := fun _ => fun
  | [d1, d2, d3] => { results := [.lit (.bool false)], args := [d1, d2, d3] }
  | _ => none }
def FnExactReducingScriptWrongFalsely : Prop := fnExactReducingScriptRow.holds Try.pinned (OpenSpec.ofChange fnExactReducingScriptWrong)

/-- 'laws.FnExactMostLegalSet': WHATEVER THE INPUT: true; the input reads as it did. -/
def fnExactMostLegalSetSpec : ChangeSpec := { name := "fnExactMostLegalSet", fn := fun _ => fun
  | [d1, d2, d3] => { results := [.lit (.bool true)], args := [d1, d2, d3] }
  | _ => none }
def fnExactMostLegalSetRow : OpenClaim := { program := "ytbojbifpaecbcaa", sum := "ba4cf65ec84a3e5b3f1d4b46bfd5980c540d5bb15987653a3a9765597329c380", func := "loop.example/g00841/laws.FnExactMostLegalSet", spec := "fnExactMostLegalSet", unfollowed := true, recurses := true, plainKeys := false, apart := false }
def FnExactMostLegalSetSaid : Prop := fnExactMostLegalSetRow.holds Try.pinned (OpenSpec.ofChange fnExactMostLegalSetSpec)

/-- ITS FALSE NEIGHBOUR: 'it returns false'. Refute it at one input. -/
def fnExactMostLegalSetWrong : ChangeSpec := { name := "fnExactMostLegalSet", fn := fun _ => fun
  | [d1, d2, d3] => { results := [.lit (.bool false)], args := [d1, d2, d3] }
  | _ => none }
def FnExactMostLegalSetWrongFalsely : Prop := fnExactMostLegalSetRow.holds Try.pinned (OpenSpec.ofChange fnExactMostLegalSetWrong)

/-- 'laws.FnExactChipsAt': WHATEVER THE INPUT: true; the input reads as it did. -/
def fnExactChipsAtSpec : ChangeSpec := { name := "fnExactChipsAt", fn := fun _ => fun
  | [d1, d2, d3] => { results := [.lit (.bool true)], args := [d1, d2, d3] }
  | _ => none }
def fnExactChipsAtRow : OpenClaim := { program := "ytbojbifpaecbcaa", sum := "ba4cf65ec84a3e5b3f1d4b46bfd5980c540d5bb15987653a3a9765597329c380", func := "loop.example/g00841/laws.FnExactChipsAt", spec := "fnExactChipsAt", unfollowed := true, recurses := true, plainKeys := false, apart := false }
def FnExactChipsAtSaid : Prop := fnExactChipsAtRow.holds Try.pinned (OpenSpec.ofChange fnExactChipsAtSpec)

/-- ITS FALSE NEIGHBOUR: 'it returns false'. Refute it at one input. -/
def fnExactChipsAtWrong : ChangeSpec := { name := "fnExactChipsAt", fn := fun _ => fun
  | [d1, d2, d3] => { results := [.lit (.bool false)], args := [d1, d2, d3] }
  | _ => none }
def FnExactChipsAtWrongFalsely : Prop := fnExactChipsAtRow.holds Try.pinned (OpenSpec.ofChange fnExactChipsAtWrong)

/- THE SECOND FORM. 'bulk': how many values and letters a reading holds, each counted each time it is reached (what is shared counts as often as it is met; a slice's spare places count too). A statement '..UptoSaid' is the law's where the arguments, and the package variables that the reading takes, are together of bulk at most 1048576: NARROWER than '..Said'. Prove '..Said' where nothing that the law and all that it calls make is longer than what came in: it says more and counts as full. Else prove '..UptoSaid'. A law counts once. -/
mutual
def uptoBulk {H : Type} : DataW H → Nat
  | .lit (.string bytes) => bytes.length + 1
  | .lit _ => 1
  | .nil => 1
  | .ptr d => uptoBulk d + 1
  | .slice elems spare => uptoBulkAll elems + uptoBulkAll spare + 1
  | .agg parts => uptoBulkAll parts + 1
  | .iface _ d => uptoBulk d + 1
  | .map entries => uptoBulkEntries entries + 1
  | .held _ => 1
def uptoBulkAll {H : Type} : List (DataW H) → Nat
  | [] => 0
  | d :: r => uptoBulk d + uptoBulkAll r
def uptoBulkEntries {H : Type} : List (Lit × DataW H) → Nat
  | [] => 0
  | x :: r => uptoBulkEntry x + uptoBulkEntries r
def uptoBulkEntry {H : Type} : Lit × DataW H → Nat
  | (.string bytes, d) => bytes.length + uptoBulk d + 1
  | (_, d) => uptoBulk d + 1
 end
def uptoSmall : (H : Type) → List (DataW H) → Bool := fun _ ds => decide (uptoBulkAll ds ≤ 1048576)
def OpenSpec.upto (s : _root_.Go.ChangeSpec) : _root_.Go.OpenSpec := { _root_.Go.OpenSpec.ofChange s with cond := some uptoSmall }

/-- 'laws.FnGraphs', WHERE WHAT IT READS IS OF BULK AT MOST 1048576: true; the input reads as it did. -/
def fnGraphsUptoRow : OpenClaim := { program := "ytbojbifpaecbcaa", sum := "ba4cf65ec84a3e5b3f1d4b46bfd5980c540d5bb15987653a3a9765597329c380", func := "loop.example/g00841/laws.FnGraphs", spec := "fnGraphs", inPlace := ["slices.overlaps[loop.example/g00841/impl.Edge]"], unfollowed := true, recurses := true, plainKeys := false, apart := false, narrowed := true }
def FnGraphsUptoSaid : Prop := fnGraphsUptoRow.holds Try.pinned (OpenSpec.upto fnGraphsSpec)

/-- 'laws.FnReduced', WHERE WHAT IT READS IS OF BULK AT MOST 1048576: true; the input reads as it did. -/
def fnReducedUptoRow : OpenClaim := { program := "ytbojbifpaecbcaa", sum := "ba4cf65ec84a3e5b3f1d4b46bfd5980c540d5bb15987653a3a9765597329c380", func := "loop.example/g00841/laws.FnReduced", spec := "fnReduced", unfollowed := true, recurses := true, plainKeys := false, apart := false, narrowed := true }
def FnReducedUptoSaid : Prop := fnReducedUptoRow.holds Try.pinned (OpenSpec.upto fnReducedSpec)

/-- 'laws.FnLegal', WHERE WHAT IT READS IS OF BULK AT MOST 1048576: true; the input reads as it did. -/
def fnLegalUptoRow : OpenClaim := { program := "ytbojbifpaecbcaa", sum := "ba4cf65ec84a3e5b3f1d4b46bfd5980c540d5bb15987653a3a9765597329c380", func := "loop.example/g00841/laws.FnLegal", spec := "fnLegal", unfollowed := true, recurses := true, plainKeys := false, apart := false, narrowed := true }
def FnLegalUptoSaid : Prop := fnLegalUptoRow.holds Try.pinned (OpenSpec.upto fnLegalSpec)

/-- 'laws.FnExactAddEdge', WHERE WHAT IT READS IS OF BULK AT MOST 1048576: true; the input reads as it did. -/
def fnExactAddEdgeUptoRow : OpenClaim := { program := "ytbojbifpaecbcaa", sum := "ba4cf65ec84a3e5b3f1d4b46bfd5980c540d5bb15987653a3a9765597329c380", func := "loop.example/g00841/laws.FnExactAddEdge", spec := "fnExactAddEdge", inPlace := ["slices.overlaps[loop.example/g00841/impl.Edge]"], unfollowed := true, recurses := true, plainKeys := false, apart := false, narrowed := true }
def FnExactAddEdgeUptoSaid : Prop := fnExactAddEdgeUptoRow.holds Try.pinned (OpenSpec.upto fnExactAddEdgeSpec)

/-- 'laws.FnExactBurnFrom', WHERE WHAT IT READS IS OF BULK AT MOST 1048576: true; the input reads as it did. -/
def fnExactBurnFromUptoRow : OpenClaim := { program := "ytbojbifpaecbcaa", sum := "ba4cf65ec84a3e5b3f1d4b46bfd5980c540d5bb15987653a3a9765597329c380", func := "loop.example/g00841/laws.FnExactBurnFrom", spec := "fnExactBurnFrom", unfollowed := true, recurses := true, plainKeys := false, apart := false, narrowed := true }
def FnExactBurnFromUptoSaid : Prop := fnExactBurnFromUptoRow.holds Try.pinned (OpenSpec.upto fnExactBurnFromSpec)

/-- 'laws.FnExactIsReduced', WHERE WHAT IT READS IS OF BULK AT MOST 1048576: true; the input reads as it did. -/
def fnExactIsReducedUptoRow : OpenClaim := { program := "ytbojbifpaecbcaa", sum := "ba4cf65ec84a3e5b3f1d4b46bfd5980c540d5bb15987653a3a9765597329c380", func := "loop.example/g00841/laws.FnExactIsReduced", spec := "fnExactIsReduced", unfollowed := true, recurses := true, plainKeys := false, apart := false, narrowed := true }
def FnExactIsReducedUptoSaid : Prop := fnExactIsReducedUptoRow.holds Try.pinned (OpenSpec.upto fnExactIsReducedSpec)

/-- 'laws.FnExactReducedOf', WHERE WHAT IT READS IS OF BULK AT MOST 1048576: true; the input reads as it did. -/
def fnExactReducedOfUptoRow : OpenClaim := { program := "ytbojbifpaecbcaa", sum := "ba4cf65ec84a3e5b3f1d4b46bfd5980c540d5bb15987653a3a9765597329c380", func := "loop.example/g00841/laws.FnExactReducedOf", spec := "fnExactReducedOf", unfollowed := true, recurses := true, plainKeys := false, apart := false, narrowed := true }
def FnExactReducedOfUptoSaid : Prop := fnExactReducedOfUptoRow.holds Try.pinned (OpenSpec.upto fnExactReducedOfSpec)

/-- 'laws.FnExactReducingScript', WHERE WHAT IT READS IS OF BULK AT MOST 1048576: true; the input reads as it did. -/
def fnExactReducingScriptUptoRow : OpenClaim := { program := "ytbojbifpaecbcaa", sum := "ba4cf65ec84a3e5b3f1d4b46bfd5980c540d5bb15987653a3a9765597329c380", func := "loop.example/g00841/laws.FnExactReducingScript", spec := "fnExactReducingScript", unfollowed := true, recurses := true, plainKeys := false, apart := false, narrowed := true }
def FnExactReducingScriptUptoSaid : Prop := fnExactReducingScriptUptoRow.holds Try.pinned (OpenSpec.upto fnExactReducingScriptSpec)

/-- 'laws.FnExactMostLegalSet', WHERE WHAT IT READS IS OF BULK AT MOST 1048576: true; the input reads as it did. -/
def fnExactMostLegalSetUptoRow : OpenClaim := { program := "ytbojbifpaecbcaa", sum := "ba4cf65ec84a3e5b3f1d4b46bfd5980c540d5bb15987653a3a9765597329c380", func := "loop.example/g00841/laws.FnExactMostLegalSet", spec := "fnExactMostLegalSet", unfollowed := true, recurses := true, plainKeys := false, apart := false, narrowed := true }
def FnExactMostLegalSetUptoSaid : Prop := fnExactMostLegalSetUptoRow.holds Try.pinned (OpenSpec.upto fnExactMostLegalSetSpec)

/-- 'laws.FnExactChipsAt', WHERE WHAT IT READS IS OF BULK AT MOST 1048576: true; the input reads as it did. -/
def fnExactChipsAtUptoRow : OpenClaim := { program := "ytbojbifpaecbcaa", sum := "ba4cf65ec84a3e5b3f1d4b46bfd5980c540d5bb15987653a3a9765597329c380", func := "loop.example/g00841/laws.FnExactChipsAt", spec := "fnExactChipsAt", unfollowed := true, recurses := true, plainKeys := false, apart := false, narrowed := true }
def FnExactChipsAtUptoSaid : Prop := fnExactChipsAtUptoRow.holds Try.pinned (OpenSpec.upto fnExactChipsAtSpec)

end Rows
end Go.Proofs.Ytbojbifpaecbcaa
