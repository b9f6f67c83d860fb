/-
  No cell of these rows narrows 'for every input' (looked for: loops, veiled, ifaces, maps, wideKeys, modest, calm, conditions, laid).
  DERIVED. THE GIVEN ROWS OF THIS SEAT. 10 by the template 'for every input the law returns true; each argument reads behind the call as it read before'; 0 by the template 'total and deterministic' (their statements: YtdpojcgeblbfeaaTotals.lean).
  GIVEN WITH THE SEED: the statements are not yours to turn. If you find one false, say at which input.
  Laid BY PROGRAM, IN A SANDBOX (cutbox-rows.mjs): the forced cells as the released guide's own fill.sh prints them over the translation 76e2d137e2b65781… (all of the seat's roots in one cut). By AI agents, Wed Nov 11 2026. No macro, syntax, notation, axiom, sorry.
-/
import Derived.Test.YtdpojcgeblbfeaaChecked
import GoSem.Claim
import GoSem.ClaimJoined
import GoSem.ClaimMapViews
import Derived.JoinedTies
import Derived.KernelRfl
namespace Go.Proofs.Ytdpojcgeblbfeaa
/- THE CELL 'sum', in the pinned program and in every row, IS THE sha256 OF THE DUMP (.gsa) THAT YtdpojcgeblbfeaaProg.lean LOADS. Nothing in Lean hashes anything: it is a label: what it is worth is what the hold of that sum in a sandbox is worth. -/
noncomputable def Try.pinned : Pinned := { name := "ytdpojcgeblbfeaa", sum := "76e2d137e2b65781e26feedeabae457449a70eb5b8820668f43f20b66de5d2e6", checked := Try.checked }
namespace Rows
def none {H : Type} : Left H := { results := [], args := [] }

/-- 'laws.FnRecurrent': WHATEVER THE INPUT: true; the input reads as it did. -/
def fnRecurrentSpec : ChangeSpec := { name := "fnRecurrent", fn := fun _ => fun
  | [d] => { results := [.lit (.bool true)], args := [d] }
  | _ => none }
def fnRecurrentRow : OpenClaim := { program := "ytdpojcgeblbfeaa", sum := "76e2d137e2b65781e26feedeabae457449a70eb5b8820668f43f20b66de5d2e6", func := "loop.example/g00841/laws.FnRecurrent", spec := "fnRecurrent", unfollowed := true, recurses := true, plainKeys := false, leaving := true, apart := false }
def FnRecurrentSaid : Prop := fnRecurrentRow.holds Try.pinned (OpenSpec.ofChange fnRecurrentSpec)

/-- ITS FALSE NEIGHBOUR: 'it returns false'. Refute it at one input. -/
def fnRecurrentWrong : ChangeSpec := { name := "fnRecurrent", fn := fun _ => fun
  | [d] => { results := [.lit (.bool false)], args := [d] }
  | _ => none }
def FnRecurrentWrongFalsely : Prop := fnRecurrentRow.holds Try.pinned (OpenSpec.ofChange fnRecurrentWrong)

/-- 'laws.FnExactRecurrentPiles': WHATEVER THE INPUT: true; the input reads as it did. -/
def fnExactRecurrentPilesSpec : ChangeSpec := { name := "fnExactRecurrentPiles", fn := fun _ => fun
  | [d1, d2] => { results := [.lit (.bool true)], args := [d1, d2] }
  | _ => none }
def fnExactRecurrentPilesRow : OpenClaim := { program := "ytdpojcgeblbfeaa", sum := "76e2d137e2b65781e26feedeabae457449a70eb5b8820668f43f20b66de5d2e6", func := "loop.example/g00841/laws.FnExactRecurrentPiles", spec := "fnExactRecurrentPiles", unfollowed := true, recurses := true, plainKeys := false, leaving := true, apart := false }
def FnExactRecurrentPilesSaid : Prop := fnExactRecurrentPilesRow.holds Try.pinned (OpenSpec.ofChange fnExactRecurrentPilesSpec)

/-- ITS FALSE NEIGHBOUR: 'it returns false'. Refute it at one input. -/
def fnExactRecurrentPilesWrong : ChangeSpec := { name := "fnExactRecurrentPiles", fn := fun _ => fun
  | [d1, d2] => { results := [.lit (.bool false)], args := [d1, d2] }
  | _ => none }
def FnExactRecurrentPilesWrongFalsely : Prop := fnExactRecurrentPilesRow.holds Try.pinned (OpenSpec.ofChange fnExactRecurrentPilesWrong)

/-- 'laws.FnExactIsTree': WHATEVER THE INPUT: true; the input reads as it did. -/
def fnExactIsTreeSpec : ChangeSpec := { name := "fnExactIsTree", fn := fun _ => fun
  | [d1, d2] => { results := [.lit (.bool true)], args := [d1, d2] }
  | _ => none }
def fnExactIsTreeRow : OpenClaim := { program := "ytdpojcgeblbfeaa", sum := "76e2d137e2b65781e26feedeabae457449a70eb5b8820668f43f20b66de5d2e6", func := "loop.example/g00841/laws.FnExactIsTree", spec := "fnExactIsTree", unfollowed := true, recurses := true, plainKeys := false, leaving := true, apart := false }
def FnExactIsTreeSaid : Prop := fnExactIsTreeRow.holds Try.pinned (OpenSpec.ofChange fnExactIsTreeSpec)

/-- ITS FALSE NEIGHBOUR: 'it returns false'. Refute it at one input. -/
def fnExactIsTreeWrong : ChangeSpec := { name := "fnExactIsTree", fn := fun _ => fun
  | [d1, d2] => { results := [.lit (.bool false)], args := [d1, d2] }
  | _ => none }
def FnExactIsTreeWrongFalsely : Prop := fnExactIsTreeRow.holds Try.pinned (OpenSpec.ofChange fnExactIsTreeWrong)

/-- 'laws.FnExactTreesOf': WHATEVER THE INPUT: true; the input reads as it did. -/
def fnExactTreesOfSpec : ChangeSpec := { name := "fnExactTreesOf", fn := fun _ => fun
  | [d] => { results := [.lit (.bool true)], args := [d] }
  | _ => none }
def fnExactTreesOfRow : OpenClaim := { program := "ytdpojcgeblbfeaa", sum := "76e2d137e2b65781e26feedeabae457449a70eb5b8820668f43f20b66de5d2e6", func := "loop.example/g00841/laws.FnExactTreesOf", spec := "fnExactTreesOf", unfollowed := true, recurses := true, plainKeys := false, leaving := true, apart := false }
def FnExactTreesOfSaid : Prop := fnExactTreesOfRow.holds Try.pinned (OpenSpec.ofChange fnExactTreesOfSpec)

/-- ITS FALSE NEIGHBOUR: 'it returns false'. Refute it at one input. -/
def fnExactTreesOfWrong : ChangeSpec := { name := "fnExactTreesOf", fn := fun _ => fun
  | [d] => { results := [.lit (.bool false)], args := [d] }
  | _ => none }
def FnExactTreesOfWrongFalsely : Prop := fnExactTreesOfRow.holds Try.pinned (OpenSpec.ofChange fnExactTreesOfWrong)

/-- 'laws.FnExactIsParking': WHATEVER THE INPUT: true; the input reads as it did. -/
def fnExactIsParkingSpec : ChangeSpec := { name := "fnExactIsParking", fn := fun _ => fun
  | [d1, d2, d3] => { results := [.lit (.bool true)], args := [d1, d2, d3] }
  | _ => none }
def fnExactIsParkingRow : OpenClaim := { program := "ytdpojcgeblbfeaa", sum := "76e2d137e2b65781e26feedeabae457449a70eb5b8820668f43f20b66de5d2e6", func := "loop.example/g00841/laws.FnExactIsParking", spec := "fnExactIsParking", unfollowed := true, recurses := true, plainKeys := false, leaving := true, apart := false }
def FnExactIsParkingSaid : Prop := fnExactIsParkingRow.holds Try.pinned (OpenSpec.ofChange fnExactIsParkingSpec)

/-- ITS FALSE NEIGHBOUR: 'it returns false'. Refute it at one input. -/
def fnExactIsParkingWrong : ChangeSpec := { name := "fnExactIsParking", fn := fun _ => fun
  | [d1, d2, d3] => { results := [.lit (.bool false)], args := [d1, d2, d3] }
  | _ => none }
def FnExactIsParkingWrongFalsely : Prop := fnExactIsParkingRow.holds Try.pinned (OpenSpec.ofChange fnExactIsParkingWrong)

/-- 'laws.FnExactTreeOfParking': WHATEVER THE INPUT: true; the input reads as it did. -/
def fnExactTreeOfParkingSpec : ChangeSpec := { name := "fnExactTreeOfParking", fn := fun _ => fun
  | [d1, d2, d3] => { results := [.lit (.bool true)], args := [d1, d2, d3] }
  | _ => none }
def fnExactTreeOfParkingRow : OpenClaim := { program := "ytdpojcgeblbfeaa", sum := "76e2d137e2b65781e26feedeabae457449a70eb5b8820668f43f20b66de5d2e6", func := "loop.example/g00841/laws.FnExactTreeOfParking", spec := "fnExactTreeOfParking", unfollowed := true, recurses := true, plainKeys := false, leaving := true, apart := false }
def FnExactTreeOfParkingSaid : Prop := fnExactTreeOfParkingRow.holds Try.pinned (OpenSpec.ofChange fnExactTreeOfParkingSpec)

/-- ITS FALSE NEIGHBOUR: 'it returns false'. Refute it at one input. -/
def fnExactTreeOfParkingWrong : ChangeSpec := { name := "fnExactTreeOfParking", fn := fun _ => fun
  | [d1, d2, d3] => { results := [.lit (.bool false)], args := [d1, d2, d3] }
  | _ => none }
def FnExactTreeOfParkingWrongFalsely : Prop := fnExactTreeOfParkingRow.holds Try.pinned (OpenSpec.ofChange fnExactTreeOfParkingWrong)

/-- 'laws.FnExactParkingOfTree': WHATEVER THE INPUT: true; the input reads as it did. -/
def fnExactParkingOfTreeSpec : ChangeSpec := { name := "fnExactParkingOfTree", fn := fun _ => fun
  | [d1, d2, d3] => { results := [.lit (.bool true)], args := [d1, d2, d3] }
  | _ => none }
def fnExactParkingOfTreeRow : OpenClaim := { program := "ytdpojcgeblbfeaa", sum := "76e2d137e2b65781e26feedeabae457449a70eb5b8820668f43f20b66de5d2e6", func := "loop.example/g00841/laws.FnExactParkingOfTree", spec := "fnExactParkingOfTree", unfollowed := true, recurses := true, plainKeys := false, leaving := true, apart := false }
def FnExactParkingOfTreeSaid : Prop := fnExactParkingOfTreeRow.holds Try.pinned (OpenSpec.ofChange fnExactParkingOfTreeSpec)

/-- ITS FALSE NEIGHBOUR: 'it returns false'. Refute it at one input. -/
def fnExactParkingOfTreeWrong : ChangeSpec := { name := "fnExactParkingOfTree", fn := fun _ => fun
  | [d1, d2, d3] => { results := [.lit (.bool false)], args := [d1, d2, d3] }
  | _ => none }
def FnExactParkingOfTreeWrongFalsely : Prop := fnExactParkingOfTreeRow.holds Try.pinned (OpenSpec.ofChange fnExactParkingOfTreeWrong)

/-- 'laws.FnExactParkingsOf': WHATEVER THE INPUT: true; the input reads as it did. -/
def fnExactParkingsOfSpec : ChangeSpec := { name := "fnExactParkingsOf", fn := fun _ => fun
  | [d1, d2] => { results := [.lit (.bool true)], args := [d1, d2] }
  | _ => none }
def fnExactParkingsOfRow : OpenClaim := { program := "ytdpojcgeblbfeaa", sum := "76e2d137e2b65781e26feedeabae457449a70eb5b8820668f43f20b66de5d2e6", func := "loop.example/g00841/laws.FnExactParkingsOf", spec := "fnExactParkingsOf", unfollowed := true, recurses := true, plainKeys := false, leaving := true, apart := false }
def FnExactParkingsOfSaid : Prop := fnExactParkingsOfRow.holds Try.pinned (OpenSpec.ofChange fnExactParkingsOfSpec)

/-- ITS FALSE NEIGHBOUR: 'it returns false'. Refute it at one input. -/
def fnExactParkingsOfWrong : ChangeSpec := { name := "fnExactParkingsOf", fn := fun _ => fun
  | [d1, d2] => { results := [.lit (.bool false)], args := [d1, d2] }
  | _ => none }
def FnExactParkingsOfWrongFalsely : Prop := fnExactParkingsOfRow.holds Try.pinned (OpenSpec.ofChange fnExactParkingsOfWrong)

/-- 'laws.FnExactParkingOfPile': WHATEVER THE INPUT: true; the input reads as it did. -/
def fnExactParkingOfPileSpec : ChangeSpec := { name := "fnExactParkingOfPile", fn := fun _ => fun
  | [d1, d2, d3] => { results := [.lit (.bool true)], args := [d1, d2, d3] }
  | _ => none }
def fnExactParkingOfPileRow : OpenClaim := { program := "ytdpojcgeblbfeaa", sum := "76e2d137e2b65781e26feedeabae457449a70eb5b8820668f43f20b66de5d2e6", func := "loop.example/g00841/laws.FnExactParkingOfPile", spec := "fnExactParkingOfPile", unfollowed := true, recurses := true, plainKeys := false, leaving := true, apart := false }
def FnExactParkingOfPileSaid : Prop := fnExactParkingOfPileRow.holds Try.pinned (OpenSpec.ofChange fnExactParkingOfPileSpec)

/-- ITS FALSE NEIGHBOUR: 'it returns false'. Refute it at one input. -/
def fnExactParkingOfPileWrong : ChangeSpec := { name := "fnExactParkingOfPile", fn := fun _ => fun
  | [d1, d2, d3] => { results := [.lit (.bool false)], args := [d1, d2, d3] }
  | _ => none }
def FnExactParkingOfPileWrongFalsely : Prop := fnExactParkingOfPileRow.holds Try.pinned (OpenSpec.ofChange fnExactParkingOfPileWrong)

/-- 'laws.FnExactPileOfParking': WHATEVER THE INPUT: true; the input reads as it did. -/
def fnExactPileOfParkingSpec : ChangeSpec := { name := "fnExactPileOfParking", fn := fun _ => fun
  | [d1, d2, d3] => { results := [.lit (.bool true)], args := [d1, d2, d3] }
  | _ => none }
def fnExactPileOfParkingRow : OpenClaim := { program := "ytdpojcgeblbfeaa", sum := "76e2d137e2b65781e26feedeabae457449a70eb5b8820668f43f20b66de5d2e6", func := "loop.example/g00841/laws.FnExactPileOfParking", spec := "fnExactPileOfParking", unfollowed := true, recurses := true, plainKeys := false, leaving := true, apart := false }
def FnExactPileOfParkingSaid : Prop := fnExactPileOfParkingRow.holds Try.pinned (OpenSpec.ofChange fnExactPileOfParkingSpec)

/-- ITS FALSE NEIGHBOUR: 'it returns false'. Refute it at one input. -/
def fnExactPileOfParkingWrong : ChangeSpec := { name := "fnExactPileOfParking", fn := fun _ => fun
  | [d1, d2, d3] => { results := [.lit (.bool false)], args := [d1, d2, d3] }
  | _ => none }
def FnExactPileOfParkingWrongFalsely : Prop := fnExactPileOfParkingRow.holds Try.pinned (OpenSpec.ofChange fnExactPileOfParkingWrong)

/- THE SECOND FORM. 'bulk': how many values and letters a reading holds, each counted each time it is reached (what is shared counts as often as it is met; a slice's spare places count too). A statement '..UptoSaid' is the law's where the arguments, and the package variables that the reading takes, are together of bulk at most 1048576: NARROWER than '..Said'. Prove '..Said' where nothing that the law and all that it calls make is longer than what came in: it says more and counts as full. Else prove '..UptoSaid'. A law counts once. -/
mutual
def uptoBulk {H : Type} : DataW H → Nat
  | .lit (.string bytes) => bytes.length + 1
  | .lit _ => 1
  | .nil => 1
  | .ptr d => uptoBulk d + 1
  | .slice elems spare => uptoBulkAll elems + uptoBulkAll spare + 1
  | .agg parts => uptoBulkAll parts + 1
  | .iface _ d => uptoBulk d + 1
  | .map entries => uptoBulkEntries entries + 1
  | .held _ => 1
def uptoBulkAll {H : Type} : List (DataW H) → Nat
  | [] => 0
  | d :: r => uptoBulk d + uptoBulkAll r
def uptoBulkEntries {H : Type} : List (Lit × DataW H) → Nat
  | [] => 0
  | x :: r => uptoBulkEntry x + uptoBulkEntries r
def uptoBulkEntry {H : Type} : Lit × DataW H → Nat
  | (.string bytes, d) => bytes.length + uptoBulk d + 1
  | (_, d) => uptoBulk d + 1
 end
def uptoSmall : (H : Type) → List (DataW H) → Bool := fun _ ds => decide (uptoBulkAll ds ≤ 1048576)
def OpenSpec.upto (s : _root_.Go.ChangeSpec) : _root_.Go.OpenSpec := { _root_.Go.OpenSpec.ofChange s with cond := some uptoSmall }

/-- 'laws.FnRecurrent', WHERE WHAT IT READS IS OF BULK AT MOST 1048576: true; the input reads as it did. -/
def fnRecurrentUptoRow : OpenClaim := { program := "ytdpojcgeblbfeaa", sum := "76e2d137e2b65781e26feedeabae457449a70eb5b8820668f43f20b66de5d2e6", func := "loop.example/g00841/laws.FnRecurrent", spec := "fnRecurrent", unfollowed := true, recurses := true, plainKeys := false, leaving := true, apart := false, narrowed := true }
def FnRecurrentUptoSaid : Prop := fnRecurrentUptoRow.holds Try.pinned (OpenSpec.upto fnRecurrentSpec)

/-- 'laws.FnExactRecurrentPiles', WHERE WHAT IT READS IS OF BULK AT MOST 1048576: true; the input reads as it did. -/
def fnExactRecurrentPilesUptoRow : OpenClaim := { program := "ytdpojcgeblbfeaa", sum := "76e2d137e2b65781e26feedeabae457449a70eb5b8820668f43f20b66de5d2e6", func := "loop.example/g00841/laws.FnExactRecurrentPiles", spec := "fnExactRecurrentPiles", unfollowed := true, recurses := true, plainKeys := false, leaving := true, apart := false, narrowed := true }
def FnExactRecurrentPilesUptoSaid : Prop := fnExactRecurrentPilesUptoRow.holds Try.pinned (OpenSpec.upto fnExactRecurrentPilesSpec)

/-- 'laws.FnExactIsTree', WHERE WHAT IT READS IS OF BULK AT MOST 1048576: true; the input reads as it did. -/
def fnExactIsTreeUptoRow : OpenClaim := { program := "ytdpojcgeblbfeaa", sum := "76e2d137e2b65781e26feedeabae457449a70eb5b8820668f43f20b66de5d2e6", func := "loop.example/g00841/laws.FnExactIsTree", spec := "fnExactIsTree", unfollowed := true, recurses := true, plainKeys := false, leaving := true, apart := false, narrowed := true }
def FnExactIsTreeUptoSaid : Prop := fnExactIsTreeUptoRow.holds Try.pinned (OpenSpec.upto fnExactIsTreeSpec)

/-- 'laws.FnExactTreesOf', WHERE WHAT IT READS IS OF BULK AT MOST 1048576: true; the input reads as it did. -/
def fnExactTreesOfUptoRow : OpenClaim := { program := "ytdpojcgeblbfeaa", sum := "76e2d137e2b65781e26feedeabae457449a70eb5b8820668f43f20b66de5d2e6", func := "loop.example/g00841/laws.FnExactTreesOf", spec := "fnExactTreesOf", unfollowed := true, recurses := true, plainKeys := false, leaving := true, apart := false, narrowed := true }
def FnExactTreesOfUptoSaid : Prop := fnExactTreesOfUptoRow.holds Try.pinned (OpenSpec.upto fnExactTreesOfSpec)

/-- 'laws.FnExactIsParking', WHERE WHAT IT READS IS OF BULK AT MOST 1048576: true; the input reads as it did. -/
def fnExactIsParkingUptoRow : OpenClaim := { program := "ytdpojcgeblbfeaa", sum := "76e2d137e2b65781e26feedeabae457449a70eb5b8820668f43f20b66de5d2e6", func := "loop.example/g00841/laws.FnExactIsParking", spec := "fnExactIsParking", unfollowed := true, recurses := true, plainKeys := false, leaving := true, apart := false, narrowed := true }
def FnExactIsParkingUptoSaid : Prop := fnExactIsParkingUptoRow.holds Try.pinned (OpenSpec.upto fnExactIsParkingSpec)

/-- 'laws.FnExactTreeOfParking', WHERE WHAT IT READS IS OF BULK AT MOST 1048576: true; the input reads as it did. -/
def fnExactTreeOfParkingUptoRow : OpenClaim := { program := "ytdpojcgeblbfeaa", sum := "76e2d137e2b65781e26feedeabae457449a70eb5b8820668f43f20b66de5d2e6", func := "loop.example/g00841/laws.FnExactTreeOfParking", spec := "fnExactTreeOfParking", unfollowed := true, recurses := true, plainKeys := false, leaving := true, apart := false, narrowed := true }
def FnExactTreeOfParkingUptoSaid : Prop := fnExactTreeOfParkingUptoRow.holds Try.pinned (OpenSpec.upto fnExactTreeOfParkingSpec)

/-- 'laws.FnExactParkingOfTree', WHERE WHAT IT READS IS OF BULK AT MOST 1048576: true; the input reads as it did. -/
def fnExactParkingOfTreeUptoRow : OpenClaim := { program := "ytdpojcgeblbfeaa", sum := "76e2d137e2b65781e26feedeabae457449a70eb5b8820668f43f20b66de5d2e6", func := "loop.example/g00841/laws.FnExactParkingOfTree", spec := "fnExactParkingOfTree", unfollowed := true, recurses := true, plainKeys := false, leaving := true, apart := false, narrowed := true }
def FnExactParkingOfTreeUptoSaid : Prop := fnExactParkingOfTreeUptoRow.holds Try.pinned (OpenSpec.upto fnExactParkingOfTreeSpec)

/-- 'laws.FnExactParkingsOf', WHERE WHAT IT READS IS OF BULK AT MOST 1048576: true; the input reads as it did. -/
def fnExactParkingsOfUptoRow : OpenClaim := { program := "ytdpojcgeblbfeaa", sum := "76e2d137e2b65781e26feedeabae457449a70eb5b8820668f43f20b66de5d2e6", func := "loop.example/g00841/laws.FnExactParkingsOf", spec := "fnExactParkingsOf", unfollowed := true, recurses := true, plainKeys := false, leaving := true, apart := false, narrowed := true }
def FnExactParkingsOfUptoSaid : Prop := fnExactParkingsOfUptoRow.holds Try.pinned (OpenSpec.upto fnExactParkingsOfSpec)

/-- 'laws.FnExactParkingOfPile', WHERE WHAT IT READS IS OF BULK AT MOST 1048576: true; the input reads as it did. -/
def fnExactParkingOfPileUptoRow : OpenClaim := { program := "ytdpojcgeblbfeaa", sum := "76e2d137e2b65781e26feedeabae457449a70eb5b8820668f43f20b66de5d2e6", func := "loop.example/g00841/laws.FnExactParkingOfPile", spec := "fnExactParkingOfPile", unfollowed := true, recurses := true, plainKeys := false, leaving := true, apart := false, narrowed := true }
def FnExactParkingOfPileUptoSaid : Prop := fnExactParkingOfPileUptoRow.holds Try.pinned (OpenSpec.upto fnExactParkingOfPileSpec)

/-- 'laws.FnExactPileOfParking', WHERE WHAT IT READS IS OF BULK AT MOST 1048576: true; the input reads as it did. -/
def fnExactPileOfParkingUptoRow : OpenClaim := { program := "ytdpojcgeblbfeaa", sum := "76e2d137e2b65781e26feedeabae457449a70eb5b8820668f43f20b66de5d2e6", func := "loop.example/g00841/laws.FnExactPileOfParking", spec := "fnExactPileOfParking", unfollowed := true, recurses := true, plainKeys := false, leaving := true, apart := false, narrowed := true }
def FnExactPileOfParkingUptoSaid : Prop := fnExactPileOfParkingUptoRow.holds Try.pinned (OpenSpec.upto fnExactPileOfParkingSpec)

end Rows
end Go.Proofs.Ytdpojcgeblbfeaa
