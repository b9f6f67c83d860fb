/-
  No cell of these rows narrows 'for every input' (looked for: loops, veiled, ifaces, maps, wideKeys, modest, calm, conditions, laid).
  DERIVED. THE GIVEN ROWS OF THIS SEAT. 8 by the template 'for every input the law returns true; each argument reads behind the call as it read before'; 0 by the template 'total and deterministic' (their statements: YtfeaphgpomfojabTotals.lean).
  GIVEN WITH THE SEED: the statements are not yours to turn. If you find one false, say at which input.
  Laid BY PROGRAM, IN A SANDBOX (cutbox-rows.mjs): the forced cells as the released guide's own fill.sh prints them over the translation ffac8904f4b61f4a… (all of the seat's roots in one cut). By AI agents, Wed Nov 11 2026. No macro, syntax, notation, axiom, sorry.
-/
import Derived.Test.YtfeaphgpomfojabChecked
import GoSem.Claim
import GoSem.ClaimJoined
import GoSem.ClaimMapViews
import Derived.JoinedTies
import Derived.KernelRfl
namespace Go.Proofs.Ytfeaphgpomfojab
/- THE CELL 'sum', in the pinned program and in every row, IS THE sha256 OF THE DUMP (.gsa) THAT YtfeaphgpomfojabProg.lean LOADS. Nothing in Lean hashes anything: it is a label: what it is worth is what the hold of that sum in a sandbox is worth. -/
noncomputable def Try.pinned : Pinned := { name := "ytfeaphgpomfojab", sum := "ffac8904f4b61f4a016691f7ba7396f2110b8a9a3aee485224aeb2d49d992286", checked := Try.checked }
namespace Rows
def none {H : Type} : Left H := { results := [], args := [] }

/-- 'laws.FnAbelian': WHATEVER THE INPUT: true; the input reads as it did. -/
def fnAbelianSpec : ChangeSpec := { name := "fnAbelian", fn := fun _ => fun
  | [d] => { results := [.lit (.bool true)], args := [d] }
  | _ => none }
def fnAbelianRow : OpenClaim := { program := "ytfeaphgpomfojab", sum := "ffac8904f4b61f4a016691f7ba7396f2110b8a9a3aee485224aeb2d49d992286", func := "loop.example/g00841/laws.FnAbelian", spec := "fnAbelian", unfollowed := true, recurses := true, plainKeys := false, leaving := true, apart := false }
def FnAbelianSaid : Prop := fnAbelianRow.holds Try.pinned (OpenSpec.ofChange fnAbelianSpec)

/-- ITS FALSE NEIGHBOUR: 'it returns false'. Refute it at one input. -/
def fnAbelianWrong : ChangeSpec := { name := "fnAbelian", fn := fun _ => fun
  | [d] => { results := [.lit (.bool false)], args := [d] }
  | _ => none }
def FnAbelianWrongFalsely : Prop := fnAbelianRow.holds Try.pinned (OpenSpec.ofChange fnAbelianWrong)

/-- 'laws.FnExactPileOk': WHATEVER THE INPUT: true; the input reads as it did. -/
def fnExactPileOkSpec : ChangeSpec := { name := "fnExactPileOk", fn := fun _ => fun
  | [d1, d2, d3] => { results := [.lit (.bool true)], args := [d1, d2, d3] }
  | _ => none }
def fnExactPileOkRow : OpenClaim := { program := "ytfeaphgpomfojab", sum := "ffac8904f4b61f4a016691f7ba7396f2110b8a9a3aee485224aeb2d49d992286", func := "loop.example/g00841/laws.FnExactPileOk", spec := "fnExactPileOk", unfollowed := true, recurses := true, plainKeys := false, leaving := true, apart := false }
def FnExactPileOkSaid : Prop := fnExactPileOkRow.holds Try.pinned (OpenSpec.ofChange fnExactPileOkSpec)

/-- ITS FALSE NEIGHBOUR: 'it returns false'. Refute it at one input. -/
def fnExactPileOkWrong : ChangeSpec := { name := "fnExactPileOk", fn := fun _ => fun
  | [d1, d2, d3] => { results := [.lit (.bool false)], args := [d1, d2, d3] }
  | _ => none }
def FnExactPileOkWrongFalsely : Prop := fnExactPileOkRow.holds Try.pinned (OpenSpec.ofChange fnExactPileOkWrong)

/-- 'laws.FnExactIsStable': WHATEVER THE INPUT: true; the input reads as it did. -/
def fnExactIsStableSpec : ChangeSpec := { name := "fnExactIsStable", fn := fun _ => fun
  | [d1, d2, d3] => { results := [.lit (.bool true)], args := [d1, d2, d3] }
  | _ => none }
def fnExactIsStableRow : OpenClaim := { program := "ytfeaphgpomfojab", sum := "ffac8904f4b61f4a016691f7ba7396f2110b8a9a3aee485224aeb2d49d992286", func := "loop.example/g00841/laws.FnExactIsStable", spec := "fnExactIsStable", unfollowed := true, recurses := true, plainKeys := false, leaving := true, apart := false }
def FnExactIsStableSaid : Prop := fnExactIsStableRow.holds Try.pinned (OpenSpec.ofChange fnExactIsStableSpec)

/-- ITS FALSE NEIGHBOUR: 'it returns false'. Refute it at one input. -/
def fnExactIsStableWrong : ChangeSpec := { name := "fnExactIsStable", fn := fun _ => fun
  | [d1, d2, d3] => { results := [.lit (.bool false)], args := [d1, d2, d3] }
  | _ => none }
def FnExactIsStableWrongFalsely : Prop := fnExactIsStableRow.holds Try.pinned (OpenSpec.ofChange fnExactIsStableWrong)

/-- 'laws.FnExactTopple': WHATEVER THE INPUT: true; the input reads as it did. -/
def fnExactToppleSpec : ChangeSpec := { name := "fnExactTopple", fn := fun _ => fun
  | [d1, d2, d3, d4] => { results := [.lit (.bool true)], args := [d1, d2, d3, d4] }
  | _ => none }
def fnExactToppleRow : OpenClaim := { program := "ytfeaphgpomfojab", sum := "ffac8904f4b61f4a016691f7ba7396f2110b8a9a3aee485224aeb2d49d992286", func := "loop.example/g00841/laws.FnExactTopple", spec := "fnExactTopple", unfollowed := true, recurses := true, plainKeys := false, leaving := true, apart := false }
def FnExactToppleSaid : Prop := fnExactToppleRow.holds Try.pinned (OpenSpec.ofChange fnExactToppleSpec)

/-- ITS FALSE NEIGHBOUR: 'it returns false'. Refute it at one input. -/
def fnExactToppleWrong : ChangeSpec := { name := "fnExactTopple", fn := fun _ => fun
  | [d1, d2, d3, d4] => { results := [.lit (.bool false)], args := [d1, d2, d3, d4] }
  | _ => none }
def FnExactToppleWrongFalsely : Prop := fnExactToppleRow.holds Try.pinned (OpenSpec.ofChange fnExactToppleWrong)

/-- 'laws.FnExactStabilize': WHATEVER THE INPUT: true; the input reads as it did. -/
def fnExactStabilizeSpec : ChangeSpec := { name := "fnExactStabilize", fn := fun _ => fun
  | [d1, d2, d3] => { results := [.lit (.bool true)], args := [d1, d2, d3] }
  | _ => none }
def fnExactStabilizeRow : OpenClaim := { program := "ytfeaphgpomfojab", sum := "ffac8904f4b61f4a016691f7ba7396f2110b8a9a3aee485224aeb2d49d992286", func := "loop.example/g00841/laws.FnExactStabilize", spec := "fnExactStabilize", unfollowed := true, recurses := true, plainKeys := false, leaving := true, apart := false }
def FnExactStabilizeSaid : Prop := fnExactStabilizeRow.holds Try.pinned (OpenSpec.ofChange fnExactStabilizeSpec)

/-- ITS FALSE NEIGHBOUR: 'it returns false'. Refute it at one input. -/
def fnExactStabilizeWrong : ChangeSpec := { name := "fnExactStabilize", fn := fun _ => fun
  | [d1, d2, d3] => { results := [.lit (.bool false)], args := [d1, d2, d3] }
  | _ => none }
def FnExactStabilizeWrongFalsely : Prop := fnExactStabilizeRow.holds Try.pinned (OpenSpec.ofChange fnExactStabilizeWrong)

/-- 'laws.FnExactAvalancheSize': WHATEVER THE INPUT: true; the input reads as it did. -/
def fnExactAvalancheSizeSpec : ChangeSpec := { name := "fnExactAvalancheSize", fn := fun _ => fun
  | [d1, d2, d3] => { results := [.lit (.bool true)], args := [d1, d2, d3] }
  | _ => none }
def fnExactAvalancheSizeRow : OpenClaim := { program := "ytfeaphgpomfojab", sum := "ffac8904f4b61f4a016691f7ba7396f2110b8a9a3aee485224aeb2d49d992286", func := "loop.example/g00841/laws.FnExactAvalancheSize", spec := "fnExactAvalancheSize", unfollowed := true, recurses := true, plainKeys := false, leaving := true, apart := false }
def FnExactAvalancheSizeSaid : Prop := fnExactAvalancheSizeRow.holds Try.pinned (OpenSpec.ofChange fnExactAvalancheSizeSpec)

/-- ITS FALSE NEIGHBOUR: 'it returns false'. Refute it at one input. -/
def fnExactAvalancheSizeWrong : ChangeSpec := { name := "fnExactAvalancheSize", fn := fun _ => fun
  | [d1, d2, d3] => { results := [.lit (.bool false)], args := [d1, d2, d3] }
  | _ => none }
def FnExactAvalancheSizeWrongFalsely : Prop := fnExactAvalancheSizeRow.holds Try.pinned (OpenSpec.ofChange fnExactAvalancheSizeWrong)

/-- 'laws.FnExactDropChip': WHATEVER THE INPUT: true; the input reads as it did. -/
def fnExactDropChipSpec : ChangeSpec := { name := "fnExactDropChip", fn := fun _ => fun
  | [d1, d2, d3, d4] => { results := [.lit (.bool true)], args := [d1, d2, d3, d4] }
  | _ => none }
def fnExactDropChipRow : OpenClaim := { program := "ytfeaphgpomfojab", sum := "ffac8904f4b61f4a016691f7ba7396f2110b8a9a3aee485224aeb2d49d992286", func := "loop.example/g00841/laws.FnExactDropChip", spec := "fnExactDropChip", unfollowed := true, recurses := true, plainKeys := false, leaving := true, apart := false }
def FnExactDropChipSaid : Prop := fnExactDropChipRow.holds Try.pinned (OpenSpec.ofChange fnExactDropChipSpec)

/-- ITS FALSE NEIGHBOUR: 'it returns false'. Refute it at one input. -/
def fnExactDropChipWrong : ChangeSpec := { name := "fnExactDropChip", fn := fun _ => fun
  | [d1, d2, d3, d4] => { results := [.lit (.bool false)], args := [d1, d2, d3, d4] }
  | _ => none }
def FnExactDropChipWrongFalsely : Prop := fnExactDropChipRow.holds Try.pinned (OpenSpec.ofChange fnExactDropChipWrong)

/-- 'laws.FnExactFullPile': WHATEVER THE INPUT: true; the input reads as it did. -/
def fnExactFullPileSpec : ChangeSpec := { name := "fnExactFullPile", fn := fun _ => fun
  | [d1, d2] => { results := [.lit (.bool true)], args := [d1, d2] }
  | _ => none }
def fnExactFullPileRow : OpenClaim := { program := "ytfeaphgpomfojab", sum := "ffac8904f4b61f4a016691f7ba7396f2110b8a9a3aee485224aeb2d49d992286", func := "loop.example/g00841/laws.FnExactFullPile", spec := "fnExactFullPile", unfollowed := true, recurses := true, plainKeys := false, leaving := true, apart := false }
def FnExactFullPileSaid : Prop := fnExactFullPileRow.holds Try.pinned (OpenSpec.ofChange fnExactFullPileSpec)

/-- ITS FALSE NEIGHBOUR: 'it returns false'. Refute it at one input. -/
def fnExactFullPileWrong : ChangeSpec := { name := "fnExactFullPile", fn := fun _ => fun
  | [d1, d2] => { results := [.lit (.bool false)], args := [d1, d2] }
  | _ => none }
def FnExactFullPileWrongFalsely : Prop := fnExactFullPileRow.holds Try.pinned (OpenSpec.ofChange fnExactFullPileWrong)

/- THE SECOND FORM. 'bulk': how many values and letters a reading holds, each counted each time it is reached (what is shared counts as often as it is met; a slice's spare places count too). A statement '..UptoSaid' is the law's where the arguments, and the package variables that the reading takes, are together of bulk at most 1048576: NARROWER than '..Said'. Prove '..Said' where nothing that the law and all that it calls make is longer than what came in: it says more and counts as full. Else prove '..UptoSaid'. A law counts once. -/
mutual
def uptoBulk {H : Type} : DataW H → Nat
  | .lit (.string bytes) => bytes.length + 1
  | .lit _ => 1
  | .nil => 1
  | .ptr d => uptoBulk d + 1
  | .slice elems spare => uptoBulkAll elems + uptoBulkAll spare + 1
  | .agg parts => uptoBulkAll parts + 1
  | .iface _ d => uptoBulk d + 1
  | .map entries => uptoBulkEntries entries + 1
  | .held _ => 1
def uptoBulkAll {H : Type} : List (DataW H) → Nat
  | [] => 0
  | d :: r => uptoBulk d + uptoBulkAll r
def uptoBulkEntries {H : Type} : List (Lit × DataW H) → Nat
  | [] => 0
  | x :: r => uptoBulkEntry x + uptoBulkEntries r
def uptoBulkEntry {H : Type} : Lit × DataW H → Nat
  | (.string bytes, d) => bytes.length + uptoBulk d + 1
  | (_, d) => uptoBulk d + 1
 end
def uptoSmall : (H : Type) → List (DataW H) → Bool := fun _ ds => decide (uptoBulkAll ds ≤ 1048576)
def OpenSpec.upto (s : _root_.Go.ChangeSpec) : _root_.Go.OpenSpec := { _root_.Go.OpenSpec.ofChange s with cond := some uptoSmall }

/-- 'laws.FnAbelian', WHERE WHAT IT READS IS OF BULK AT MOST 1048576: true; the input reads as it did. -/
def fnAbelianUptoRow : OpenClaim := { program := "ytfeaphgpomfojab", sum := "ffac8904f4b61f4a016691f7ba7396f2110b8a9a3aee485224aeb2d49d992286", func := "loop.example/g00841/laws.FnAbelian", spec := "fnAbelian", unfollowed := true, recurses := true, plainKeys := false, leaving := true, apart := false, narrowed := true }
def FnAbelianUptoSaid : Prop := fnAbelianUptoRow.holds Try.pinned (OpenSpec.upto fnAbelianSpec)

/-- 'laws.FnExactPileOk', WHERE WHAT IT READS IS OF BULK AT MOST 1048576: true; the input reads as it did. -/
def fnExactPileOkUptoRow : OpenClaim := { program := "ytfeaphgpomfojab", sum := "ffac8904f4b61f4a016691f7ba7396f2110b8a9a3aee485224aeb2d49d992286", func := "loop.example/g00841/laws.FnExactPileOk", spec := "fnExactPileOk", unfollowed := true, recurses := true, plainKeys := false, leaving := true, apart := false, narrowed := true }
def FnExactPileOkUptoSaid : Prop := fnExactPileOkUptoRow.holds Try.pinned (OpenSpec.upto fnExactPileOkSpec)

/-- 'laws.FnExactIsStable', WHERE WHAT IT READS IS OF BULK AT MOST 1048576: true; the input reads as it did. -/
def fnExactIsStableUptoRow : OpenClaim := { program := "ytfeaphgpomfojab", sum := "ffac8904f4b61f4a016691f7ba7396f2110b8a9a3aee485224aeb2d49d992286", func := "loop.example/g00841/laws.FnExactIsStable", spec := "fnExactIsStable", unfollowed := true, recurses := true, plainKeys := false, leaving := true, apart := false, narrowed := true }
def FnExactIsStableUptoSaid : Prop := fnExactIsStableUptoRow.holds Try.pinned (OpenSpec.upto fnExactIsStableSpec)

/-- 'laws.FnExactTopple', WHERE WHAT IT READS IS OF BULK AT MOST 1048576: true; the input reads as it did. -/
def fnExactToppleUptoRow : OpenClaim := { program := "ytfeaphgpomfojab", sum := "ffac8904f4b61f4a016691f7ba7396f2110b8a9a3aee485224aeb2d49d992286", func := "loop.example/g00841/laws.FnExactTopple", spec := "fnExactTopple", unfollowed := true, recurses := true, plainKeys := false, leaving := true, apart := false, narrowed := true }
def FnExactToppleUptoSaid : Prop := fnExactToppleUptoRow.holds Try.pinned (OpenSpec.upto fnExactToppleSpec)

/-- 'laws.FnExactStabilize', WHERE WHAT IT READS IS OF BULK AT MOST 1048576: true; the input reads as it did. -/
def fnExactStabilizeUptoRow : OpenClaim := { program := "ytfeaphgpomfojab", sum := "ffac8904f4b61f4a016691f7ba7396f2110b8a9a3aee485224aeb2d49d992286", func := "loop.example/g00841/laws.FnExactStabilize", spec := "fnExactStabilize", unfollowed := true, recurses := true, plainKeys := false, leaving := true, apart := false, narrowed := true }
def FnExactStabilizeUptoSaid : Prop := fnExactStabilizeUptoRow.holds Try.pinned (OpenSpec.upto fnExactStabilizeSpec)

/-- 'laws.FnExactAvalancheSize', WHERE WHAT IT READS IS OF BULK AT MOST 1048576: true; the input reads as it did. -/
def fnExactAvalancheSizeUptoRow : OpenClaim := { program := "ytfeaphgpomfojab", sum := "ffac8904f4b61f4a016691f7ba7396f2110b8a9a3aee485224aeb2d49d992286", func := "loop.example/g00841/laws.FnExactAvalancheSize", spec := "fnExactAvalancheSize", unfollowed := true, recurses := true, plainKeys := false, leaving := true, apart := false, narrowed := true }
def FnExactAvalancheSizeUptoSaid : Prop := fnExactAvalancheSizeUptoRow.holds Try.pinned (OpenSpec.upto fnExactAvalancheSizeSpec)

/-- 'laws.FnExactDropChip', WHERE WHAT IT READS IS OF BULK AT MOST 1048576: true; the input reads as it did. -/
def fnExactDropChipUptoRow : OpenClaim := { program := "ytfeaphgpomfojab", sum := "ffac8904f4b61f4a016691f7ba7396f2110b8a9a3aee485224aeb2d49d992286", func := "loop.example/g00841/laws.FnExactDropChip", spec := "fnExactDropChip", unfollowed := true, recurses := true, plainKeys := false, leaving := true, apart := false, narrowed := true }
def FnExactDropChipUptoSaid : Prop := fnExactDropChipUptoRow.holds Try.pinned (OpenSpec.upto fnExactDropChipSpec)

/-- 'laws.FnExactFullPile', WHERE WHAT IT READS IS OF BULK AT MOST 1048576: true; the input reads as it did. -/
def fnExactFullPileUptoRow : OpenClaim := { program := "ytfeaphgpomfojab", sum := "ffac8904f4b61f4a016691f7ba7396f2110b8a9a3aee485224aeb2d49d992286", func := "loop.example/g00841/laws.FnExactFullPile", spec := "fnExactFullPile", unfollowed := true, recurses := true, plainKeys := false, leaving := true, apart := false, narrowed := true }
def FnExactFullPileUptoSaid : Prop := fnExactFullPileUptoRow.holds Try.pinned (OpenSpec.upto fnExactFullPileSpec)

end Rows
end Go.Proofs.Ytfeaphgpomfojab
