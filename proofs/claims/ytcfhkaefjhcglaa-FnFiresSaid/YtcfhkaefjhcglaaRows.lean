/-
  No cell of these rows narrows 'for every input' (looked for: loops, veiled, ifaces, maps, wideKeys, modest, calm, conditions, laid).
  DERIVED. THE GIVEN ROWS OF THIS SEAT. 11 by the template 'for every input the law returns true; each argument reads behind the call as it read before'; 0 by the template 'total and deterministic' (their statements: YtcfhkaefjhcglaaTotals.lean).
  GIVEN WITH THE SEED: the statements are not yours to turn. If you find one false, say at which input.
  Laid BY PROGRAM, IN A SANDBOX (cutbox-rows.mjs): the forced cells as the released guide's own fill.sh prints them over the translation 4472fedafb064375… (all of the seat's roots in one cut). By AI agents, Wed Nov 11 2026. No macro, syntax, notation, axiom, sorry.
-/
import Derived.Test.YtcfhkaefjhcglaaChecked
import GoSem.Claim
import GoSem.ClaimJoined
import GoSem.ClaimMapViews
import Derived.JoinedTies
import Derived.KernelRfl
namespace Go.Proofs.Ytcfhkaefjhcglaa
/- THE CELL 'sum', in the pinned program and in every row, IS THE sha256 OF THE DUMP (.gsa) THAT YtcfhkaefjhcglaaProg.lean LOADS. Nothing in Lean hashes anything: it is a label: what it is worth is what the hold of that sum in a sandbox is worth. -/
noncomputable def Try.pinned : Pinned := { name := "ytcfhkaefjhcglaa", sum := "4472fedafb064375ebc86bca59d6b9adaaafc8da8373f202a8f73c36f95dc6f2", checked := Try.checked }
namespace Rows
def none {H : Type} : Left H := { results := [], args := [] }

/-- 'laws.FnFires': WHATEVER THE INPUT: true; the input reads as it did. -/
def fnFiresSpec : ChangeSpec := { name := "fnFires", fn := fun _ => fun
  | [d] => { results := [.lit (.bool true)], args := [d] }
  | _ => none }
def fnFiresRow : OpenClaim := { program := "ytcfhkaefjhcglaa", sum := "4472fedafb064375ebc86bca59d6b9adaaafc8da8373f202a8f73c36f95dc6f2", func := "loop.example/g00841/laws.FnFires", spec := "fnFires", unfollowed := true, recurses := true, plainKeys := false, apart := false }
def FnFiresSaid : Prop := fnFiresRow.holds Try.pinned (OpenSpec.ofChange fnFiresSpec)

/-- ITS FALSE NEIGHBOUR: 'it returns false'. Refute it at one input. -/
def fnFiresWrong : ChangeSpec := { name := "fnFires", fn := fun _ => fun
  | [d] => { results := [.lit (.bool false)], args := [d] }
  | _ => none }
def FnFiresWrongFalsely : Prop := fnFiresRow.holds Try.pinned (OpenSpec.ofChange fnFiresWrong)

/-- 'laws.FnScripts': WHATEVER THE INPUT: true; the input reads as it did. -/
def fnScriptsSpec : ChangeSpec := { name := "fnScripts", fn := fun _ => fun
  | [d] => { results := [.lit (.bool true)], args := [d] }
  | _ => none }
def fnScriptsRow : OpenClaim := { program := "ytcfhkaefjhcglaa", sum := "4472fedafb064375ebc86bca59d6b9adaaafc8da8373f202a8f73c36f95dc6f2", func := "loop.example/g00841/laws.FnScripts", spec := "fnScripts", unfollowed := true, recurses := true, plainKeys := false, apart := false }
def FnScriptsSaid : Prop := fnScriptsRow.holds Try.pinned (OpenSpec.ofChange fnScriptsSpec)

/-- ITS FALSE NEIGHBOUR: 'it returns false'. Refute it at one input. -/
def fnScriptsWrong : ChangeSpec := { name := "fnScripts", fn := fun _ => fun
  | [d] => { results := [.lit (.bool false)], args := [d] }
  | _ => none }
def FnScriptsWrongFalsely : Prop := fnScriptsRow.holds Try.pinned (OpenSpec.ofChange fnScriptsWrong)

/-- 'laws.FnSystems': WHATEVER THE INPUT: true; the input reads as it did. -/
def fnSystemsSpec : ChangeSpec := { name := "fnSystems", fn := fun _ => fun
  | [d] => { results := [.lit (.bool true)], args := [d] }
  | _ => none }
def fnSystemsRow : OpenClaim := { program := "ytcfhkaefjhcglaa", sum := "4472fedafb064375ebc86bca59d6b9adaaafc8da8373f202a8f73c36f95dc6f2", func := "loop.example/g00841/laws.FnSystems", spec := "fnSystems", unfollowed := true, recurses := true, plainKeys := false, apart := false }
def FnSystemsSaid : Prop := fnSystemsRow.holds Try.pinned (OpenSpec.ofChange fnSystemsSpec)

/-- ITS FALSE NEIGHBOUR: 'it returns false'. Refute it at one input. -/
def fnSystemsWrong : ChangeSpec := { name := "fnSystems", fn := fun _ => fun
  | [d] => { results := [.lit (.bool false)], args := [d] }
  | _ => none }
def FnSystemsWrongFalsely : Prop := fnSystemsRow.holds Try.pinned (OpenSpec.ofChange fnSystemsWrong)

/-- 'laws.FnExactAreEquivalent': WHATEVER THE INPUT: true; the input reads as it did. -/
def fnExactAreEquivalentSpec : ChangeSpec := { name := "fnExactAreEquivalent", fn := fun _ => fun
  | [d1, d2, d3] => { results := [.lit (.bool true)], args := [d1, d2, d3] }
  | _ => none }
def fnExactAreEquivalentRow : OpenClaim := { program := "ytcfhkaefjhcglaa", sum := "4472fedafb064375ebc86bca59d6b9adaaafc8da8373f202a8f73c36f95dc6f2", func := "loop.example/g00841/laws.FnExactAreEquivalent", spec := "fnExactAreEquivalent", unfollowed := true, recurses := true, plainKeys := false, apart := false }
def FnExactAreEquivalentSaid : Prop := fnExactAreEquivalentRow.holds Try.pinned (OpenSpec.ofChange fnExactAreEquivalentSpec)

/-- ITS FALSE NEIGHBOUR: 'it returns false'. Refute it at one input. -/
def fnExactAreEquivalentWrong : ChangeSpec := { name := "fnExactAreEquivalent", fn := fun _ => fun
  | [d1, d2, d3] => { results := [.lit (.bool false)], args := [d1, d2, d3] }
  | _ => none }
def FnExactAreEquivalentWrongFalsely : Prop := fnExactAreEquivalentRow.holds Try.pinned (OpenSpec.ofChange fnExactAreEquivalentWrong)

/-- 'laws.FnExactScriptBetween': WHATEVER THE INPUT: true; the input reads as it did. -/
def fnExactScriptBetweenSpec : ChangeSpec := { name := "fnExactScriptBetween", fn := fun _ => fun
  | [d1, d2, d3] => { results := [.lit (.bool true)], args := [d1, d2, d3] }
  | _ => none }
def fnExactScriptBetweenRow : OpenClaim := { program := "ytcfhkaefjhcglaa", sum := "4472fedafb064375ebc86bca59d6b9adaaafc8da8373f202a8f73c36f95dc6f2", func := "loop.example/g00841/laws.FnExactScriptBetween", spec := "fnExactScriptBetween", unfollowed := true, recurses := true, plainKeys := false, apart := false }
def FnExactScriptBetweenSaid : Prop := fnExactScriptBetweenRow.holds Try.pinned (OpenSpec.ofChange fnExactScriptBetweenSpec)

/-- ITS FALSE NEIGHBOUR: 'it returns false'. Refute it at one input. -/
def fnExactScriptBetweenWrong : ChangeSpec := { name := "fnExactScriptBetween", fn := fun _ => fun
  | [d1, d2, d3] => { results := [.lit (.bool false)], args := [d1, d2, d3] }
  | _ => none }
def FnExactScriptBetweenWrongFalsely : Prop := fnExactScriptBetweenRow.holds Try.pinned (OpenSpec.ofChange fnExactScriptBetweenWrong)

/-- 'laws.FnExactIsPrincipal': WHATEVER THE INPUT: true; the input reads as it did. -/
def fnExactIsPrincipalSpec : ChangeSpec := { name := "fnExactIsPrincipal", fn := fun _ => fun
  | [d1, d2] => { results := [.lit (.bool true)], args := [d1, d2] }
  | _ => none }
def fnExactIsPrincipalRow : OpenClaim := { program := "ytcfhkaefjhcglaa", sum := "4472fedafb064375ebc86bca59d6b9adaaafc8da8373f202a8f73c36f95dc6f2", func := "loop.example/g00841/laws.FnExactIsPrincipal", spec := "fnExactIsPrincipal", unfollowed := true, recurses := true, plainKeys := false, apart := false }
def FnExactIsPrincipalSaid : Prop := fnExactIsPrincipalRow.holds Try.pinned (OpenSpec.ofChange fnExactIsPrincipalSpec)

/-- ITS FALSE NEIGHBOUR: 'it returns false'. Refute it at one input. -/
def fnExactIsPrincipalWrong : ChangeSpec := { name := "fnExactIsPrincipal", fn := fun _ => fun
  | [d1, d2] => { results := [.lit (.bool false)], args := [d1, d2] }
  | _ => none }
def FnExactIsPrincipalWrongFalsely : Prop := fnExactIsPrincipalRow.holds Try.pinned (OpenSpec.ofChange fnExactIsPrincipalWrong)

/-- 'laws.FnExactIsWinnable': WHATEVER THE INPUT: true; the input reads as it did. -/
def fnExactIsWinnableSpec : ChangeSpec := { name := "fnExactIsWinnable", fn := fun _ => fun
  | [d1, d2] => { results := [.lit (.bool true)], args := [d1, d2] }
  | _ => none }
def fnExactIsWinnableRow : OpenClaim := { program := "ytcfhkaefjhcglaa", sum := "4472fedafb064375ebc86bca59d6b9adaaafc8da8373f202a8f73c36f95dc6f2", func := "loop.example/g00841/laws.FnExactIsWinnable", spec := "fnExactIsWinnable", unfollowed := true, recurses := true, plainKeys := false, apart := false }
def FnExactIsWinnableSaid : Prop := fnExactIsWinnableRow.holds Try.pinned (OpenSpec.ofChange fnExactIsWinnableSpec)

/-- ITS FALSE NEIGHBOUR: 'it returns false'. Refute it at one input. -/
def fnExactIsWinnableWrong : ChangeSpec := { name := "fnExactIsWinnable", fn := fun _ => fun
  | [d1, d2] => { results := [.lit (.bool false)], args := [d1, d2] }
  | _ => none }
def FnExactIsWinnableWrongFalsely : Prop := fnExactIsWinnableRow.holds Try.pinned (OpenSpec.ofChange fnExactIsWinnableWrong)

/-- 'laws.FnExactWinningScript': WHATEVER THE INPUT: true; the input reads as it did. -/
def fnExactWinningScriptSpec : ChangeSpec := { name := "fnExactWinningScript", fn := fun _ => fun
  | [d1, d2] => { results := [.lit (.bool true)], args := [d1, d2] }
  | _ => none }
def fnExactWinningScriptRow : OpenClaim := { program := "ytcfhkaefjhcglaa", sum := "4472fedafb064375ebc86bca59d6b9adaaafc8da8373f202a8f73c36f95dc6f2", func := "loop.example/g00841/laws.FnExactWinningScript", spec := "fnExactWinningScript", unfollowed := true, recurses := true, plainKeys := false, apart := false }
def FnExactWinningScriptSaid : Prop := fnExactWinningScriptRow.holds Try.pinned (OpenSpec.ofChange fnExactWinningScriptSpec)

/-- ITS FALSE NEIGHBOUR: 'it returns false'. Refute it at one input. -/
def fnExactWinningScriptWrong : ChangeSpec := { name := "fnExactWinningScript", fn := fun _ => fun
  | [d1, d2] => { results := [.lit (.bool false)], args := [d1, d2] }
  | _ => none }
def FnExactWinningScriptWrongFalsely : Prop := fnExactWinningScriptRow.holds Try.pinned (OpenSpec.ofChange fnExactWinningScriptWrong)

/-- 'laws.FnExactEffectiveIn': WHATEVER THE INPUT: true; the input reads as it did. -/
def fnExactEffectiveInSpec : ChangeSpec := { name := "fnExactEffectiveIn", fn := fun _ => fun
  | [d1, d2] => { results := [.lit (.bool true)], args := [d1, d2] }
  | _ => none }
def fnExactEffectiveInRow : OpenClaim := { program := "ytcfhkaefjhcglaa", sum := "4472fedafb064375ebc86bca59d6b9adaaafc8da8373f202a8f73c36f95dc6f2", func := "loop.example/g00841/laws.FnExactEffectiveIn", spec := "fnExactEffectiveIn", unfollowed := true, recurses := true, plainKeys := false, apart := false }
def FnExactEffectiveInSaid : Prop := fnExactEffectiveInRow.holds Try.pinned (OpenSpec.ofChange fnExactEffectiveInSpec)

/-- ITS FALSE NEIGHBOUR: 'it returns false'. Refute it at one input. -/
def fnExactEffectiveInWrong : ChangeSpec := { name := "fnExactEffectiveIn", fn := fun _ => fun
  | [d1, d2] => { results := [.lit (.bool false)], args := [d1, d2] }
  | _ => none }
def FnExactEffectiveInWrongFalsely : Prop := fnExactEffectiveInRow.holds Try.pinned (OpenSpec.ofChange fnExactEffectiveInWrong)

/-- 'laws.FnExactCountEffective': WHATEVER THE INPUT: true; the input reads as it did. -/
def fnExactCountEffectiveSpec : ChangeSpec := { name := "fnExactCountEffective", fn := fun _ => fun
  | [d1, d2] => { results := [.lit (.bool true)], args := [d1, d2] }
  | _ => none }
def fnExactCountEffectiveRow : OpenClaim := { program := "ytcfhkaefjhcglaa", sum := "4472fedafb064375ebc86bca59d6b9adaaafc8da8373f202a8f73c36f95dc6f2", func := "loop.example/g00841/laws.FnExactCountEffective", spec := "fnExactCountEffective", unfollowed := true, recurses := true, plainKeys := false, apart := false }
def FnExactCountEffectiveSaid : Prop := fnExactCountEffectiveRow.holds Try.pinned (OpenSpec.ofChange fnExactCountEffectiveSpec)

/-- ITS FALSE NEIGHBOUR: 'it returns false'. Refute it at one input. -/
def fnExactCountEffectiveWrong : ChangeSpec := { name := "fnExactCountEffective", fn := fun _ => fun
  | [d1, d2] => { results := [.lit (.bool false)], args := [d1, d2] }
  | _ => none }
def FnExactCountEffectiveWrongFalsely : Prop := fnExactCountEffectiveRow.holds Try.pinned (OpenSpec.ofChange fnExactCountEffectiveWrong)

/-- 'laws.FnExactRepresentativeOf': WHATEVER THE INPUT: true; the input reads as it did. -/
def fnExactRepresentativeOfSpec : ChangeSpec := { name := "fnExactRepresentativeOf", fn := fun _ => fun
  | [d1, d2] => { results := [.lit (.bool true)], args := [d1, d2] }
  | _ => none }
def fnExactRepresentativeOfRow : OpenClaim := { program := "ytcfhkaefjhcglaa", sum := "4472fedafb064375ebc86bca59d6b9adaaafc8da8373f202a8f73c36f95dc6f2", func := "loop.example/g00841/laws.FnExactRepresentativeOf", spec := "fnExactRepresentativeOf", unfollowed := true, recurses := true, plainKeys := false, apart := false }
def FnExactRepresentativeOfSaid : Prop := fnExactRepresentativeOfRow.holds Try.pinned (OpenSpec.ofChange fnExactRepresentativeOfSpec)

/-- ITS FALSE NEIGHBOUR: 'it returns false'. Refute it at one input. -/
def fnExactRepresentativeOfWrong : ChangeSpec := { name := "fnExactRepresentativeOf", fn := fun _ => fun
  | [d1, d2] => { results := [.lit (.bool false)], args := [d1, d2] }
  | _ => none }
def FnExactRepresentativeOfWrongFalsely : Prop := fnExactRepresentativeOfRow.holds Try.pinned (OpenSpec.ofChange fnExactRepresentativeOfWrong)

/- THE SECOND FORM. 'bulk': how many values and letters a reading holds, each counted each time it is reached (what is shared counts as often as it is met; a slice's spare places count too). A statement '..UptoSaid' is the law's where the arguments, and the package variables that the reading takes, are together of bulk at most 1048576: NARROWER than '..Said'. Prove '..Said' where nothing that the law and all that it calls make is longer than what came in: it says more and counts as full. Else prove '..UptoSaid'. A law counts once. -/
mutual
def uptoBulk {H : Type} : DataW H → Nat
  | .lit (.string bytes) => bytes.length + 1
  | .lit _ => 1
  | .nil => 1
  | .ptr d => uptoBulk d + 1
  | .slice elems spare => uptoBulkAll elems + uptoBulkAll spare + 1
  | .agg parts => uptoBulkAll parts + 1
  | .iface _ d => uptoBulk d + 1
  | .map entries => uptoBulkEntries entries + 1
  | .held _ => 1
def uptoBulkAll {H : Type} : List (DataW H) → Nat
  | [] => 0
  | d :: r => uptoBulk d + uptoBulkAll r
def uptoBulkEntries {H : Type} : List (Lit × DataW H) → Nat
  | [] => 0
  | x :: r => uptoBulkEntry x + uptoBulkEntries r
def uptoBulkEntry {H : Type} : Lit × DataW H → Nat
  | (.string bytes, d) => bytes.length + uptoBulk d + 1
  | (_, d) => uptoBulk d + 1
 end
def uptoSmall : (H : Type) → List (DataW H) → Bool := fun _ ds => decide (uptoBulkAll ds ≤ 1048576)
def OpenSpec.upto (s : _root_.Go.ChangeSpec) : _root_.Go.OpenSpec := { _root_.Go.OpenSpec.ofChange s with cond := some uptoSmall }

/-- 'laws.FnFires', WHERE WHAT IT READS IS OF BULK AT MOST 1048576: true; the input reads as it did. -/
def fnFiresUptoRow : OpenClaim := { program := "ytcfhkaefjhcglaa", sum := "4472fedafb064375ebc86bca59d6b9adaaafc8da8373f202a8f73c36f95dc6f2", func := "loop.example/g00841/laws.FnFires", spec := "fnFires", unfollowed := true, recurses := true, plainKeys := false, apart := false, narrowed := true }
def FnFiresUptoSaid : Prop := fnFiresUptoRow.holds Try.pinned (OpenSpec.upto fnFiresSpec)

/-- 'laws.FnScripts', WHERE WHAT IT READS IS OF BULK AT MOST 1048576: true; the input reads as it did. -/
def fnScriptsUptoRow : OpenClaim := { program := "ytcfhkaefjhcglaa", sum := "4472fedafb064375ebc86bca59d6b9adaaafc8da8373f202a8f73c36f95dc6f2", func := "loop.example/g00841/laws.FnScripts", spec := "fnScripts", unfollowed := true, recurses := true, plainKeys := false, apart := false, narrowed := true }
def FnScriptsUptoSaid : Prop := fnScriptsUptoRow.holds Try.pinned (OpenSpec.upto fnScriptsSpec)

/-- 'laws.FnSystems', WHERE WHAT IT READS IS OF BULK AT MOST 1048576: true; the input reads as it did. -/
def fnSystemsUptoRow : OpenClaim := { program := "ytcfhkaefjhcglaa", sum := "4472fedafb064375ebc86bca59d6b9adaaafc8da8373f202a8f73c36f95dc6f2", func := "loop.example/g00841/laws.FnSystems", spec := "fnSystems", unfollowed := true, recurses := true, plainKeys := false, apart := false, narrowed := true }
def FnSystemsUptoSaid : Prop := fnSystemsUptoRow.holds Try.pinned (OpenSpec.upto fnSystemsSpec)

/-- 'laws.FnExactAreEquivalent', WHERE WHAT IT READS IS OF BULK AT MOST 1048576: true; the input reads as it did. -/
def fnExactAreEquivalentUptoRow : OpenClaim := { program := "ytcfhkaefjhcglaa", sum := "4472fedafb064375ebc86bca59d6b9adaaafc8da8373f202a8f73c36f95dc6f2", func := "loop.example/g00841/laws.FnExactAreEquivalent", spec := "fnExactAreEquivalent", unfollowed := true, recurses := true, plainKeys := false, apart := false, narrowed := true }
def FnExactAreEquivalentUptoSaid : Prop := fnExactAreEquivalentUptoRow.holds Try.pinned (OpenSpec.upto fnExactAreEquivalentSpec)

/-- 'laws.FnExactScriptBetween', WHERE WHAT IT READS IS OF BULK AT MOST 1048576: true; the input reads as it did. -/
def fnExactScriptBetweenUptoRow : OpenClaim := { program := "ytcfhkaefjhcglaa", sum := "4472fedafb064375ebc86bca59d6b9adaaafc8da8373f202a8f73c36f95dc6f2", func := "loop.example/g00841/laws.FnExactScriptBetween", spec := "fnExactScriptBetween", unfollowed := true, recurses := true, plainKeys := false, apart := false, narrowed := true }
def FnExactScriptBetweenUptoSaid : Prop := fnExactScriptBetweenUptoRow.holds Try.pinned (OpenSpec.upto fnExactScriptBetweenSpec)

/-- 'laws.FnExactIsPrincipal', WHERE WHAT IT READS IS OF BULK AT MOST 1048576: true; the input reads as it did. -/
def fnExactIsPrincipalUptoRow : OpenClaim := { program := "ytcfhkaefjhcglaa", sum := "4472fedafb064375ebc86bca59d6b9adaaafc8da8373f202a8f73c36f95dc6f2", func := "loop.example/g00841/laws.FnExactIsPrincipal", spec := "fnExactIsPrincipal", unfollowed := true, recurses := true, plainKeys := false, apart := false, narrowed := true }
def FnExactIsPrincipalUptoSaid : Prop := fnExactIsPrincipalUptoRow.holds Try.pinned (OpenSpec.upto fnExactIsPrincipalSpec)

/-- 'laws.FnExactIsWinnable', WHERE WHAT IT READS IS OF BULK AT MOST 1048576: true; the input reads as it did. -/
def fnExactIsWinnableUptoRow : OpenClaim := { program := "ytcfhkaefjhcglaa", sum := "4472fedafb064375ebc86bca59d6b9adaaafc8da8373f202a8f73c36f95dc6f2", func := "loop.example/g00841/laws.FnExactIsWinnable", spec := "fnExactIsWinnable", unfollowed := true, recurses := true, plainKeys := false, apart := false, narrowed := true }
def FnExactIsWinnableUptoSaid : Prop := fnExactIsWinnableUptoRow.holds Try.pinned (OpenSpec.upto fnExactIsWinnableSpec)

/-- 'laws.FnExactWinningScript', WHERE WHAT IT READS IS OF BULK AT MOST 1048576: true; the input reads as it did. -/
def fnExactWinningScriptUptoRow : OpenClaim := { program := "ytcfhkaefjhcglaa", sum := "4472fedafb064375ebc86bca59d6b9adaaafc8da8373f202a8f73c36f95dc6f2", func := "loop.example/g00841/laws.FnExactWinningScript", spec := "fnExactWinningScript", unfollowed := true, recurses := true, plainKeys := false, apart := false, narrowed := true }
def FnExactWinningScriptUptoSaid : Prop := fnExactWinningScriptUptoRow.holds Try.pinned (OpenSpec.upto fnExactWinningScriptSpec)

/-- 'laws.FnExactEffectiveIn', WHERE WHAT IT READS IS OF BULK AT MOST 1048576: true; the input reads as it did. -/
def fnExactEffectiveInUptoRow : OpenClaim := { program := "ytcfhkaefjhcglaa", sum := "4472fedafb064375ebc86bca59d6b9adaaafc8da8373f202a8f73c36f95dc6f2", func := "loop.example/g00841/laws.FnExactEffectiveIn", spec := "fnExactEffectiveIn", unfollowed := true, recurses := true, plainKeys := false, apart := false, narrowed := true }
def FnExactEffectiveInUptoSaid : Prop := fnExactEffectiveInUptoRow.holds Try.pinned (OpenSpec.upto fnExactEffectiveInSpec)

/-- 'laws.FnExactCountEffective', WHERE WHAT IT READS IS OF BULK AT MOST 1048576: true; the input reads as it did. -/
def fnExactCountEffectiveUptoRow : OpenClaim := { program := "ytcfhkaefjhcglaa", sum := "4472fedafb064375ebc86bca59d6b9adaaafc8da8373f202a8f73c36f95dc6f2", func := "loop.example/g00841/laws.FnExactCountEffective", spec := "fnExactCountEffective", unfollowed := true, recurses := true, plainKeys := false, apart := false, narrowed := true }
def FnExactCountEffectiveUptoSaid : Prop := fnExactCountEffectiveUptoRow.holds Try.pinned (OpenSpec.upto fnExactCountEffectiveSpec)

/-- 'laws.FnExactRepresentativeOf', WHERE WHAT IT READS IS OF BULK AT MOST 1048576: true; the input reads as it did. -/
def fnExactRepresentativeOfUptoRow : OpenClaim := { program := "ytcfhkaefjhcglaa", sum := "4472fedafb064375ebc86bca59d6b9adaaafc8da8373f202a8f73c36f95dc6f2", func := "loop.example/g00841/laws.FnExactRepresentativeOf", spec := "fnExactRepresentativeOf", unfollowed := true, recurses := true, plainKeys := false, apart := false, narrowed := true }
def FnExactRepresentativeOfUptoSaid : Prop := fnExactRepresentativeOfUptoRow.holds Try.pinned (OpenSpec.upto fnExactRepresentativeOfSpec)

end Rows
end Go.Proofs.Ytcfhkaefjhcglaa
