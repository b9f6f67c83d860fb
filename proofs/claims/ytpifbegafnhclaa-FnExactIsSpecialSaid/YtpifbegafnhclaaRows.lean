/-
  No cell of these rows narrows 'for every input' (looked for: loops, veiled, ifaces, maps, wideKeys, modest, calm, conditions, laid).
  DERIVED. THE GIVEN ROWS OF THIS SEAT. 3 by the template 'for every input the law returns true; each argument reads behind the call as it read before'; 0 by the template 'total and deterministic' (their statements: YtpifbegafnhclaaTotals.lean).
  GIVEN WITH THE SEED: the statements are not yours to turn. If you find one false, say at which input.
  Laid BY PROGRAM, IN A SANDBOX (cutbox-rows.mjs): the forced cells as the released guide's own fill.sh prints them over the translation db453f437e3b4e80… (all of the seat's roots in one cut). By AI agents, Wed Nov 11 2026. No macro, syntax, notation, axiom, sorry.
-/
import Derived.Test.YtpifbegafnhclaaChecked
import GoSem.Claim
import GoSem.ClaimJoined
import GoSem.ClaimMapViews
import Derived.JoinedTies
import Derived.KernelRfl
namespace Go.Proofs.Ytpifbegafnhclaa
/- THE CELL 'sum', in the pinned program and in every row, IS THE sha256 OF THE DUMP (.gsa) THAT YtpifbegafnhclaaProg.lean LOADS. Nothing in Lean hashes anything: it is a label: what it is worth is what the hold of that sum in a sandbox is worth. -/
noncomputable def Try.pinned : Pinned := { name := "ytpifbegafnhclaa", sum := "db453f437e3b4e8056c316310279c463a36a8e05b772ae1584ee0a0a7e24e555", checked := Try.checked }
namespace Rows
def none {H : Type} : Left H := { results := [], args := [] }

/-- 'laws.FnExactCanonicalOf': WHATEVER THE INPUT: true; the input reads as it did. -/
def fnExactCanonicalOfSpec : ChangeSpec := { name := "fnExactCanonicalOf", fn := fun _ => fun
  | [d] => { results := [.lit (.bool true)], args := [d] }
  | _ => none }
def fnExactCanonicalOfRow : OpenClaim := { program := "ytpifbegafnhclaa", sum := "db453f437e3b4e8056c316310279c463a36a8e05b772ae1584ee0a0a7e24e555", func := "loop.example/g00841/laws.FnExactCanonicalOf", spec := "fnExactCanonicalOf", unfollowed := true, recurses := true, plainKeys := false, apart := false }
def FnExactCanonicalOfSaid : Prop := fnExactCanonicalOfRow.holds Try.pinned (OpenSpec.ofChange fnExactCanonicalOfSpec)

/-- ITS FALSE NEIGHBOUR: 'it returns false'. Refute it at one input. -/
def fnExactCanonicalOfWrong : ChangeSpec := { name := "fnExactCanonicalOf", fn := fun _ => fun
  | [d] => { results := [.lit (.bool false)], args := [d] }
  | _ => none }
def FnExactCanonicalOfWrongFalsely : Prop := fnExactCanonicalOfRow.holds Try.pinned (OpenSpec.ofChange fnExactCanonicalOfWrong)

/-- 'laws.FnExactResidualOf': WHATEVER THE INPUT: true; the input reads as it did. -/
def fnExactResidualOfSpec : ChangeSpec := { name := "fnExactResidualOf", fn := fun _ => fun
  | [d1, d2] => { results := [.lit (.bool true)], args := [d1, d2] }
  | _ => none }
def fnExactResidualOfRow : OpenClaim := { program := "ytpifbegafnhclaa", sum := "db453f437e3b4e8056c316310279c463a36a8e05b772ae1584ee0a0a7e24e555", func := "loop.example/g00841/laws.FnExactResidualOf", spec := "fnExactResidualOf", unfollowed := true, recurses := true, plainKeys := false, apart := false }
def FnExactResidualOfSaid : Prop := fnExactResidualOfRow.holds Try.pinned (OpenSpec.ofChange fnExactResidualOfSpec)

/-- ITS FALSE NEIGHBOUR: 'it returns false'. Refute it at one input. -/
def fnExactResidualOfWrong : ChangeSpec := { name := "fnExactResidualOf", fn := fun _ => fun
  | [d1, d2] => { results := [.lit (.bool false)], args := [d1, d2] }
  | _ => none }
def FnExactResidualOfWrongFalsely : Prop := fnExactResidualOfRow.holds Try.pinned (OpenSpec.ofChange fnExactResidualOfWrong)

/-- 'laws.FnExactIsSpecial': WHATEVER THE INPUT: true; the input reads as it did. -/
def fnExactIsSpecialSpec : ChangeSpec := { name := "fnExactIsSpecial", fn := fun _ => fun
  | [d1, d2] => { results := [.lit (.bool true)], args := [d1, d2] }
  | _ => none }
def fnExactIsSpecialRow : OpenClaim := { program := "ytpifbegafnhclaa", sum := "db453f437e3b4e8056c316310279c463a36a8e05b772ae1584ee0a0a7e24e555", func := "loop.example/g00841/laws.FnExactIsSpecial", spec := "fnExactIsSpecial", unfollowed := true, recurses := true, plainKeys := false, apart := false }
def FnExactIsSpecialSaid : Prop := fnExactIsSpecialRow.holds Try.pinned (OpenSpec.ofChange fnExactIsSpecialSpec)

/-- ITS FALSE NEIGHBOUR: 'it returns false'. Refute it at one input. -/
def fnExactIsSpecialWrong : ChangeSpec := { name := "fnExactIsSpecial", fn := fun _ => fun
  | [d1, d2] => { results := [.lit (.bool false)], args := [d1, d2] }
  | _ => none }
def FnExactIsSpecialWrongFalsely : Prop := fnExactIsSpecialRow.holds Try.pinned (OpenSpec.ofChange fnExactIsSpecialWrong)

/- THE SECOND FORM. 'bulk': how many values and letters a reading holds, each counted each time it is reached (what is shared counts as often as it is met; a slice's spare places count too). A statement '..UptoSaid' is the law's where the arguments, and the package variables that the reading takes, are together of bulk at most 1048576: NARROWER than '..Said'. Prove '..Said' where nothing that the law and all that it calls make is longer than what came in: it says more and counts as full. Else prove '..UptoSaid'. A law counts once. -/
mutual
def uptoBulk {H : Type} : DataW H → Nat
  | .lit (.string bytes) => bytes.length + 1
  | .lit _ => 1
  | .nil => 1
  | .ptr d => uptoBulk d + 1
  | .slice elems spare => uptoBulkAll elems + uptoBulkAll spare + 1
  | .agg parts => uptoBulkAll parts + 1
  | .iface _ d => uptoBulk d + 1
  | .map entries => uptoBulkEntries entries + 1
  | .held _ => 1
def uptoBulkAll {H : Type} : List (DataW H) → Nat
  | [] => 0
  | d :: r => uptoBulk d + uptoBulkAll r
def uptoBulkEntries {H : Type} : List (Lit × DataW H) → Nat
  | [] => 0
  | x :: r => uptoBulkEntry x + uptoBulkEntries r
def uptoBulkEntry {H : Type} : Lit × DataW H → Nat
  | (.string bytes, d) => bytes.length + uptoBulk d + 1
  | (_, d) => uptoBulk d + 1
 end
def uptoSmall : (H : Type) → List (DataW H) → Bool := fun _ ds => decide (uptoBulkAll ds ≤ 1048576)
def OpenSpec.upto (s : _root_.Go.ChangeSpec) : _root_.Go.OpenSpec := { _root_.Go.OpenSpec.ofChange s with cond := some uptoSmall }

/-- 'laws.FnExactCanonicalOf', WHERE WHAT IT READS IS OF BULK AT MOST 1048576: true; the input reads as it did. -/
def fnExactCanonicalOfUptoRow : OpenClaim := { program := "ytpifbegafnhclaa", sum := "db453f437e3b4e8056c316310279c463a36a8e05b772ae1584ee0a0a7e24e555", func := "loop.example/g00841/laws.FnExactCanonicalOf", spec := "fnExactCanonicalOf", unfollowed := true, recurses := true, plainKeys := false, apart := false, narrowed := true }
def FnExactCanonicalOfUptoSaid : Prop := fnExactCanonicalOfUptoRow.holds Try.pinned (OpenSpec.upto fnExactCanonicalOfSpec)

/-- 'laws.FnExactResidualOf', WHERE WHAT IT READS IS OF BULK AT MOST 1048576: true; the input reads as it did. -/
def fnExactResidualOfUptoRow : OpenClaim := { program := "ytpifbegafnhclaa", sum := "db453f437e3b4e8056c316310279c463a36a8e05b772ae1584ee0a0a7e24e555", func := "loop.example/g00841/laws.FnExactResidualOf", spec := "fnExactResidualOf", unfollowed := true, recurses := true, plainKeys := false, apart := false, narrowed := true }
def FnExactResidualOfUptoSaid : Prop := fnExactResidualOfUptoRow.holds Try.pinned (OpenSpec.upto fnExactResidualOfSpec)

/-- 'laws.FnExactIsSpecial', WHERE WHAT IT READS IS OF BULK AT MOST 1048576: true; the input reads as it did. -/
def fnExactIsSpecialUptoRow : OpenClaim := { program := "ytpifbegafnhclaa", sum := "db453f437e3b4e8056c316310279c463a36a8e05b772ae1584ee0a0a7e24e555", func := "loop.example/g00841/laws.FnExactIsSpecial", spec := "fnExactIsSpecial", unfollowed := true, recurses := true, plainKeys := false, apart := false, narrowed := true }
def FnExactIsSpecialUptoSaid : Prop := fnExactIsSpecialUptoRow.holds Try.pinned (OpenSpec.upto fnExactIsSpecialSpec)

end Rows
end Go.Proofs.Ytpifbegafnhclaa
