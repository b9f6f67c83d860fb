/-
  No cell of these rows narrows 'for every input' (looked for: loops, veiled, ifaces, maps, wideKeys, modest, calm, conditions, laid).
  DERIVED. THE GIVEN ROWS OF THIS SEAT. 12 by the template 'for every input the law returns true; each argument reads behind the call as it read before'; 0 by the template 'total and deterministic' (their statements: YtkmbdclhjdbhpaaTotals.lean).
  GIVEN WITH THE SEED: the statements are not yours to turn. If you find one false, say at which input.
  Laid BY PROGRAM, IN A SANDBOX (cutbox-rows.mjs): the forced cells as the released guide's own fill.sh prints them over the translation ba6030a28bce3fb6… (all of the seat's roots in one cut). By AI agents, Wed Nov 11 2026. No macro, syntax, notation, axiom, sorry.
-/
import Derived.Test.YtkmbdclhjdbhpaaChecked
import GoSem.Claim
import GoSem.ClaimJoined
import GoSem.ClaimMapViews
import Derived.JoinedTies
import Derived.KernelRfl
namespace Go.Proofs.Ytkmbdclhjdbhpaa
/- THE CELL 'sum', in the pinned program and in every row, IS THE sha256 OF THE DUMP (.gsa) THAT YtkmbdclhjdbhpaaProg.lean LOADS. Nothing in Lean hashes anything: it is a label: what it is worth is what the hold of that sum in a sandbox is worth. -/
noncomputable def Try.pinned : Pinned := { name := "ytkmbdclhjdbhpaa", sum := "ba6030a28bce3fb640ec211788c2d3517d9333c205bd5b58aa971e4eff9fc2cf", checked := Try.checked }
namespace Rows
def none {H : Type} : Left H := { results := [], args := [] }

/-- 'laws.FnExactDegreeOf': WHATEVER THE INPUT: true; the input reads as it did. -/
def fnExactDegreeOfSpec : ChangeSpec := { name := "fnExactDegreeOf", fn := fun _ => fun
  | [d] => { results := [.lit (.bool true)], args := [d] }
  | _ => none }
def fnExactDegreeOfRow : OpenClaim := { program := "ytkmbdclhjdbhpaa", sum := "ba6030a28bce3fb640ec211788c2d3517d9333c205bd5b58aa971e4eff9fc2cf", func := "loop.example/g00841/laws.FnExactDegreeOf", spec := "fnExactDegreeOf", plainKeys := false, apart := false }
def FnExactDegreeOfSaid : Prop := fnExactDegreeOfRow.holds Try.pinned (OpenSpec.ofChange fnExactDegreeOfSpec)

/-- ITS FALSE NEIGHBOUR: 'it returns false'. Refute it at one input. -/
def fnExactDegreeOfWrong : ChangeSpec := { name := "fnExactDegreeOf", fn := fun _ => fun
  | [d] => { results := [.lit (.bool false)], args := [d] }
  | _ => none }
def FnExactDegreeOfWrongFalsely : Prop := fnExactDegreeOfRow.holds Try.pinned (OpenSpec.ofChange fnExactDegreeOfWrong)

/-- 'laws.FnExactIsEffective': WHATEVER THE INPUT: true; the input reads as it did. -/
def fnExactIsEffectiveSpec : ChangeSpec := { name := "fnExactIsEffective", fn := fun _ => fun
  | [d] => { results := [.lit (.bool true)], args := [d] }
  | _ => none }
def fnExactIsEffectiveRow : OpenClaim := { program := "ytkmbdclhjdbhpaa", sum := "ba6030a28bce3fb640ec211788c2d3517d9333c205bd5b58aa971e4eff9fc2cf", func := "loop.example/g00841/laws.FnExactIsEffective", spec := "fnExactIsEffective", unfollowed := true, recurses := true, plainKeys := false, apart := false }
def FnExactIsEffectiveSaid : Prop := fnExactIsEffectiveRow.holds Try.pinned (OpenSpec.ofChange fnExactIsEffectiveSpec)

/-- ITS FALSE NEIGHBOUR: 'it returns false'. Refute it at one input. -/
def fnExactIsEffectiveWrong : ChangeSpec := { name := "fnExactIsEffective", fn := fun _ => fun
  | [d] => { results := [.lit (.bool false)], args := [d] }
  | _ => none }
def FnExactIsEffectiveWrongFalsely : Prop := fnExactIsEffectiveRow.holds Try.pinned (OpenSpec.ofChange fnExactIsEffectiveWrong)

/-- 'laws.FnExactAddDivisors': WHATEVER THE INPUT: true; the input reads as it did. -/
def fnExactAddDivisorsSpec : ChangeSpec := { name := "fnExactAddDivisors", fn := fun _ => fun
  | [d1, d2] => { results := [.lit (.bool true)], args := [d1, d2] }
  | _ => none }
def fnExactAddDivisorsRow : OpenClaim := { program := "ytkmbdclhjdbhpaa", sum := "ba6030a28bce3fb640ec211788c2d3517d9333c205bd5b58aa971e4eff9fc2cf", func := "loop.example/g00841/laws.FnExactAddDivisors", spec := "fnExactAddDivisors", plainKeys := false, apart := false }
def FnExactAddDivisorsSaid : Prop := fnExactAddDivisorsRow.holds Try.pinned (OpenSpec.ofChange fnExactAddDivisorsSpec)

/-- ITS FALSE NEIGHBOUR: 'it returns false'. Refute it at one input. -/
def fnExactAddDivisorsWrong : ChangeSpec := { name := "fnExactAddDivisors", fn := fun _ => fun
  | [d1, d2] => { results := [.lit (.bool false)], args := [d1, d2] }
  | _ => none }
def FnExactAddDivisorsWrongFalsely : Prop := fnExactAddDivisorsRow.holds Try.pinned (OpenSpec.ofChange fnExactAddDivisorsWrong)

/-- 'laws.FnExactNegateDivisor': WHATEVER THE INPUT: true; the input reads as it did. -/
def fnExactNegateDivisorSpec : ChangeSpec := { name := "fnExactNegateDivisor", fn := fun _ => fun
  | [d] => { results := [.lit (.bool true)], args := [d] }
  | _ => none }
def fnExactNegateDivisorRow : OpenClaim := { program := "ytkmbdclhjdbhpaa", sum := "ba6030a28bce3fb640ec211788c2d3517d9333c205bd5b58aa971e4eff9fc2cf", func := "loop.example/g00841/laws.FnExactNegateDivisor", spec := "fnExactNegateDivisor", plainKeys := false, apart := false }
def FnExactNegateDivisorSaid : Prop := fnExactNegateDivisorRow.holds Try.pinned (OpenSpec.ofChange fnExactNegateDivisorSpec)

/-- ITS FALSE NEIGHBOUR: 'it returns false'. Refute it at one input. -/
def fnExactNegateDivisorWrong : ChangeSpec := { name := "fnExactNegateDivisor", fn := fun _ => fun
  | [d] => { results := [.lit (.bool false)], args := [d] }
  | _ => none }
def FnExactNegateDivisorWrongFalsely : Prop := fnExactNegateDivisorRow.holds Try.pinned (OpenSpec.ofChange fnExactNegateDivisorWrong)

/-- 'laws.FnExactSameDivisor': WHATEVER THE INPUT: true; the input reads as it did. -/
def fnExactSameDivisorSpec : ChangeSpec := { name := "fnExactSameDivisor", fn := fun _ => fun
  | [d1, d2] => { results := [.lit (.bool true)], args := [d1, d2] }
  | _ => none }
def fnExactSameDivisorRow : OpenClaim := { program := "ytkmbdclhjdbhpaa", sum := "ba6030a28bce3fb640ec211788c2d3517d9333c205bd5b58aa971e4eff9fc2cf", func := "loop.example/g00841/laws.FnExactSameDivisor", spec := "fnExactSameDivisor", plainKeys := false, apart := false }
def FnExactSameDivisorSaid : Prop := fnExactSameDivisorRow.holds Try.pinned (OpenSpec.ofChange fnExactSameDivisorSpec)

/-- ITS FALSE NEIGHBOUR: 'it returns false'. Refute it at one input. -/
def fnExactSameDivisorWrong : ChangeSpec := { name := "fnExactSameDivisor", fn := fun _ => fun
  | [d1, d2] => { results := [.lit (.bool false)], args := [d1, d2] }
  | _ => none }
def FnExactSameDivisorWrongFalsely : Prop := fnExactSameDivisorRow.holds Try.pinned (OpenSpec.ofChange fnExactSameDivisorWrong)

/-- 'laws.FnExactDivisorOk': WHATEVER THE INPUT: true; the input reads as it did. -/
def fnExactDivisorOkSpec : ChangeSpec := { name := "fnExactDivisorOk", fn := fun _ => fun
  | [d1, d2] => { results := [.lit (.bool true)], args := [d1, d2] }
  | _ => none }
def fnExactDivisorOkRow : OpenClaim := { program := "ytkmbdclhjdbhpaa", sum := "ba6030a28bce3fb640ec211788c2d3517d9333c205bd5b58aa971e4eff9fc2cf", func := "loop.example/g00841/laws.FnExactDivisorOk", spec := "fnExactDivisorOk", unfollowed := true, recurses := true, plainKeys := false, apart := false }
def FnExactDivisorOkSaid : Prop := fnExactDivisorOkRow.holds Try.pinned (OpenSpec.ofChange fnExactDivisorOkSpec)

/-- ITS FALSE NEIGHBOUR: 'it returns false'. Refute it at one input. -/
def fnExactDivisorOkWrong : ChangeSpec := { name := "fnExactDivisorOk", fn := fun _ => fun
  | [d1, d2] => { results := [.lit (.bool false)], args := [d1, d2] }
  | _ => none }
def FnExactDivisorOkWrongFalsely : Prop := fnExactDivisorOkRow.holds Try.pinned (OpenSpec.ofChange fnExactDivisorOkWrong)

/-- 'laws.FnExactScriptOk': WHATEVER THE INPUT: true; the input reads as it did. -/
def fnExactScriptOkSpec : ChangeSpec := { name := "fnExactScriptOk", fn := fun _ => fun
  | [d1, d2] => { results := [.lit (.bool true)], args := [d1, d2] }
  | _ => none }
def fnExactScriptOkRow : OpenClaim := { program := "ytkmbdclhjdbhpaa", sum := "ba6030a28bce3fb640ec211788c2d3517d9333c205bd5b58aa971e4eff9fc2cf", func := "loop.example/g00841/laws.FnExactScriptOk", spec := "fnExactScriptOk", unfollowed := true, recurses := true, plainKeys := false, apart := false }
def FnExactScriptOkSaid : Prop := fnExactScriptOkRow.holds Try.pinned (OpenSpec.ofChange fnExactScriptOkSpec)

/-- ITS FALSE NEIGHBOUR: 'it returns false'. Refute it at one input. -/
def fnExactScriptOkWrong : ChangeSpec := { name := "fnExactScriptOk", fn := fun _ => fun
  | [d1, d2] => { results := [.lit (.bool false)], args := [d1, d2] }
  | _ => none }
def FnExactScriptOkWrongFalsely : Prop := fnExactScriptOkRow.holds Try.pinned (OpenSpec.ofChange fnExactScriptOkWrong)

/-- 'laws.FnExactOneAt': WHATEVER THE INPUT: true; the input reads as it did. -/
def fnExactOneAtSpec : ChangeSpec := { name := "fnExactOneAt", fn := fun _ => fun
  | [d1, d2, d3] => { results := [.lit (.bool true)], args := [d1, d2, d3] }
  | _ => none }
def fnExactOneAtRow : OpenClaim := { program := "ytkmbdclhjdbhpaa", sum := "ba6030a28bce3fb640ec211788c2d3517d9333c205bd5b58aa971e4eff9fc2cf", func := "loop.example/g00841/laws.FnExactOneAt", spec := "fnExactOneAt", unfollowed := true, recurses := true, plainKeys := false, apart := false }
def FnExactOneAtSaid : Prop := fnExactOneAtRow.holds Try.pinned (OpenSpec.ofChange fnExactOneAtSpec)

/-- ITS FALSE NEIGHBOUR: 'it returns false'. Refute it at one input. -/
def fnExactOneAtWrong : ChangeSpec := { name := "fnExactOneAt", fn := fun _ => fun
  | [d1, d2, d3] => { results := [.lit (.bool false)], args := [d1, d2, d3] }
  | _ => none }
def FnExactOneAtWrongFalsely : Prop := fnExactOneAtRow.holds Try.pinned (OpenSpec.ofChange fnExactOneAtWrong)

/-- 'laws.FnExactFireScript': WHATEVER THE INPUT: true; the input reads as it did. -/
def fnExactFireScriptSpec : ChangeSpec := { name := "fnExactFireScript", fn := fun _ => fun
  | [d1, d2, d3] => { results := [.lit (.bool true)], args := [d1, d2, d3] }
  | _ => none }
def fnExactFireScriptRow : OpenClaim := { program := "ytkmbdclhjdbhpaa", sum := "ba6030a28bce3fb640ec211788c2d3517d9333c205bd5b58aa971e4eff9fc2cf", func := "loop.example/g00841/laws.FnExactFireScript", spec := "fnExactFireScript", unfollowed := true, recurses := true, plainKeys := false, apart := false }
def FnExactFireScriptSaid : Prop := fnExactFireScriptRow.holds Try.pinned (OpenSpec.ofChange fnExactFireScriptSpec)

/-- ITS FALSE NEIGHBOUR: 'it returns false'. Refute it at one input. -/
def fnExactFireScriptWrong : ChangeSpec := { name := "fnExactFireScript", fn := fun _ => fun
  | [d1, d2, d3] => { results := [.lit (.bool false)], args := [d1, d2, d3] }
  | _ => none }
def FnExactFireScriptWrongFalsely : Prop := fnExactFireScriptRow.holds Try.pinned (OpenSpec.ofChange fnExactFireScriptWrong)

/-- 'laws.FnExactFireSet': WHATEVER THE INPUT: true; the input reads as it did. -/
def fnExactFireSetSpec : ChangeSpec := { name := "fnExactFireSet", fn := fun _ => fun
  | [d1, d2, d3] => { results := [.lit (.bool true)], args := [d1, d2, d3] }
  | _ => none }
def fnExactFireSetRow : OpenClaim := { program := "ytkmbdclhjdbhpaa", sum := "ba6030a28bce3fb640ec211788c2d3517d9333c205bd5b58aa971e4eff9fc2cf", func := "loop.example/g00841/laws.FnExactFireSet", spec := "fnExactFireSet", unfollowed := true, recurses := true, plainKeys := false, apart := false }
def FnExactFireSetSaid : Prop := fnExactFireSetRow.holds Try.pinned (OpenSpec.ofChange fnExactFireSetSpec)

/-- ITS FALSE NEIGHBOUR: 'it returns false'. Refute it at one input. -/
def fnExactFireSetWrong : ChangeSpec := { name := "fnExactFireSet", fn := fun _ => fun
  | [d1, d2, d3] => { results := [.lit (.bool false)], args := [d1, d2, d3] }
  | _ => none }
def FnExactFireSetWrongFalsely : Prop := fnExactFireSetRow.holds Try.pinned (OpenSpec.ofChange fnExactFireSetWrong)

/-- 'laws.FnExactIsLegalSet': WHATEVER THE INPUT: true; the input reads as it did. -/
def fnExactIsLegalSetSpec : ChangeSpec := { name := "fnExactIsLegalSet", fn := fun _ => fun
  | [d1, d2, d3] => { results := [.lit (.bool true)], args := [d1, d2, d3] }
  | _ => none }
def fnExactIsLegalSetRow : OpenClaim := { program := "ytkmbdclhjdbhpaa", sum := "ba6030a28bce3fb640ec211788c2d3517d9333c205bd5b58aa971e4eff9fc2cf", func := "loop.example/g00841/laws.FnExactIsLegalSet", spec := "fnExactIsLegalSet", unfollowed := true, recurses := true, plainKeys := false, apart := false }
def FnExactIsLegalSetSaid : Prop := fnExactIsLegalSetRow.holds Try.pinned (OpenSpec.ofChange fnExactIsLegalSetSpec)

/-- ITS FALSE NEIGHBOUR: 'it returns false'. Refute it at one input. -/
def fnExactIsLegalSetWrong : ChangeSpec := { name := "fnExactIsLegalSet", fn := fun _ => fun
  | [d1, d2, d3] => { results := [.lit (.bool false)], args := [d1, d2, d3] }
  | _ => none }
def FnExactIsLegalSetWrongFalsely : Prop := fnExactIsLegalSetRow.holds Try.pinned (OpenSpec.ofChange fnExactIsLegalSetWrong)

/-- 'laws.FnExactMatrixOk': WHATEVER THE INPUT: true; the input reads as it did. -/
def fnExactMatrixOkSpec : ChangeSpec := { name := "fnExactMatrixOk", fn := fun _ => fun
  | [d] => { results := [.lit (.bool true)], args := [d] }
  | _ => none }
def fnExactMatrixOkRow : OpenClaim := { program := "ytkmbdclhjdbhpaa", sum := "ba6030a28bce3fb640ec211788c2d3517d9333c205bd5b58aa971e4eff9fc2cf", func := "loop.example/g00841/laws.FnExactMatrixOk", spec := "fnExactMatrixOk", plainKeys := false, apart := false }
def FnExactMatrixOkSaid : Prop := fnExactMatrixOkRow.holds Try.pinned (OpenSpec.ofChange fnExactMatrixOkSpec)

/-- ITS FALSE NEIGHBOUR: 'it returns false'. Refute it at one input. -/
def fnExactMatrixOkWrong : ChangeSpec := { name := "fnExactMatrixOk", fn := fun _ => fun
  | [d] => { results := [.lit (.bool false)], args := [d] }
  | _ => none }
def FnExactMatrixOkWrongFalsely : Prop := fnExactMatrixOkRow.holds Try.pinned (OpenSpec.ofChange fnExactMatrixOkWrong)

/- THE SECOND FORM. 'bulk': how many values and letters a reading holds, each counted each time it is reached (what is shared counts as often as it is met; a slice's spare places count too). A statement '..UptoSaid' is the law's where the arguments, and the package variables that the reading takes, are together of bulk at most 1048576: NARROWER than '..Said'. Prove '..Said' where nothing that the law and all that it calls make is longer than what came in: it says more and counts as full. Else prove '..UptoSaid'. A law counts once. -/
mutual
def uptoBulk {H : Type} : DataW H → Nat
  | .lit (.string bytes) => bytes.length + 1
  | .lit _ => 1
  | .nil => 1
  | .ptr d => uptoBulk d + 1
  | .slice elems spare => uptoBulkAll elems + uptoBulkAll spare + 1
  | .agg parts => uptoBulkAll parts + 1
  | .iface _ d => uptoBulk d + 1
  | .map entries => uptoBulkEntries entries + 1
  | .held _ => 1
def uptoBulkAll {H : Type} : List (DataW H) → Nat
  | [] => 0
  | d :: r => uptoBulk d + uptoBulkAll r
def uptoBulkEntries {H : Type} : List (Lit × DataW H) → Nat
  | [] => 0
  | x :: r => uptoBulkEntry x + uptoBulkEntries r
def uptoBulkEntry {H : Type} : Lit × DataW H → Nat
  | (.string bytes, d) => bytes.length + uptoBulk d + 1
  | (_, d) => uptoBulk d + 1
 end
def uptoSmall : (H : Type) → List (DataW H) → Bool := fun _ ds => decide (uptoBulkAll ds ≤ 1048576)
def OpenSpec.upto (s : _root_.Go.ChangeSpec) : _root_.Go.OpenSpec := { _root_.Go.OpenSpec.ofChange s with cond := some uptoSmall }

/-- 'laws.FnExactDegreeOf', WHERE WHAT IT READS IS OF BULK AT MOST 1048576: true; the input reads as it did. -/
def fnExactDegreeOfUptoRow : OpenClaim := { program := "ytkmbdclhjdbhpaa", sum := "ba6030a28bce3fb640ec211788c2d3517d9333c205bd5b58aa971e4eff9fc2cf", func := "loop.example/g00841/laws.FnExactDegreeOf", spec := "fnExactDegreeOf", plainKeys := false, apart := false, narrowed := true }
def FnExactDegreeOfUptoSaid : Prop := fnExactDegreeOfUptoRow.holds Try.pinned (OpenSpec.upto fnExactDegreeOfSpec)

/-- 'laws.FnExactIsEffective', WHERE WHAT IT READS IS OF BULK AT MOST 1048576: true; the input reads as it did. -/
def fnExactIsEffectiveUptoRow : OpenClaim := { program := "ytkmbdclhjdbhpaa", sum := "ba6030a28bce3fb640ec211788c2d3517d9333c205bd5b58aa971e4eff9fc2cf", func := "loop.example/g00841/laws.FnExactIsEffective", spec := "fnExactIsEffective", unfollowed := true, recurses := true, plainKeys := false, apart := false, narrowed := true }
def FnExactIsEffectiveUptoSaid : Prop := fnExactIsEffectiveUptoRow.holds Try.pinned (OpenSpec.upto fnExactIsEffectiveSpec)

/-- 'laws.FnExactAddDivisors', WHERE WHAT IT READS IS OF BULK AT MOST 1048576: true; the input reads as it did. -/
def fnExactAddDivisorsUptoRow : OpenClaim := { program := "ytkmbdclhjdbhpaa", sum := "ba6030a28bce3fb640ec211788c2d3517d9333c205bd5b58aa971e4eff9fc2cf", func := "loop.example/g00841/laws.FnExactAddDivisors", spec := "fnExactAddDivisors", plainKeys := false, apart := false, narrowed := true }
def FnExactAddDivisorsUptoSaid : Prop := fnExactAddDivisorsUptoRow.holds Try.pinned (OpenSpec.upto fnExactAddDivisorsSpec)

/-- 'laws.FnExactNegateDivisor', WHERE WHAT IT READS IS OF BULK AT MOST 1048576: true; the input reads as it did. -/
def fnExactNegateDivisorUptoRow : OpenClaim := { program := "ytkmbdclhjdbhpaa", sum := "ba6030a28bce3fb640ec211788c2d3517d9333c205bd5b58aa971e4eff9fc2cf", func := "loop.example/g00841/laws.FnExactNegateDivisor", spec := "fnExactNegateDivisor", plainKeys := false, apart := false, narrowed := true }
def FnExactNegateDivisorUptoSaid : Prop := fnExactNegateDivisorUptoRow.holds Try.pinned (OpenSpec.upto fnExactNegateDivisorSpec)

/-- 'laws.FnExactSameDivisor', WHERE WHAT IT READS IS OF BULK AT MOST 1048576: true; the input reads as it did. -/
def fnExactSameDivisorUptoRow : OpenClaim := { program := "ytkmbdclhjdbhpaa", sum := "ba6030a28bce3fb640ec211788c2d3517d9333c205bd5b58aa971e4eff9fc2cf", func := "loop.example/g00841/laws.FnExactSameDivisor", spec := "fnExactSameDivisor", plainKeys := false, apart := false, narrowed := true }
def FnExactSameDivisorUptoSaid : Prop := fnExactSameDivisorUptoRow.holds Try.pinned (OpenSpec.upto fnExactSameDivisorSpec)

/-- 'laws.FnExactDivisorOk', WHERE WHAT IT READS IS OF BULK AT MOST 1048576: true; the input reads as it did. -/
def fnExactDivisorOkUptoRow : OpenClaim := { program := "ytkmbdclhjdbhpaa", sum := "ba6030a28bce3fb640ec211788c2d3517d9333c205bd5b58aa971e4eff9fc2cf", func := "loop.example/g00841/laws.FnExactDivisorOk", spec := "fnExactDivisorOk", unfollowed := true, recurses := true, plainKeys := false, apart := false, narrowed := true }
def FnExactDivisorOkUptoSaid : Prop := fnExactDivisorOkUptoRow.holds Try.pinned (OpenSpec.upto fnExactDivisorOkSpec)

/-- 'laws.FnExactScriptOk', WHERE WHAT IT READS IS OF BULK AT MOST 1048576: true; the input reads as it did. -/
def fnExactScriptOkUptoRow : OpenClaim := { program := "ytkmbdclhjdbhpaa", sum := "ba6030a28bce3fb640ec211788c2d3517d9333c205bd5b58aa971e4eff9fc2cf", func := "loop.example/g00841/laws.FnExactScriptOk", spec := "fnExactScriptOk", unfollowed := true, recurses := true, plainKeys := false, apart := false, narrowed := true }
def FnExactScriptOkUptoSaid : Prop := fnExactScriptOkUptoRow.holds Try.pinned (OpenSpec.upto fnExactScriptOkSpec)

/-- 'laws.FnExactOneAt', WHERE WHAT IT READS IS OF BULK AT MOST 1048576: true; the input reads as it did. -/
def fnExactOneAtUptoRow : OpenClaim := { program := "ytkmbdclhjdbhpaa", sum := "ba6030a28bce3fb640ec211788c2d3517d9333c205bd5b58aa971e4eff9fc2cf", func := "loop.example/g00841/laws.FnExactOneAt", spec := "fnExactOneAt", unfollowed := true, recurses := true, plainKeys := false, apart := false, narrowed := true }
def FnExactOneAtUptoSaid : Prop := fnExactOneAtUptoRow.holds Try.pinned (OpenSpec.upto fnExactOneAtSpec)

/-- 'laws.FnExactFireScript', WHERE WHAT IT READS IS OF BULK AT MOST 1048576: true; the input reads as it did. -/
def fnExactFireScriptUptoRow : OpenClaim := { program := "ytkmbdclhjdbhpaa", sum := "ba6030a28bce3fb640ec211788c2d3517d9333c205bd5b58aa971e4eff9fc2cf", func := "loop.example/g00841/laws.FnExactFireScript", spec := "fnExactFireScript", unfollowed := true, recurses := true, plainKeys := false, apart := false, narrowed := true }
def FnExactFireScriptUptoSaid : Prop := fnExactFireScriptUptoRow.holds Try.pinned (OpenSpec.upto fnExactFireScriptSpec)

/-- 'laws.FnExactFireSet', WHERE WHAT IT READS IS OF BULK AT MOST 1048576: true; the input reads as it did. -/
def fnExactFireSetUptoRow : OpenClaim := { program := "ytkmbdclhjdbhpaa", sum := "ba6030a28bce3fb640ec211788c2d3517d9333c205bd5b58aa971e4eff9fc2cf", func := "loop.example/g00841/laws.FnExactFireSet", spec := "fnExactFireSet", unfollowed := true, recurses := true, plainKeys := false, apart := false, narrowed := true }
def FnExactFireSetUptoSaid : Prop := fnExactFireSetUptoRow.holds Try.pinned (OpenSpec.upto fnExactFireSetSpec)

/-- 'laws.FnExactIsLegalSet', WHERE WHAT IT READS IS OF BULK AT MOST 1048576: true; the input reads as it did. -/
def fnExactIsLegalSetUptoRow : OpenClaim := { program := "ytkmbdclhjdbhpaa", sum := "ba6030a28bce3fb640ec211788c2d3517d9333c205bd5b58aa971e4eff9fc2cf", func := "loop.example/g00841/laws.FnExactIsLegalSet", spec := "fnExactIsLegalSet", unfollowed := true, recurses := true, plainKeys := false, apart := false, narrowed := true }
def FnExactIsLegalSetUptoSaid : Prop := fnExactIsLegalSetUptoRow.holds Try.pinned (OpenSpec.upto fnExactIsLegalSetSpec)

/-- 'laws.FnExactMatrixOk', WHERE WHAT IT READS IS OF BULK AT MOST 1048576: true; the input reads as it did. -/
def fnExactMatrixOkUptoRow : OpenClaim := { program := "ytkmbdclhjdbhpaa", sum := "ba6030a28bce3fb640ec211788c2d3517d9333c205bd5b58aa971e4eff9fc2cf", func := "loop.example/g00841/laws.FnExactMatrixOk", spec := "fnExactMatrixOk", plainKeys := false, apart := false, narrowed := true }
def FnExactMatrixOkUptoSaid : Prop := fnExactMatrixOkUptoRow.holds Try.pinned (OpenSpec.upto fnExactMatrixOkSpec)

end Rows
end Go.Proofs.Ytkmbdclhjdbhpaa
