/-
  No cell of these rows narrows 'for every input' (looked for: loops, veiled, ifaces, maps, wideKeys, modest, calm, conditions, laid).
  DERIVED. THE GIVEN ROWS OF THIS SEAT. 12 by the template 'for every input the law returns true; each argument reads behind the call as it read before'; 0 by the template 'total and deterministic' (their statements: YtmehdngibbilaaaTotals.lean).
  GIVEN WITH THE SEED: the statements are not yours to turn. If you find one false, say at which input.
  Laid BY PROGRAM, IN A SANDBOX (cutbox-rows.mjs): the forced cells as the released guide's own fill.sh prints them over the translation 9a75cfb7156a65d2… (all of the seat's roots in one cut). By AI agents, Wed Nov 11 2026. No macro, syntax, notation, axiom, sorry.
-/
import Derived.Test.YtmehdngibbilaaaChecked
import GoSem.Claim
import GoSem.ClaimJoined
import GoSem.ClaimMapViews
import Derived.JoinedTies
import Derived.KernelRfl
namespace Go.Proofs.Ytmehdngibbilaaa
/- THE CELL 'sum', in the pinned program and in every row, IS THE sha256 OF THE DUMP (.gsa) THAT YtmehdngibbilaaaProg.lean LOADS. Nothing in Lean hashes anything: it is a label: what it is worth is what the hold of that sum in a sandbox is worth. -/
noncomputable def Try.pinned : Pinned := { name := "ytmehdngibbilaaa", sum := "9a75cfb7156a65d2a2ff298ffed98efa2584eee46002bb8d8cd02a407430cab5", checked := Try.checked }
namespace Rows
def none {H : Type} : Left H := { results := [], args := [] }

/-- 'laws.FnFactors': WHATEVER THE INPUT: true; the input reads as it did. -/
def fnFactorsSpec : ChangeSpec := { name := "fnFactors", fn := fun _ => fun
  | [d] => { results := [.lit (.bool true)], args := [d] }
  | _ => none }
def fnFactorsRow : OpenClaim := { program := "ytmehdngibbilaaa", sum := "9a75cfb7156a65d2a2ff298ffed98efa2584eee46002bb8d8cd02a407430cab5", func := "loop.example/g00841/laws.FnFactors", spec := "fnFactors", unfollowed := true, recurses := true, plainKeys := false, apart := false }
def FnFactorsSaid : Prop := fnFactorsRow.holds Try.pinned (OpenSpec.ofChange fnFactorsSpec)

/-- ITS FALSE NEIGHBOUR: 'it returns false'. Refute it at one input. -/
def fnFactorsWrong : ChangeSpec := { name := "fnFactors", fn := fun _ => fun
  | [d] => { results := [.lit (.bool false)], args := [d] }
  | _ => none }
def FnFactorsWrongFalsely : Prop := fnFactorsRow.holds Try.pinned (OpenSpec.ofChange fnFactorsWrong)

/-- 'laws.FnGroups': WHATEVER THE INPUT: true; the input reads as it did. -/
def fnGroupsSpec : ChangeSpec := { name := "fnGroups", fn := fun _ => fun
  | [d] => { results := [.lit (.bool true)], args := [d] }
  | _ => none }
def fnGroupsRow : OpenClaim := { program := "ytmehdngibbilaaa", sum := "9a75cfb7156a65d2a2ff298ffed98efa2584eee46002bb8d8cd02a407430cab5", func := "loop.example/g00841/laws.FnGroups", spec := "fnGroups", unfollowed := true, recurses := true, plainKeys := false, apart := false }
def FnGroupsSaid : Prop := fnGroupsRow.holds Try.pinned (OpenSpec.ofChange fnGroupsSpec)

/-- ITS FALSE NEIGHBOUR: 'it returns false'. Refute it at one input. -/
def fnGroupsWrong : ChangeSpec := { name := "fnGroups", fn := fun _ => fun
  | [d] => { results := [.lit (.bool false)], args := [d] }
  | _ => none }
def FnGroupsWrongFalsely : Prop := fnGroupsRow.holds Try.pinned (OpenSpec.ofChange fnGroupsWrong)

/-- 'laws.FnOrders': WHATEVER THE INPUT: true; the input reads as it did. -/
def fnOrdersSpec : ChangeSpec := { name := "fnOrders", fn := fun _ => fun
  | [d] => { results := [.lit (.bool true)], args := [d] }
  | _ => none }
def fnOrdersRow : OpenClaim := { program := "ytmehdngibbilaaa", sum := "9a75cfb7156a65d2a2ff298ffed98efa2584eee46002bb8d8cd02a407430cab5", func := "loop.example/g00841/laws.FnOrders", spec := "fnOrders", unfollowed := true, recurses := true, plainKeys := false, apart := false }
def FnOrdersSaid : Prop := fnOrdersRow.holds Try.pinned (OpenSpec.ofChange fnOrdersSpec)

/-- ITS FALSE NEIGHBOUR: 'it returns false'. Refute it at one input. -/
def fnOrdersWrong : ChangeSpec := { name := "fnOrders", fn := fun _ => fun
  | [d] => { results := [.lit (.bool false)], args := [d] }
  | _ => none }
def FnOrdersWrongFalsely : Prop := fnOrdersRow.holds Try.pinned (OpenSpec.ofChange fnOrdersWrong)

/-- 'laws.FnExactGroupOrder': WHATEVER THE INPUT: true; the input reads as it did. -/
def fnExactGroupOrderSpec : ChangeSpec := { name := "fnExactGroupOrder", fn := fun _ => fun
  | [d] => { results := [.lit (.bool true)], args := [d] }
  | _ => none }
def fnExactGroupOrderRow : OpenClaim := { program := "ytmehdngibbilaaa", sum := "9a75cfb7156a65d2a2ff298ffed98efa2584eee46002bb8d8cd02a407430cab5", func := "loop.example/g00841/laws.FnExactGroupOrder", spec := "fnExactGroupOrder", unfollowed := true, recurses := true, plainKeys := false, apart := false }
def FnExactGroupOrderSaid : Prop := fnExactGroupOrderRow.holds Try.pinned (OpenSpec.ofChange fnExactGroupOrderSpec)

/-- ITS FALSE NEIGHBOUR: 'it returns false'. Refute it at one input. -/
def fnExactGroupOrderWrong : ChangeSpec := { name := "fnExactGroupOrder", fn := fun _ => fun
  | [d] => { results := [.lit (.bool false)], args := [d] }
  | _ => none }
def FnExactGroupOrderWrongFalsely : Prop := fnExactGroupOrderRow.holds Try.pinned (OpenSpec.ofChange fnExactGroupOrderWrong)

/-- 'laws.FnExactGroupFactors': WHATEVER THE INPUT: true; the input reads as it did. -/
def fnExactGroupFactorsSpec : ChangeSpec := { name := "fnExactGroupFactors", fn := fun _ => fun
  | [d] => { results := [.lit (.bool true)], args := [d] }
  | _ => none }
def fnExactGroupFactorsRow : OpenClaim := { program := "ytmehdngibbilaaa", sum := "9a75cfb7156a65d2a2ff298ffed98efa2584eee46002bb8d8cd02a407430cab5", func := "loop.example/g00841/laws.FnExactGroupFactors", spec := "fnExactGroupFactors", unfollowed := true, recurses := true, plainKeys := false, apart := false }
def FnExactGroupFactorsSaid : Prop := fnExactGroupFactorsRow.holds Try.pinned (OpenSpec.ofChange fnExactGroupFactorsSpec)

/-- ITS FALSE NEIGHBOUR: 'it returns false'. Refute it at one input. -/
def fnExactGroupFactorsWrong : ChangeSpec := { name := "fnExactGroupFactors", fn := fun _ => fun
  | [d] => { results := [.lit (.bool false)], args := [d] }
  | _ => none }
def FnExactGroupFactorsWrongFalsely : Prop := fnExactGroupFactorsRow.holds Try.pinned (OpenSpec.ofChange fnExactGroupFactorsWrong)

/-- 'laws.FnExactClassesOf': WHATEVER THE INPUT: true; the input reads as it did. -/
def fnExactClassesOfSpec : ChangeSpec := { name := "fnExactClassesOf", fn := fun _ => fun
  | [d] => { results := [.lit (.bool true)], args := [d] }
  | _ => none }
def fnExactClassesOfRow : OpenClaim := { program := "ytmehdngibbilaaa", sum := "9a75cfb7156a65d2a2ff298ffed98efa2584eee46002bb8d8cd02a407430cab5", func := "loop.example/g00841/laws.FnExactClassesOf", spec := "fnExactClassesOf", unfollowed := true, recurses := true, plainKeys := false, apart := false }
def FnExactClassesOfSaid : Prop := fnExactClassesOfRow.holds Try.pinned (OpenSpec.ofChange fnExactClassesOfSpec)

/-- ITS FALSE NEIGHBOUR: 'it returns false'. Refute it at one input. -/
def fnExactClassesOfWrong : ChangeSpec := { name := "fnExactClassesOf", fn := fun _ => fun
  | [d] => { results := [.lit (.bool false)], args := [d] }
  | _ => none }
def FnExactClassesOfWrongFalsely : Prop := fnExactClassesOfRow.holds Try.pinned (OpenSpec.ofChange fnExactClassesOfWrong)

/-- 'laws.FnExactSumOfClasses': WHATEVER THE INPUT: true; the input reads as it did. -/
def fnExactSumOfClassesSpec : ChangeSpec := { name := "fnExactSumOfClasses", fn := fun _ => fun
  | [d1, d2, d3] => { results := [.lit (.bool true)], args := [d1, d2, d3] }
  | _ => none }
def fnExactSumOfClassesRow : OpenClaim := { program := "ytmehdngibbilaaa", sum := "9a75cfb7156a65d2a2ff298ffed98efa2584eee46002bb8d8cd02a407430cab5", func := "loop.example/g00841/laws.FnExactSumOfClasses", spec := "fnExactSumOfClasses", unfollowed := true, recurses := true, plainKeys := false, apart := false }
def FnExactSumOfClassesSaid : Prop := fnExactSumOfClassesRow.holds Try.pinned (OpenSpec.ofChange fnExactSumOfClassesSpec)

/-- ITS FALSE NEIGHBOUR: 'it returns false'. Refute it at one input. -/
def fnExactSumOfClassesWrong : ChangeSpec := { name := "fnExactSumOfClasses", fn := fun _ => fun
  | [d1, d2, d3] => { results := [.lit (.bool false)], args := [d1, d2, d3] }
  | _ => none }
def FnExactSumOfClassesWrongFalsely : Prop := fnExactSumOfClassesRow.holds Try.pinned (OpenSpec.ofChange fnExactSumOfClassesWrong)

/-- 'laws.FnExactInverseClass': WHATEVER THE INPUT: true; the input reads as it did. -/
def fnExactInverseClassSpec : ChangeSpec := { name := "fnExactInverseClass", fn := fun _ => fun
  | [d1, d2] => { results := [.lit (.bool true)], args := [d1, d2] }
  | _ => none }
def fnExactInverseClassRow : OpenClaim := { program := "ytmehdngibbilaaa", sum := "9a75cfb7156a65d2a2ff298ffed98efa2584eee46002bb8d8cd02a407430cab5", func := "loop.example/g00841/laws.FnExactInverseClass", spec := "fnExactInverseClass", unfollowed := true, recurses := true, plainKeys := false, apart := false }
def FnExactInverseClassSaid : Prop := fnExactInverseClassRow.holds Try.pinned (OpenSpec.ofChange fnExactInverseClassSpec)

/-- ITS FALSE NEIGHBOUR: 'it returns false'. Refute it at one input. -/
def fnExactInverseClassWrong : ChangeSpec := { name := "fnExactInverseClass", fn := fun _ => fun
  | [d1, d2] => { results := [.lit (.bool false)], args := [d1, d2] }
  | _ => none }
def FnExactInverseClassWrongFalsely : Prop := fnExactInverseClassRow.holds Try.pinned (OpenSpec.ofChange fnExactInverseClassWrong)

/-- 'laws.FnExactTimesClass': WHATEVER THE INPUT: true; the input reads as it did. -/
def fnExactTimesClassSpec : ChangeSpec := { name := "fnExactTimesClass", fn := fun _ => fun
  | [d1, d2, d3] => { results := [.lit (.bool true)], args := [d1, d2, d3] }
  | _ => none }
def fnExactTimesClassRow : OpenClaim := { program := "ytmehdngibbilaaa", sum := "9a75cfb7156a65d2a2ff298ffed98efa2584eee46002bb8d8cd02a407430cab5", func := "loop.example/g00841/laws.FnExactTimesClass", spec := "fnExactTimesClass", unfollowed := true, recurses := true, plainKeys := false, apart := false }
def FnExactTimesClassSaid : Prop := fnExactTimesClassRow.holds Try.pinned (OpenSpec.ofChange fnExactTimesClassSpec)

/-- ITS FALSE NEIGHBOUR: 'it returns false'. Refute it at one input. -/
def fnExactTimesClassWrong : ChangeSpec := { name := "fnExactTimesClass", fn := fun _ => fun
  | [d1, d2, d3] => { results := [.lit (.bool false)], args := [d1, d2, d3] }
  | _ => none }
def FnExactTimesClassWrongFalsely : Prop := fnExactTimesClassRow.holds Try.pinned (OpenSpec.ofChange fnExactTimesClassWrong)

/-- 'laws.FnExactOrderOf': WHATEVER THE INPUT: true; the input reads as it did. -/
def fnExactOrderOfSpec : ChangeSpec := { name := "fnExactOrderOf", fn := fun _ => fun
  | [d1, d2] => { results := [.lit (.bool true)], args := [d1, d2] }
  | _ => none }
def fnExactOrderOfRow : OpenClaim := { program := "ytmehdngibbilaaa", sum := "9a75cfb7156a65d2a2ff298ffed98efa2584eee46002bb8d8cd02a407430cab5", func := "loop.example/g00841/laws.FnExactOrderOf", spec := "fnExactOrderOf", unfollowed := true, recurses := true, plainKeys := false, apart := false }
def FnExactOrderOfSaid : Prop := fnExactOrderOfRow.holds Try.pinned (OpenSpec.ofChange fnExactOrderOfSpec)

/-- ITS FALSE NEIGHBOUR: 'it returns false'. Refute it at one input. -/
def fnExactOrderOfWrong : ChangeSpec := { name := "fnExactOrderOf", fn := fun _ => fun
  | [d1, d2] => { results := [.lit (.bool false)], args := [d1, d2] }
  | _ => none }
def FnExactOrderOfWrongFalsely : Prop := fnExactOrderOfRow.holds Try.pinned (OpenSpec.ofChange fnExactOrderOfWrong)

/-- 'laws.FnExactDifferenceClass': WHATEVER THE INPUT: true; the input reads as it did. -/
def fnExactDifferenceClassSpec : ChangeSpec := { name := "fnExactDifferenceClass", fn := fun _ => fun
  | [d1, d2, d3] => { results := [.lit (.bool true)], args := [d1, d2, d3] }
  | _ => none }
def fnExactDifferenceClassRow : OpenClaim := { program := "ytmehdngibbilaaa", sum := "9a75cfb7156a65d2a2ff298ffed98efa2584eee46002bb8d8cd02a407430cab5", func := "loop.example/g00841/laws.FnExactDifferenceClass", spec := "fnExactDifferenceClass", unfollowed := true, recurses := true, plainKeys := false, apart := false }
def FnExactDifferenceClassSaid : Prop := fnExactDifferenceClassRow.holds Try.pinned (OpenSpec.ofChange fnExactDifferenceClassSpec)

/-- ITS FALSE NEIGHBOUR: 'it returns false'. Refute it at one input. -/
def fnExactDifferenceClassWrong : ChangeSpec := { name := "fnExactDifferenceClass", fn := fun _ => fun
  | [d1, d2, d3] => { results := [.lit (.bool false)], args := [d1, d2, d3] }
  | _ => none }
def FnExactDifferenceClassWrongFalsely : Prop := fnExactDifferenceClassRow.holds Try.pinned (OpenSpec.ofChange fnExactDifferenceClassWrong)

/-- 'laws.FnExactIsCyclic': WHATEVER THE INPUT: true; the input reads as it did. -/
def fnExactIsCyclicSpec : ChangeSpec := { name := "fnExactIsCyclic", fn := fun _ => fun
  | [d] => { results := [.lit (.bool true)], args := [d] }
  | _ => none }
def fnExactIsCyclicRow : OpenClaim := { program := "ytmehdngibbilaaa", sum := "9a75cfb7156a65d2a2ff298ffed98efa2584eee46002bb8d8cd02a407430cab5", func := "loop.example/g00841/laws.FnExactIsCyclic", spec := "fnExactIsCyclic", unfollowed := true, recurses := true, plainKeys := false, apart := false }
def FnExactIsCyclicSaid : Prop := fnExactIsCyclicRow.holds Try.pinned (OpenSpec.ofChange fnExactIsCyclicSpec)

/-- ITS FALSE NEIGHBOUR: 'it returns false'. Refute it at one input. -/
def fnExactIsCyclicWrong : ChangeSpec := { name := "fnExactIsCyclic", fn := fun _ => fun
  | [d] => { results := [.lit (.bool false)], args := [d] }
  | _ => none }
def FnExactIsCyclicWrongFalsely : Prop := fnExactIsCyclicRow.holds Try.pinned (OpenSpec.ofChange fnExactIsCyclicWrong)

/- THE SECOND FORM. 'bulk': how many values and letters a reading holds, each counted each time it is reached (what is shared counts as often as it is met; a slice's spare places count too). A statement '..UptoSaid' is the law's where the arguments, and the package variables that the reading takes, are together of bulk at most 1048576: NARROWER than '..Said'. Prove '..Said' where nothing that the law and all that it calls make is longer than what came in: it says more and counts as full. Else prove '..UptoSaid'. A law counts once. -/
mutual
def uptoBulk {H : Type} : DataW H → Nat
  | .lit (.string bytes) => bytes.length + 1
  | .lit _ => 1
  | .nil => 1
  | .ptr d => uptoBulk d + 1
  | .slice elems spare => uptoBulkAll elems + uptoBulkAll spare + 1
  | .agg parts => uptoBulkAll parts + 1
  | .iface _ d => uptoBulk d + 1
  | .map entries => uptoBulkEntries entries + 1
  | .held _ => 1
def uptoBulkAll {H : Type} : List (DataW H) → Nat
  | [] => 0
  | d :: r => uptoBulk d + uptoBulkAll r
def uptoBulkEntries {H : Type} : List (Lit × DataW H) → Nat
  | [] => 0
  | x :: r => uptoBulkEntry x + uptoBulkEntries r
def uptoBulkEntry {H : Type} : Lit × DataW H → Nat
  | (.string bytes, d) => bytes.length + uptoBulk d + 1
  | (_, d) => uptoBulk d + 1
 end
def uptoSmall : (H : Type) → List (DataW H) → Bool := fun _ ds => decide (uptoBulkAll ds ≤ 1048576)
def OpenSpec.upto (s : _root_.Go.ChangeSpec) : _root_.Go.OpenSpec := { _root_.Go.OpenSpec.ofChange s with cond := some uptoSmall }

/-- 'laws.FnFactors', WHERE WHAT IT READS IS OF BULK AT MOST 1048576: true; the input reads as it did. -/
def fnFactorsUptoRow : OpenClaim := { program := "ytmehdngibbilaaa", sum := "9a75cfb7156a65d2a2ff298ffed98efa2584eee46002bb8d8cd02a407430cab5", func := "loop.example/g00841/laws.FnFactors", spec := "fnFactors", unfollowed := true, recurses := true, plainKeys := false, apart := false, narrowed := true }
def FnFactorsUptoSaid : Prop := fnFactorsUptoRow.holds Try.pinned (OpenSpec.upto fnFactorsSpec)

/-- 'laws.FnGroups', WHERE WHAT IT READS IS OF BULK AT MOST 1048576: true; the input reads as it did. -/
def fnGroupsUptoRow : OpenClaim := { program := "ytmehdngibbilaaa", sum := "9a75cfb7156a65d2a2ff298ffed98efa2584eee46002bb8d8cd02a407430cab5", func := "loop.example/g00841/laws.FnGroups", spec := "fnGroups", unfollowed := true, recurses := true, plainKeys := false, apart := false, narrowed := true }
def FnGroupsUptoSaid : Prop := fnGroupsUptoRow.holds Try.pinned (OpenSpec.upto fnGroupsSpec)

/-- 'laws.FnOrders', WHERE WHAT IT READS IS OF BULK AT MOST 1048576: true; the input reads as it did. -/
def fnOrdersUptoRow : OpenClaim := { program := "ytmehdngibbilaaa", sum := "9a75cfb7156a65d2a2ff298ffed98efa2584eee46002bb8d8cd02a407430cab5", func := "loop.example/g00841/laws.FnOrders", spec := "fnOrders", unfollowed := true, recurses := true, plainKeys := false, apart := false, narrowed := true }
def FnOrdersUptoSaid : Prop := fnOrdersUptoRow.holds Try.pinned (OpenSpec.upto fnOrdersSpec)

/-- 'laws.FnExactGroupOrder', WHERE WHAT IT READS IS OF BULK AT MOST 1048576: true; the input reads as it did. -/
def fnExactGroupOrderUptoRow : OpenClaim := { program := "ytmehdngibbilaaa", sum := "9a75cfb7156a65d2a2ff298ffed98efa2584eee46002bb8d8cd02a407430cab5", func := "loop.example/g00841/laws.FnExactGroupOrder", spec := "fnExactGroupOrder", unfollowed := true, recurses := true, plainKeys := false, apart := false, narrowed := true }
def FnExactGroupOrderUptoSaid : Prop := fnExactGroupOrderUptoRow.holds Try.pinned (OpenSpec.upto fnExactGroupOrderSpec)

/-- 'laws.FnExactGroupFactors', WHERE WHAT IT READS IS OF BULK AT MOST 1048576: true; the input reads as it did. -/
def fnExactGroupFactorsUptoRow : OpenClaim := { program := "ytmehdngibbilaaa", sum := "9a75cfb7156a65d2a2ff298ffed98efa2584eee46002bb8d8cd02a407430cab5", func := "loop.example/g00841/laws.FnExactGroupFactors", spec := "fnExactGroupFactors", unfollowed := true, recurses := true, plainKeys := false, apart := false, narrowed := true }
def FnExactGroupFactorsUptoSaid : Prop := fnExactGroupFactorsUptoRow.holds Try.pinned (OpenSpec.upto fnExactGroupFactorsSpec)

/-- 'laws.FnExactClassesOf', WHERE WHAT IT READS IS OF BULK AT MOST 1048576: true; the input reads as it did. -/
def fnExactClassesOfUptoRow : OpenClaim := { program := "ytmehdngibbilaaa", sum := "9a75cfb7156a65d2a2ff298ffed98efa2584eee46002bb8d8cd02a407430cab5", func := "loop.example/g00841/laws.FnExactClassesOf", spec := "fnExactClassesOf", unfollowed := true, recurses := true, plainKeys := false, apart := false, narrowed := true }
def FnExactClassesOfUptoSaid : Prop := fnExactClassesOfUptoRow.holds Try.pinned (OpenSpec.upto fnExactClassesOfSpec)

/-- 'laws.FnExactSumOfClasses', WHERE WHAT IT READS IS OF BULK AT MOST 1048576: true; the input reads as it did. -/
def fnExactSumOfClassesUptoRow : OpenClaim := { program := "ytmehdngibbilaaa", sum := "9a75cfb7156a65d2a2ff298ffed98efa2584eee46002bb8d8cd02a407430cab5", func := "loop.example/g00841/laws.FnExactSumOfClasses", spec := "fnExactSumOfClasses", unfollowed := true, recurses := true, plainKeys := false, apart := false, narrowed := true }
def FnExactSumOfClassesUptoSaid : Prop := fnExactSumOfClassesUptoRow.holds Try.pinned (OpenSpec.upto fnExactSumOfClassesSpec)

/-- 'laws.FnExactInverseClass', WHERE WHAT IT READS IS OF BULK AT MOST 1048576: true; the input reads as it did. -/
def fnExactInverseClassUptoRow : OpenClaim := { program := "ytmehdngibbilaaa", sum := "9a75cfb7156a65d2a2ff298ffed98efa2584eee46002bb8d8cd02a407430cab5", func := "loop.example/g00841/laws.FnExactInverseClass", spec := "fnExactInverseClass", unfollowed := true, recurses := true, plainKeys := false, apart := false, narrowed := true }
def FnExactInverseClassUptoSaid : Prop := fnExactInverseClassUptoRow.holds Try.pinned (OpenSpec.upto fnExactInverseClassSpec)

/-- 'laws.FnExactTimesClass', WHERE WHAT IT READS IS OF BULK AT MOST 1048576: true; the input reads as it did. -/
def fnExactTimesClassUptoRow : OpenClaim := { program := "ytmehdngibbilaaa", sum := "9a75cfb7156a65d2a2ff298ffed98efa2584eee46002bb8d8cd02a407430cab5", func := "loop.example/g00841/laws.FnExactTimesClass", spec := "fnExactTimesClass", unfollowed := true, recurses := true, plainKeys := false, apart := false, narrowed := true }
def FnExactTimesClassUptoSaid : Prop := fnExactTimesClassUptoRow.holds Try.pinned (OpenSpec.upto fnExactTimesClassSpec)

/-- 'laws.FnExactOrderOf', WHERE WHAT IT READS IS OF BULK AT MOST 1048576: true; the input reads as it did. -/
def fnExactOrderOfUptoRow : OpenClaim := { program := "ytmehdngibbilaaa", sum := "9a75cfb7156a65d2a2ff298ffed98efa2584eee46002bb8d8cd02a407430cab5", func := "loop.example/g00841/laws.FnExactOrderOf", spec := "fnExactOrderOf", unfollowed := true, recurses := true, plainKeys := false, apart := false, narrowed := true }
def FnExactOrderOfUptoSaid : Prop := fnExactOrderOfUptoRow.holds Try.pinned (OpenSpec.upto fnExactOrderOfSpec)

/-- 'laws.FnExactDifferenceClass', WHERE WHAT IT READS IS OF BULK AT MOST 1048576: true; the input reads as it did. -/
def fnExactDifferenceClassUptoRow : OpenClaim := { program := "ytmehdngibbilaaa", sum := "9a75cfb7156a65d2a2ff298ffed98efa2584eee46002bb8d8cd02a407430cab5", func := "loop.example/g00841/laws.FnExactDifferenceClass", spec := "fnExactDifferenceClass", unfollowed := true, recurses := true, plainKeys := false, apart := false, narrowed := true }
def FnExactDifferenceClassUptoSaid : Prop := fnExactDifferenceClassUptoRow.holds Try.pinned (OpenSpec.upto fnExactDifferenceClassSpec)

/-- 'laws.FnExactIsCyclic', WHERE WHAT IT READS IS OF BULK AT MOST 1048576: true; the input reads as it did. -/
def fnExactIsCyclicUptoRow : OpenClaim := { program := "ytmehdngibbilaaa", sum := "9a75cfb7156a65d2a2ff298ffed98efa2584eee46002bb8d8cd02a407430cab5", func := "loop.example/g00841/laws.FnExactIsCyclic", spec := "fnExactIsCyclic", unfollowed := true, recurses := true, plainKeys := false, apart := false, narrowed := true }
def FnExactIsCyclicUptoSaid : Prop := fnExactIsCyclicUptoRow.holds Try.pinned (OpenSpec.upto fnExactIsCyclicSpec)

end Rows
end Go.Proofs.Ytmehdngibbilaaa
