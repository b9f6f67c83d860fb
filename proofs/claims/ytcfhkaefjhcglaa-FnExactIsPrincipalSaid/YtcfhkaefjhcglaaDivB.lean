/- DivisorOk and ScriptOk: both sides answer one plain test of the graph and the list. -/
import Derived.Test.YtcfhkaefjhcglaaWithin
import Derived.Test.YtcfhkaefjhcglaaBB
import Derived.Test.YtcfhkaefjhcglaaBC
namespace Go.Proofs.Ytcfhkaefjhcglaa
open Go.RowKit

noncomputable def divB (m : Int) (N : Int) (es : List (Int × Int)) (d : List Int) : Bool := graphB N es && (decide ((d.length : Int) = N) && d.all (within m))
theorem divB_g {m N : Int} {es : List (Int × Int)} {d : List Int} (h : graphB N es = false) : divB m N es d = false := by simp [divB, h]
theorem divB_l {m N : Int} {es : List (Int × Int)} {d : List Int} (h : (d.length : Int) ≠ N) : divB m N es d = false := by simp [divB, h]
theorem divB_a {m N : Int} {es : List (Int × Int)} {d : List Int} (h : graphB N es = true) (h2 : (d.length : Int) = N) : divB m N es d = d.all (within m) := by simp [divB, h, h2]
theorem divB_all {m N : Int} {es : List (Int × Int)} {d : List Int} (h : divB m N es d = true) : graphB N es = true ∧ (d.length : Int) = N ∧ ∀ x ∈ d, -m ≤ x ∧ x ≤ m := by
  simp only [divB, Bool.and_eq_true, decide_eq_true_eq, List.all_eq_true] at h
  exact ⟨h.1, h.2.1, fun x hx => within_iff (h.2.2 x hx)⟩
end Go.Proofs.Ytcfhkaefjhcglaa
