/- The specification's l09Sort: rows are put in order by insertion; the rows' numbers stay where they lie. -/
import Derived.Test.YtdpojcgeblbfeaaVBU
import Derived.Test.YtdpojcgeblbfeaaVBA
import Derived.Test.YtdpojcgeblbfeaaVBJ
import Derived.Test.YtdpojcgeblbfeaaVBT
import Derived.Test.YtdpojcgeblbfeaaVBI
set_option linter.all false
namespace Go.Proofs.Ytdpojcgeblbfeaa
open Go.RowKit

def Hole (us : List Value) (n q : Nat) (cs : Array Value) : Prop := (∀ j, j < q → cs[j]? = us[j]?) ∧ ∀ j, q ≤ j → j < n → cs[j + 1]? = us[j]?
section
variable {us : List Value} {n q : Nat} {cs : Array Value} {u : Value}
theorem Hole.start (hl : us.length = n) (h : cs.toList.take (n + 1) = us ++ [u]) : Hole us n n cs := by
  refine ⟨fun j hj => ?_, fun j h1 h2 => by omega⟩
  have e : (cs.toList.take (n + 1))[j]? = (us ++ [u])[j]? := by rw [h]
  rw [List.getElem?_take_of_lt (by omega), List.getElem?_append_left (by omega), Array.getElem?_toList] at e
  exact e
theorem Hole.fill (h : Hole us n q cs) (hl : us.length = n) (hq : q ≤ n) (hs : n < cs.size) (u : Value) : (cs.setIfInBounds q u).toList.take (n + 1) = us.take q ++ u :: us.drop q := by
  apply List.ext_getElem?
  intro i
  by_cases hi : i < n + 1
  · rw [List.getElem?_take_of_lt hi, Array.getElem?_toList, Array.getElem?_setIfInBounds]
    by_cases e : q = i
    · subst e
      rw [if_pos rfl, if_pos (by omega), List.getElem?_append_right (by simp; omega)]
      simp [hl, Nat.min_eq_left hq]
    · rw [if_neg e]
      by_cases c : i < q
      · rw [h.1 i c, List.getElem?_append_left (by simp; omega), List.getElem?_take_of_lt c]
      · obtain ⟨j, rfl⟩ : ∃ j, i = j + 1 := ⟨i - 1, by omega⟩
        rw [h.2 j (by omega) (by omega), List.getElem?_append_right (by simp; omega), List.length_take, Nat.min_eq_left (by omega), show j + 1 - q = (j - q) + 1 by omega, List.getElem?_cons_succ, List.getElem?_drop]
        congr 1
        omega
  · rw [List.getElem?_eq_none (by simp; omega), List.getElem?_eq_none (by simp; omega)]
end
theorem Hole.own {wx : World} {g cap base : Nat} {t : TypeId} {us : List Value} {k q : Nat} {cs : Array Value} (hB : Blk wx g t cs) (hh : Hole us k q cs) (hl : us.length = k) (hq : q ≤ k) (hs : cs.size = cap * 1) (hle : k + 1 ≤ cap) (hmax : cap ≤ maxLen) (hbg : base ≤ g) (u : Value) :
    (wx.setCell ⟨g, q, none⟩ u).ownsRow base t 1 (.slice (some ⟨g, 0, none⟩) (k + 1) cap) (k + 1) (us.take q ++ u :: us.drop q) := by
  refine ⟨by simp; omega, .inr ⟨g, cap, cs.setIfInBounds q u, rfl, hbg, hB.set_ q u, hle, hmax, by simp; omega, ?_⟩⟩
  rw [Nat.mul_one]
  exact hh.fill hl hq (by omega) u
def RowsV (w : World) (us : List Value) (L : List (List Int)) : Prop := us.length = L.length ∧ ∀ (i : Nat) (r : List Int), L[i]? = some r → ∃ (A : Option Addr) (c : Nat), us[i]? = some (.slice A r.length c) ∧ IntS w w.heap.size A r
theorem RowsV.nil (w : World) : RowsV w [] [] := ⟨rfl, fun i r h => by simp at h⟩
end Go.Proofs.Ytdpojcgeblbfeaa
