/- How many lists come behind one: what a counter's steps lessen. -/
import Derived.Test.YtdpojcgeblbfeaaVAllM
set_option linter.all false
namespace Go.Proofs.Ytdpojcgeblbfeaa
open Go.RowKit

def rk (S : List (List Int)) (x : List Int) : Nat := (S.filter fun y => lessL x y).length
theorem filter_ltR {p q : List Int → Bool} : ∀ {l : List (List Int)}, (∀ y, q y = true → p y = true) → (∃ z ∈ l, p z = true ∧ q z = false) → (l.filter q).length < (l.filter p).length
  | [], _, ⟨z, hz, _⟩ => by cases hz
  | a :: l, h, ⟨z, hz, h1, h2⟩ => by
    have hle : (l.filter q).length ≤ (l.filter p).length := by
      clear hz h1 h2 z
      induction l with
      | nil => simp
      | cons b l ih =>
        rw [List.filter_cons, List.filter_cons]
        by_cases hb : q b = true
        · rw [if_pos hb, if_pos (h b hb)]; simp; exact ih
        · rw [if_neg hb]
          split
          · simp; omega
          · exact ih
    rw [List.filter_cons, List.filter_cons]
    rcases List.mem_cons.1 hz with rfl | hz
    · rw [if_neg (by rw [h2]; decide), if_pos h1]
      simp
      omega
    · have ih := filter_ltR (l := l) h ⟨z, hz, h1, h2⟩
      by_cases ha : q a = true
      · rw [if_pos ha, if_pos (h a ha)]; simp; exact ih
      · rw [if_neg ha]
        split
        · simp; omega
        · exact ih
theorem rk_lt {S : List (List Int)} {x y : List Int} (hy : y ∈ S) (h : lessL x y = true) : rk S y < rk S x := by
  unfold rk
  exact filter_ltR (fun z hz => lessL_trans h hz) ⟨y, hy, h, lessL_irrefl y⟩
end Go.Proofs.Ytdpojcgeblbfeaa
