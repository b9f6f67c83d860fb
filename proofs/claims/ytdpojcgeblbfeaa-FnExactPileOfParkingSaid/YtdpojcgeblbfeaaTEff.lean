/- IsEffective: the specification's loop and the program's ContainsFunc answer one plain test of the list. -/
import Derived.Test.YtdpojcgeblbfeaaTBA
import Derived.Test.YtdpojcgeblbfeaaTBF
import Derived.Test.YtdpojcgeblbfeaaTSh
set_option linter.all false
namespace Go.Proofs.Ytdpojcgeblbfeaa
open Go.RowKit

def posB (z : Int) : Bool := decide (0 ≤ z)
def posAll (xs : List Int) : Bool := xs.all posB
theorem posAll_miss {xs : List Int} {k : Nat} {z : Int} (he : xs[k]? = some z) (h : posB z = false) : posAll xs = false := by
  unfold posAll
  rw [List.all_eq_false]
  exact ⟨z, List.mem_of_getElem? he, by simp [h]⟩
set_option maxHeartbeats 1000000 in
theorem specEff (A : Option Addr) (c : Nat) (xs : List Int) (w : World) (hn : xs.length ≤ 1048576) (hS : IntS w w.heap.size A xs) :
    Calls Try.prog 214 #[.slice A xs.length c] w fun e w' => e = .returned (.bool (posAll xs)) ∧ Below w.heap.size w w' := by
  have HS := Lib.hid hS
  clear hS
  go_enter Try.func214, Try.ntmps214
  go_wp2
  go_loop [7] (fun i => ∃ j : Nat, j ≤ xs.length ∧ i = .int .i64 j ∧ (xs.take j).all posB = true) (fun i => xs.length - (intOf i).toNat)
  case atStart => exact ⟨0, Nat.zero_le _, rfl, rfl⟩
  case round =>
    obtain ⟨j, hj, rfl, hall⟩ := hrel
    have HA := Lib.hid hall
    clear hall
    by_cases hlt : j < xs.length
    · obtain ⟨b1, o1, x, rfl, hb1, he, hc0⟩ := HS.out.at_ hlt
      have hj0 : (0 : Int) ≤ (j : Int) := Int.natCast_nonneg _
      have hj1 : (j : Int) < (xs.length : Int) := by omega
      by_cases hx : x < 0
      · have H := Lib.hid (posAll_miss he (by simp [posB]; omega))
        clear he
        have t1 : decide (x < 0) = true := decide_eq_true hx
        go_wp2
        go_ret
        exact ⟨ret_boolE H.out.symm, Below.refl _ _⟩
      · have H := Lib.hid (allTake_snoc HA.out he (by simp [posB]; omega))
        clear he
        have t1 : decide (x < 0) = false := decide_eq_false hx
        clear hx
        go_wp2
        exact ⟨⟨j + 1, by omega, by go_num, H.out⟩, by simp [intOf]; omega⟩
    · have H := Lib.hid (allTake_end HA.out (by omega))
      go_wp2
      go_ret
      exact ⟨ret_boolE H.out.symm, Below.refl _ _⟩

theorem debt_at (w : World) : PredAt Try.prog 160 #[] (fun z : Int => .int .i64 z) (fun z => !posB z) w := by
  intro W z _
  show Calls Try.prog 160 #[.int .i64 z] W fun e w' => e = .returned (.bool (!posB z)) ∧ ∃ q, w' = W.drewN q
  by_cases h1 : z < 0
  · have H : (!posB z) = true := by simp only [posB]; rw [decide_eq_false (by omega)]; rfl
    rw [H]
    have t1 : decide (z < 0) = true := decide_eq_true h1
    clear H
    go_enter Try.func160, Try.ntmps160
    go_wp2
    go_ret
    exact ⟨rfl, 0, rfl⟩
  · have H : (!posB z) = false := by simp only [posB]; rw [decide_eq_true (by omega)]; rfl
    rw [H]
    have t1 : decide (z < 0) = false := decide_eq_false h1
    clear H h1
    go_enter Try.func160, Try.ntmps160
    go_wp2
    go_ret
    exact ⟨rfl, 0, rfl⟩
theorem debt_enters : ∀ args w, (callFunc 160 args).run Try.prog w = .ok (.enter 160 args) w := enters_of Try.func160 (by kernel_rfl) rfl
theorem contains_debt (A : Option Addr) (c B : Nat) (r : List Int) (w : World) (hn : r.length ≤ 1048576) (hS : IntS w B A r) :
    Calls Try.prog 159 #[.slice A r.length c, .func (.func 160) #[] #[]] w fun e w' => e = .returned (.bool (!posAll r)) ∧ ∃ q, w' = w.drewN q := by
  by_cases h0 : 0 < r.length
  · obtain ⟨b, off, rfl, hb, hc⟩ := hS h0
    have h := Try.slices_ContainsFunc (fun z : Int => .int .i64 z) (fun z => !posB z) 160 #[] debt_enters b off r.length c r w (debt_at w) (Nat.le_refl _) (by omega)
      (fun j hj => by rw [hc j r[j] (List.getElem?_eq_getElem hj)]; simp [getElem!_pos r j hj])
    rw [List.take_length] at h
    have e : (r.any fun z => !posB z) = !posAll r := by rw [posAll, List.not_all_eq_any_not]
    rwa [e] at h
  · obtain rfl : r = [] := by
      cases r with
      | nil => rfl
      | cons a l => simp at h0
    exact (Try.slices_ContainsFunc_empty (α := Int) A c _ w).mono fun e w' ⟨h1, h2⟩ => ⟨h1, 0, h2⟩
set_option maxHeartbeats 1000000 in
theorem implEff (A : Option Addr) (c : Nat) (xs : List Int) (w : World) (hn : xs.length ≤ 1048576) (hS : IntS w w.heap.size A xs) :
    Calls Try.prog 106 #[.slice A xs.length c] w fun e w' => e = .returned (.bool (posAll xs)) ∧ Below w.heap.size w w' := by
  have HC := Lib.hid (contains_debt A c _ xs w hn hS)
  clear hS
  go_enter Try.func106, Try.ntmps106
  go_wp2_with fail
  refine HC.out.mono ?_
  rintro e w' ⟨rfl, q, rfl⟩
  go_wp2
  go_ret
  exact ⟨ret_boolE (by simp), drewN_below w q⟩
end Go.Proofs.Ytdpojcgeblbfeaa
