/- Sandpiles: PileOk: the specification's side. -/
import Derived.Test.YtdpojcgeblbfeaaVPilM
import Derived.Test.YtdpojcgeblbfeaaVBI
import Derived.Test.YtdpojcgeblbfeaaVBA
import Derived.Test.YtdpojcgeblbfeaaVBF
import Derived.Test.YtdpojcgeblbfeaaVSh
import Derived.Test.YtdpojcgeblbfeaaVBJ
import Derived.Test.YtdpojcgeblbfeaaVBE
set_option linter.all false
namespace Go.Proofs.Ytdpojcgeblbfeaa
open Go.RowKit

structure PileL (M q : Nat) (es : List (Int × Int)) (p : List Int) : Prop where
  m0 : 0 < M
  m6 : M ≤ 6
  n12 : es.length ≤ 12
  ed : ∀ e ∈ es, 0 ≤ e.1 ∧ e.1 < e.2 ∧ e.2 < (M : Int)
  cut : Cut M es
  len : p.length = M
  lim : ∀ u, 0 ≤ p.getD u 0 ∧ p.getD u 0 ≤ 60
  qm : q < M
  zero : p.getD q 0 = 0
theorem touch_net {v : Nat} {e : Int × Int} (h : e.1 < e.2) : net (v : Int) v e = if touch (v : Int) e = true then -1 else 0 := by
  unfold net ind touch
  simp only [Bool.or_eq_true, beq_iff_eq]
  repeat' split
  all_goals omega
theorem valP_lim (v : Nat) (es : List (Int × Int)) (h : ∀ e ∈ es, e.1 < e.2) : 0 ≤ valP es v ∧ valP es v ≤ es.length := by
  have := nets_self v es h
  unfold valP
  omega
theorem PileL.hp {M q : Nat} {es : List (Int × Int)} {p : List Int} (h : PileL M q es p) : ∀ u, u < M → u ≠ q → 0 ≤ p.getD u 0 := fun u _ _ => (h.lim u).1
theorem PileL.ex {M q : Nat} {es : List (Int × Int)} {p : List Int} (h : PileL M q es p) : IsSet M es p q (settN M es p q) := settN_is (set_ex h.cut h.ed (B := 60) (by omega) (fun u _ _ => h.lim u) h.qm)
theorem Tops.lims {M q : Nat} {es : List (Int × Int)} {p : List Int} {n : Nat → Int} (h : PileL M q es p) (ht : Tops M es p q n) : ∀ u, 0 ≤ n u ∧ n u ≤ 2160 := fun u => by
  have f := ht.facts h.ed h.hp
  by_cases hu : u < M
  · have h1 := ht.cap h.cut h.ed (B := 60) (by omega) (fun u _ _ => h.lim u) h.qm u hu
    have h6 := h.m6
    have h2 : (60 : Int) * (M : Int) * (M : Int) ≤ 2160 := by
      have : (M : Int) * (M : Int) ≤ 6 * 6 := Int.mul_le_mul (by omega) (by omega) (by omega) (by omega)
      rw [Int.mul_assoc]
      omega
    exact ⟨f.2.1 u, by omega⟩
  · rw [f.2.2.1 u (by omega)]
    omega
theorem Tops.chips {M q : Nat} {es : List (Int × Int)} {p : List Int} {n : Nat → Int} (h : PileL M q es p) (ht : Tops M es p q n) (u : Nat) : -100000 ≤ Dv p es n u ∧ Dv p es n u ≤ 100000 := by
  have h1 := termsF_bound (f := n) (K := 2160) u M (fun v _ => by have := ht.lims h v; omega) es h.ed
  have h2 := h.lim u
  have h3 := h.n12
  unfold Dv
  have h4 : (2 * 2160 * (es.length : Int)) ≤ 2 * 2160 * 12 := by omega
  omega
end Go.Proofs.Ytdpojcgeblbfeaa
