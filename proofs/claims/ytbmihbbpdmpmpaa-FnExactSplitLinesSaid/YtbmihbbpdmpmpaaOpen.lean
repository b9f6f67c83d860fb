/- Arguments opened: a graph by value is a number and a slice that reads as a list of edges. -/
import Derived.Test.YtbmihbbpdmpmpaaBase
import Derived.Test.YtbmihbbpdmpmpaaEdge
import Derived.Deep.SlicePairs
import Derived.Lib.SmallJoins
import Derived.ProofKit
namespace Go.Proofs.Ytbmihbbpdmpmpaa
open Go.ChangeShapes Go.WideShapes Go.ChangeAt Go.RowKit Go.Deep Go.Joins

/-- what a law knows of a graph that comes in -/
structure GraphArg (W : World) (N : Int) (A : Option Addr) (c : Nat) (es : List (Int × Int)) : Prop where
  lo : -9223372036854775808 ≤ N
  hi : N ≤ 9223372036854775807
  len : es.length ≤ 9223372036854775807
  edges : EdgeS W W.heap.size A es
  wf : ∀ e ∈ es, (Lit.int .i64 e.1).wf = true ∧ (Lit.int .i64 e.2).wf = true

section
variable {H : Type} {enc : TypeId × Value → H} {W : World} {base : Nat} {spare : Nat → Bool} {held : Bool}
theorem row_mem (a : Addr) (n i : Nat) (h : i < n) : MemPlace.cell a.block (a.off + i) ∈ MemPlace.row a n := by
  simp only [MemPlace.row, List.mem_map, List.mem_range]
  exact ⟨i, h, rfl⟩
set_option maxRecDepth 100000 in
theorem open_graph {r : Reach} {b0 : Nat} {v : Value} {d : DataW H} {p : List MemPlace} (hv : Value.okWide Try.prog W r b0 24 v) (h : DataW.Trod enc Try.prog W base spare held 24 v d p)
    (hlt : ∀ x ∈ p, x.block < W.heap.size) : ∃ (N : Int) (A : Option Addr) (c : Nat) (es : List (Int × Int)), v = .agg #[.int .i64 N, .slice A es.length c] ∧ GraphArg W N A c es := by
  obtain ⟨v0, v1, y0, y1, n, rfl, rfl, rfl, h0, h1⟩ := open_agg2 Try.underlying24 (by kernel_rfl) (by kernel_rfl) hv h
  obtain ⟨N, e0, rfl, hw⟩ := DataW.trod_int Try.underlying3 h0
  injection e0 with e0
  subst e0
  have hN := int_wf hw
  rcases open_slice_pairs Try.underlying22 Try.underlying95 (by kernel_rfl) rfl rfl (by kernel_rfl) (by kernel_rfl) h1 with ⟨e1, _⟩ | ⟨a, len, cap, m, n', V0, V1, D0, D1, P0, P1, e1, hb, hl, hm, hmm, rfl, hi⟩
  · injection e1 with e1
    subst e1
    exact ⟨N, none, 0, [], rfl, hN.1, hN.2, by simp, fun hn => absurd hn (by simp), fun e he => by cases he⟩
  · injection e1 with e1
    subst e1
    have hlm : len ≤ m := by rw [hmm]; split <;> omega
    have hint : ∀ i, i < m → ∃ x y : Int, V0 i = .int .i64 x ∧ V1 i = .int .i64 y ∧ (Lit.int .i64 x).wf = true ∧ (Lit.int .i64 y).wf = true := by
      intro i him
      obtain ⟨_, _, g0, g1⟩ := hi i him
      obtain ⟨x, ex, _, wx⟩ := DataW.trod_int Try.underlying3 g0
      obtain ⟨y, ey, _, wy⟩ := DataW.trod_int Try.underlying3 g1
      injection ex with ex
      injection ey with ey
      exact ⟨x, y, ex, ey, wx, wy⟩
    refine ⟨N, some a, cap, (List.range len).map fun i => (intOf (V0 i), intOf (V1 i)), by simp, hN.1, hN.2, ?_, ?_, ?_⟩
    · simp only [List.length_map, List.length_range]
      unfold maxLen at hm
      omega
    · intro hn
      simp only [List.length_map, List.length_range] at hn
      have hc0 := (hi 0 (by omega)).1
      have hs := World.cell?_spot hc0
      have hs' : a.spot = none := by simpa [Addr.add] using hs
      obtain ⟨b, off, sp⟩ := a
      simp only at hs'
      subst hs'
      refine ⟨b, off, rfl, ?_, ?_⟩
      · have := hlt (MemPlace.cell b (off + 0)) (by
          simp only [List.mem_append]
          exact .inr (.inl (row_mem ⟨b, off, none⟩ (m * 2) 0 (by omega))))
        exact this
      · intro i e he
        rw [List.getElem?_map] at he
        by_cases hil : i < len
        · rw [List.getElem?_range hil] at he
          simp only [Option.map_some, Option.some.injEq] at he
          subst he
          obtain ⟨x, y, ex, ey, _, _⟩ := hint i (by omega)
          obtain ⟨q0, q1, _, _⟩ := hi i (by omega)
          rw [ex] at q0 ⊢
          rw [ey] at q1 ⊢
          rw [add_plain] at q0 q1
          exact ⟨q0, by simpa [intOf, Nat.add_assoc] using q1⟩
        · rw [List.getElem?_eq_none (by simpa using hil)] at he
          cases he
    · intro e he
      obtain ⟨i, hil, rfl⟩ := List.mem_map.1 he
      rw [List.mem_range] at hil
      obtain ⟨x, y, ex, ey, wx, wy⟩ := hint i (by omega)
      rw [ex, ey]
      exact ⟨wx, wy⟩
end
end Go.Proofs.Ytbmihbbpdmpmpaa
