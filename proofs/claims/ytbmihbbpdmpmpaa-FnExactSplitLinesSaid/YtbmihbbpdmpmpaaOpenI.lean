/- Arguments opened: a slice of ints, and a slice of slices of ints, read as lists. -/
import Derived.Test.YtbmihbbpdmpmpaaBase
import Derived.Test.YtbmihbbpdmpmpaaIntSS
import Derived.Deep.Matrix
import Derived.Deep.Slices
import Derived.ChangeSlices
import Derived.ProofKit
namespace Go.Proofs.Ytbmihbbpdmpmpaa
open Go.ChangeShapes Go.WideShapes Go.ChangeAt Go.RowKit Go.Deep

structure IntsArg (W : World) (A : Option Addr) (c : Nat) (zs : List Int) : Prop where
  len : zs.length ≤ 9223372036854775807
  each : ∀ z ∈ zs, (Lit.int .i64 z).wf = true
  ints : IntS W W.heap.size A zs
structure IntssArg (W : World) (A : Option Addr) (c : Nat) (rs : List (List Int)) : Prop where
  len : rs.length ≤ 9223372036854775807
  lens : ∀ r ∈ rs, r.length ≤ 9223372036854775807
  each : ∀ r ∈ rs, ∀ z ∈ r, (Lit.int .i64 z).wf = true
  rows : IntSS W W.heap.size A rs
section
variable {H : Type} {enc : TypeId × Value → H} {W : World} {base : Nat}
theorem row_memI (a : Addr) (n i : Nat) (h : i < n) : MemPlace.cell a.block (a.off + i) ∈ MemPlace.row a n := by
  simp only [MemPlace.row, List.mem_map, List.mem_range]
  exact ⟨i, h, rfl⟩
theorem spot_none {w : World} {a : Addr} {v : Value} (h : w.cell? (a.add 0) = some v) : ∃ b off, a = ⟨b, off, none⟩ := by
  have hs := World.cell?_spot h
  have hs' : a.spot = none := by simpa [Addr.add] using hs
  obtain ⟨b, off, sp⟩ := a
  simp only at hs'
  subst hs'
  exact ⟨b, off, rfl⟩
set_option maxRecDepth 100000 in
theorem open_intsA {r : Reach} {b0 : Nat} {v : Value} {d : DataW H} {p : List MemPlace} (hv : Value.okWide Try.prog W r b0 43 v) (h : DataW.Trod enc Try.prog W base (fun _ => true) true 43 v d p)
    (hlt : ∀ x ∈ p, x.block < W.heap.size) : ∃ (A : Option Addr) (c : Nat) (zs : List Int), v = .slice A zs.length c ∧ IntsArg W A c zs := by
  obtain ⟨fuel, hf⟩ := h
  obtain ⟨A0, n0, c0, rfl⟩ := okWide_slice Try.underlying43 hv
  rcases open_ints Try.underlying43 Try.underlying3 (by kernel_rfl) hf with ⟨e1, _⟩ | ⟨a, len, cap, zs, e1, hb, hl, hm, hlen, hx, hcell, hwf⟩
  · have e2 : Value.slice A0 n0 c0 = .slice none 0 0 := by
      have := congrArg (fun l => l[0]?) e1
      simpa [Value.cells] using this
    injection e2 with e3 e4 e5
    subst e3
    subst e4
    subst e5
    exact ⟨none, 0, [], rfl, by simp, by simp, fun hn => absurd hn (by simp)⟩
  · have e2 : Value.slice A0 n0 c0 = .slice (some a) len cap := by
      have := congrArg (fun l => l[0]?) e1
      simpa [Value.cells] using this
    injection e2 with e3 e4 e5
    subst e3
    subst e4
    subst e5
    simp only [Prod.mk.injEq] at hx
    have hls : n0 ≤ zs.length := by rw [hlen]; split <;> omega
    have htl : (zs.take n0).length = n0 := by rw [List.length_take]; omega
    refine ⟨some a, c0, zs.take n0, by rw [htl], ?_, fun x hx2 => hwf x (List.mem_of_mem_take hx2), ?_⟩
    · rw [htl]
      unfold maxLen at hm
      omega
    · intro hn
      rw [htl] at hn
      obtain ⟨b, off, rfl⟩ := spot_none (hcell 0 (by omega))
      refine ⟨b, off, rfl, ?_, ?_⟩
      · exact hlt (MemPlace.cell b (off + 0)) (by
          rw [hx.2]
          exact row_memI ⟨b, off, none⟩ zs.length 0 (by omega))
      · intro i x he
        have hil : i < n0 := by
          have := (List.getElem?_eq_some_iff.1 he).1
          omega
        have h1 := hcell i (by omega)
        rw [List.getElem?_take_of_lt hil] at he
        rw [add_plain] at h1
        rw [h1]
        simp [List.getD, he]
set_option maxRecDepth 100000 in
theorem open_intss {r : Reach} {b0 : Nat} {v : Value} {d : DataW H} {p : List MemPlace} (hv : Value.okWide Try.prog W r b0 26 v) (h : DataW.Trod enc Try.prog W base (fun _ => true) true 26 v d p)
    (hlt : ∀ x ∈ p, x.block < W.heap.size) : ∃ (A : Option Addr) (c : Nat) (rs : List (List Int)), v = .slice A rs.length c ∧ IntssArg W A c rs := by
  obtain ⟨fuel, hf⟩ := h
  obtain ⟨A0, n0, c0, rfl⟩ := okWide_slice Try.underlying26 hv
  rcases open_int_rows Try.underlying26 Try.underlying43 Try.underlying3 (by kernel_rfl) (by kernel_rfl) hf with ⟨e1, _⟩ | ⟨a, len, cap, AA, L, C, Z, e1, hb, hl, hm, hx, hrow⟩
  · have e2 : Value.slice A0 n0 c0 = .slice none 0 0 := by
      have := congrArg (fun l => l[0]?) e1
      simpa [Value.cells] using this
    injection e2 with e3 e4 e5
    subst e3
    subst e4
    subst e5
    exact ⟨none, 0, [], rfl, by simp, by simp, by simp, fun hn => absurd hn (by simp)⟩
  · have e2 : Value.slice A0 n0 c0 = .slice (some a) len cap := by
      have := congrArg (fun l => l[0]?) e1
      simpa [Value.cells] using this
    injection e2 with e3 e4 e5
    subst e3
    subst e4
    subst e5
    simp only [Prod.mk.injEq] at hx
    have hrl : ∀ i, i < n0 → ((Z i).take (L i)).length = L i := fun i hi => by
      obtain ⟨_, h2, _, h4, _⟩ := hrow i (by omega)
      rw [List.length_take]
      omega
    have hget : ∀ (i : Nat) (r : List Int), ((List.range n0).map fun i => (Z i).take (L i))[i]? = some r → i < n0 ∧ r = (Z i).take (L i) := fun i r hr => by
      rw [List.getElem?_map] at hr
      by_cases hi : i < n0
      · rw [List.getElem?_range hi] at hr
        simp only [Option.map_some, Option.some.injEq] at hr
        exact ⟨hi, hr.symm⟩
      · rw [List.getElem?_eq_none (by simpa using hi)] at hr
        cases hr
    refine ⟨some a, c0, (List.range n0).map fun i => (Z i).take (L i), by simp, ?_, ?_, ?_, ?_⟩
    · simp only [List.length_map, List.length_range]
      unfold maxLen at hm
      omega
    · intro r hr
      obtain ⟨i, hi, rfl⟩ := List.mem_map.1 hr
      rw [List.mem_range] at hi
      obtain ⟨_, h2, h3, _⟩ := hrow i (by omega)
      rw [hrl i hi]
      unfold maxLen at h3
      omega
    · intro r hr z hz
      obtain ⟨i, hi, rfl⟩ := List.mem_map.1 hr
      rw [List.mem_range] at hi
      obtain ⟨_, _, _, _, h5, _⟩ := hrow i (by omega)
      exact h5 z (List.mem_of_mem_take hz)
    · intro hn
      simp only [List.length_map, List.length_range] at hn
      obtain ⟨b, off, rfl⟩ := spot_none (hrow 0 (by omega)).1
      refine ⟨b, off, rfl, ?_, ?_⟩
      · exact hlt (MemPlace.cell b (off + 0)) (by
          rw [hx.2]
          exact List.mem_append.2 (.inl (row_memI ⟨b, off, none⟩ c0 0 (by omega))))
      · intro i r hr
        obtain ⟨hi, rfl⟩ := hget i r hr
        obtain ⟨h1, h2, h3, h4, h5, h6, h7⟩ := hrow i (by omega)
        rw [add_plain] at h1
        refine ⟨AA i, C i, by rw [hrl i hi]; exact h1, fun hpos => ?_⟩
        rw [hrl i hi] at hpos
        cases hA : AA i with
        | none =>
          have := h6 hA
          omega
        | some a' =>
          obtain ⟨hb', hc'⟩ := h7 a' hA
          obtain ⟨b2, off2, rfl⟩ := spot_none (hc' 0 (by omega))
          refine ⟨b2, off2, rfl, ?_, fun j z hz => ?_⟩
          · exact hlt (MemPlace.cell b2 (off2 + 0)) (by
              rw [hx.2]
              refine List.mem_append.2 (.inr (List.mem_flatMap.2 ⟨i, List.mem_range.2 (by omega), ?_⟩))
              rw [hA]
              exact row_memI ⟨b2, off2, none⟩ (Z i).length 0 (by rw [h4]; omega))
          · have hjl : j < L i := by
              have := (List.getElem?_eq_some_iff.1 hz).1
              rw [hrl i hi] at this
              exact this
            have h1 := hc' j (by omega)
            rw [List.getElem?_take_of_lt hjl] at hz
            rw [add_plain] at h1
            rw [h1]
            simp [List.getD, hz]
end
end Go.Proofs.Ytbmihbbpdmpmpaa
