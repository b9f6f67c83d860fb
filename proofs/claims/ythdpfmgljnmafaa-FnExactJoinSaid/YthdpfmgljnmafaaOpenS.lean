/- An argument that is a slice of strings, opened: it reads as a list. -/
import Derived.Test.YthdpfmgljnmafaaBase
import Derived.Test.YthdpfmgljnmafaaStrs
import Derived.SliceStrings
import Derived.Deep.Slices
import Derived.ProofKit
namespace Go.Proofs.Ythdpfmgljnmafaa
open Go.ChangeShapes Go.WideShapes Go.ChangeAt Go.RowKit Go.Deep

structure StrsArg (W : World) (A : Option Addr) (c : Nat) (xs : List ByteArray) : Prop where
  len : xs.length ≤ 9223372036854775807
  each : ∀ x ∈ xs, x.size ≤ 9223372036854775807
  strs : StrS W W.heap.size A xs
section
variable {H : Type} {enc : TypeId × Value → H} {W : World} {base : Nat} {spare : Nat → Bool} {held : Bool}
theorem row_memS (a : Addr) (n i : Nat) (h : i < n) : MemPlace.cell a.block (a.off + i) ∈ MemPlace.row a n := by
  simp only [MemPlace.row, List.mem_map, List.mem_range]
  exact ⟨i, h, rfl⟩
set_option maxRecDepth 100000 in
theorem open_strs {r : Reach} {b0 : Nat} {v : Value} {d : DataW H} {p : List MemPlace} (hv : Value.okWide Try.prog W r b0 40 v) (h : DataW.Trod enc Try.prog W base spare held 40 v d p)
    (hlt : ∀ x ∈ p, x.block < W.heap.size) : ∃ (A : Option Addr) (c : Nat) (xs : List ByteArray), v = .slice A xs.length c ∧ StrsArg W A c xs := by
  obtain ⟨fuel, hf⟩ := h
  obtain ⟨A0, n0, c0, rfl⟩ := okWide_slice Try.underlying40 hv
  rcases open_strings Try.underlying40 Try.underlying9 (by kernel_rfl) hf with ⟨e1, _⟩ | ⟨a, len, cap, ss, e1, hb, hl, hm, hlen, hx, hcell, hsz⟩
  · have e2 : Value.slice A0 n0 c0 = .slice none 0 0 := by
      have := congrArg (fun l => l[0]?) e1
      simpa [Value.cells] using this
    injection e2 with e3 e4 e5
    subst e3
    subst e4
    subst e5
    exact ⟨none, 0, [], rfl, by simp, by simp, fun hn => absurd hn (by simp)⟩
  · have e2 : Value.slice A0 n0 c0 = .slice (some a) len cap := by
      have := congrArg (fun l => l[0]?) e1
      simpa [Value.cells] using this
    injection e2 with e3 e4 e5
    subst e3
    subst e4
    subst e5
    simp only [Prod.mk.injEq] at hx
    have hls : n0 ≤ ss.length := by rw [hlen]; split <;> omega
    have htl : (ss.take n0).length = n0 := by rw [List.length_take]; omega
    refine ⟨some a, c0, ss.take n0, by rw [htl], ?_, fun x hx2 => ?_, ?_⟩
    · rw [htl]
      unfold maxLen at hm
      omega
    · have := hsz x (List.mem_of_mem_take hx2)
      unfold maxLen at this
      exact this
    · intro hn
      rw [htl] at hn
      have hc0 := hcell 0 (by omega)
      have hs := World.cell?_spot hc0
      have hs' : a.spot = none := by simpa [Addr.add] using hs
      obtain ⟨b, off, sp⟩ := a
      simp only at hs'
      subst hs'
      refine ⟨b, off, rfl, ?_, ?_⟩
      · have := hlt (MemPlace.cell b (off + 0)) (by
          rw [hx.2]
          exact row_memS ⟨b, off, none⟩ ss.length 0 (by omega))
        exact this
      · intro i x he
        have hil : i < n0 := by
          have := (List.getElem?_eq_some_iff.1 he).1
          omega
        have h1 := hcell i (by omega)
        rw [List.getElem?_take_of_lt hil] at he
        rw [add_plain] at h1
        rw [h1]
        simp [List.getD, he]
end
end Go.Proofs.Ythdpfmgljnmafaa
