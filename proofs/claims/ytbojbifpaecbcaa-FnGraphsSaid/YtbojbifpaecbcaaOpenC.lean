/- A code (a slice of bytes) that came in, opened. -/
import Derived.Test.YtbojbifpaecbcaaBA
import Derived.Test.YtbojbifpaecbcaaCurN
import Derived.Deep.Slices
import Derived.ChangeSlices
import Derived.OpenShut
namespace Go.Proofs.Ytbojbifpaecbcaa
open Go.ChangeShapes Go.WideShapes Go.ChangeAt Go.RowKit Go.WideElems Go.Deep

section
variable {H : Type} {enc : TypeId × Value → H} {W : World} {base : Nat}
theorem row_memC (a : Addr) (n i : Nat) (h : i < n) : MemPlace.cell a.block (a.off + i) ∈ MemPlace.row a n := by
  simp only [MemPlace.row, List.mem_map, List.mem_range]
  exact ⟨i, h, rfl⟩
theorem spot_noneC {w : World} {a : Addr} {v : Value} (h : w.cell? (a.add 0) = some v) : ∃ b off, a = ⟨b, off, none⟩ := by
  have hs := World.cell?_spot h
  have hs' : a.spot = none := by simpa [Addr.add] using hs
  obtain ⟨b, off, sp⟩ := a
  simp only at hs'
  subst hs'
  exact ⟨b, off, rfl⟩
set_option maxRecDepth 100000 in
theorem open_code {r : Reach} {b0 : Nat} {v : Value} {d : DataW H} {p : List MemPlace} (hv : Value.okWide Try.prog W r b0 22 v) (h : DataW.Trod enc Try.prog W base (fun _ => true) true 22 v d p)
    (hlt : ∀ x ∈ p, x.block < W.heap.size) : ∃ (A : Option Addr) (c : Nat) (zs : List Int), v = .slice A zs.length c ∧ zs.length ≤ 9223372036854775807 ∧ CodeS W W.heap.size A zs := by
  obtain ⟨fuel, hf⟩ := h
  obtain ⟨A0, n0, c0, rfl⟩ := okWide_slice Try.underlying22 hv
  rcases open_ints Try.underlying22 Try.underlying5 (by kernel_rfl) hf with ⟨e1, _⟩ | ⟨a, len, cap, zs, e1, hb, hl, hm, hlen, hx, hcell, hwf⟩
  · have e2 : Value.slice A0 n0 c0 = .slice none 0 0 := by
      have := congrArg (fun l => l[0]?) e1
      simpa [Value.cells] using this
    injection e2 with e3 e4 e5
    subst e3
    subst e4
    subst e5
    exact ⟨none, 0, [], rfl, by simp, by simp, fun hn => absurd hn (by simp)⟩
  · have e2 : Value.slice A0 n0 c0 = .slice (some a) len cap := by
      have := congrArg (fun l => l[0]?) e1
      simpa [Value.cells] using this
    injection e2 with e3 e4 e5
    subst e3
    subst e4
    subst e5
    simp only [Prod.mk.injEq] at hx
    have hls : n0 ≤ zs.length := by rw [hlen]; split <;> omega
    have htl : (zs.take n0).length = n0 := by rw [List.length_take]; omega
    refine ⟨some a, c0, zs.take n0, by rw [htl], ?_, fun x hx2 => bounds_u8 (hwf x (List.mem_of_mem_take hx2)), ?_⟩
    · rw [htl]
      unfold maxLen at hm
      omega
    · intro hn
      rw [htl] at hn
      obtain ⟨b, off, rfl⟩ := spot_noneC (hcell 0 (by omega))
      refine ⟨b, off, rfl, ?_, ?_⟩
      · exact hlt (MemPlace.cell b (off + 0)) (by
          rw [hx.2]
          exact row_memC ⟨b, off, none⟩ zs.length 0 (by omega))
      · intro i x he
        have hil : i < n0 := by
          have := (List.getElem?_eq_some_iff.1 he).1
          omega
        have h1 := hcell i (by omega)
        rw [List.getElem?_take_of_lt hil] at he
        rw [add_plain] at h1
        rw [h1]
        simp [List.getD, he]
end
end Go.Proofs.Ytbojbifpaecbcaa
