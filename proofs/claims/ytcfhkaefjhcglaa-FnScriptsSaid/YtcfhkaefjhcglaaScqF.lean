/- laws.FnScripts, the plain facts. -/
import Derived.Test.YtcfhkaefjhcglaaBL
import Derived.Test.YtcfhkaefjhcglaaBN
namespace Go.Proofs.Ytcfhkaefjhcglaa
open Go.RowKit

structure ScqF (M : Nat) (es : List (Int × Int)) (d t e s u x : List Int) : Prop where
  tok : fireOk (M : Int) es d t = true
  tb : fireB (M : Int) es d t = e
  el : e.length = M
  eqv : eqvB (M : Int) es d e = true
  qve : eqvB (M : Int) es e d = true
  s1 : betB (M : Int) es d e = s
  u1 : betB (M : Int) es e d = u
  sl : s.length = M
  ul : u.length = M
  sok : fireOk (M : Int) es d s = true
  sb : fireB (M : Int) es d s = e
  sum : ∀ (v : Nat) (y z : Int), s[v]? = some y → u[v]? = some z → 0 ≤ y ∧ y ≤ 6 ∧ 0 ≤ z ∧ z ≤ 6 ∧ y + z = -leastB t - leastB (t.map (- ·))
  least : leastB s = 0
  xl : x.length = M
  prin : prinB (M : Int) es x = true
theorem scqF {M : Nat} {es : List (Int × Int)} {d t : List Int} (hg : graphB (M : Int) es = true) (hM0 : 0 < M) (hM5 : M ≤ 5) (hel : es.length ≤ 8) (hdl : d.length = M) (hbd : ∀ x ∈ d, -2 ≤ x ∧ x ≤ 6) (htl : t.length = M) (hbt : ∀ x ∈ t, -3 ≤ x ∧ x ≤ 3) (hex : ∃ f, IsRed M es d 0 f) (hex0 : ∃ f, IsRed M es (List.replicate M 0) 0 f) :
    ScqF M es d t (firedB M es d t) (betB (M : Int) es d (firedB M es d t)) (betB (M : Int) es (firedB M es d t) d) (addB d (negB (firedB M es d t))) := by
  have F := fireCls hg hM0 hM5 hel hdl hbd htl hbt hex
  obtain ⟨e, he⟩ : ∃ e, e = firedB M es d t := ⟨_, rfl⟩
  rw [← he] at F ⊢
  obtain ⟨b1, b2⟩ := bet_fire F hM0 htl hbt
  obtain ⟨k1, k2, k3, k4⟩ := bet_fires F hM0 htl hbt
  have hm1 := hbt _ (leastB_mem (l := t) (by omega))
  have hbn : ∀ x ∈ t.map (- ·), -3 ≤ x ∧ x ≤ 3 := fun x hx => by
    obtain ⟨y, hy, rfl⟩ := List.mem_map.1 hx
    have := hbt y hy
    omega
  have hm2 := hbn _ (leastB_mem (l := t.map (- ·)) (by rw [List.length_map]; omega))
  have tok : fireOk (M : Int) es d t = true := by unfold fireOk; rw [F.ddiv, F.tdiv]; rfl
  have sok : fireOk (M : Int) es d (betB (M : Int) es d e) = true := by
    unfold fireOk
    rw [F.ddiv, divB_ofC hg k4 (fun x hx => by have := k2 x hx; omega)]
    rfl
  have hxl : (addB d (negB e)).length = M := by
    unfold addB
    rw [if_pos (by rw [negB_length, F.len, hdl]), sumsB_length, hdl]
  have hxa : ∀ u, u < M → (addB d (negB e))[u]? = some (wrap64 (d.getD u 0 + wrap64 (-e.getD u 0))) := fun u hu => by
    unfold addB
    rw [if_pos (by rw [negB_length, F.len, hdl])]
    have h1 : d[u]? = some (d.getD u 0) := by simp [List.getD, hdl, hu]
    have h2 : e[u]? = some (e.getD u 0) := by simp [List.getD, F.len, hu]
    exact sumsB_at h1 (negB_at h2)
  refine ⟨tok, ?_, F.len, F.eqv, F.qve, rfl, rfl, k4, ?_, sok, ?_, ?_, k3, hxl, diff_prin F hM0 hM5 hel hdl hbd htl hbt hex0 hxl hxa⟩
  · rw [fireB_t tok, Int.toNat_natCast, he]
  · rw [b2, List.length_map, List.length_map, htl]
  · rw [fireB_t sok, Int.toNat_natCast, k1]
  · intro v y z hy hz
    have hv : v < M := by have := (List.getElem?_eq_some_iff.1 hy).1; omega
    rw [b1] at hy
    rw [b2] at hz
    have hv2 : v < t.length := by omega
    have hx := hbt _ (List.getElem_mem hv2)
    have l1 := leastB_le (List.getElem_mem hv2)
    have l2 := leastB_le (l := t.map (- ·)) (y := -t[v]) (List.mem_map.2 ⟨_, List.getElem_mem hv2, rfl⟩)
    simp only [List.getElem?_map, List.getElem?_eq_getElem hv2, Option.map_some, Option.some.injEq] at hy hz
    omega
end Go.Proofs.Ytcfhkaefjhcglaa
