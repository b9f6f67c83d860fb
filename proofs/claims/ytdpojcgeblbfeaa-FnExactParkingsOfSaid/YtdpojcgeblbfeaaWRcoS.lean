/- RecurrentOf: plain lists; the specification's side. -/
import Derived.Test.YtdpojcgeblbfeaaWRecN
import Derived.Test.YtdpojcgeblbfeaaWBG
import Derived.Test.YtdpojcgeblbfeaaWBT
import Derived.Test.YtdpojcgeblbfeaaWPilH
import Derived.Test.YtdpojcgeblbfeaaWPilZ
set_option linter.all false
namespace Go.Proofs.Ytdpojcgeblbfeaa
open Go.RowKit

section
variable {M k : Nat} {es : List (Int × Int)} {p r : List Int}
theorem fullTo_get {u : Nat} (h : u < M) : (fullTo es k M).getD u 0 = if u = k then 0 else valP es u - 1 := by rw [List.getD, fullTo_at h]; rfl
theorem sub_set (hes : ∀ e ∈ es, 0 ≤ e.1 ∧ e.1 < e.2 ∧ e.2 < (M : Int)) (hn : es.length ≤ 12) (hp : ∀ u, u < M → u ≠ k → -1000000 ≤ r.getD u 0 ∧ r.getD u 0 ≤ 1000000) : (subB (fullTo es k M) r).set k 0 = dualL M k es r := by
  refine List.ext_getElem? fun u => ?_
  by_cases hu : u < M
  · have h1 := valP_lim u es fun e he => (hes e he).2.1
    have hd : (dualL M k es r)[u]? = some (if u = k then 0 else valP es u - 1 - r.getD u 0) := by simp [dualL, hu]
    have hs : (subB (fullTo es k M) r)[u]? = some (wrap64 ((fullTo es k M).getD u 0 - r.getD u 0)) := by simp [subB, fullTo_len, hu]
    rw [hd, List.getElem?_set, hs]
    by_cases h : k = u
    · subst h
      rw [if_pos rfl, if_pos (by rw [subB_len, fullTo_len]; exact hu), if_pos rfl]
    · have h2 := hp u hu fun e => h e.symm
      rw [if_neg h, if_neg fun e => h e.symm, fullTo_get hu, if_neg fun e => h e.symm, wrap64_of (by omega) (by omega)]
  · rw [List.getElem?_eq_none (by rw [List.length_set, subB_len, fullTo_len]; omega), List.getElem?_eq_none (by rw [dual_len]; omega)]
theorem add_neg (hl : p.length = M) (hes : ∀ e ∈ es, 0 ≤ e.1 ∧ e.1 < e.2 ∧ e.2 < (M : Int)) (hn : es.length ≤ 12) (hp : ∀ u, -1000000 ≤ p.getD u 0 ∧ p.getD u 0 ≤ 1000000) (hz : p.getD k 0 = 0) : addB (fullTo es k M) (negB p) = dualL M k es p := by
  have hg : ∀ u, u < M → (negB p).getD u 0 = -p.getD u 0 := fun u hu => by
    have h2 := hp u
    obtain ⟨x, hx⟩ : ∃ x, p[u]? = some x := ⟨_, List.getElem?_eq_getElem (by omega)⟩
    rw [List.getD, hx, Option.getD_some] at h2
    rw [List.getD, negB_at hx, List.getD, hx]
    exact wrap64_of (by omega) (by omega)
  rw [addB, if_pos (by rw [fullTo_len, negB_length, hl])]
  unfold sumsB dualL
  rw [fullTo_len]
  refine List.map_congr_left fun u hu => ?_
  rw [List.mem_range] at hu
  have h1 := valP_lim u es fun e he => (hes e he).2.1
  have h2 := hp u
  rw [fullTo_get hu, hg u hu]
  by_cases h : u = k
  · subst h
    rw [if_pos rfl, if_pos rfl, hz]
    exact wrap64_of (by omega) (by omega)
  · rw [if_neg h, if_neg h, wrap64_of (by omega) (by omega)]
    omega
end
end Go.Proofs.Ytdpojcgeblbfeaa
