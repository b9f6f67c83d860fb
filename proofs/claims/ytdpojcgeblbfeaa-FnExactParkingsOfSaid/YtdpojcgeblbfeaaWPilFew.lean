/- The lists of recurrent configurations and of parking functions are short, and so are their rows. -/
import Derived.Test.YtdpojcgeblbfeaaWPilS
import Derived.Test.YtdpojcgeblbfeaaWBA
set_option linter.all false
namespace Go.Proofs.Ytdpojcgeblbfeaa
open Go.RowKit

theorem red_few_all {M k : Nat} {es : List (Int × Int)} (hP : PilesL M k es) (w : World) : (redL M k es).length ≤ 400 := by
  have hE : EdgeS (w.alloc (.cells (flat es).toArray 121)) (w.alloc (.cells (flat es).toArray 121)).heap.size (some ⟨w.heap.size, 0, none⟩) es := (OwnE.of_blk (base := 0) (Blk.new w 121 (flat es).toArray) (Nat.zero_le _)).edges
  exact redL_few hP.g hP.km (red_has hP.g _ _ hE 0 hP.m0) hP.few
theorem pilesC_few (N : Int) (es : List (Int × Int)) (q : Int) (w : World) : (pilesC N es q).length ≤ 400 ∧ ∀ r ∈ pilesC N es q, r.length ≤ 6 := by
  cases h : pilesOk N es q with
  | false => rw [pilesC_f h]; simp
  | true =>
    obtain ⟨M, k, rfl, rfl, hP⟩ := piles_parts h
    rw [pilesC_t h]
    refine ⟨by rw [piles_len.1]; exact red_few_all hP w, fun r hr => ?_⟩
    obtain ⟨s, -, rfl⟩ := piles_mem.1 hr
    rw [dual_len]
    exact hP.m6
theorem parksC_few (N : Int) (es : List (Int × Int)) (q : Int) (w : World) : (parksC N es q).length ≤ 400 ∧ ∀ r ∈ parksC N es q, r.length ≤ 6 := by
  cases h : pilesOk N es q with
  | false => rw [parksC_f h]; simp
  | true =>
    obtain ⟨M, k, rfl, rfl, hP⟩ := piles_parts h
    rw [parksC_t h]
    refine ⟨by rw [piles_len.2]; exact red_few_all hP w, fun r hr => ?_⟩
    obtain ⟨s, hs, rfl⟩ := parks_mem.1 hr
    rw [List.length_set, (red_mem.1 hs).1]
    exact hP.m6
theorem lens_up6 : ∀ (rs : List (List Int)), (∀ r ∈ rs, r.length ≤ 6) → lens rs ≤ rs.length * 6
  | [], _ => by simp [lens]
  | r :: l, h => by
    have h1 := h r (by simp)
    have h2 := lens_up6 l fun p hp => h p (by simp [hp])
    rw [lens, List.length_cons, Nat.add_mul, Nat.one_mul]
    omega
theorem parksC_lens (N : Int) (es : List (Int × Int)) (q : Int) (w : World) : lens (parksC N es q) ≤ 1048576 := by
  have h := parksC_few N es q w
  have h1 := lens_up6 _ h.2
  have h2 := h.1
  omega
end Go.Proofs.Ytdpojcgeblbfeaa
