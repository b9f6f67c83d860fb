/- TreesOf: its answer, and how long it is. -/
import Derived.Test.YtdpojcgeblbfeaaVPilS
import Derived.Test.YtdpojcgeblbfeaaVRkM
import Derived.Test.YtdpojcgeblbfeaaVBA
set_option linter.all false
namespace Go.Proofs.Ytdpojcgeblbfeaa
open Go.RowKit

noncomputable def treesOk (N : Int) (es : List (Int × Int)) : Bool := graphB N es && decide (treesB N es ≤ 400)
noncomputable def treesC (N : Int) (es : List (Int × Int)) : List (List Int) := if treesOk N es = true then treesL N.toNat es else []
theorem treesC_f {N : Int} {es : List (Int × Int)} (h : treesOk N es = false) : treesC N es = [] := by rw [treesC, if_neg (by rw [h]; decide)]
theorem treesC_t {M : Nat} {es : List (Int × Int)} (h : treesOk (M : Int) es = true) : treesC (M : Int) es = treesL M es := by rw [treesC, if_pos h]; rfl
structure TreesM (M : Nat) (es : List (Int × Int)) : Prop where
  g : graphB (M : Int) es = true
  e : edgesB (M : Int) es = true
  m0 : 0 < M
  m6 : M ≤ 6
  n12 : es.length ≤ 12
  ed : ∀ e ∈ es, 0 ≤ e.1 ∧ e.1 < e.2 ∧ e.2 < (M : Int)
  ge : M - 1 ≤ es.length
  few : (treesL M es).length ≤ 400
theorem asc_ge {n k : Nat} {x : List Int} (h : AscP n k x) : k ≤ n := by
  by_cases h0 : 0 < k
  · have h1 := h.bot (u := k - 1) (by omega)
    have h2 := (h.2.1 (k - 1) (by omega)).2
    omega
  · omega
theorem trees_parts {N : Int} {es : List (Int × Int)} (w : World) (h : treesOk N es = true) : ∃ M : Nat, N = (M : Int) ∧ TreesM M es := by
  unfold treesOk at h
  rw [Bool.and_eq_true, decide_eq_true_eq] at h
  obtain ⟨h1, h3⟩ := h
  obtain ⟨h4, h5⟩ := graphB_all h1
  obtain ⟨h6, h7, h8⟩ := edgesB_lims h4
  obtain ⟨m, rfl⟩ : ∃ m : Nat, N = ((m + 1 : Nat) : Int) := ⟨(N - 1).toNat, by omega⟩
  have hes : ∀ e ∈ es, 0 ≤ e.1 ∧ e.1 < e.2 ∧ e.2 < ((m + 1 : Nat) : Int) := fun e he => all_edge h4 he
  have hE : EdgeS (w.alloc (.cells (flat es).toArray 121)) (w.alloc (.cells (flat es).toArray 121)).heap.size (some ⟨w.heap.size, 0, none⟩) es := (OwnE.of_blk (base := 0) (Blk.new w 121 (flat es).toArray) (Nat.zero_le _)).edges
  by_cases hm : 0 < m
  · have c := trees_count (k := 0) (m := m) (es := es) (by omega) hm (Nat.zero_le m) h8 h5.cut hes (red_has h1 _ _ hE 0 (by omega))
    have d := trees_det h1 (by omega) h8
    obtain ⟨c1, c2, c3, c4⟩ := c
    have c5 : 0 < (treesL (m + 1) es).length := by omega
    obtain ⟨x, hx⟩ := List.exists_mem_of_length_pos c5
    have hx2 := asc_ge (treesL_mem.1 hx).1
    exact ⟨m + 1, rfl, h1, h4, by omega, by omega, h8, hes, hx2, by omega⟩
  · have e0 : m = 0 := by omega
    subst e0
    refine ⟨1, rfl, h1, h4, by omega, by omega, h8, hes, Nat.zero_le _, ?_⟩
    unfold treesL
    refine Nat.le_trans (List.length_filter_le _ _) ?_
    rw [List.length_map]
    show (setsB es.length 0).length ≤ 400
    rw [setsB]
    decide
theorem trees_row {M : Nat} {es : List (Int × Int)} {x : List Int} (h : x ∈ treesL M es) : x.length = M - 1 := (treesL_mem.1 h).1.1
theorem lens_up5 : ∀ (rs : List (List Int)), (∀ r ∈ rs, r.length ≤ 5) → lens rs ≤ rs.length * 5
  | [], _ => by simp [lens]
  | r :: l, h => by
    have h1 := h r (by simp)
    have h2 := lens_up5 l fun p hp => h p (by simp [hp])
    rw [lens, List.length_cons, Nat.add_mul, Nat.one_mul]
    omega
theorem treesC_few (N : Int) (es : List (Int × Int)) (w : World) : (treesC N es).length ≤ 400 ∧ lens (treesC N es) ≤ 1048576 := by
  cases h : treesOk N es with
  | false => rw [treesC_f h]; simp [lens]
  | true =>
    obtain ⟨M, rfl, hT⟩ := trees_parts w h
    rw [treesC_t h]
    have h1 := hT.few
    have h2 := lens_up5 (treesL M es) fun r hr => by
      have := trees_row hr
      have := hT.m6
      omega
    exact ⟨h1, by omega⟩
def setsI (n k : Nat) : List (List Int) := (setsB n k).map cI
theorem setsI_mem {n k : Nat} {x : List Int} (h : AscP n k x) : x ∈ setsI n k := by
  obtain ⟨s, hs, rfl⟩ := (sets_asc n k).2.1 x h
  exact List.mem_map_of_mem hs
theorem trees_is {M : Nat} {es : List (Int × Int)} {L : List (List Int)} (h1 : L.Pairwise fun a b => lessL a b = true) (h2 : ∀ x, x ∈ L ↔ AscP es.length (M - 1) x ∧ connB (M : Int) (partL es x) = true) : L = treesL M es :=
  sorted_same h1 (treesL_sorted M es) fun x => by rw [h2, treesL_mem, conn_iff]
end Go.Proofs.Ytdpojcgeblbfeaa
