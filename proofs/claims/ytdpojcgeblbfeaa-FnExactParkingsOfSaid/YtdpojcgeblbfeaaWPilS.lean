/- RecurrentPiles and ParkingsOf: what is listed, and that the lists are short. -/
import Derived.Test.YtdpojcgeblbfeaaWCntM
import Derived.Test.YtdpojcgeblbfeaaWTrsD
import Derived.Test.YtdpojcgeblbfeaaWBJ
import Derived.Test.YtdpojcgeblbfeaaWBF
set_option linter.all false
namespace Go.Proofs.Ytdpojcgeblbfeaa
open Go.RowKit

theorem red_has {M : Nat} {es : List (Int × Int)} (hg : graphB (M : Int) es = true) (A : Option Addr) (w : World) (hE : EdgeS w w.heap.size A es) (q : Nat) (hq : q < M) : ∀ x : List Int, x.length = M → (∀ u, -100 ≤ x.getD u 0 ∧ x.getD u 0 ≤ 100) → ∃ f, IsRed M es x q f := fun x hl hx => by
  obtain ⟨h4, h5⟩ := graphB_all hg
  obtain ⟨h6, h7, h8⟩ := edgesB_lims h4
  have hb : Below w.heap.size w (w.alloc (.cells (intCells x).toArray 3)) := (Below.refl _ _).alloc (Nat.le_refl _) _
  have hI : IntS (w.alloc (.cells (intCells x).toArray 3)) (w.alloc (.cells (intCells x).toArray 3)).heap.size (some ⟨w.heap.size, 0, none⟩) x := fun _ => ⟨w.heap.size, 0, rfl, by simp, fun i z hz => by rw [Nat.zero_add, (Blk.new w 3 (intCells x).toArray).cell]; simp [intCells, hz]⟩
  obtain ⟨e, w', fr, ⟨pr, pb, g, cg, gs, f, -, hf, -⟩, -⟩ := reduceW_any A (some ⟨w.heap.size, 0, none⟩) 0 0 M q es x _ (by omega) (by omega) hq hl h8 (fun e he => all_edge h4 he) (fun u => by have := hx u; omega) h5.cut (hE.up_ hb) hI []
  exact ⟨f, hf⟩
theorem allG_one {f : Nat → Nat} {good : List Int → Bool} (h : f 0 ≤ 1) : (allG f good 1 []).length ≤ 1 := by
  rw [allG]
  have := flat_lenA (f := fun x : Nat => allG f good 0 ([] ++ [(x : Int)])) (b := 1) (f 0) fun x _ => by
    rw [allG]
    split <;> simp
  simp only [List.length_nil]
  omega
theorem redL_few {M k : Nat} {es : List (Int × Int)} (hg : graphB (M : Int) es = true) (hk : k < M) (hex : ∀ x : List Int, x.length = M → (∀ u, -100 ≤ x.getD u 0 ∧ x.getD u 0 ≤ 100) → ∃ f, IsRed M es x 0 f) (ht : treesB (M : Int) es ≤ 400) : (redL M k es).length ≤ 400 := by
  obtain ⟨h4, h5⟩ := graphB_all hg
  obtain ⟨h6, h7, h8⟩ := edgesB_lims h4
  obtain ⟨m, rfl⟩ : ∃ m, M = m + 1 := ⟨M - 1, by omega⟩
  by_cases hm : 0 < m
  · have h1 := trees_count (k := k) (m := m) (es := es) (by omega) hm (by omega) h8 h5.cut (fun e he => all_edge h4 he) hex
    have h2 := trees_det hg (by omega) h8
    have h3 := piles_len (M := m + 1) (k := k) (es := es)
    omega
  · have e0 : m = 0 := by omega
    subst e0
    have e1 : k = 0 := by omega
    subst e1
    have h3 := allG_one (f := limV 0 es) (good := burnsB 1 0 es) (by simp [limV])
    exact Nat.le_trans h3 (by decide)
noncomputable def pilesOk (N : Int) (es : List (Int × Int)) (q : Int) : Bool := graphB N es && (vB q N && decide (treesB N es ≤ 400))
noncomputable def pilesC (N : Int) (es : List (Int × Int)) (q : Int) : List (List Int) := if pilesOk N es q = true then pilesL N.toNat q.toNat es else []
noncomputable def parksC (N : Int) (es : List (Int × Int)) (q : Int) : List (List Int) := if pilesOk N es q = true then parksL N.toNat q.toNat es else []
theorem pilesC_f {N : Int} {es : List (Int × Int)} {q : Int} (h : pilesOk N es q = false) : pilesC N es q = [] := by rw [pilesC, if_neg (by rw [h]; decide)]
theorem pilesC_t {M k : Nat} {es : List (Int × Int)} (h : pilesOk (M : Int) es (k : Int) = true) : pilesC (M : Int) es (k : Int) = pilesL M k es := by rw [pilesC, if_pos h]; rfl
theorem parksC_f {N : Int} {es : List (Int × Int)} {q : Int} (h : pilesOk N es q = false) : parksC N es q = [] := by rw [parksC, if_neg (by rw [h]; decide)]
theorem parksC_t {M k : Nat} {es : List (Int × Int)} (h : pilesOk (M : Int) es (k : Int) = true) : parksC (M : Int) es (k : Int) = parksL M k es := by rw [parksC, if_pos h]; rfl
structure PilesL (M k : Nat) (es : List (Int × Int)) : Prop where
  g : graphB (M : Int) es = true
  e : edgesB (M : Int) es = true
  m0 : 0 < M
  m6 : M ≤ 6
  n12 : es.length ≤ 12
  ed : ∀ e ∈ es, 0 ≤ e.1 ∧ e.1 < e.2 ∧ e.2 < (M : Int)
  conn : Conn (M : Int) es
  km : k < M
  few : treesB (M : Int) es ≤ 400
theorem piles_parts {N : Int} {es : List (Int × Int)} {q : Int} (h : pilesOk N es q = true) : ∃ M k : Nat, N = (M : Int) ∧ q = (k : Int) ∧ PilesL M k es := by
  unfold pilesOk at h
  rw [Bool.and_eq_true, Bool.and_eq_true, decide_eq_true_eq] at h
  obtain ⟨h1, h2, h3⟩ := h
  obtain ⟨h4, h5⟩ := graphB_all h1
  obtain ⟨h6, h7, h8⟩ := edgesB_lims h4
  obtain ⟨k1, k2⟩ := vB_iff h2
  obtain ⟨M, rfl⟩ : ∃ M : Nat, N = (M : Int) := ⟨N.toNat, by omega⟩
  obtain ⟨k, rfl⟩ : ∃ k : Nat, q = (k : Int) := ⟨q.toNat, by omega⟩
  exact ⟨M, k, rfl, rfl, h1, h4, by omega, by omega, h8, fun e he => all_edge h4 he, h5, by omega, h3⟩
theorem vals_pos {M k : Nat} {es : List (Int × Int)} (h : PilesL M k es) : ∀ u, u < M → u ≠ k → 1 ≤ valP es u := fun u hu hne => by
  have := val_pos h.conn.cut h.ed hu h.km hne
  unfold valP
  omega
end Go.Proofs.Ytdpojcgeblbfeaa
