/- IdentityPile: both sides. -/
import Derived.Test.YtndncmjhpbjcoaaRRcoI
import Derived.Test.YtndncmjhpbjcoaaRBI
set_option linter.all false
namespace Go.Proofs.Ytndncmjhpbjcoaa
open Go.RowKit

noncomputable def idX (N : Int) (es : List (Int × Int)) (q : Int) : List Int := if fullOk N es q = true then recC N.toNat q.toNat es (List.replicate N.toNat 0) else []
theorem idX_f {N : Int} {es : List (Int × Int)} {q : Int} (h : fullOk N es q = false) : idX N es q = [] := by rw [idX, if_neg (by rw [h]; decide)]
theorem idX_t {M k : Nat} {es : List (Int × Int)} (h : fullOk (M : Int) es (k : Int) = true) : idX (M : Int) es (k : Int) = recC M k es (List.replicate M 0) := by rw [idX, if_pos h]; rfl
theorem idX_len (N : Int) (es : List (Int × Int)) (q : Int) : (idX N es q).length ≤ 6 := by
  cases h : fullOk N es q with
  | false => rw [idX_f h]; simp
  | true =>
    have h1 := h
    unfold fullOk at h1
    rw [Bool.and_eq_true] at h1
    have h2 := edgesB_lims (graphB_all h1.1).1
    unfold idX
    rw [if_pos h, recC_len]
    omega
theorem pileB_zero {M k : Nat} {es : List (Int × Int)} (hg : graphB (M : Int) es = true) (hk : k < M) : pileB (M : Int) es (List.replicate M 0) (k : Int) = true := by
  have hmem : ∀ x ∈ List.replicate M (0 : Int), x = 0 := fun x hx => (List.mem_replicate.1 hx).2
  unfold pileB
  simp only [Bool.and_eq_true, decide_eq_true_eq]
  refine ⟨?_, vB_t (by omega), ?_, ?_⟩
  · rw [divB_a hg (by simp), List.all_eq_true]
    exact fun x hx => within_t (by rw [hmem x hx]; omega)
  · unfold posAll
    rw [List.all_eq_true]
    intro x hx
    unfold posB
    exact decide_eq_true (by rw [hmem x hx]; exact Int.le_refl 0)
  · rw [Int.toNat_natCast]
    simp [List.getD, hk]
theorem pileL_nil {M k : Nat} {es : List (Int × Int)} (hg : graphB (M : Int) es = true) (hk : k < M) : PileL M k es (List.replicate M 0) := by
  obtain ⟨M', k', e1, e2, hP, -⟩ := pile_parts (pileB_zero hg hk)
  obtain rfl : M = M' := by omega
  obtain rfl : k = k' := by omega
  exact hP
set_option maxRecDepth 100000 in
set_option maxHeartbeats 1000000 in
theorem specIdp (N : Int) (A : Option Addr) (c : Nat) (es : List (Int × Int)) (q : Int) (w : World) (hn : es.length ≤ 1048576) (hE : EdgeS w w.heap.size A es) :
    Calls Try.prog 44 #[.agg #[.int .i64 N, .slice A es.length c], .int .i64 q] w (GivesIntsOk w (idX N es q) (fullOk N es q)) := by
  have HE := Lib.hid hE
  have G0 := GB.start w N A c es
  have HG := fun w h => Lib.hid (specGraphOk N A c es w (by omega) h)
  cases h1 : graphB N es with
  | false =>
    rw [h1] at HG
    have h0 : fullOk N es q = false := by rw [fullOk, h1]; rfl
    rw [idX_f h0, h0]
    clear h1 h0 hE
    go_enter Try.func44, Try.ntmps44
    go_wp2_with fail
    refine (HG _ (HE.out.up_ G0.old)).out.mono ?_
    rintro e w1 ⟨rfl, hb1⟩
    have G1 := Lib.hid (G0.next hb1)
    clear G0 hb1
    go_wp2
    go_ret2
    exact ⟨none, 0, rfl, OwnI.nil _ _ _, G1.out.old⟩
  | true =>
    rw [h1] at HG
    obtain ⟨hN1, hN6, hn12⟩ := edgesB_lims (graphB_all h1).1
    obtain ⟨M, rfl⟩ : ∃ M : Nat, N = (M : Int) := ⟨N.toNat, by omega⟩
    have HV := fun w => Lib.hid (l01In_any q 0 ((M : Int) - 1) w)
    rw [inB_vB] at HV
    cases h2 : vB q (M : Int) with
    | false =>
      rw [h2] at HV
      have h0 : fullOk (M : Int) es q = false := by rw [fullOk, h2]; simp
      rw [idX_f h0, h0]
      clear h1 h2 h0 hE
      go_enter Try.func44, Try.ntmps44
      go_wp2_with fail
      refine (HG _ (HE.out.up_ G0.old)).out.mono ?_
      rintro e w1 ⟨rfl, hb1⟩
      have G1 := Lib.hid (G0.next hb1)
      have c0 := G1.out.c0
      have c1 := G1.out.c1
      clear G0 hb1
      go_wp2_with fail
      refine (HV _).out.mono ?_
      rintro e w' ⟨rfl, rfl⟩
      have G2 := G1
      clear G1 c0 c1
      go_wp2
      go_ret2
      exact ⟨none, 0, rfl, OwnI.nil _ _ _, G2.out.old⟩
    | true =>
      rw [h2] at HV
      obtain ⟨hq0, hq1⟩ := vB_iff h2
      obtain ⟨k, rfl⟩ : ∃ u : Nat, q = (u : Int) := ⟨q.toNat, by omega⟩
      have h0 : fullOk (M : Int) es (k : Int) = true := by rw [fullOk, h1, h2]; rfl
      have hP := pileL_nil h1 (show k < M by omega)
      have hpb := pileB_zero h1 (show k < M by omega)
      rw [idX_t h0, h0]
      have hmk := make_ints M (by omega)
      have HZL := Lib.hid (show (List.replicate M (0 : Int)).length = M by simp)
      have HRL := Lib.hid (recC_len (M := M) (q := k) (es := es) (p := List.replicate M 0))
      have HC := fun (g cg : Nat) (W : World) h3 (h4 : IntS W W.heap.size (some ⟨g, 0, none⟩) (List.replicate M 0)) => Lib.hid (l11Class_any A (some ⟨g, 0, none⟩) c cg M k es (List.replicate M 0) W h1 hP.qm hP.m6 hP.n12 hP.ed hP.cut hP.len (fun u => by have := hP.lim u; omega) hP.zero h3 h4)
      clear h1 h2 h0 hP hpb hE
      go_enter Try.func44, Try.ntmps44
      go_wp2_with fail
      refine (HG _ (HE.out.up_ G0.old)).out.mono ?_
      rintro e w1 ⟨rfl, hb1⟩
      have G1 := Lib.hid (G0.next hb1)
      have c0 := G1.out.c0
      have c1 := G1.out.c1
      clear G0 hb1
      go_wp2_with fail
      refine (HV _).out.mono ?_
      rintro e w' ⟨rfl, rfl⟩
      have G2 := G1
      clear G1 c0 c1
      have c0 := G2.out.c0
      have c1 := G2.out.c1
      go_wp2_with fail
      have HZ := Blk.new w1.drew 3 (intCells (List.replicate M 0)).toArray
      have HZS := Lib.hid (IntS.of_blk (xs := List.replicate M 0) HZ HZ.lt)
      have HBZ := Lib.hid (show Below w.heap.size w (w1.drew.alloc (Obj.cells (intCells (List.replicate M 0)).toArray 3)) from G2.out.old.drew.alloc (show w.heap.size ≤ w1.drew.heap.size from G2.out.old.size) _)
      have HP0 := Lib.hid (show w1.drew.cell? ⟨w.heap.size, 0, none⟩ = some (.int .i64 (M : Int)) ∧ w1.drew.cell? ⟨w.heap.size, 1, none⟩ = some (.slice A es.length c) ∧ Below w.heap.size w w1.drew from ⟨c0, c1, G2.out.old.drew⟩)
      have HP1 := Lib.hid (keepG1 HP0.out ((Below.refl _ _).alloc (Nat.le_refl _) (Obj.cells (intCells (List.replicate M 0)).toArray 3)) (Nat.le_refl _))
      clear HZ G2
      go_region_held3 (fun w' => w'.cell? ⟨w.heap.size, 0, none⟩ = some (.int .i64 (M : Int)) ∧ w'.cell? ⟨w.heap.size, 1, none⟩ = some (.slice A es.length c) ∧ Below w.heap.size w w')
        (first
          | with_reducible exact HP0.out
          | with_reducible exact HP1.out
          | exact keepG1 HP1.out hb4 (Nat.le_refl _)
          | with_reducible exact keepG1 (by assumption) ((Below.refl _ _).alloc (Nat.le_refl _) _) (Nat.le_refl _))
        ((go_at_call 84; refine (HC _ _ _ (HE.out.up_ HBZ.out) HZS.out).out.mono ?_; rintro e w4 ⟨A4, c4, rfl, ho4, hb4⟩))
      have HB4 := Lib.hid (HBZ.out.trans (hb4.mono HBZ.out.size))
      have HO4 := Lib.hid (ho4.mono HBZ.out.size)
      clear hb4 ho4 HC hmk c0 c1 HP0 HP1
      go_wp2
      go_ret2
      exact ⟨A4, c4, by rw [HRL.out]; rfl, HO4.out, HB4.out⟩
set_option maxRecDepth 100000 in
set_option maxHeartbeats 1000000 in
theorem implIdp (N : Int) (A : Option Addr) (c : Nat) (es : List (Int × Int)) (q : Int) (w : World) (hn : es.length ≤ 1048576) (hE : EdgeS w w.heap.size A es) :
    Calls Try.prog 25 #[.agg #[.int .i64 N, .slice A es.length c], .int .i64 q] w (GivesIntsOk w (idX N es q) (fullOk N es q)) := by
  have HE := Lib.hid hE
  have G0 := GB.start w N A c es
  have HG := fun w h => Lib.hid (implGraphOk N A c es w (by omega) h)
  cases h1 : graphB N es with
  | false =>
    rw [h1] at HG
    have h0 : fullOk N es q = false := by rw [fullOk, h1]; rfl
    rw [idX_f h0, h0]
    clear h1 h0 hE
    go_enter Try.func25, Try.ntmps25
    go_wp2_with fail
    refine (HG _ (HE.out.up_ G0.old)).out.mono ?_
    rintro e w1 ⟨rfl, hb1⟩
    have G1 := Lib.hid (G0.next hb1)
    clear G0 hb1
    go_wp2
    go_ret2
    exact ⟨none, 0, rfl, OwnI.nil _ _ _, G1.out.old⟩
  | true =>
    rw [h1] at HG
    obtain ⟨hN1, hN6, hn12⟩ := edgesB_lims (graphB_all h1).1
    obtain ⟨M, rfl⟩ : ∃ M : Nat, N = (M : Int) := ⟨N.toNat, by omega⟩
    have HV := fun w => Lib.hid (hasVertex_any (M : Int) (.slice A es.length c) q w ⟨_, _, _, rfl⟩)
    cases h2 : vB q (M : Int) with
    | false =>
      rw [h2] at HV
      have h0 : fullOk (M : Int) es q = false := by rw [fullOk, h2]; simp
      rw [idX_f h0, h0]
      clear h1 h2 h0 hE
      go_enter Try.func25, Try.ntmps25
      go_wp2_with fail
      refine (HG _ (HE.out.up_ G0.old)).out.mono ?_
      rintro e w1 ⟨rfl, hb1⟩
      have G1 := Lib.hid (G0.next hb1)
      have c0 := G1.out.c0
      have c1 := G1.out.c1
      clear G0 hb1
      go_wp2_with fail
      refine (HV _).out.mono ?_
      rintro e w2 ⟨rfl, hb2⟩
      have G2 := Lib.hid (G1.out.next hb2)
      clear hb2 G1 c0 c1
      go_wp2
      go_ret2
      exact ⟨none, 0, rfl, OwnI.nil _ _ _, G2.out.old⟩
    | true =>
      rw [h2] at HV
      obtain ⟨hq0, hq1⟩ := vB_iff h2
      obtain ⟨k, rfl⟩ : ∃ u : Nat, q = (u : Int) := ⟨q.toNat, by omega⟩
      have h0 : fullOk (M : Int) es (k : Int) = true := by rw [fullOk, h1, h2]; rfl
      have hP := pileL_nil h1 (show k < M by omega)
      have hpb := pileB_zero h1 (show k < M by omega)
      rw [idX_t h0, h0]
      have hmk := make_ints M (by omega)
      have HZL := Lib.hid (show (List.replicate M (0 : Int)).length = M by simp)
      have HRL := Lib.hid (recC_len (M := M) (q := k) (es := es) (p := List.replicate M 0))
      have HC := fun (g cg : Nat) (W : World) h3 (h4 : IntS W W.heap.size (some ⟨g, 0, none⟩) (List.replicate M 0)) => Lib.hid (show Calls Try.prog 24 #[.agg #[.int .i64 (M : Int), .slice A es.length c], .slice (some ⟨g, 0, none⟩) M cg, .int .i64 (k : Int)] W (GivesIntsOk W (recC M k es (List.replicate M 0)) true) by
        have h := implRco (M : Int) A (some ⟨g, 0, none⟩) c cg es (List.replicate M 0) (k : Int) W hn (by simp; omega) h3 h4
        rw [rcoX_t hpb, hpb, HZL.out] at h
        exact h)
      clear h1 h2 h0 hP hpb hE
      go_enter Try.func25, Try.ntmps25
      go_wp2_with fail
      refine (HG _ (HE.out.up_ G0.old)).out.mono ?_
      rintro e w1 ⟨rfl, hb1⟩
      have G1 := Lib.hid (G0.next hb1)
      have c0 := G1.out.c0
      have c1 := G1.out.c1
      clear G0 hb1
      go_wp2_with fail
      refine (HV _).out.mono ?_
      rintro e w2 ⟨rfl, hb2⟩
      have G2 := Lib.hid (G1.out.next hb2)
      clear hb2 G1 c0 c1
      have c0 := G2.out.c0
      have c1 := G2.out.c1
      go_wp2_with fail
      have HZ := Blk.new w2.drew 3 (intCells (List.replicate M 0)).toArray
      have HZS := Lib.hid (IntS.of_blk (xs := List.replicate M 0) HZ HZ.lt)
      have HBZ := Lib.hid (show Below w.heap.size w (w2.drew.alloc (Obj.cells (intCells (List.replicate M 0)).toArray 3)) from G2.out.old.drew.alloc (show w.heap.size ≤ w2.drew.heap.size from G2.out.old.size) _)
      have HP0 := Lib.hid (show w2.drew.cell? ⟨w.heap.size, 0, none⟩ = some (.int .i64 (M : Int)) ∧ w2.drew.cell? ⟨w.heap.size, 1, none⟩ = some (.slice A es.length c) ∧ Below w.heap.size w w2.drew from ⟨c0, c1, G2.out.old.drew⟩)
      have HP1 := Lib.hid (keepG1 HP0.out ((Below.refl _ _).alloc (Nat.le_refl _) (Obj.cells (intCells (List.replicate M 0)).toArray 3)) (Nat.le_refl _))
      clear HZ G2
      go_region_held3 (fun w' => w'.cell? ⟨w.heap.size, 0, none⟩ = some (.int .i64 (M : Int)) ∧ w'.cell? ⟨w.heap.size, 1, none⟩ = some (.slice A es.length c) ∧ Below w.heap.size w w')
        (first
          | with_reducible exact HP0.out
          | with_reducible exact HP1.out
          | exact keepG1 HP1.out hb4 (Nat.le_refl _)
          | with_reducible exact keepG1 (by assumption) ((Below.refl _ _).alloc (Nat.le_refl _) _) (Nat.le_refl _))
        ((go_at_call 24; refine (HC _ _ _ (HE.out.up_ HBZ.out) HZS.out).out.mono ?_; rintro e w4 ⟨A4, c4, rfl, ho4, hb4⟩))
      have HB4 := Lib.hid (HBZ.out.trans (hb4.mono HBZ.out.size))
      have HO4 := Lib.hid (ho4.mono HBZ.out.size)
      clear hb4 ho4 HC hmk c0 c1 HP0 HP1
      rw [HRL.out]
      go_wp2
      go_ret2
      exact ⟨A4, c4, by rw [HRL.out]; rfl, HO4.out, HB4.out⟩
end Go.Proofs.Ytndncmjhpbjcoaa
