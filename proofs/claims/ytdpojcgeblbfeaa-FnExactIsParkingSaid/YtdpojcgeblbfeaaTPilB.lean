/- Sandpiles: one toppling: the specification's side. -/
import Derived.Test.YtdpojcgeblbfeaaTPilA
import Derived.Test.YtdpojcgeblbfeaaTBJ
import Derived.Test.YtdpojcgeblbfeaaTBM
set_option linter.all false
namespace Go.Proofs.Ytdpojcgeblbfeaa
open Go.RowKit

def topL (M : Nat) (es : List (Int × Int)) (P : List Int) (q v : Nat) : List Int := (firedB M es P ((List.replicate M 0).set v 1)).set q 0
theorem topL_len (M : Nat) (es : List (Int × Int)) (P : List Int) (q v : Nat) : (topL M es P q v).length = M := by simp [topL, firedB_len]
theorem nets_cap (v u : Nat) : ∀ es : List (Int × Int), nets (v : Int) u es ≤ es.length
  | [] => by simp [nets]
  | e :: l => by
    have ih := nets_cap v u l
    have : net (v : Int) u e ≤ 1 := by
      unfold net ind
      repeat' split
      all_goals omega
    rw [nets, List.length_cons]
    omega
theorem topL_eq {M q v : Nat} {es : List (Int × Int)} {p : List Int} {n : Nat → Int} (h : PileL M q es p) (ht : Tops M es p q n) (hv : v < M) : topL M es (pileL M es p q n) q v = pileL M es p q (addAt n v 1) := by
  have hb := ht.chips h
  refine List.ext_getElem (by rw [topL_len, pileL_len]) fun u h1 h2 => ?_
  have hu : u < M := by rw [topL_len] at h1; exact h1
  have e2 : (pileL M es p q (addAt n v 1))[u] = (pileL M es p q (addAt n v 1)).getD u 0 := by simp [List.getD, h2]
  rw [e2, ← pileL_top h.ed hu]
  simp only [topL, List.getElem_set]
  by_cases e : q = u
  · rw [if_pos e, if_pos e.symm]
  · rw [if_neg e, if_neg (fun x => e x.symm)]
    simp only [firedB, chipsOf, List.getElem_map, List.getElem_range]
    have ht1 : terms ((List.replicate M (0 : Int)).set v 1) u es = nets (v : Int) u es := by
      rw [terms_F, termsF_congr (g := addAt (fun _ => 0) v 1) u es fun x hx => ?_, termsF_addAt _ _ _ _ es fun x hx => ⟨(h.ed x hx).1, (h.ed x hx).2.1⟩, termsF_zero fun _ => rfl]
      · omega
      · have key : ∀ i : Nat, ((List.replicate M (0 : Int)).set v 1).getD i 0 = addAt (fun _ => 0) v 1 i := fun i => by
          unfold addAt
          rw [List.getD, List.getElem?_set]
          by_cases k : v = i
          · subst k
            simp [hv]
          · rw [if_neg k, if_neg (fun x => k x.symm), List.getElem?_replicate]
            split <;> rfl
        exact ⟨key _, key _⟩
    rw [ht1, pileL_get hu, if_neg (fun x => e x.symm)]
    have h3 : -(12 : Int) ≤ nets (v : Int) u es ∧ nets (v : Int) u es ≤ 100000 := by
      have h12 := h.n12
      have k1 := nets_self v es fun x hx => (h.ed x hx).2.1
      by_cases k : u = v
      · subst k; omega
      · have k2 := nets_other v u k es
        have k3 := nets_cap v u es
        omega
    have h4 := hb u
    exact wrap64_of (by omega) (by omega)
def GivesM (w : World) (M : Nat) (zs : List Int) (e : Ending) (w' : World) : Prop := ∃ (A : Option Addr) (c : Nat), e = .returned (.slice A M c) ∧ OwnI w' w.heap.size A zs ∧ Below w.heap.size w w'
set_option maxRecDepth 100000 in
set_option maxHeartbeats 2000000 in
theorem l10Topple_any (A D : Option Addr) (c cd M q v : Nat) (es : List (Int × Int)) (P : List Int) (w : World) (hM0 : 0 < M) (hM6 : M ≤ 6) (hn : es.length ≤ 12) (hes : ∀ e ∈ es, 0 ≤ e.1 ∧ e.1 < e.2 ∧ e.2 < (M : Int)) (hl : P.length = M) (hP : ∀ u, -100000 ≤ P.getD u 0 ∧ P.getD u 0 ≤ 100000) (hq : q < M) (hv : v < M)
    (hE : EdgeS w w.heap.size A es) (hS : IntS w w.heap.size D P) :
    Calls Try.prog 193 #[.agg #[.int .i64 (M : Int), .slice A es.length c], .slice D M cd, .int .i64 (q : Int), .int .i64 (v : Int)] w (GivesM w M (topL M es P q v)) := by
  have HE := Lib.hid hE
  have HS := Lib.hid hS
  have G0 := GB.start w (M : Int) A c es
  have hmk := make_ints M (by omega)
  have HF := Lib.hid (fun (S : Option Addr) (cs : Nat) (W : World) h1 h2 h3 => l04Fire_any (M : Int) M A D S c cd cs es P ((List.replicate M 0).set v 1) W hM0 hM6 hn hl (by simp) (fun x hx => by
    obtain ⟨u, hu, rfl⟩ := List.mem_iff_getElem.1 hx
    have := hP u
    simp only [List.getD, List.getElem?_eq_getElem hu, Option.getD_some] at this
    omega) hes h1 h2 h3)
  have hfl := firedB_len M es P ((List.replicate M 0).set v 1)
  rw [hl, show ((List.replicate M (0 : Int)).set v 1).length = M by simp] at HF
  obtain ⟨Z, hZ⟩ : ∃ x, x = firedB M es P ((List.replicate M 0).set v 1) := ⟨_, rfl⟩
  unfold topL
  rw [← hZ] at HF hfl ⊢
  have hv0 : (0 : Int) ≤ (v : Int) := Int.natCast_nonneg _
  have hv1 : (v : Int) < (M : Int) := by omega
  have hq0 : (0 : Int) ≤ (q : Int) := Int.natCast_nonneg _
  have hq1 : (q : Int) < (M : Int) := by omega
  have HFL := Lib.hid hfl
  have hqz : (q : Int) < (Z.length : Int) := by omega
  have HSZ := Lib.hid (show (w.alloc (Obj.cells #[.int .i64 (M : Int), .slice A es.length c] 25)).heap.size = w.heap.size + 1 by simp)
  have HW1 := Lib.hid (show GB w ((w.alloc (Obj.cells #[.int .i64 (M : Int), .slice A es.length c] 25)).alloc (Obj.cells ((intCells (List.replicate M 0)).set v (.int .i64 1)).toArray 3)) (M : Int) A c es from G0.next ((Below.refl _ _).alloc (Nat.le_refl _) _))
  have HC1 := Lib.hid (show Blk ((w.alloc (Obj.cells #[.int .i64 (M : Int), .slice A es.length c] 25)).alloc (Obj.cells ((intCells (List.replicate M 0)).set v (.int .i64 1)).toArray 3)) (w.heap.size + 1) 3 (intCells ((List.replicate M 0).set v 1)).toArray from by
    have e1 : (intCells (List.replicate M 0)).set v (.int .i64 1) = intCells ((List.replicate M 0).set v 1) := by simp [intCells, List.map_set]
    have h := Blk.new (w.alloc (Obj.cells #[.int .i64 (M : Int), .slice A es.length c] 25)) 3 (intCells ((List.replicate M 0).set v 1)).toArray
    rw [HSZ.out] at h
    rw [e1]
    exact h)
  have hcv1 : ((w.alloc (Obj.cells #[.int .i64 (M : Int), .slice A es.length c] 25)).alloc (Obj.cells (intCells (List.replicate M 0)).toArray 3)).cell? ⟨w.heap.size + 1, v, none⟩ = some (.int .i64 0) := by
    have h := (Blk.new (w.alloc (Obj.cells #[.int .i64 (M : Int), .slice A es.length c] 25)) 3 (intCells (List.replicate M 0)).toArray).cell v
    rw [HSZ.out] at h
    rw [h]
    simp [intCells, hv]
  have hcv2 : ((w.alloc (Obj.cells #[.int .i64 (M : Int), .slice A es.length c] 25)).alloc (Obj.cells (intCells (List.replicate M 0)).toArray 3)).frozen? ⟨w.heap.size + 1, v, none⟩ = false := by
    have h := (Blk.new (w.alloc (Obj.cells #[.int .i64 (M : Int), .slice A es.length c] 25)) 3 (intCells (List.replicate M 0)).toArray).frozen v
    rw [HSZ.out] at h
    exact h
  clear hE hS hZ hfl hP hes hl
  go_enter Try.func193, Try.ntmps193
  go_wp2_with fail
  refine (HF.out _ _ _ (HE.out.up_ HW1.out.old) (HS.out.up_ HW1.out.old) (OwnI.of_blk HC1.out (Nat.zero_le _)).ints).mono ?_
  rintro e w2 ⟨A2, c2, rfl, ho, hb2⟩
  obtain ⟨g, o, rfl, hg1, hg2, hcl⟩ := ho (by rw [HFL.out]; exact hM0)
  obtain ⟨z, hz⟩ : ∃ z, Z[q]? = some z := ⟨_, List.getElem?_eq_getElem (by rw [HFL.out]; exact hq)⟩
  obtain ⟨k1, k2⟩ := hcl q z hz
  have G2 := Lib.hid (HW1.out.next hb2)
  have hgw : w.heap.size < g := Nat.lt_of_lt_of_le HW1.out.lt hg1
  have HST := Lib.hid (OwnI.store (x := 0) (OwnI.mono ho (Nat.le_trans HW1.out.old.size (Nat.le_refl _))) (q := q) (by rw [HFL.out]; exact hq))
  have HBB := Lib.hid (G2.out.old.setCell (p := ⟨g, o + q, none⟩) (by simp only; omega) (.int .i64 0))
  clear ho hcl hz hb2 hcv1 hcv2
  go_wp2
  go_ret
  exact ⟨some ⟨g, o, none⟩, c2, by rw [HFL.out]; rfl, HST.out, HBB.out⟩
end Go.Proofs.Ytdpojcgeblbfeaa
