/- Sandpiles: the program's IsStable, FullPile. -/
import Derived.Test.YtdpojcgeblbfeaaWPilY
import Derived.OwnWalk
import Derived.Test.YtdpojcgeblbfeaaWPilA
import Derived.Test.YtdpojcgeblbfeaaWBJ
import Derived.Test.YtdpojcgeblbfeaaWBM
import Derived.Test.YtdpojcgeblbfeaaWBE
import Derived.Test.YtdpojcgeblbfeaaWBI
import Derived.Test.YtdpojcgeblbfeaaWBA
import Derived.Test.YtdpojcgeblbfeaaWAnyH
import Derived.Test.YtdpojcgeblbfeaaWPilH
import Derived.Test.YtdpojcgeblbfeaaWVal
set_option linter.all false
namespace Go.Proofs.Ytdpojcgeblbfeaa
open Go.RowKit

theorem wf_small {n : Int} (h0 : 0 ≤ n) (h1 : n ≤ 6) : (Lit.int .i64 n).wf = true := by
  obtain rfl | rfl | rfl | rfl | rfl | rfl | rfl : n = 0 ∨ n = 1 ∨ n = 2 ∨ n = 3 ∨ n = 4 ∨ n = 5 ∨ n = 6 := by omega
  all_goals decide +kernel
theorem partI_zero {xs : List Int} {k : Nat} (h : xs[k]? = some 0) : partI xs (k + 1) = partI xs k := by
  rw [← partI_set xs k 0 h]
  apply List.ext_getElem?
  intro i
  rw [List.getElem?_set]
  split
  · rename_i e
    subst e
    have hk := (List.getElem?_eq_some_iff.1 h).1
    rw [partI_at xs k hk]
    split
    · rfl
    · rename_i h2
      exfalso
      apply h2
      simp [partI]
      omega
  · rfl
theorem fullTo_at {es : List (Int × Int)} {q M k : Nat} (h : k < M) : (fullTo es q M)[k]? = some (if k = q then 0 else valP es k - 1) := by simp [fullTo, h]
theorem partI_len0' (xs : List Int) : partI xs 0 = List.replicate xs.length 0 := by simp [partI]
set_option maxRecDepth 100000 in
set_option maxHeartbeats 2000000 in
theorem implFull (N : Int) (A : Option Addr) (c : Nat) (es : List (Int × Int)) (q : Int) (w : World) (hn : es.length ≤ 1048576) (hE : EdgeS w w.heap.size A es) :
    Calls Try.prog 107 #[.agg #[.int .i64 N, .slice A es.length c], .int .i64 q] w (GivesInts w (fullC N es q)) := by
  have HE := Lib.hid hE
  have G0 := GB.start w N A c es
  have HG := fun w h => Lib.hid (implGraphOk N A c es w (by omega) h)
  cases h1 : graphB N es with
  | false =>
    rw [h1] at HG
    have h0 : fullOk N es q = false := by rw [fullOk, h1]; rfl
    rw [fullC_f h0]
    clear h1 h0 hE
    go_enter Try.func107, Try.ntmps107
    go_wp2_with fail
    refine (HG _ (HE.out.up_ G0.old)).out.mono ?_
    rintro e w1 ⟨rfl, hb1⟩
    have G1 := Lib.hid (G0.next hb1)
    clear G0 hb1
    go_wp2
    go_ret
    exact ⟨none, 0, rfl, OwnI.nil _ _ _, G1.out.old⟩
  | true =>
    rw [h1] at HG
    obtain ⟨hN1, hN6, hn12⟩ := edgesB_lims (graphB_all h1).1
    obtain ⟨M, rfl⟩ : ∃ M : Nat, N = (M : Int) := ⟨N.toNat, by omega⟩
    have HV := fun w => Lib.hid (hasVertex_any (M : Int) (.slice A es.length c) q w ⟨_, _, _, rfl⟩)
    cases h2 : vB q (M : Int) with
    | false =>
      rw [h2] at HV
      have h0 : fullOk (M : Int) es q = false := by rw [fullOk, h2]; simp
      rw [fullC_f h0]
      clear h1 h2 h0 hE
      go_enter Try.func107, Try.ntmps107
      go_wp2_with fail
      refine (HG _ (HE.out.up_ G0.old)).out.mono ?_
      rintro e w1 ⟨rfl, hb1⟩
      have G1 := Lib.hid (G0.next hb1)
      have c0 := G1.out.c0
      have c1 := G1.out.c1
      clear G0 hb1
      go_wp2_with fail
      refine (HV _).out.mono ?_
      rintro e w2 ⟨rfl, hb2⟩
      have G2 := Lib.hid (G1.out.next hb2)
      clear hb2 G1 c0 c1
      go_wp2
      go_ret
      exact ⟨none, 0, rfl, OwnI.nil _ _ _, G2.out.old⟩
    | true =>
      rw [h2] at HV
      obtain ⟨hq0, hq1⟩ := vB_iff h2
      obtain ⟨k, rfl⟩ : ∃ u : Nat, q = (u : Int) := ⟨q.toNat, by omega⟩
      have h0 : fullOk (M : Int) es (k : Int) = true := by rw [fullOk, h1, h2]; rfl
      rw [fullC_t h0]
      have hes : ∀ e ∈ es, 0 ≤ e.1 ∧ e.1 < e.2 ∧ e.2 < (M : Int) := fun e he => all_edge (graphB_all h1).1 he
      have HVL := Lib.hid (show ∀ (v : Nat) (W : World), v < M → EdgeS W W.heap.size A es → Calls Try.prog 161 #[.agg #[.int .i64 (M : Int), .slice A es.length c], .int .i64 (v : Int)] W fun e w' => e = .returned (.int .i64 (valP es v)) ∧ Below W.heap.size W w' from fun v W hv h => by
        have k := implVal_yes (M : Int) A c es (v : Int) W (by omega) (fun e he => by have := hes e he; exact ⟨wf_small (by omega) (by omega), wf_small (by omega) (by omega)⟩) (vB_t (by omega)) h
        rw [val_P v es fun e he => (hes e he).2.1] at k
        exact k)
      have HLM := Lib.hid (show ∀ v, 0 ≤ valP es v ∧ valP es v ≤ 12 from fun v => by have := valP_lim v es fun e he => (hes e he).2.1; omega)
      have hmk := make_ints M (by omega)
      obtain ⟨X, hX⟩ : ∃ X, X = fullTo es k M := ⟨_, rfl⟩
      have HXL := Lib.hid (show X.length = M by rw [hX]; exact fullTo_len es k M)
      have HXA := Lib.hid (show ∀ j, j < M → X[j]? = some (if j = k then 0 else valP es j - 1) from fun j hj => by rw [hX]; exact fullTo_at hj)
      rw [← hX]
      have hM6 : M ≤ 6 := by omega
      have hM0 : 0 < M := by omega
      clear h1 h2 h0 hE hes hn hN1 hN6 hn12 hX
      go_enter Try.func107, Try.ntmps107
      go_wp2_with fail
      refine (HG _ (HE.out.up_ G0.old)).out.mono ?_
      rintro e w1 ⟨rfl, hb1⟩
      have G1 := Lib.hid (G0.next hb1)
      have c0 := G1.out.c0
      have c1 := G1.out.c1
      clear G0 hb1
      go_wp2_with fail
      refine (HV _).out.mono ?_
      rintro e w2 ⟨rfl, hb2⟩
      have G2 := Lib.hid (G1.out.next hb2)
      have c0 := G2.out.c0
      have c1 := G2.out.c1
      have hgw := G2.out.lt
      clear G1 hb2
      go_wp2
      go_loopw [21] (fun i wr => ∃ j : Nat, j ≤ M ∧ i = .int .i64 j ∧ Blk wr w2.heap.size 3 (intCells (partI X j)).toArray ∧ GB w wr (M : Int) A c es) (fun i _ => M - (intOf i).toNat)
      case atStart =>
        refine ⟨0, Nat.zero_le _, rfl, ?_, G2.out.next ((Below.refl _ _).alloc (Nat.le_refl _) _)⟩
        rw [partI_len0', HXL.out]
        exact Blk.new w2 _ _
      case round =>
        clear c0 c1 hmk
        obtain ⟨j, hj, rfl, hblk, hg⟩ := hrel
        have HB := Lib.hid hblk
        have G3 := Lib.hid hg
        have c0 := G3.out.c0
        have c1 := G3.out.c1
        clear hblk hg
        have hj0 : (0 : Int) ≤ (j : Int) := Int.natCast_nonneg _
        by_cases hlt : j < M
        · have hj1 : (j : Int) < (M : Int) := by omega
          have hxa := HXA.out j hlt
          by_cases hjk : j = k
          · have t1 : ((j : Int) != (k : Int)) = false := by simp [hjk]
            rw [if_pos hjk] at hxa
            have HB2 := Lib.hid (show Blk wr w2.heap.size 3 (intCells (partI X (j + 1))).toArray by rw [partI_zero hxa]; exact HB.out)
            clear hxa hjk
            go_wp2
            exact ⟨⟨j + 1, by omega, by go_num, HB2.out, G3.out⟩, by simp [intOf]; omega⟩
          · have t1 : ((j : Int) != (k : Int)) = true := by simp; omega
            rw [if_neg hjk] at hxa
            have hvl := HLM.out j
            have HV2 := HVL.out j wr hlt (HE.out.up_ G3.out.old)
            obtain ⟨vl, hvv⟩ : ∃ z, z = valP es j := ⟨_, rfl⟩
            rw [← hvv] at hxa HV2 hvl
            have hwl : IntKind.i64.wrap (vl - 1) = vl - 1 := by rw [IntKind.wrap_i64]; omega
            have HXJ := Lib.hid hxa
            clear hxa hjk hvv
            go_wp2_with fail
            refine HV2.mono ?_
            rintro e w4 ⟨rfl, hb4⟩
            have G4 := Lib.hid (G3.out.next hb4)
            have HB4 := Lib.hid (show Blk w4 w2.heap.size 3 (intCells (partI X j)).toArray from (hb4.block _ HB.out.lt).trans HB.out)
            clear hb4 HV2 HB c0 c1
            have hf0 := HB4.out.frozen j
            have hcl0 : w4.cell? ⟨w2.heap.size, j, none⟩ = some (.int .i64 0) := by rw [HB4.out.cell]; simp [intCells, partI_at X j (by rw [HXL.out]; exact hlt)]
            go_wp2
            refine ⟨⟨j + 1, by omega, by go_num, blk_partI HB4.out HXJ.out, ?_⟩, by simp [intOf]; omega⟩
            have k1 := G4.out
            exact ⟨k1.box.far (by simp; omega) _, k1.old.setCell (show w.heap.size ≤ w2.heap.size from Nat.le_of_lt hgw) _⟩
        · have HB2 := HB.out
          rw [show j = X.length by rw [HXL.out]; omega, partI_all] at HB2
          have HF := Lib.hid (OwnI.of_blk (base := w.heap.size) HB2 (by omega))
          clear HB2
          go_wp2
          go_ret
          exact ⟨some ⟨w2.heap.size, 0, none⟩, M, by rw [HXL.out]; rfl, HF.out, G3.out.old⟩
end Go.Proofs.Ytdpojcgeblbfeaa
