/- Sandpiles: FullPile: the specification's side. -/
import Derived.Test.YtdpojcgeblbfeaaUPilA
import Derived.Test.YtdpojcgeblbfeaaUBJ
import Derived.Test.YtdpojcgeblbfeaaUBM
import Derived.Test.YtdpojcgeblbfeaaUBE
import Derived.Test.YtdpojcgeblbfeaaUBI
set_option linter.all false
namespace Go.Proofs.Ytdpojcgeblbfeaa
open Go.RowKit

def fullTo (es : List (Int × Int)) (q j : Nat) : List Int := (List.range j).map fun u => if u = q then 0 else valP es u - 1
theorem fullTo_len (es : List (Int × Int)) (q j : Nat) : (fullTo es q j).length = j := by simp [fullTo]
theorem fullTo_succ (es : List (Int × Int)) (q j : Nat) : fullTo es q (j + 1) = fullTo es q j ++ [if j = q then 0 else valP es j - 1] := by simp [fullTo, List.range_succ]
noncomputable def fullOk (N : Int) (es : List (Int × Int)) (q : Int) : Bool := graphB N es && vB q N
noncomputable def fullC (N : Int) (es : List (Int × Int)) (q : Int) : List Int := if fullOk N es q = true then fullTo es q.toNat N.toNat else []
theorem fullC_f {N : Int} {es : List (Int × Int)} {q : Int} (h : fullOk N es q = false) : fullC N es q = [] := by rw [fullC, if_neg (by rw [h]; decide)]
theorem fullC_t {M k : Nat} {es : List (Int × Int)} (h : fullOk (M : Int) es (k : Int) = true) : fullC (M : Int) es (k : Int) = fullTo es k M := by rw [fullC, if_pos h]; rfl
set_option maxRecDepth 100000 in
set_option maxHeartbeats 2000000 in
theorem specFull (N : Int) (A : Option Addr) (c : Nat) (es : List (Int × Int)) (q : Int) (w : World) (hn : es.length ≤ 1048576) (hE : EdgeS w w.heap.size A es) :
    Calls Try.prog 103 #[.agg #[.int .i64 N, .slice A es.length c], .int .i64 q] w (GivesInts w (fullC N es q)) := by
  obtain ⟨i0, hi, hz0, hz1, hz2⟩ := info_parts intInfo
  have HE := Lib.hid hE
  have G0 := GB.start w N A c es
  have HG := fun w h => Lib.hid (specGraphOk N A c es w (by omega) h)
  cases h1 : graphB N es with
  | false =>
    rw [h1] at HG
    have h0 : fullOk N es q = false := by rw [fullOk, h1]; rfl
    rw [fullC_f h0]
    clear h1 h0 hE
    go_enter Try.func103, Try.ntmps103
    go_wp2_with fail
    refine (HG _ (HE.out.up_ G0.old)).out.mono ?_
    rintro e w1 ⟨rfl, hb1⟩
    have G1 := Lib.hid (G0.next hb1)
    clear G0 hb1
    go_wp2
    go_ret
    exact ⟨none, 0, rfl, OwnI.nil _ _ _, G1.out.old⟩
  | true =>
    rw [h1] at HG
    obtain ⟨hN1, hN6, hn12⟩ := edgesB_lims (graphB_all h1).1
    obtain ⟨M, rfl⟩ : ∃ M : Nat, N = (M : Int) := ⟨N.toNat, by omega⟩
    have HV := fun w => Lib.hid (l01In_any q 0 ((M : Int) - 1) w)
    rw [inB_vB] at HV
    cases h2 : vB q (M : Int) with
    | false =>
      rw [h2] at HV
      have h0 : fullOk (M : Int) es q = false := by rw [fullOk, h2]; simp
      rw [fullC_f h0]
      clear h1 h2 h0 hE
      go_enter Try.func103, Try.ntmps103
      go_wp2_with fail
      refine (HG _ (HE.out.up_ G0.old)).out.mono ?_
      rintro e w1 ⟨rfl, hb1⟩
      have G1 := Lib.hid (G0.next hb1)
      have c0 := G1.out.c0
      have c1 := G1.out.c1
      clear G0 hb1
      go_wp2_with fail
      refine (HV _).out.mono ?_
      rintro e w' ⟨rfl, rfl⟩
      go_wp2
      go_ret
      exact ⟨none, 0, rfl, OwnI.nil _ _ _, G1.out.old⟩
    | true =>
      rw [h2] at HV
      obtain ⟨hq0, hq1⟩ := vB_iff h2
      obtain ⟨k, rfl⟩ : ∃ u : Nat, q = (u : Int) := ⟨q.toNat, by omega⟩
      have h0 : fullOk (M : Int) es (k : Int) = true := by rw [fullOk, h1, h2]; rfl
      rw [fullC_t h0]
      have hes : ∀ e ∈ es, 0 ≤ e.1 ∧ e.1 < e.2 ∧ e.2 < (M : Int) := fun e he => all_edge (graphB_all h1).1 he
      have HVL := Lib.hid (show ∀ (v : Nat) (W : World), v < M → EdgeS W W.heap.size A es → Calls Try.prog 123 #[.agg #[.int .i64 (M : Int), .slice A es.length c], .int .i64 (v : Int)] W fun e w' => e = .returned (.int .i64 (valP es v)) ∧ Below W.heap.size W w' from fun v W hv h => by
        have k := specVal_yes (M : Int) A c es (v : Int) W (by omega) (vB_t (by omega)) h
        rw [val_P v es fun e he => (hes e he).2.1] at k
        exact k)
      have HLM := Lib.hid (show ∀ v, 0 ≤ valP es v ∧ valP es v ≤ 12 from fun v => by have := valP_lim v es fun e he => (hes e he).2.1; omega)
      have hM6 : M ≤ 6 := by omega
      have hM0 : 0 < M := by omega
      clear h1 h2 h0 hE hes hn hN1 hN6 hn12
      go_enter Try.func103, Try.ntmps103
      go_wp2_with fail
      refine (HG _ (HE.out.up_ G0.old)).out.mono ?_
      rintro e w1 ⟨rfl, hb1⟩
      have G1 := Lib.hid (G0.next hb1)
      have c0 := G1.out.c0
      have c1 := G1.out.c1
      clear G0 hb1
      go_wp2_with fail
      refine (HV _).out.mono ?_
      rintro e w' ⟨rfl, rfl⟩
      have HO0 := Lib.hid (own_emptyF w1 w1.heap.size (Nat.le_refl _) 3)
      have GE := Lib.hid (G1.out.next (show Below w1.heap.size w1 (w1.alloc (Obj.cells #[] 3)) from (Below.refl _ _).alloc (Nat.le_refl _) _))
      have hgw := G1.out.lt
      go_wp2
      go_loopw [5, 6] (fun s i wr => ∃ j : Nat, j ≤ M ∧ i = .int .i64 j ∧ w1.heap.size ≤ wr.heap.size ∧ GB w wr (M : Int) A c es ∧ wr.ownsRow w1.heap.size 3 1 s (fullTo es k j).length (intCells (fullTo es k j))) (fun _ i _ => M - (intOf i).toNat)
      case atStart => exact ⟨0, Nat.zero_le _, rfl, by simp, GE.out, HO0.out⟩
      case round =>
        clear GE HO0 G1
        obtain ⟨j, hj, rfl, hww, hg, ho⟩ := hrel
        have G2 := Lib.hid hg
        have HO := Lib.hid ho
        have c0 := G2.out.c0
        have c1 := G2.out.c1
        have hjl := fullTo_len es k j
        have HJL := Lib.hid hjl
        clear hg ho
        have hj0 : (0 : Int) ≤ (j : Int) := Int.natCast_nonneg _
        have hsz := G2.out.lt
        by_cases hlt : j < M
        · have hj1 : (j : Int) < (M : Int) := by omega
          have HSC := fullTo_succ es k j
          by_cases hjk : j = k
          · have t1 : ((j : Int) == (k : Int)) = true := by simp [hjk]
            rw [if_pos hjk] at HSC
            have HSU := Lib.hid HSC
            clear HSC hjk hjl
            go_wp2_with (at_builtin; refine wpList_append_own _ rfl _ _ 28 rfl w1.heap.size 3 i0 (.int .i64 0) 1 8 Try.underlying28 hi hz0 hz1 hz2 rfl (by decide) _ _ _ rfl (HO.out.alloc _) ⟨wr.heap.size, 0, none⟩ 1 1 [.int .i64 0] rfl rfl ?c1 ?c2 ?c3 ?c4 ?c5 ?_)
            case c1 => exact one_cellI _ _ (by simp) _ _
            case c2 => simp [Value.oneCell']
            case c3 => have := HJL.out; unfold maxLen; omega
            case c4 => have := HJL.out; omega
            case c5 => simp; omega
            intro v' w5 hown hgrow _
            have hal : Below wr.heap.size wr (wr.alloc (Obj.cells #[.int .i64 0] 3)) := (Below.refl _ _).alloc (Nat.le_refl _) _
            have GA := G2.out.next hal
            have hlow : ∀ g, u5.ownBlock = some g → w1.heap.size ≤ g := fun g hg => (HO.out.lt g hg).1
            have G6 := Lib.hid (show GB w w5 (M : Int) A c es from ⟨GA.box.grown hgrow (fun h => by have := hlow _ h; omega), GA.old.grown hgrow GA.old.size (fun q hq => by have := hlow q hq; omega)⟩)
            have hs6 := hgrow.size
            have hs7 : w1.heap.size ≤ w5.heap.size := by simp at hs6; omega
            have HO6 := Lib.hid hown
            clear hown hgrow hal GA hlow hs6
            go_wp2
            refine ⟨⟨j + 1, by omega, by go_num, hs7, G6.out, ?_⟩, by simp [intOf]; omega⟩
            have h3 := HO6.out
            rw [HSU.out]
            simpa [intCells] using h3
          · have t1 : ((j : Int) == (k : Int)) = false := by simp; omega
            rw [if_neg hjk] at HSC
            have HSU := Lib.hid HSC
            have hvl := HLM.out j
            have HV2 := HVL.out j wr hlt (HE.out.up_ G2.out.old)
            obtain ⟨vl, hvv⟩ : ∃ z, z = valP es j := ⟨_, rfl⟩
            rw [← hvv] at HSU HV2 hvl
            have hwl : IntKind.i64.wrap (vl - 1) = vl - 1 := by rw [IntKind.wrap_i64]; omega
            clear HSC hjk hjl hvv
            go_wp2_with fail
            refine HV2.mono ?_
            rintro e w3 ⟨rfl, hb3⟩
            have G3 := Lib.hid (G2.out.next hb3)
            have HO3 := Lib.hid (HO.out.kept (row := none) ⟨hb3.os, hb3.tape, hb3.output, hb3.size, fun i hi _ => hb3.block i hi⟩ (Classical.em _))
            have hs3 := hb3.size
            clear hb3 HV2 HO c0 c1
            have HO := HO3
            go_wp2_with (at_builtin; refine wpList_append_own _ rfl _ _ 28 rfl w1.heap.size 3 i0 (.int .i64 0) 1 8 Try.underlying28 hi hz0 hz1 hz2 rfl (by decide) _ _ _ rfl (HO.out.alloc _) ⟨w3.heap.size, 0, none⟩ 1 1 [.int .i64 (vl - 1)] rfl rfl ?c1 ?c2 ?c3 ?c4 ?c5 ?_)
            case c1 => exact one_cellI _ _ (by simp) _ _
            case c2 => simp [Value.oneCell']
            case c3 => have := HJL.out; unfold maxLen; omega
            case c4 => have := HJL.out; omega
            case c5 => simp; omega
            intro v' w5 hown hgrow _
            have hal : Below w3.heap.size w3 (w3.alloc (Obj.cells #[.int .i64 (vl - 1)] 3)) := (Below.refl _ _).alloc (Nat.le_refl _) _
            have GA := G3.out.next hal
            have hlow : ∀ g, u5.ownBlock = some g → w1.heap.size ≤ g := fun g hg => (HO.out.lt g hg).1
            have G6 := Lib.hid (show GB w w5 (M : Int) A c es from ⟨GA.box.grown hgrow (fun h => by have := hlow _ h; omega), GA.old.grown hgrow GA.old.size (fun q hq => by have := hlow q hq; omega)⟩)
            have hs6 := hgrow.size
            have hs7 : w1.heap.size ≤ w5.heap.size := by simp at hs6; omega
            have HO6 := Lib.hid hown
            clear hown hgrow hal GA hlow hs6
            go_wp2
            refine ⟨⟨j + 1, by omega, by go_num, hs7, G6.out, ?_⟩, by simp [intOf]; omega⟩
            have h3 := HO6.out
            rw [HSU.out]
            simpa [intCells] using h3
        · have hjM : j = M := by omega
          have hO := HO.out
          rw [hjM] at hO
          obtain ⟨Ar, cr, hv, -⟩ := own_slice hO
          subst hv
          have HFF := Lib.hid (OwnI.of_own (show wr.ownsRow w1.heap.size 3 1 (.slice Ar (fullTo es k M).length cr) (fullTo es k M).length (intCells (fullTo es k M)) from hO))
          clear hO
          go_wp2
          go_ret
          exact ⟨Ar, cr, rfl, HFF.out.mono (by omega), G2.out.old⟩
end Go.Proofs.Ytdpojcgeblbfeaa
