/- The critical group: the program's DifferenceClass. -/
import Derived.Test.YtmehdngibbilaaaLGrpXe
import Derived.Test.YtmehdngibbilaaaLRepI
namespace Go.Proofs.Ytmehdngibbilaaa
open Go.RowKit

theorem diff_div {m : Nat} {es : List (Int × Int)} (hg : graphB ((m + 1 : Nat) : Int) es = true) (v z : Nat) : divB 60 ((m + 1 : Nat) : Int) es (diffL (m + 1) v z) = true ∧ burnOk ((m + 1 : Nat) : Int) es (diffL (m + 1) v z) 0 = true := by
  have h : divB 60 ((m + 1 : Nat) : Int) es (diffL (m + 1) v z) = true := by
    rw [divB_a hg (by rw [diffL_len]), List.all_eq_true]
    intro x hx
    obtain ⟨u, hu, rfl⟩ := List.mem_iff_getElem.1 hx
    have h1 := diffL_lim (m + 1) v z u
    have h2 : gt (diffL (m + 1) v z) u = (diffL (m + 1) v z)[u] := by simp [gt, List.getD, hu]
    exact within_t (by omega)
  refine ⟨h, ?_⟩
  unfold burnOk
  rw [h, vB_t (by omega)]
  rfl
set_option maxRecDepth 100000 in
set_option maxHeartbeats 4000000 in
theorem implDiffC (N : Int) (A : Option Addr) (c : Nat) (es : List (Int × Int)) (x y : Int) (w : World) (hn : es.length ≤ 1048576) (hE : EdgeS w w.heap.size A es) :
    Calls Try.prog 33 #[.agg #[.int .i64 N, .slice A es.length c], .int .i64 x, .int .i64 y] w (GivesIntsOk w (diffC N es x y) (diffOk N es x y)) := by
  have HE := Lib.hid hE
  have G0 := GB.start w N A c es
  have HG := fun w h => Lib.hid (implGraphOk N A c es w (by omega) h)
  cases h1 : graphB N es with
  | false =>
    rw [h1] at HG
    rw [diffC_f (by rw [diffOk, h1]; rfl), diffOk, h1, Bool.false_and]
    clear h1 hE
    go_enter Try.func33, Try.ntmps33
    go_wp2_with fail
    refine (HG _ (HE.out.up_ G0.old)).out.mono ?_
    rintro e w1 ⟨rfl, hb1⟩
    have G1 := Lib.hid (G0.next hb1)
    have c0 := G1.out.c0
    have c1 := G1.out.c1
    clear G0 hb1
    go_wp2
    go_ret2
    exact ⟨none, 0, rfl, OwnI.nil _ _ _, G1.out.old⟩
  | true =>
    rw [h1] at HG
    obtain ⟨hN1, hN6, hn12⟩ := edgesB_lims (graphB_all h1).1
    have HV := fun w => Lib.hid (hasVertex_any N (.slice A es.length c) x w ⟨_, _, _, rfl⟩)
    have HW := fun w => Lib.hid (hasVertex_any N (.slice A es.length c) y w ⟨_, _, _, rfl⟩)
    cases h2 : vB x N with
    | false =>
      rw [h2] at HV
      have h0 : diffOk N es x y = false := by rw [diffOk, h1, h2]; rfl
      rw [diffC_f h0, h0]
      clear h1 h2 h0 hE
      go_enter Try.func33, Try.ntmps33
      go_wp2_with fail
      refine (HG _ (HE.out.up_ G0.old)).out.mono ?_
      rintro e w1 ⟨rfl, hb1⟩
      have G1 := Lib.hid (G0.next hb1)
      have c0 := G1.out.c0
      have c1 := G1.out.c1
      clear G0 hb1
      go_wp2_with fail
      refine (HV _).out.mono ?_
      rintro e w2 ⟨rfl, hb2⟩
      have G2 := Lib.hid (G1.out.next hb2)
      clear hb2 c0 c1
      have c0 := G2.out.c0
      have c1 := G2.out.c1
      go_wp2
      go_ret2
      exact ⟨none, 0, rfl, OwnI.nil _ _ _, G2.out.old⟩
    | true =>
      rw [h2] at HV
      cases h3 : vB y N with
      | false =>
        rw [h3] at HW
        have h0 : diffOk N es x y = false := by rw [diffOk, h1, h2, h3]; rfl
        rw [diffC_f h0, h0]
        clear h1 h2 h3 h0 hE
        go_enter Try.func33, Try.ntmps33
        go_wp2_with fail
        refine (HG _ (HE.out.up_ G0.old)).out.mono ?_
        rintro e w1 ⟨rfl, hb1⟩
        have G1 := Lib.hid (G0.next hb1)
        have c0 := G1.out.c0
        have c1 := G1.out.c1
        clear G0 hb1
        go_wp2_with fail
        refine (HV _).out.mono ?_
        rintro e w2 ⟨rfl, hb2⟩
        have G2 := Lib.hid (G1.out.next hb2)
        clear hb2 c0 c1
        have c0 := G2.out.c0
        have c1 := G2.out.c1
        go_wp2_with fail
        refine (HW _).out.mono ?_
        rintro e w3 ⟨rfl, hb3⟩
        have G3 := Lib.hid (G2.out.next hb3)
        clear hb3 c0 c1
        go_wp2
        go_ret2
        exact ⟨none, 0, rfl, OwnI.nil _ _ _, G3.out.old⟩
      | true =>
        rw [h3] at HW
        have h0 : diffOk N es x y = true := by rw [diffOk, h1, h2, h3]; rfl
        obtain ⟨m, rfl, hG⟩ := grl_of h1
        obtain ⟨hx0, hx1⟩ := vB_iff h2
        obtain ⟨hy0, hy1⟩ := vB_iff h3
        obtain ⟨v, rfl⟩ : ∃ u : Nat, x = (u : Int) := ⟨x.toNat, by omega⟩
        obtain ⟨z, rfl⟩ : ∃ u : Nat, y = (u : Int) := ⟨y.toNat, by omega⟩
        rw [diffC_t h0, h0, Int.toNat_natCast, Int.toNat_natCast]
        have hvM : v < m + 1 := by omega
        have hzM : z < m + 1 := by omega
        obtain ⟨hdv, hbo⟩ := diff_div h1 v z
        have HR := Lib.hid (fun (X : Option Addr) (cx : Nat) (W : World) (h1 : EdgeS W W.heap.size A es) (h2 : IntS W W.heap.size X (diffL (m + 1) v z)) => implRep ((m + 1 : Nat) : Int) A X c cx es (diffL (m + 1) v z) W hn (by rw [diffL_len]; omega) h1 h2)
        rw [diffL_len, hbo, redR_t hbo, Int.toNat_natCast] at HR
        obtain ⟨R, hRR⟩ : ∃ q, q = rdc (m + 1) es (diffL (m + 1) v z) := ⟨_, rfl⟩
        rw [show chipsOf (m + 1) (Dv (diffL (m + 1) v z) es (redF (m + 1) es (diffL (m + 1) v z) (0 : Int).toNat)) = R from hRR.symm] at HR
        rw [← hRR]
        have HRL := Lib.hid (show R.length = m + 1 by rw [hRR, rdc_len])
        have HMD := Lib.hid (diffL_made hvM hzM)
        have HGD := Lib.hid (diff_getD hvM hzM)
        obtain ⟨y1, hy1⟩ : ∃ q : Int, q = (if v = z then 1 else 0) := ⟨_, rfl⟩
        rw [← hy1] at HGD
        have hyw : IntKind.i64.wrap (y1 - 1) = y1 - 1 := by rw [IntKind.wrap_i64]; split at hy1 <;> omega
        obtain ⟨L, hL⟩ : ∃ q, q = diffL (m + 1) v z := ⟨_, rfl⟩
        rw [← hL] at HR HMD
        have h01 : IntKind.i64.wrap ((0 : Int) + 1) = 1 := by decide
        have hM6 : m + 1 ≤ 6 := by have := hG.m5; omega
        have HZ := Lib.hid (fun (W : World) => zero_new (m + 1) 0 (.slice A es.length c) W hM6 (Nat.zero_le _))
        have hv0 : (0 : Int) ≤ (v : Int) := Int.natCast_nonneg _
        have hz0 : (0 : Int) ≤ (z : Int) := Int.natCast_nonneg _
        have hv1 : (v : Int) < ((m + 1 : Nat) : Int) := by omega
        have hz1 : (z : Int) < ((m + 1 : Nat) : Int) := by omega
        clear h1 h2 h3 h0 hE hG hL hRR hy1 hn hN1 hN6 hn12 hx0 hx1 hy0 hdv hbo
        generalize m + 1 = K at *
        go_enter Try.func33, Try.ntmps33
        go_wp2_with fail
        refine (HG _ (HE.out.up_ G0.old)).out.mono ?_
        rintro e w1 ⟨rfl, hb1⟩
        have G1 := Lib.hid (G0.next hb1)
        have c0 := G1.out.c0
        have c1 := G1.out.c1
        clear G0 hb1
        go_wp2_with fail
        refine (HV _).out.mono ?_
        rintro e w2 ⟨rfl, hb2⟩
        have G2 := Lib.hid (G1.out.next hb2)
        clear hb2 c0 c1
        have c0 := G2.out.c0
        have c1 := G2.out.c1
        go_wp2_with fail
        refine (HW _).out.mono ?_
        rintro e w3 ⟨rfl, hb3⟩
        have G3 := Lib.hid (G2.out.next hb3)
        clear hb3 c0 c1
        have c0 := G3.out.c0
        have c1 := G3.out.c1
        go_wp2_with fail
        refine (HZ.out _).mono ?_
        rintro e w4 ⟨bz, rfl, hch, -, hbz, hb4⟩
        have G4 := Lib.hid (G3.out.next hb4)
        have hw3 := G3.out.lt
        have hbw : w.heap.size < bz := by omega
        obtain ⟨q1, q2⟩ := hch.cell v 0 (by simp [hvM])
        have hC1 := hch.set_ (a := v) (by simp [hvM]) 1
        obtain ⟨q3, q4⟩ := hC1.cell z y1 HGD.out
        have hC2 := hC1.set_ (a := z) (by simp [hzM]) (y1 - 1)
        have hgd : ((List.replicate K (0 : Int)).set v 1).getD z 0 = y1 := by rw [List.getD, HGD.out]; rfl
        have hmd := HMD.out
        rw [hgd] at hmd
        rw [hmd] at hC2
        have HC2 := Lib.hid (hC2.own (base := w.heap.size) (by omega)).ints
        have HB5 := Lib.hid ((G4.out.old.setCell (p := ⟨bz, v, none⟩) (by simp only; omega) (.int .i64 1)).setCell (p := ⟨bz, z, none⟩) (by simp only; omega) (.int .i64 (y1 - 1)))
        have HX5 := Lib.hid (show GB w ((w4.setCell ⟨bz, v, none⟩ (.int .i64 1)).setCell ⟨bz, z, none⟩ (.int .i64 (y1 - 1))) (K : Int) A c es from ⟨(G4.out.box.far (by simp only; omega) _).far (by simp only; omega) _, HB5.out⟩)
        clear hch hC1 hC2 hgd hmd hb4 c0 c1
        have c0 := G4.out.c0
        have c1 := G4.out.c1
        have c0' := HX5.out.c0
        have c1' := HX5.out.c1
        go_wp2_with fail
        refine (HR.out _ _ _ (HE.out.up_ HX5.out.old) HC2.out).mono ?_
        rintro e w5 ⟨A5, c5, rfl, ho5, hb5⟩
        have HO5 := Lib.hid (ho5.mono HX5.out.old.size)
        have G5 := Lib.hid (HX5.out.next hb5)
        clear ho5 hb5 c0 c1 c0' c1'
        go_wp2
        go_ret2
        exact ⟨A5, c5, by rw [HRL.out]; rfl, HO5.out, G5.out.old⟩
end Go.Proofs.Ytmehdngibbilaaa
