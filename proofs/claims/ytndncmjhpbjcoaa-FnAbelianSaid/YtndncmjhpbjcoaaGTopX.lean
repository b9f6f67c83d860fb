/- Sandpiles: the program's Topple. -/
import Derived.Test.YtndncmjhpbjcoaaGTopI
import Derived.Test.YtndncmjhpbjcoaaGPilB
set_option linter.all false
namespace Go.Proofs.Ytndncmjhpbjcoaa
open Go.RowKit

theorem chips_self {P : List Int} {M : Nat} (hl : P.length = M) (hb : ∀ u, -100000 ≤ P.getD u 0 ∧ P.getD u 0 ≤ 100000) : chipsOf M (fun u => P.getD u 0) = P := by
  refine List.ext_getElem (by rw [chipsOf_len, hl]) fun u h1 h2 => ?_
  have e : P.getD u 0 = P[u] := by simp [List.getD, h2]
  have := hb u
  simp only [chipsOf, List.getElem_map, List.getElem_range]
  rw [wrap64_of (by omega) (by omega), e]
theorem top_board {M q v : Nat} {es : List (Int × Int)} {p : List Int} {n : Nat → Int} (h : PileL M q es p) (ht : Tops M es p q n) : (chipsOf M (fireF (fun u => (pileL M es p q n).getD u 0) (v : Int) 1 es)).set q 0 = pileL M es p q (addAt n v 1) := by
  have hb := ht.chips h
  refine List.ext_getElem (by rw [List.length_set, chipsOf_len, pileL_len]) fun u h1 h2 => ?_
  have hu : u < M := by rw [List.length_set, chipsOf_len] at h1; exact h1
  have e2 : (pileL M es p q (addAt n v 1))[u] = (pileL M es p q (addAt n v 1)).getD u 0 := by simp [List.getD, h2]
  rw [e2, ← pileL_top h.ed hu]
  simp only [List.getElem_set]
  by_cases e : q = u
  · rw [if_pos e, if_pos e.symm]
  · rw [if_neg e, if_neg (fun x => e x.symm)]
    simp only [fireF, chipsOf, List.getElem_map, List.getElem_range]
    rw [pileL_get hu, if_neg (fun x => e x.symm)]
    have h3 : -(12 : Int) ≤ nets (v : Int) u es ∧ nets (v : Int) u es ≤ 100000 := by
      have h12 := h.n12
      have k1 := nets_self v es fun x hx => (h.ed x hx).2.1
      by_cases k : u = v
      · subst k; omega
      · have k2 := nets_other v u k es
        have k3 := nets_cap v u es
        omega
    have h4 := hb u
    rw [Int.one_mul]
    exact wrap64_of (by omega) (by omega)
theorem pile_bound {M q : Nat} {es : List (Int × Int)} {p : List Int} {n : Nat → Int} (h : PileL M q es p) (ht : Tops M es p q n) (u : Nat) : -100000 ≤ (pileL M es p q n).getD u 0 ∧ (pileL M es p q n).getD u 0 ≤ 100000 := by
  have hb := ht.chips h u
  by_cases hu : u < M
  · rw [pileL_get hu]
    split <;> omega
  · have : (pileL M es p q n).getD u 0 = 0 := by rw [List.getD, List.getElem?_eq_none (by rw [pileL_len]; omega)]; rfl
    omega
theorem topOk_swap {M k : Nat} {es : List (Int × Int)} {p : List Int} {v : Int} (h : pileB (M : Int) es p (k : Int) = true) (hv : vB v (M : Int) = true) : topOk (M : Int) es p (k : Int) v = uns1 k es p v.toNat := by
  obtain ⟨h0, h1⟩ := vB_iff hv
  rw [topOk, h, hv, Bool.true_and, Bool.true_and, uns1]
  congr 1
  exact decide_eq_decide.2 ⟨fun h => by omega, fun h => by omega⟩
set_option maxRecDepth 100000 in
set_option maxHeartbeats 2000000 in
theorem implTop (N : Int) (A D : Option Addr) (c cd : Nat) (es : List (Int × Int)) (p : List Int) (q v : Int) (w : World) (hn : es.length ≤ 1048576) (hd : p.length ≤ 1048576) (hE : EdgeS w w.heap.size A es) (hS : IntS w w.heap.size D p) :
    Calls Try.prog 22 #[.agg #[.int .i64 N, .slice A es.length c], .slice D p.length cd, .int .i64 q, .int .i64 v] w (GivesIntsOk w (topC N es p q v) (topOk N es p q v)) := by
  have HE := Lib.hid hE
  have HS := Lib.hid hS
  have G0 := GB.start w N A c es
  have HD := fun w h1 h2 => Lib.hid (implPile N A D c cd es p q w hn hd h1 h2)
  have HV := fun w => Lib.hid (hasVertex_any N (.slice A es.length c) v w ⟨_, _, _, rfl⟩)
  clear hE hS
  cases h1 : pileB N es p q with
  | false =>
    rw [h1] at HD
    have h0 : topOk N es p q v = false := by rw [topOk, h1]; rfl
    rw [topC_f h0, h0]
    clear h1 h0
    go_enter Try.func22, Try.ntmps22
    go_wp2_with fail
    refine (HD _ (HE.out.up_ G0.old) (HS.out.up_ G0.old)).out.mono ?_
    rintro e w1 ⟨rfl, hb1⟩
    have G1 := Lib.hid (G0.next hb1)
    clear G0 hb1
    go_wp2
    go_ret2
    exact ⟨none, 0, rfl, OwnI.nil _ _ _, G1.out.old⟩
  | true =>
    rw [h1] at HD
    cases h2 : vB v N with
    | false =>
      rw [h2] at HV
      have h0 : topOk N es p q v = false := by rw [topOk, h2]; simp
      rw [topC_f h0, h0]
      clear h1 h0 h2
      go_enter Try.func22, Try.ntmps22
      go_wp2_with fail
      refine (HD _ (HE.out.up_ G0.old) (HS.out.up_ G0.old)).out.mono ?_
      rintro e w1 ⟨rfl, hb1⟩
      have G1 := Lib.hid (G0.next hb1)
      have c0 := G1.out.c0
      have c1 := G1.out.c1
      clear G0 hb1
      go_wp2_with fail
      refine (HV _).out.mono ?_
      rintro e w2 ⟨rfl, hb2⟩
      have G2 := Lib.hid (G1.out.next hb2)
      clear hb2 G1 c0 c1
      go_wp2
      go_ret2
      exact ⟨none, 0, rfl, OwnI.nil _ _ _, G2.out.old⟩
    | true =>
      rw [h2] at HV
      obtain ⟨M, k, rfl, rfl, hP, -⟩ := pile_parts h1
      have hsw := topOk_swap h1 h2
      obtain ⟨hv0, hv1⟩ := vB_iff h2
      obtain ⟨j, rfl⟩ : ∃ j : Nat, v = (j : Int) := ⟨v.toNat, by omega⟩
      rw [Int.toNat_natCast] at hsw
      have hjM : j < M := by omega
      have hl := hP.len
      have hes := hP.ed
      have HM := Lib.hid (fun (W : World) (h : IntS W W.heap.size D p) => pileOf_any (M : Int) A D c cd k es p W (by have := hP.m0; omega) hd h)
      have HU := Lib.hid (fun (sp pb g cg : Nat) (W : World) (hb : Below w.heap.size w W) (h : Pile W sp pb g M cg c k A es p) => isUnst_any sp pb g M cg c k j w.heap.size A es p W hb.size hP.n12 (fun e he => (hes e he).2.1) hl hjM h (HE.out.below hb))
      have HL := Lib.hid hl
      cases h3 : uns1 k es p j with
      | false =>
        rw [h3] at HU hsw
        rw [topC_f hsw, hsw]
        clear h1 h2 h3 hsw hP hl hes
        go_enter Try.func22, Try.ntmps22
        go_wp2_with fail
        refine (HD _ (HE.out.up_ G0.old) (HS.out.up_ G0.old)).out.mono ?_
        rintro e w1 ⟨rfl, hb1⟩
        have G1 := Lib.hid (G0.next hb1)
        have c0 := G1.out.c0
        have c1 := G1.out.c1
        clear G0 hb1
        go_wp2_with fail
        refine (HV _).out.mono ?_
        rintro e w2 ⟨rfl, hb2⟩
        have G2 := Lib.hid (G1.out.next hb2)
        have c0 := G2.out.c0
        have c1 := G2.out.c1
        clear hb2 G1
        go_wp2_with fail
        refine (HM.out _ (HS.out.up_ G2.out.old)).mono ?_
        rintro e w3 ⟨sp, pb, g, cg, rfl, hp3, -, -, -, hb3⟩
        have G3 := Lib.hid (G2.out.next hb3)
        rw [HL.out] at hp3
        have HP3 := Lib.hid hp3
        clear hb3 c0 c1 hp3
        go_wp2_with fail
        refine (HU.out sp pb g cg _ G3.out.old HP3.out).mono ?_
        rintro e w4 ⟨rfl, hb4⟩
        have G4 := Lib.hid (G3.out.next hb4)
        clear hb4
        go_wp2
        go_ret2
        exact ⟨none, 0, rfl, OwnI.nil _ _ _, G4.out.old⟩
      | true =>
        rw [h3] at HU hsw
        rw [topC_t hsw, hsw]
        have hp0 : pileL M es p k (fun _ => 0) = p := pileL_zero hl hP.qm hP.zero
        have hcs : chipsOf M (fun u => p.getD u 0) = p := chips_self hl fun u => by have := hP.lim u; omega
        have htb := top_board (v := j) hP (n := fun _ => 0) Tops.zero
        rw [hp0] at htb
        obtain ⟨X, hX⟩ : ∃ X, X = pileL M es p k (addAt (fun _ => 0) j 1) := ⟨_, rfl⟩
        have hXL : X.length = M := by rw [hX, pileL_len]
        rw [← hX] at htb ⊢
        have HT := Lib.hid (fun (sp pb g cg : Nat) (W : World) (hb : Below w.heap.size w W) (hg : w.heap.size ≤ g) (hgp : g < pb) (hps : pb < sp) (h : Pile W sp pb g M cg c k A es p) => topple_any sp pb g M cg c k j w.heap.size A es (fun u => p.getD u 0) W hb.size hg hP.n12 hes hP.qm hgp hps (by rw [hcs]; exact h) (HE.out.below hb))
        rw [htb] at HT
        have HXL := Lib.hid hXL
        clear h1 h2 h3 hsw hP hl hes hp0 hcs htb hX hXL
        go_enter Try.func22, Try.ntmps22
        go_wp2_with fail
        refine (HD _ (HE.out.up_ G0.old) (HS.out.up_ G0.old)).out.mono ?_
        rintro e w1 ⟨rfl, hb1⟩
        have G1 := Lib.hid (G0.next hb1)
        have c0 := G1.out.c0
        have c1 := G1.out.c1
        clear G0 hb1
        go_wp2_with fail
        refine (HV _).out.mono ?_
        rintro e w2 ⟨rfl, hb2⟩
        have G2 := Lib.hid (G1.out.next hb2)
        have c0 := G2.out.c0
        have c1 := G2.out.c1
        clear hb2 G1
        go_wp2_with fail
        refine (HM.out _ (HS.out.up_ G2.out.old)).mono ?_
        rintro e w3 ⟨sp, pb, g, cg, rfl, hp3, hg3, hgp, hps, hb3⟩
        have G3 := Lib.hid (G2.out.next hb3)
        have hgw : w.heap.size ≤ g := Nat.le_trans G2.out.old.size hg3
        rw [HL.out] at hp3
        have HP3 := Lib.hid hp3
        clear hb3 c0 c1 hp3
        go_wp2_with fail
        refine (HU.out sp pb g cg _ G3.out.old HP3.out).mono ?_
        rintro e w4 ⟨rfl, hb4⟩
        have G4 := Lib.hid (G3.out.next hb4)
        have HP4 := Lib.hid (HP3.out.below hb4)
        clear hb4
        go_wp2_with fail
        refine (HT.out sp pb g cg _ G4.out.old hgw hgp hps HP4.out).mono ?_
        rintro e w5 ⟨rfl, hc5, hm5⟩
        have c0 : w5.cell? ⟨sp, 0, none⟩ = some (.pointer (some ⟨pb, 0, none⟩)) := by rw [(HP4.out.sand.moves hm5 (by omega)).cell]; rfl
        have c2 : w5.cell? ⟨pb, 1, none⟩ = some (.slice (some ⟨g, 0, none⟩) M cg) := by rw [(HP4.out.board.moves hm5 (by omega)).cell]; rfl
        have HB5 := Lib.hid (show Below w.heap.size w w5 from ⟨hm5.os.trans G4.out.old.os, hm5.tape.trans G4.out.old.tape, hm5.output.trans G4.out.old.output, Nat.le_trans G4.out.old.size hm5.size, fun i hi => (hm5.block i (by have := G4.out.old.size; omega) (.inl (by omega))).trans (G4.out.old.block i hi)⟩)
        have HC5 := Lib.hid hc5
        clear hc5 hm5
        go_wp2
        go_ret2
        exact ⟨some ⟨g, 0, none⟩, cg, by rw [HXL.out]; rfl, fun _ => ⟨g, 0, rfl, hgw, HC5.out.lt, fun i z hz => by have := HC5.out.cell i z hz; simpa using this⟩, HB5.out⟩
end Go.Proofs.Ytndncmjhpbjcoaa
