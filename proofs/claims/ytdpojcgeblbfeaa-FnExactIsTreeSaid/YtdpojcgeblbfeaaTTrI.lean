/- IsTree: both sides. -/
import Derived.Test.YtdpojcgeblbfeaaTPartS
import Derived.Test.YtdpojcgeblbfeaaTBI
set_option linter.all false
namespace Go.Proofs.Ytdpojcgeblbfeaa
open Go.RowKit

open Classical in
noncomputable def ascB (n : Nat) (T : List Int) : Bool := decide (AscP n T.length T)
theorem ascB_t {n : Nat} {T : List Int} (h : AscP n T.length T) : ascB n T = true := by simp [ascB, h]
theorem ascB_f {n : Nat} {T : List Int} (h : ¬ AscP n T.length T) : ascB n T = false := by simp [ascB, h]
noncomputable def treeB (N : Int) (es : List (Int × Int)) (T : List Int) : Bool := graphB N es && (decide ((T.length : Int) = N - 1) && (ascB es.length T && connB N (partL es T)))
structure AscTo (n : Nat) (T : List Int) (j : Nat) : Prop where
  lim : ∀ u, u < j → 0 ≤ T.getD u 0 ∧ T.getD u 0 < (n : Int)
  up : ∀ u, u + 1 < j → T.getD u 0 < T.getD (u + 1) 0
theorem AscTo.start (n : Nat) (T : List Int) : AscTo n T 0 := ⟨fun u h => absurd h (by omega), fun u h => absurd h (by omega)⟩
theorem AscTo.step {n j : Nat} {T : List Int} {x : Int} (h : AscTo n T j) (hx : T[j]? = some x) (h0 : 0 ≤ x ∧ x < (n : Int)) (h1 : 0 < j → T.getD (j - 1) 0 < x) : AscTo n T (j + 1) := by
  have e : T.getD j 0 = x := by rw [List.getD, hx]; rfl
  refine ⟨fun u hu => ?_, fun u hu => ?_⟩
  · by_cases e2 : u = j
    · subst e2; rw [e]; exact h0
    · exact h.lim u (by omega)
  · by_cases e2 : u + 1 = j
    · rw [e2, e]
      have := h1 (by omega)
      rwa [show j - 1 = u by omega] at this
    · exact h.up u (by omega)
theorem AscTo.fin {n : Nat} {T : List Int} (h : AscTo n T T.length) : AscP n T.length T := ⟨rfl, h.lim, h.up⟩
theorem asc_no {n j : Nat} {T : List Int} {x : Int} (hx : T[j]? = some x) (h : ¬ (0 ≤ x ∧ x < (n : Int)) ∨ (0 < j ∧ x ≤ T.getD (j - 1) 0)) : ascB n T = false := by
  have e : T.getD j 0 = x := by rw [List.getD, hx]; rfl
  have hj := (List.getElem?_eq_some_iff.1 hx).1
  refine ascB_f fun hA => ?_
  rcases h with h | ⟨h0, h⟩
  · have := hA.2.1 j hj
    rw [e] at this
    exact h this
  · have := hA.2.2 (j - 1) (by omega)
    rw [show j - 1 + 1 = j by omega, e] at this
    omega
theorem asc_in {n : Nat} {T : List Int} (h : ascB n T = true) : AscP n T.length T := by
  apply Classical.byContradiction
  intro hn
  rw [ascB_f hn] at h
  cases h
set_option maxRecDepth 100000 in
set_option maxHeartbeats 2000000 in
theorem areEdges_any (A D : Option Addr) (c cd M : Nat) (es : List (Int × Int)) (T : List Int) (w : World) (ht : T.length ≤ 1048576) (hS : IntS w w.heap.size D T) :
    Calls Try.prog 80 #[.agg #[.int .i64 (M : Int), .slice A es.length c], .slice D T.length cd] w fun e w' => e = .returned (.bool (ascB es.length T)) ∧ Below w.heap.size w w' := by
  have HS := Lib.hid hS
  have G0 := GB.start w (M : Int) A c es
  clear hS
  go_enter Try.func80, Try.ntmps80
  go_wp2_with fail
  obtain ⟨W0, hW0⟩ : ∃ X : World, X = w.alloc (Obj.cells #[.int .i64 (M : Int), .slice A es.length c] 25) := ⟨_, rfl⟩
  rw [← hW0] at G0 ⊢
  have HG := Lib.hid G0
  clear G0 hW0
  go_loopw [5, 10] (fun b i wr => ∃ (j : Nat) (y : Int), j ≤ T.length ∧ i = .int .i64 (j : Int) ∧ b = .int .i64 y ∧ (j = 0 → y = -1) ∧ (0 < j → y = T.getD (j - 1) 0) ∧ AscTo es.length T j ∧ GB w wr (M : Int) A c es) (fun _ i _ => T.length - (intOf i).toNat)
  case atStart => exact ⟨0, -1, Nat.zero_le _, rfl, rfl, fun _ => rfl, fun h => absurd h (by omega), AscTo.start _ _, HG.out⟩
  case round =>
    clear HG
    obtain ⟨j, y, hj, rfl, rfl, hy0, hy1, ha, hg⟩ := hrel
    have HA := Lib.hid ha
    have HG := Lib.hid hg
    have c1 := hg.c1
    have hlt9 := hg.old
    by_cases hlt : j < T.length
    · obtain ⟨bt, ot, x, rfl, hbt, hx, hct⟩ := (HS.out.below hlt9).at_ hlt
      have hj0 : (0 : Int) ≤ (j : Int) := Int.natCast_nonneg _
      have hj1 : (j : Int) < (T.length : Int) := by omega
      have HX := Lib.hid hx
      have HY1 := Lib.hid hy1
      have HY0 := Lib.hid hy0
      clear ha hg hx hy1 hy0
      by_cases h1 : x ≤ y
      · have HF := Lib.hid (show ascB es.length T = false from asc_no HX.out (by
          rcases Nat.eq_zero_or_pos j with e | e
          · have := HY0.out e; left; omega
          · right; exact ⟨e, by rw [← HY1.out e]; exact h1⟩))
        have t1 : decide (x ≤ y) = true := decide_eq_true h1
        go_wp2
        go_ret
        exact ⟨ret_boolE HF.out.symm, HG.out.old⟩
      · have t1 : decide (x ≤ y) = false := decide_eq_false h1
        by_cases h2 : (es.length : Int) ≤ x
        · have HF := Lib.hid (show ascB es.length T = false from asc_no HX.out (.inl (by omega)))
          have t2 : decide (x ≥ (es.length : Int)) = true := decide_eq_true h2
          have t3 : decide ((es.length : Int) ≤ x) = true := decide_eq_true h2
          go_wp2
          go_ret
          exact ⟨ret_boolE HF.out.symm, HG.out.old⟩
        · have t2 : decide (x ≥ (es.length : Int)) = false := decide_eq_false h2
          have t3 : decide ((es.length : Int) ≤ x) = false := decide_eq_false h2
          have HN := Lib.hid (show AscTo es.length T (j + 1) ∧ T.getD (j + 1 - 1) 0 = x from by
            have e : T.getD j 0 = x := by rw [List.getD, HX.out]; rfl
            refine ⟨HA.out.step HX.out ⟨?_, by omega⟩ fun h0 => ?_, by rw [Nat.add_sub_cancel]; exact e⟩
            · rcases Nat.eq_zero_or_pos j with e | e
              · have := HY0.out e; omega
              · have := (HA.out.lim (j - 1) (by omega)).1
                rw [← HY1.out e] at this
                omega
            · rw [← HY1.out h0]; omega)
          clear h1 h2
          go_wp2
          exact ⟨⟨j + 1, x, by omega, by go_num, rfl, fun h => absurd h (by omega), fun _ => HN.out.2.symm, HN.out.1, HG.out⟩, by simp [intOf]; omega⟩
    · have HF := Lib.hid (show ascB es.length T = true from ascB_t (by
        have h := HA.out
        rw [show j = T.length by omega] at h
        exact h.fin))
      clear ha hg
      go_wp2
      go_ret
      exact ⟨ret_boolE HF.out.symm, HG.out.old⟩
theorem treeB_g {N : Int} {es : List (Int × Int)} {T : List Int} (h : graphB N es = false) : treeB N es T = false := by rw [treeB, h]; rfl
theorem treeB_l {N : Int} {es : List (Int × Int)} {T : List Int} (h : (T.length : Int) ≠ N - 1) : treeB N es T = false := by rw [treeB, decide_eq_false h, Bool.false_and, Bool.and_false]
theorem treeB_a {N : Int} {es : List (Int × Int)} {T : List Int} (h : ascB es.length T = false) : treeB N es T = false := by rw [treeB, h, Bool.false_and, Bool.and_false, Bool.and_false]
theorem treeB_c {N : Int} {es : List (Int × Int)} {T : List Int} (h : graphB N es = true) (h1 : (T.length : Int) = N - 1) (h2 : ascB es.length T = true) : treeB N es T = connB N (partL es T) := by rw [treeB, h, decide_eq_true h1, h2, Bool.true_and, Bool.true_and, Bool.true_and]
set_option maxRecDepth 100000 in
set_option maxHeartbeats 2000000 in
theorem specTree (N : Int) (A D : Option Addr) (c cd : Nat) (es : List (Int × Int)) (T : List Int) (w : World) (hn : es.length ≤ 1048576) (hd : T.length ≤ 1048576) (hE : EdgeS w w.heap.size A es) (hS : IntS w w.heap.size D T) :
    Calls Try.prog 31 #[.agg #[.int .i64 N, .slice A es.length c], .slice D T.length cd] w fun e w' => e = .returned (.bool (treeB N es T)) ∧ Below w.heap.size w w' := by
  have HE := Lib.hid hE
  have HS := Lib.hid hS
  have G0 := GB.start w N A c es
  have HD := fun w h1 => Lib.hid (specGraphOk N A c es w (by omega) h1)
  clear hE hS
  cases h1 : graphB N es with
  | false =>
    rw [h1] at HD
    rw [treeB_g h1]
    clear h1
    go_enter Try.func31, Try.ntmps31
    go_wp2_with fail
    refine (HD _ (HE.out.up_ G0.old)).out.mono ?_
    rintro e w1 ⟨rfl, hb1⟩
    have G1 := Lib.hid (G0.next hb1)
    clear G0 hb1
    go_wp2
    go_ret
    exact ⟨rfl, G1.out.old⟩
  | true =>
    rw [h1] at HD
    have HGR := Lib.hid h1
    obtain ⟨h4, h5⟩ := graphB_all h1
    obtain ⟨h6, h7, h8⟩ := edgesB_lims h4
    obtain ⟨M, rfl⟩ : ∃ M : Nat, N = (M : Int) := ⟨N.toNat, by omega⟩
    have HEB := Lib.hid h4
    have z1 : IntKind.i64.wrap ((M : Int) - 1) = (M : Int) - 1 := by rw [IntKind.wrap_i64]; omega
    have z2 : IntKind.i64.wrap ((es.length : Int) - 1) = (es.length : Int) - 1 := by rw [IntKind.wrap_i64]; omega
    clear h1 h4 h5
    by_cases hl : (T.length : Int) = (M : Int) - 1
    · have HTL := Lib.hid hl
      have t0 : ((T.length : Int) != (M : Int) - 1) = false := by simp [hl]
      have ht6 : T.length ≤ 5 := by omega
      clear hl
      go_enter Try.func31, Try.ntmps31
      go_wp2_with fail
      refine (HD _ (HE.out.up_ G0.old)).out.mono ?_
      rintro e w1 ⟨rfl, hb1⟩
      have G1 := Lib.hid (G0.next hb1)
      have c0 := G1.out.c0
      clear G0 hb1
      go_wp2
      go_loopw [5, 20] (fun _ i wr => ∃ j : Nat, j ≤ T.length ∧ i = .int .i64 (j : Int) ∧ AscTo es.length T j ∧ GB w wr (M : Int) A c es) (fun _ i _ => T.length - (intOf i).toNat)
      case atStart => exact ⟨0, Nat.zero_le _, rfl, AscTo.start _ _, G1.out⟩
      case round =>
        clear G1 c0
        obtain ⟨j, hj, rfl, ha, hg⟩ := hrel
        have HA := Lib.hid ha
        have HG := Lib.hid hg
        have c0 := hg.c0
        have c1 := hg.c1
        have hlt9 := hg.old
        by_cases hlt : j < T.length
        · obtain ⟨bt, ot, x, rfl, hbt, hx, hct⟩ := (HS.out.below hlt9).at_ hlt
          have hj0 : (0 : Int) ≤ (j : Int) := Int.natCast_nonneg _
          have hj1 : (j : Int) < (T.length : Int) := by omega
          have HX := Lib.hid hx
          have HIN := Lib.hid (fun W => l01In_any x 0 ((es.length : Int) - 1) W)
          clear ha hg hx
          by_cases h1 : 0 ≤ x ∧ x < (es.length : Int)
          · have hin : inB x 0 ((es.length : Int) - 1) = true := by simp [inB]; omega
            rw [hin] at HIN
            rcases Nat.eq_zero_or_pos j with e | e
            · have HN := Lib.hid (show AscTo es.length T (j + 1) from HA.out.step HX.out h1 fun h => absurd h (by omega))
              have t1 : decide ((j : Int) > 0) = false := decide_eq_false (by omega)
              have t2 : decide (0 < (j : Int)) = false := decide_eq_false (by omega)
              have t5 : decide (0 < j) = false := decide_eq_false (by omega)
              have t6 : ¬ (0 < j) := by omega
              clear h1 hin e
              go_wp2_with (go_at_call 68; refine (HIN.out _).mono ?_; rintro e w2 ⟨rfl, rfl⟩)
              exact ⟨⟨j + 1, by omega, by go_num, HN.out, HG.out⟩, by simp [intOf]; omega⟩
            · obtain ⟨b2, o2, y, hA2, hb2, hy, hcy⟩ := (HS.out.below hlt9).at_ (k := j - 1) (by omega)
              simp only [Option.some.injEq, Addr.mk.injEq, and_true] at hA2
              obtain ⟨rfl, rfl⟩ := hA2
              have HY := Lib.hid (show T.getD (j - 1) 0 = y by rw [List.getD, hy]; rfl)
              have t1 : decide ((j : Int) > 0) = true := decide_eq_true (by omega)
              have t2 : decide (0 < (j : Int)) = true := decide_eq_true (by omega)
              have t5 : decide (0 < j) = true := decide_eq_true (by omega)
              have z3 : IntKind.i64.wrap ((j : Int) - 1) = (j : Int) - 1 := by rw [IntKind.wrap_i64]; omega
              have z4 : ((j : Int) - 1).toNat = j - 1 := by omega
              have z5 : (0 : Int) ≤ (j : Int) - 1 := by omega
              have z6 : (j : Int) - 1 < (T.length : Int) := by omega
              clear hy
              by_cases h3 : x ≤ y
              · have HF := Lib.hid (show ascB es.length T = false from asc_no HX.out (.inr ⟨e, by rw [HY.out]; exact h3⟩))
                have t3 : decide (x ≤ y) = true := decide_eq_true h3
                clear h1 hin
                go_wp2_with (go_at_call 68; refine (HIN.out _).mono ?_; rintro e w2 ⟨rfl, rfl⟩)
                go_ret
                exact ⟨ret_boolE (treeB_a HF.out).symm, HG.out.old⟩
              · have HN := Lib.hid (show AscTo es.length T (j + 1) from HA.out.step HX.out h1 fun h => by rw [HY.out]; omega)
                have t3 : decide (x ≤ y) = false := decide_eq_false h3
                clear h1 hin h3
                go_wp2_with (go_at_call 68; refine (HIN.out _).mono ?_; rintro e w2 ⟨rfl, rfl⟩)
                exact ⟨⟨j + 1, by omega, by go_num, HN.out, HG.out⟩, by simp [intOf]; omega⟩
          · have HF := Lib.hid (show ascB es.length T = false from asc_no HX.out (.inl h1))
            have hin : inB x 0 ((es.length : Int) - 1) = false := by simp [inB]; omega
            rw [hin] at HIN
            clear h1 hin
            go_wp2_with (go_at_call 68; refine (HIN.out _).mono ?_; rintro e w2 ⟨rfl, rfl⟩)
            go_ret
            exact ⟨ret_boolE (treeB_a HF.out).symm, HG.out.old⟩
        · have HF := Lib.hid (show AscP es.length T.length T from by
            have h := HA.out
            rw [show j = T.length by omega] at h
            exact h.fin)
          have HJ := Lib.hid (fun (W : World) (h : Below w.heap.size w W) => joins_any A D c cd M es T W HEB.out (by omega) (fun i hi => asc_at HF.out hi) (HE.out.up_ h) (HS.out.up_ h))
          clear ha hg
          go_wp2_with fail
          refine (HJ.out _ hlt9).mono ?_
          rintro e w2 ⟨rfl, hb2⟩
          have HG2 := Lib.hid (HG.out.next hb2)
          have HV := Lib.hid (treeB_c HGR.out HTL.out (ascB_t HF.out))
          clear hb2
          go_wp2
          go_ret
          exact ⟨ret_boolE HV.out.symm, HG2.out.old⟩
    · have t0 : ((T.length : Int) != (M : Int) - 1) = true := by simp [hl]
      rw [treeB_l hl]
      clear hl
      go_enter Try.func31, Try.ntmps31
      go_wp2_with fail
      refine (HD _ (HE.out.up_ G0.old)).out.mono ?_
      rintro e w1 ⟨rfl, hb1⟩
      have G1 := Lib.hid (G0.next hb1)
      have c0 := G1.out.c0
      clear G0 hb1
      go_wp2
      go_ret
      exact ⟨rfl, G1.out.old⟩
set_option maxRecDepth 100000 in
set_option maxHeartbeats 2000000 in
theorem implTree (N : Int) (A D : Option Addr) (c cd : Nat) (es : List (Int × Int)) (T : List Int) (w : World) (hn : es.length ≤ 1048576) (hd : T.length ≤ 1048576) (hE : EdgeS w w.heap.size A es) (hS : IntS w w.heap.size D T) :
    Calls Try.prog 33 #[.agg #[.int .i64 N, .slice A es.length c], .slice D T.length cd] w fun e w' => e = .returned (.bool (treeB N es T)) ∧ Below w.heap.size w w' := by
  have HE := Lib.hid hE
  have HS := Lib.hid hS
  have G0 := GB.start w N A c es
  have HD := fun w h1 => Lib.hid (implGraphOk N A c es w hn h1)
  clear hE hS
  cases h1 : graphB N es with
  | false =>
    rw [h1] at HD
    rw [treeB_g h1]
    clear h1
    go_enter Try.func33, Try.ntmps33
    go_wp2_with fail
    refine (HD _ (HE.out.up_ G0.old)).out.mono ?_
    rintro e w1 ⟨rfl, hb1⟩
    have G1 := Lib.hid (G0.next hb1)
    clear G0 hb1
    go_wp2
    go_ret
    exact ⟨rfl, G1.out.old⟩
  | true =>
    rw [h1] at HD
    have HGR := Lib.hid h1
    obtain ⟨h4, h5⟩ := graphB_all h1
    obtain ⟨h6, h7, h8⟩ := edgesB_lims h4
    obtain ⟨M, rfl⟩ : ∃ M : Nat, N = (M : Int) := ⟨N.toNat, by omega⟩
    have HEB := Lib.hid h4
    have z1 : IntKind.i64.wrap ((M : Int) - 1) = (M : Int) - 1 := by rw [IntKind.wrap_i64]; omega
    clear h1 h4 h5
    by_cases hl : (T.length : Int) = (M : Int) - 1
    · have HTL := Lib.hid hl
      have t0 : ((T.length : Int) == (M : Int) - 1) = true := by simp [hl]
      have ht6 : T.length ≤ 5 := by omega
      have HAR := fun (W : World) h => Lib.hid (areEdges_any A D c cd M es T W hd h)
      clear hl
      cases h2 : ascB es.length T with
      | false =>
        rw [h2] at HAR
        rw [treeB_a h2]
        clear h2
        go_enter Try.func33, Try.ntmps33
        go_wp2_with fail
        refine (HD _ (HE.out.up_ G0.old)).out.mono ?_
        rintro e w1 ⟨rfl, hb1⟩
        have G1 := Lib.hid (G0.next hb1)
        have c0 := G1.out.c0
        have c1 := G1.out.c1
        clear G0 hb1
        go_wp2_with fail
        refine (HAR _ (HS.out.up_ G1.out.old)).out.mono ?_
        rintro e w2 ⟨rfl, hb2⟩
        have G2 := Lib.hid (G1.out.next hb2)
        clear hb2 G1 c0 c1
        go_wp2
        go_ret
        exact ⟨rfl, G2.out.old⟩
      | true =>
        rw [h2] at HAR
        have HA := Lib.hid (asc_in h2)
        have HV := Lib.hid (treeB_c HGR.out HTL.out h2)
        have HPA := Lib.hid (fun (W : World) (h : Below w.heap.size w W) => partOf_any A D c cd M es T W (by omega) (fun i hi => asc_at HA.out hi) (HE.out.up_ h) (HS.out.up_ h))
        have HCN := Lib.hid (fun (F : Option Addr) (cf : Nat) (W : World) (h : EdgeS W W.heap.size F (partL es T)) => isConnected_any M cf F (partL es T) W (part_edges HEB.out (by omega) fun i hi => asc_at HA.out hi) h)
        rw [HV.out]
        clear h2
        go_enter Try.func33, Try.ntmps33
        go_wp2_with fail
        refine (HD _ (HE.out.up_ G0.old)).out.mono ?_
        rintro e w1 ⟨rfl, hb1⟩
        have G1 := Lib.hid (G0.next hb1)
        have c0 := G1.out.c0
        have c1 := G1.out.c1
        clear G0 hb1
        go_wp2_with fail
        refine (HAR _ (HS.out.up_ G1.out.old)).out.mono ?_
        rintro e w2 ⟨rfl, hb2⟩
        have G2 := Lib.hid (G1.out.next hb2)
        clear hb2 G1 c0 c1
        have c0 := G2.out.c0
        have c1 := G2.out.c1
        go_wp2_with fail
        refine (HPA.out _ G2.out.old).mono ?_
        rintro e w3 ⟨F, cf, rfl, hp3, hb3⟩
        have G3 := Lib.hid (G2.out.next hb3)
        have HP3 := Lib.hid hp3
        clear hb3 hp3 G2 c0 c1
        go_wp2_with fail
        refine (HCN.out F cf _ HP3.out).mono ?_
        rintro e w4 ⟨rfl, hb4⟩
        have G4 := Lib.hid (G3.out.next hb4)
        clear hb4
        go_wp2
        go_ret
        exact ⟨rfl, G4.out.old⟩
    · have t0 : ((T.length : Int) == (M : Int) - 1) = false := by simp [hl]
      rw [treeB_l hl]
      clear hl
      go_enter Try.func33, Try.ntmps33
      go_wp2_with fail
      refine (HD _ (HE.out.up_ G0.old)).out.mono ?_
      rintro e w1 ⟨rfl, hb1⟩
      have G1 := Lib.hid (G0.next hb1)
      have c0 := G1.out.c0
      clear G0 hb1
      go_wp2
      go_ret
      exact ⟨rfl, G1.out.old⟩
end Go.Proofs.Ytdpojcgeblbfeaa
