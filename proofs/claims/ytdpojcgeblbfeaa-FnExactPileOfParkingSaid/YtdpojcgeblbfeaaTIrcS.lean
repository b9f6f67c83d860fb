/- IsRecurrent: plain; the specification's side. -/
import Derived.Test.YtdpojcgeblbfeaaTLitS
import Derived.Test.YtdpojcgeblbfeaaTPilE
import Derived.Test.YtdpojcgeblbfeaaTRcoI
import Derived.Test.YtdpojcgeblbfeaaTSamS
set_option linter.all false
namespace Go.Proofs.Ytdpojcgeblbfeaa
open Go.RowKit

section
variable {M k : Nat} {es : List (Int × Int)} {p : List Int}
theorem lit_pile (h : PileL M k es p) (hs : ∀ u, u < M → u ≠ k → p.getD u 0 < valP es u) : PileL M k es (litL M es p k) := by
  refine ⟨h.m0, h.m6, h.n12, h.ed, h.cut, lit_len _ _ _ _, fun u => ?_, h.qm, ?_⟩
  · by_cases hu : u < M
    · rw [lit_get hu, ← mult_lit h.qm hu fun e he => (h.ed e he).2.1]
      have h1 := mult_lim (M := M) (es := es) (k : Int) (u : Int)
      have h2 := h.lim u
      have h3 := h.n12
      by_cases hk : u = k
      · subst hk
        have := h.zero
        omega
      · have h4 := hs u hu hk
        have h5 := valP_lim u es fun e he => (h.ed e he).2.1
        omega
    · rw [List.getD, List.getElem?_eq_none (by rw [lit_len]; omega)]
      simp
  · rw [lit_get h.qm, if_pos rfl, h.zero]
    rfl
theorem irc_fwd (h : PileL M k es p) (hs : ∀ u, u < M → u ≠ k → p.getD u 0 < valP es u) (h1 : ∀ u, u < M → u ≠ k → settN M es (litL M es p k) k u = 1) : RecP M k es p :=
  RecP.of_set h.ed h.qm h.len h.zero (fun u hu hne => ⟨(h.lim u).1, hs u hu hne⟩) (lit_pile h hs).ex.tops h1
theorem irc_bwd (h : PileL M k es p) (hs : ∀ u, u < M → u ≠ k → p.getD u 0 < valP es u) (hb : (burntL M es (dualL M k es p) (k : Int)).length = M) :
    (∀ u, u < M → u ≠ k → settN M es (litL M es p k) k u = 1) ∧ pileL M es (litL M es p k) k (settN M es (litL M es p k) k) = p := by
  have hr : RecP M k es p := ⟨h.len, h.zero, fun u hu hne => ⟨(h.lim u).1, hs u hu hne⟩, hb⟩
  have he := (hr.set h.ed h.qm).eq h.ed fun u _ _ => ((lit_pile h hs).lim u).1
  rw [he]
  refine ⟨fun u hu hne => by rw [onesQ, if_pos ⟨hu, hne⟩], List.ext_getElem? fun u => ?_⟩
  by_cases hu : u < M
  · have hp : p[u]? = some (p.getD u 0) := by
      rw [List.getElem?_eq_getElem (by rw [h.len]; exact hu), List.getD, List.getElem?_eq_getElem (by rw [h.len]; exact hu)]
      rfl
    rw [hp, pileL, List.getElem?_map, List.getElem?_range hu]
    by_cases hk : u = k
    · subst hk
      rw [Option.map_some, if_pos rfl, h.zero]
    · rw [Option.map_some, if_neg hk, lit_dv h.ed hu hk, Dv, ones_lit h.ed h.qm, Int.add_zero]
  · rw [List.getElem?_eq_none (by rw [pileL_len]; omega), List.getElem?_eq_none (by rw [h.len]; omega)]
end
noncomputable def ircB (N : Int) (es : List (Int × Int)) (p : List Int) (q : Int) : Bool := stableB N es p q && decide ((burntL N.toNat es (dualL N.toNat q.toNat es p) q).length = N.toNat)
set_option maxRecDepth 100000 in
set_option maxHeartbeats 2000000 in
theorem specIrc (N : Int) (A D : Option Addr) (c cd : Nat) (es : List (Int × Int)) (p : List Int) (q : Int) (w : World) (hn : es.length ≤ 1048576) (hd : p.length ≤ 1048576) (hE : EdgeS w w.heap.size A es) (hS : IntS w w.heap.size D p) :
    Calls Try.prog 101 #[.agg #[.int .i64 N, .slice A es.length c], .slice D p.length cd, .int .i64 q] w fun e w' => e = .returned (.bool (ircB N es p q)) ∧ Below w.heap.size w w' := by
  have HE := Lib.hid hE
  have HS := Lib.hid hS
  have G0 := GB.start w N A c es
  have HD := fun w h1 h2 => Lib.hid (specStable N A D c cd es p q w hn hd h1 h2)
  clear hE hS
  cases h1 : stableB N es p q with
  | false =>
    rw [h1] at HD
    have h0 : ircB N es p q = false := by rw [ircB, h1]; rfl
    rw [h0]
    clear h1 h0
    go_enter Try.func101, Try.ntmps101
    go_wp2_with fail
    refine (HD _ (HE.out.up_ G0.old) (HS.out.up_ G0.old)).out.mono ?_
    rintro e w1 ⟨rfl, hb1⟩
    have G1 := Lib.hid (G0.next hb1)
    clear G0 hb1
    go_wp2
    go_ret
    exact ⟨rfl, G1.out.old⟩
  | true =>
    rw [h1] at HD
    have h2 := h1
    unfold stableB at h2
    rw [Bool.and_eq_true, decide_eq_true_eq] at h2
    obtain ⟨M, k, rfl, rfl, hP, -⟩ := pile_parts h2.1
    have hs := unsF_none h2.2
    rw [Int.toNat_natCast, Int.toNat_natCast] at hs
    have HB := Lib.hid (show ircB (M : Int) es p (k : Int) = decide ((burntL M es (dualL M k es p) (k : Int)).length = M) by rw [ircB, h1, Bool.true_and, Int.toNat_natCast, Int.toNat_natCast])
    have HFW := Lib.hid (irc_fwd hP hs)
    have HBW := Lib.hid (irc_bwd hP hs)
    have HLI := Lib.hid (fun (W : World) h3 h4 => l11Lit_any hP A D c cd W h3 h4)
    have HSE := Lib.hid (fun (X : Option Addr) (cx : Nat) (W : World) h3 h4 => l10Settle_any (lit_pile hP hs) A X c cx W h3 h4)
    obtain ⟨n, hnn⟩ : ∃ n, n = settN M es (litL M es p k) k := ⟨_, rfl⟩
    rw [← hnn] at HFW HBW HSE
    obtain ⟨xs, hxs⟩ : ∃ z, z = pileL M es (litL M es p k) k n := ⟨_, rfl⟩
    have HXL := Lib.hid (show xs.length = M by rw [hxs, pileL_len])
    rw [← hxs] at HBW HSE
    have HL := Lib.hid hP.len
    have HSD := Lib.hid (fun (X : Option Addr) (cx : Nat) (W : World) h3 h4 => specSameD X D cx cd xs p W (by have := HXL.out; have := hP.m6; omega) hd h3 h4)
    rw [HXL.out, hP.len] at HSD
    have hM6 := hP.m6
    have hkM := hP.qm
    clear h1 h2 hP hs hnn hxs
    go_enter Try.func101, Try.ntmps101
    go_wp2_with fail
    refine (HD _ (HE.out.up_ G0.old) (HS.out.up_ G0.old)).out.mono ?_
    rintro e w1 ⟨rfl, hb1⟩
    have G1 := Lib.hid (G0.next hb1)
    have c0 := G1.out.c0
    have c1 := G1.out.c1
    clear G0 hb1 HD
    go_wp2_with fail
    rw [HL.out]
    have HP0 := Lib.hid (show w1.drew.cell? ⟨w.heap.size, 0, none⟩ = some (.int .i64 (M : Int)) ∧ w1.drew.cell? ⟨w.heap.size, 1, none⟩ = some (.slice A es.length c) ∧ Below w.heap.size w w1.drew from ⟨c0, c1, G1.out.old.drew⟩)
    go_region_held3 (fun w' => w'.cell? ⟨w.heap.size, 0, none⟩ = some (.int .i64 (M : Int)) ∧ w'.cell? ⟨w.heap.size, 1, none⟩ = some (.slice A es.length c) ∧ Below w.heap.size w w')
      (first
        | with_reducible exact HP0.out
        | with_reducible exact keepG1 (by assumption) hb3 (Nat.le_refl _)
        | with_reducible exact keepG1 (by assumption) hb4 (Nat.le_refl _))
      (first
        | (go_at_call 154; refine (HLI.out _ (HE.out.up_ HP0.out.2.2) (HS.out.up_ HP0.out.2.2)).mono ?_; rintro e w3 ⟨Y, cy, rfl, ho3, hb3⟩; have hS3 := HP0.out.2.2.trans (hb3.mono HP0.out.2.2.size))
        | (go_at_call 153; refine (HSE.out Y cy w3 (HE.out.up_ hS3) ho3.ints).mono ?_; rintro e w4 ⟨X, C, cx, cc, rfl, hox, hoc, -, hb4⟩))
    have HB4 := Lib.hid (hS3.trans (hb4.mono hS3.size))
    have HX := Lib.hid hox.ints
    have HC := Lib.hid hoc.ints
    clear hb3 hb4 hox hoc ho3 hS3 HP0 HLI HSE c0 c1 G1
    go_wp2
    go_loop [28] (fun i => ∃ j : Nat, j ≤ M ∧ i = .int .i64 j ∧ Hid (∀ u, u < j → u ≠ k → n u = 1)) (fun i => M - (intOf i).toNat)
    case atStart => exact ⟨0, Nat.zero_le _, rfl, Lib.hid fun u hu => absurd hu (by omega)⟩
    case round =>
      obtain ⟨j, hj, rfl, HJ⟩ := hrel
      by_cases hlt : j < M
      · obtain ⟨b1, o1, y, rfl, hb1, he, hc0⟩ := HC.out.at_ (k := j) (by rw [show (cntL M n).length = M by simp [cntL]]; exact hlt)
        obtain rfl : n j = y := by rw [cntL_at hlt] at he; exact Option.some.inj he
        have hi0 : (0 : Int) ≤ (j : Int) := Int.natCast_nonneg _
        have hi1 : (j : Int) < (M : Int) := by omega
        clear he
        by_cases hjk : j = k
        · have t1 : ((j : Int) != (k : Int)) = false := by simp [hjk]
          have HJ2 := Lib.hid (show ∀ u, u < j + 1 → u ≠ k → n u = 1 from fun u hu hne => HJ.out u (by omega) hne)
          clear hjk
          go_wp2
          exact ⟨⟨j + 1, by omega, by go_num, Lib.hid HJ2.out⟩, by simp [intOf]; omega⟩
        · have t1 : ((j : Int) != (k : Int)) = true := by simp; omega
          by_cases hn1 : n j = 1
          · have t2 : (n j != 1) = false := by simp [hn1]
            have HJ2 := Lib.hid (show ∀ u, u < j + 1 → u ≠ k → n u = 1 from fun u hu hne => by
              by_cases e : u = j
              · rw [e]; exact hn1
              · exact HJ.out u (by omega) hne)
            clear hjk hn1
            go_wp2
            exact ⟨⟨j + 1, by omega, by go_num, Lib.hid HJ2.out⟩, by simp [intOf]; omega⟩
          · have t2 : (n j != 1) = true := by simp [hn1]
            have HF := Lib.hid (show ircB (M : Int) es p (k : Int) = false by
              rw [HB.out]
              exact decide_eq_false fun hb => hn1 ((HBW.out hb).1 j hlt hjk))
            clear hjk hn1
            go_wp2
            go_ret
            exact ⟨ret_boolE HF.out.symm, HB4.out⟩
      · have hr := HFW.out fun u hu hne => HJ.out u (by omega) hne
        have HT := Lib.hid (show ircB (M : Int) es p (k : Int) = true by rw [HB.out]; exact decide_eq_true hr.all)
        have HXP := Lib.hid (HBW.out hr.all).2
        have HQ := Lib.hid (HSD.out X cx _ HX.out (HS.out.up_ HB4.out))
        rw [decide_eq_true HXP.out] at HQ
        clear hr
        go_wp2_with fail
        refine HQ.out.mono ?_
        rintro e w5 ⟨rfl, hb5⟩
        have HB5 := Lib.hid (HB4.out.trans (hb5.mono HB4.out.size))
        clear hb5
        go_wp2
        go_ret
        exact ⟨ret_boolE HT.out.symm, HB5.out⟩
end Go.Proofs.Ytdpojcgeblbfeaa
