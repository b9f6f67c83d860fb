/- InversePile: both sides. -/
import Derived.Test.YtndncmjhpbjcoaaRIrcI
set_option linter.all false
namespace Go.Proofs.Ytndncmjhpbjcoaa
open Go.RowKit

noncomputable def ivpX (N : Int) (es : List (Int × Int)) (p : List Int) (q : Int) : List Int := if ircB N es p q = true then recC N.toNat q.toNat es (negB p) else []
theorem ivpX_f {N : Int} {es : List (Int × Int)} {p : List Int} {q : Int} (h : ircB N es p q = false) : ivpX N es p q = [] := by rw [ivpX, if_neg (by rw [h]; decide)]
theorem ivpX_t {M k : Nat} {es : List (Int × Int)} {p : List Int} (h : ircB (M : Int) es p (k : Int) = true) : ivpX (M : Int) es p (k : Int) = recC M k es (negB p) := by rw [ivpX, if_pos h]; rfl
theorem ivpX_len (N : Int) (es : List (Int × Int)) (p : List Int) (q : Int) : (ivpX N es p q).length ≤ 6 := by
  cases h : ircB N es p q with
  | false => rw [ivpX_f h]; simp
  | true =>
    have h2 := h
    unfold ircB stableB at h2
    rw [Bool.and_eq_true, Bool.and_eq_true] at h2
    obtain ⟨M, k, rfl, rfl, hP, -⟩ := pile_parts h2.1.1
    rw [ivpX_t h, recC_len]
    exact hP.m6
theorem neg_get (p : List Int) (u : Nat) (h : 0 ≤ p.getD u 0 ∧ p.getD u 0 ≤ 60) : (negB p).getD u 0 = -p.getD u 0 := by
  rw [List.getD, List.getD] at *
  unfold negB
  rw [List.getElem?_map]
  cases e : p[u]? with
  | none => simp
  | some x =>
    rw [e, Option.getD_some] at h
    exact wrap64_of (by omega) (by omega)
theorem neg_lim {p : List Int} (h : ∀ u, 0 ≤ p.getD u 0 ∧ p.getD u 0 ≤ 60) (u : Nat) : -60 ≤ (negB p).getD u 0 ∧ (negB p).getD u 0 ≤ 60 := by
  rw [neg_get p u (h u)]
  have := h u
  omega
theorem neg_zero {p : List Int} {k : Nat} (h : p.getD k 0 = 0) : (negB p).getD k 0 = 0 := by
  rw [neg_get p k (by omega), h]
  rfl
set_option maxRecDepth 100000 in
set_option maxHeartbeats 2000000 in
theorem specIvp (N : Int) (A D : Option Addr) (c cd : Nat) (es : List (Int × Int)) (p : List Int) (q : Int) (w : World) (hn : es.length ≤ 1048576) (hd : p.length ≤ 1048576) (hE : EdgeS w w.heap.size A es) (hS : IntS w w.heap.size D p) :
    Calls Try.prog 45 #[.agg #[.int .i64 N, .slice A es.length c], .slice D p.length cd, .int .i64 q] w (GivesIntsOk w (ivpX N es p q) (ircB N es p q)) := by
  have HE := Lib.hid hE
  have HS := Lib.hid hS
  have G0 := GB.start w N A c es
  have HD := fun w h1 h2 => Lib.hid (specIrc N A D c cd es p q w hn hd h1 h2)
  have HNG := Lib.hid (fun (W : World) (h : IntS W W.heap.size D p) => specNeg D cd p W hd h)
  clear hE hS
  cases h1 : ircB N es p q with
  | false =>
    rw [h1] at HD
    rw [ivpX_f h1]
    clear h1 HNG
    go_enter Try.func45, Try.ntmps45
    go_wp2_with fail
    refine (HD _ (HE.out.up_ G0.old) (HS.out.up_ G0.old)).out.mono ?_
    rintro e w1 ⟨rfl, hb1⟩
    have G1 := Lib.hid (G0.next hb1)
    clear G0 hb1
    go_wp2
    go_ret2
    exact ⟨none, 0, rfl, OwnI.nil _ _ _, G1.out.old⟩
  | true =>
    rw [h1] at HD
    have h2 := h1
    unfold ircB stableB at h2
    rw [Bool.and_eq_true, Bool.and_eq_true] at h2
    obtain ⟨M, k, rfl, rfl, hP, hg⟩ := pile_parts h2.1.1
    have hnl : (negB p).length = M := by rw [negB_length, hP.len]
    have hnb := neg_lim fun u => hP.lim u
    have hnz : (negB p).getD k 0 = 0 := neg_zero hP.zero
    rw [ivpX_t h1]
    unfold GivesInts at HNG
    rw [hnl] at HNG
    have HCL := Lib.hid (fun (X : Option Addr) (cx : Nat) (W : World) h3 h4 => l11Class_any A X c cx M k es (negB p) W hg hP.qm hP.m6 hP.n12 hP.ed hP.cut hnl hnb hnz h3 h4)
    have HRL := Lib.hid (recC_len (M := M) (q := k) (es := es) (p := negB p))
    clear h1 h2 hP hg hnl hnb hnz
    go_enter Try.func45, Try.ntmps45
    go_wp2_with fail
    refine (HD _ (HE.out.up_ G0.old) (HS.out.up_ G0.old)).out.mono ?_
    rintro e w1 ⟨rfl, hb1⟩
    have G1 := Lib.hid (G0.next hb1)
    have c0 := G1.out.c0
    have c1 := G1.out.c1
    clear G0 hb1 HD
    go_wp2_with fail
    have HP0 := Lib.hid (show w1.drew.cell? ⟨w.heap.size, 0, none⟩ = some (.int .i64 (M : Int)) ∧ w1.drew.cell? ⟨w.heap.size, 1, none⟩ = some (.slice A es.length c) ∧ Below w.heap.size w w1.drew from ⟨c0, c1, G1.out.old.drew⟩)
    go_region_held3 (fun w' => w'.cell? ⟨w.heap.size, 0, none⟩ = some (.int .i64 (M : Int)) ∧ w'.cell? ⟨w.heap.size, 1, none⟩ = some (.slice A es.length c) ∧ Below w.heap.size w w')
      (first
        | with_reducible exact HP0.out
        | with_reducible exact keepG1 (by assumption) hb3 (Nat.le_refl _)
        | with_reducible exact keepG1 (by assumption) hb5 (Nat.le_refl _))
      (first
        | (go_at_call 87; refine (HNG.out _ (HS.out.up_ HP0.out.2.2)).mono ?_; rintro e w3 ⟨X, cx, rfl, ho3, hb3⟩; have hS3 := HP0.out.2.2.trans (hb3.mono HP0.out.2.2.size))
        | (go_at_call 84; refine (HCL.out X cx w3 (HE.out.up_ hS3) ho3.ints).mono ?_; rintro e w5 ⟨A5, c5, rfl, ho5, hb5⟩))
    have HB5 := Lib.hid (hS3.trans (hb5.mono hS3.size))
    have HO5 := Lib.hid (ho5.mono hS3.size)
    clear hb3 hb5 ho3 ho5 hS3 HP0 HNG HCL c0 c1 G1
    go_wp2
    go_ret2
    exact ⟨A5, c5, by rw [HRL.out]; rfl, HO5.out, HB5.out⟩
set_option maxRecDepth 100000 in
set_option maxHeartbeats 2000000 in
theorem implIvp (N : Int) (A D : Option Addr) (c cd : Nat) (es : List (Int × Int)) (p : List Int) (q : Int) (w : World) (hn : es.length ≤ 1048576) (hd : p.length ≤ 1048576) (hE : EdgeS w w.heap.size A es) (hS : IntS w w.heap.size D p) :
    Calls Try.prog 26 #[.agg #[.int .i64 N, .slice A es.length c], .slice D p.length cd, .int .i64 q] w (GivesIntsOk w (ivpX N es p q) (ircB N es p q)) := by
  have HE := Lib.hid hE
  have HS := Lib.hid hS
  have G0 := GB.start w N A c es
  have HD := fun w h1 h2 => Lib.hid (implIrc N A D c cd es p q w hn hd h1 h2)
  have HNG := Lib.hid (fun (W : World) (h : IntS W W.heap.size D p) => implNeg D cd p W hd h)
  clear hE hS
  cases h1 : ircB N es p q with
  | false =>
    rw [h1] at HD
    rw [ivpX_f h1]
    clear h1 HNG
    go_enter Try.func26, Try.ntmps26
    go_wp2_with fail
    refine (HD _ (HE.out.up_ G0.old) (HS.out.up_ G0.old)).out.mono ?_
    rintro e w1 ⟨rfl, hb1⟩
    have G1 := Lib.hid (G0.next hb1)
    clear G0 hb1
    go_wp2
    go_ret2
    exact ⟨none, 0, rfl, OwnI.nil _ _ _, G1.out.old⟩
  | true =>
    rw [h1] at HD
    have h2 := h1
    unfold ircB stableB at h2
    rw [Bool.and_eq_true, Bool.and_eq_true] at h2
    obtain ⟨M, k, rfl, rfl, hP, hg⟩ := pile_parts h2.1.1
    have hnl : (negB p).length = M := by rw [negB_length, hP.len]
    have hnb := neg_lim fun u => hP.lim u
    have hnz : (negB p).getD k 0 = 0 := neg_zero hP.zero
    rw [ivpX_t h1]
    unfold GivesInts at HNG
    rw [hnl] at HNG
    have HCF := Lib.hid (fun (X : Option Addr) (cx : Nat) (W : World) h3 => cfg_any A X c cx M k es W hg hP.qm hP.n12 h3)
    have HRU := Lib.hid (fun (X F : Option Addr) (cx cf : Nat) (W : World) h3 h4 h5 => recu_any A X F c cx cf M k es (negB p) W hP.qm hP.m6 hP.n12 hP.ed hP.cut hnl hnb hnz h3 h4 h5)
    have HRL := Lib.hid (recC_len (M := M) (q := k) (es := es) (p := negB p))
    clear h1 h2 hP hg hnl hnb hnz
    go_enter Try.func26, Try.ntmps26
    go_wp2_with fail
    refine (HD _ (HE.out.up_ G0.old) (HS.out.up_ G0.old)).out.mono ?_
    rintro e w1 ⟨rfl, hb1⟩
    have G1 := Lib.hid (G0.next hb1)
    have c0 := G1.out.c0
    have c1 := G1.out.c1
    clear G0 hb1 HD
    go_wp2_with fail
    have HP0 := Lib.hid (show w1.drew.cell? ⟨w.heap.size, 0, none⟩ = some (.int .i64 (M : Int)) ∧ w1.drew.cell? ⟨w.heap.size, 1, none⟩ = some (.slice A es.length c) ∧ Below w.heap.size w w1.drew from ⟨c0, c1, G1.out.old.drew⟩)
    go_region_held3 (fun w' => w'.cell? ⟨w.heap.size, 0, none⟩ = some (.int .i64 (M : Int)) ∧ w'.cell? ⟨w.heap.size, 1, none⟩ = some (.slice A es.length c) ∧ Below w.heap.size w w')
      (first
        | with_reducible exact HP0.out
        | with_reducible exact keepG1 (by assumption) hb3 (Nat.le_refl _)
        | with_reducible exact keepG1 (by assumption) hb4 (Nat.le_refl _)
        | with_reducible exact keepG1 (by assumption) hb5 (Nat.le_refl _))
      (first
        | (go_at_call 69; refine (HNG.out _ (HS.out.up_ HP0.out.2.2)).mono ?_; rintro e w3 ⟨X, cx, rfl, ho3, hb3⟩; have hS3 := HP0.out.2.2.trans (hb3.mono HP0.out.2.2.size))
        | (go_at_call 66; refine (HCF.out X cx w3 (HE.out.up_ hS3)).mono ?_; rintro e w4 ⟨F, cf, rfl, ho4, hb4⟩; have hS4 := hS3.trans (hb4.mono hS3.size))
        | (go_at_call 67; refine (HRU.out X F cx cf w4 (HE.out.up_ hS4) (ho3.below hb4).ints ho4.ints).mono ?_; rintro e w5 ⟨A5, c5, rfl, ho5, hb5⟩))
    have HB5 := Lib.hid (hS4.trans (hb5.mono hS4.size))
    have HO5 := Lib.hid (ho5.mono hS4.size)
    clear hb3 hb4 hb5 ho3 ho4 ho5 hS3 hS4 HP0 HNG HCF HRU c0 c1 G1
    go_wp2
    go_ret2
    exact ⟨A5, c5, by rw [HRL.out]; rfl, HO5.out, HB5.out⟩
end Go.Proofs.Ytndncmjhpbjcoaa
