/- LevelOf: both sides. -/
import Derived.Test.YtndncmjhpbjcoaaRIrcI
import Derived.Test.YtndncmjhpbjcoaaRBJ
set_option linter.all false
namespace Go.Proofs.Ytndncmjhpbjcoaa
open Go.RowKit

noncomputable def levX (N : Int) (es : List (Int × Int)) (p : List Int) (q : Int) : Int := if ircB N es p q = true then IntKind.i64.wrap (IntKind.i64.wrap (degB p p.length + valP es q.toNat) - (es.length : Int)) else 0
theorem levX_f {N : Int} {es : List (Int × Int)} {p : List Int} {q : Int} (h : ircB N es p q = false) : levX N es p q = 0 := by rw [levX, if_neg (by rw [h]; decide)]
theorem levX_t {M k : Nat} {es : List (Int × Int)} {p : List Int} (h : ircB (M : Int) es p (k : Int) = true) : levX (M : Int) es p (k : Int) = IntKind.i64.wrap (IntKind.i64.wrap (degB p p.length + valP es k) - (es.length : Int)) := by rw [levX, if_pos h]; rfl
set_option maxRecDepth 100000 in
set_option maxHeartbeats 1000000 in
theorem specLev (N : Int) (A D : Option Addr) (c cd : Nat) (es : List (Int × Int)) (p : List Int) (q : Int) (w : World) (hn : es.length ≤ 1048576) (hd : p.length ≤ 1048576) (hE : EdgeS w w.heap.size A es) (hS : IntS w w.heap.size D p) :
    Calls Try.prog 51 #[.agg #[.int .i64 N, .slice A es.length c], .slice D p.length cd, .int .i64 q] w fun e w' => e = .returned (.tuple #[.int .i64 (levX N es p q), .bool (ircB N es p q)]) ∧ Below w.heap.size w w' := by
  have HE := Lib.hid hE
  have HS := Lib.hid hS
  have G0 := GB.start w N A c es
  have HD := fun w h1 h2 => Lib.hid (specIrc N A D c cd es p q w hn hd h1 h2)
  have HDG := Lib.hid (fun (W : World) (h : IntS W W.heap.size D p) => specDeg D cd p W hd h)
  clear hE hS
  cases h1 : ircB N es p q with
  | false =>
    rw [h1] at HD
    rw [levX_f h1]
    clear h1 HDG
    go_enter Try.func51, Try.ntmps51
    go_wp2_with fail
    refine (HD _ (HE.out.up_ G0.old) (HS.out.up_ G0.old)).out.mono ?_
    rintro e w1 ⟨rfl, hb1⟩
    have G1 := Lib.hid (G0.next hb1)
    clear G0 hb1
    go_wp2
    go_ret2
    exact ⟨rfl, G1.out.old⟩
  | true =>
    rw [h1] at HD
    have h2 := h1
    unfold ircB stableB at h2
    rw [Bool.and_eq_true, Bool.and_eq_true] at h2
    obtain ⟨M, k, rfl, rfl, hP, -⟩ := pile_parts h2.1.1
    have hes := hP.ed
    have hqm := hP.qm
    have hn12 := hP.n12
    have hm6 := hP.m6
    have HVL := Lib.hid (show ∀ (W : World), EdgeS W W.heap.size A es → Calls Try.prog 95 #[.agg #[.int .i64 (M : Int), .slice A es.length c], .int .i64 (k : Int)] W fun e w' => e = .returned (.int .i64 (valP es k)) ∧ Below W.heap.size W w' from fun W h => by
      have k0 := specVal_yes (M : Int) A c es (k : Int) W (by omega) (vB_t (by omega)) h
      rw [val_P k es fun e he => (hes e he).2.1] at k0
      exact k0)
    rw [levX_t h1]
    obtain ⟨dz, hdz⟩ : ∃ z, z = degB p p.length := ⟨_, rfl⟩
    obtain ⟨vz, hvz⟩ : ∃ z, z = valP es k := ⟨_, rfl⟩
    rw [← hdz] at HDG ⊢
    rw [← hvz] at HVL ⊢
    clear h1 h2 hP hes hdz hvz
    go_enter Try.func51, Try.ntmps51
    go_wp2_with fail
    refine (HD _ (HE.out.up_ G0.old) (HS.out.up_ G0.old)).out.mono ?_
    rintro e w1 ⟨rfl, hb1⟩
    have G1 := Lib.hid (G0.next hb1)
    have c0 := G1.out.c0
    have c1 := G1.out.c1
    clear G0 hb1 HD
    go_wp2_with fail
    have HP0 := Lib.hid (show w1.drew.cell? ⟨w.heap.size, 0, none⟩ = some (.int .i64 (M : Int)) ∧ w1.drew.cell? ⟨w.heap.size, 1, none⟩ = some (.slice A es.length c) ∧ Below w.heap.size w w1.drew from ⟨c0, c1, G1.out.old.drew⟩)
    go_region_held3 (fun w' => w'.cell? ⟨w.heap.size, 0, none⟩ = some (.int .i64 (M : Int)) ∧ w'.cell? ⟨w.heap.size, 1, none⟩ = some (.slice A es.length c) ∧ Below w.heap.size w w')
      (first
        | with_reducible exact HP0.out
        | with_reducible exact keepG1 (by assumption) hb3 (Nat.le_refl _)
        | with_reducible exact keepG1 (by assumption) hb4 (Nat.le_refl _))
      (first
        | (go_at_call 78; refine (HDG.out _ (HS.out.up_ HP0.out.2.2)).mono ?_; rintro e w3 ⟨rfl, hb3⟩; have hS3 := HP0.out.2.2.trans (hb3.mono HP0.out.2.2.size))
        | (go_at_call 95; refine (HVL.out w3 (HE.out.up_ hS3)).mono ?_; rintro e w4 ⟨rfl, hb4⟩))
    have HB4 := Lib.hid (hS3.trans (hb4.mono hS3.size))
    clear hb3 hb4 hS3 HP0 HDG HVL c0 c1 G1
    go_wp2
    go_ret2
    exact ⟨rfl, HB4.out⟩
set_option maxRecDepth 100000 in
set_option maxHeartbeats 1000000 in
theorem implLev (N : Int) (A D : Option Addr) (c cd : Nat) (es : List (Int × Int)) (p : List Int) (q : Int) (w : World) (hn : es.length ≤ 1048576) (hd : p.length ≤ 1048576) (hE : EdgeS w w.heap.size A es) (hS : IntS w w.heap.size D p) :
    Calls Try.prog 52 #[.agg #[.int .i64 N, .slice A es.length c], .slice D p.length cd, .int .i64 q] w fun e w' => e = .returned (.tuple #[.int .i64 (levX N es p q), .bool (ircB N es p q)]) ∧ Below w.heap.size w w' := by
  have HE := Lib.hid hE
  have HS := Lib.hid hS
  have G0 := GB.start w N A c es
  have HD := fun w h1 h2 => Lib.hid (implIrc N A D c cd es p q w hn hd h1 h2)
  have HDG := Lib.hid (fun (W : World) (h : IntS W W.heap.size D p) => implDeg D cd p W hd h)
  clear hE hS
  cases h1 : ircB N es p q with
  | false =>
    rw [h1] at HD
    rw [levX_f h1]
    clear h1 HDG
    go_enter Try.func52, Try.ntmps52
    go_wp2_with fail
    refine (HD _ (HE.out.up_ G0.old) (HS.out.up_ G0.old)).out.mono ?_
    rintro e w1 ⟨rfl, hb1⟩
    have G1 := Lib.hid (G0.next hb1)
    clear G0 hb1
    go_wp2
    go_ret2
    exact ⟨rfl, G1.out.old⟩
  | true =>
    rw [h1] at HD
    have h2 := h1
    unfold ircB stableB at h2
    rw [Bool.and_eq_true, Bool.and_eq_true] at h2
    obtain ⟨M, k, rfl, rfl, hP, -⟩ := pile_parts h2.1.1
    have hes := hP.ed
    have hqm := hP.qm
    have hn12 := hP.n12
    have hm6 := hP.m6
    have HVL := Lib.hid (show ∀ (W : World), EdgeS W W.heap.size A es → Calls Try.prog 96 #[.agg #[.int .i64 (M : Int), .slice A es.length c], .int .i64 (k : Int)] W fun e w' => e = .returned (.int .i64 (valP es k)) ∧ Below W.heap.size W w' from fun W h => by
      have k0 := implVal_yes (M : Int) A c es (k : Int) W (by omega) (fun e he => by have := hes e he; exact ⟨wf_small (by omega) (by omega), wf_small (by omega) (by omega)⟩) (vB_t (by omega)) h
      rw [val_P k es fun e he => (hes e he).2.1] at k0
      exact k0)
    rw [levX_t h1]
    obtain ⟨dz, hdz⟩ : ∃ z, z = degB p p.length := ⟨_, rfl⟩
    obtain ⟨vz, hvz⟩ : ∃ z, z = valP es k := ⟨_, rfl⟩
    rw [← hdz] at HDG ⊢
    rw [← hvz] at HVL ⊢
    clear h1 h2 hP hes hdz hvz
    go_enter Try.func52, Try.ntmps52
    go_wp2_with fail
    refine (HD _ (HE.out.up_ G0.old) (HS.out.up_ G0.old)).out.mono ?_
    rintro e w1 ⟨rfl, hb1⟩
    have G1 := Lib.hid (G0.next hb1)
    have c0 := G1.out.c0
    have c1 := G1.out.c1
    clear G0 hb1 HD
    go_wp2_with fail
    have HP0 := Lib.hid (show w1.drew.cell? ⟨w.heap.size, 0, none⟩ = some (.int .i64 (M : Int)) ∧ w1.drew.cell? ⟨w.heap.size, 1, none⟩ = some (.slice A es.length c) ∧ Below w.heap.size w w1.drew from ⟨c0, c1, G1.out.old.drew⟩)
    go_region_held3 (fun w' => w'.cell? ⟨w.heap.size, 0, none⟩ = some (.int .i64 (M : Int)) ∧ w'.cell? ⟨w.heap.size, 1, none⟩ = some (.slice A es.length c) ∧ Below w.heap.size w w')
      (first
        | with_reducible exact HP0.out
        | with_reducible exact keepG1 (by assumption) hb3 (Nat.le_refl _)
        | with_reducible exact keepG1 (by assumption) hb4 (Nat.le_refl _))
      (first
        | (go_at_call 21; refine (HDG.out _ (HS.out.up_ HP0.out.2.2)).mono ?_; rintro e w3 ⟨rfl, hb3⟩; have hS3 := HP0.out.2.2.trans (hb3.mono HP0.out.2.2.size))
        | (go_at_call 96; refine (HVL.out w3 (HE.out.up_ hS3)).mono ?_; rintro e w4 ⟨rfl, hb4⟩))
    have HB4 := Lib.hid (hS3.trans (hb4.mono hS3.size))
    clear hb3 hb4 hS3 HP0 HDG HVL c0 c1 G1
    go_wp2
    go_ret2
    exact ⟨rfl, HB4.out⟩
end Go.Proofs.Ytndncmjhpbjcoaa
