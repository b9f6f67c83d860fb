/- Sandpiles: IsStable, Stabilize, AvalancheSize: the specification's side. -/
import Derived.OwnWalk
import Derived.Test.YtndncmjhpbjcoaaKPilD
import Derived.Test.YtndncmjhpbjcoaaKBJ
set_option linter.all false
namespace Go.Proofs.Ytndncmjhpbjcoaa
open Go.RowKit

noncomputable def stableB (N : Int) (es : List (Int × Int)) (p : List Int) (q : Int) : Bool := pileB N es p q && decide (unsF N.toNat q.toNat es p = none)
noncomputable def stabX (N : Int) (es : List (Int × Int)) (p : List Int) (q : Int) : List Int := if pileB N es p q = true then pileL N.toNat es p q.toNat (settN N.toNat es p q.toNat) else []
noncomputable def stabC (N : Int) (es : List (Int × Int)) (p : List Int) (q : Int) : List Int := if pileB N es p q = true then cntL N.toNat (settN N.toNat es p q.toNat) else []
noncomputable def avalC (N : Int) (es : List (Int × Int)) (p : List Int) (q : Int) : Int := if pileB N es p q = true then sumV (settN N.toNat es p q.toNat) N.toNat else -1
theorem stabX_f {N : Int} {es : List (Int × Int)} {p : List Int} {q : Int} (h : pileB N es p q = false) : stabX N es p q = [] := by rw [stabX, if_neg (by rw [h]; decide)]
theorem stabC_f {N : Int} {es : List (Int × Int)} {p : List Int} {q : Int} (h : pileB N es p q = false) : stabC N es p q = [] := by rw [stabC, if_neg (by rw [h]; decide)]
theorem avalC_f {N : Int} {es : List (Int × Int)} {p : List Int} {q : Int} (h : pileB N es p q = false) : avalC N es p q = -1 := by rw [avalC, if_neg (by rw [h]; decide)]
theorem stabX_t {M k : Nat} {es : List (Int × Int)} {p : List Int} (h : pileB (M : Int) es p (k : Int) = true) : stabX (M : Int) es p (k : Int) = pileL M es p k (settN M es p k) := by rw [stabX, if_pos h]; rfl
theorem stabC_t {M k : Nat} {es : List (Int × Int)} {p : List Int} (h : pileB (M : Int) es p (k : Int) = true) : stabC (M : Int) es p (k : Int) = cntL M (settN M es p k) := by rw [stabC, if_pos h]; rfl
theorem avalC_t {M k : Nat} {es : List (Int × Int)} {p : List Int} (h : pileB (M : Int) es p (k : Int) = true) : avalC (M : Int) es p (k : Int) = sumV (settN M es p k) M := by rw [avalC, if_pos h]; rfl
theorem stabX_len (N : Int) (es : List (Int × Int)) (p : List Int) (q : Int) : (stabX N es p q).length ≤ 6 := by
  cases h : pileB N es p q with
  | false => rw [stabX_f h]; simp
  | true =>
    obtain ⟨M, k, rfl, rfl, hP, -⟩ := pile_parts h
    rw [stabX_t h, pileL_len]
    exact hP.m6
theorem stabC_len (N : Int) (es : List (Int × Int)) (p : List Int) (q : Int) : (stabC N es p q).length ≤ 6 := by
  cases h : pileB N es p q with
  | false => rw [stabC_f h]; simp
  | true =>
    obtain ⟨M, k, rfl, rfl, hP, -⟩ := pile_parts h
    rw [stabC_t h, cntL_len]
    exact hP.m6
theorem deg_cnt {n : Nat → Int} (h : ∀ u, 0 ≤ n u ∧ n u ≤ 2160) {M : Nat} (hM : M ≤ 6) : degB (cntL M n) M = sumV n M := by
  have key : ∀ k, k ≤ M → degB (cntL M n) k = sumV n k ∧ 0 ≤ sumV n k ∧ sumV n k ≤ 2160 * (k : Int) := fun k => by
    induction k with
    | zero => exact fun _ => ⟨rfl, Int.le_refl _, by simp [sumV]⟩
    | succ k ih =>
      intro hk
      obtain ⟨h1, h2, h3⟩ := ih (by omega)
      have h4 := h k
      have h5 : (cntL M n).getD k 0 = n k := by rw [List.getD, cntL_at (by omega)]; rfl
      rw [degB, sumV, h1, h5]
      exact ⟨wrap64_of (by omega) (by omega), by omega, by omega⟩
  exact (key M (Nat.le_refl _)).1
set_option maxRecDepth 100000 in
set_option maxHeartbeats 1000000 in
theorem specStable (N : Int) (A D : Option Addr) (c cd : Nat) (es : List (Int × Int)) (p : List Int) (q : Int) (w : World) (hn : es.length ≤ 1048576) (hd : p.length ≤ 1048576) (hE : EdgeS w w.heap.size A es) (hS : IntS w w.heap.size D p) :
    Calls Try.prog 79 #[.agg #[.int .i64 N, .slice A es.length c], .slice D p.length cd, .int .i64 q] w fun e w' => e = .returned (.bool (stableB N es p q)) ∧ Below w.heap.size w w' := by
  have HE := Lib.hid hE
  have HS := Lib.hid hS
  have G0 := GB.start w N A c es
  have HD := fun w h1 h2 => Lib.hid (specPile N A D c cd es p q w hn hd h1 h2)
  unfold stableB
  clear hE hS
  cases h1 : pileB N es p q with
  | false =>
    rw [h1] at HD
    clear h1
    go_enter Try.func79, Try.ntmps79
    go_wp2_with fail
    refine (HD _ (HE.out.up_ G0.old) (HS.out.up_ G0.old)).out.mono ?_
    rintro e w1 ⟨rfl, hb1⟩
    have G1 := Lib.hid (G0.next hb1)
    clear G0 hb1
    go_wp2
    go_ret
    exact ⟨ret_boolE rfl, G1.out.old⟩
  | true =>
    rw [h1] at HD
    obtain ⟨M, k, rfl, rfl, hP, -⟩ := pile_parts h1
    have HU := fun w a b => Lib.hid (l10Unst_any A D c cd M k es p w hP.m6 hP.n12 hP.ed hP.len a b)
    rw [Int.toNat_natCast, Int.toNat_natCast]
    have HL := Lib.hid hP.len
    obtain ⟨r, hr⟩ : ∃ r, r = unsF M k es p := ⟨_, rfl⟩
    rw [← hr] at HU ⊢
    have t1 : decide (unsI r < 0) = decide (r = none) := by
      cases r with
      | none => rfl
      | some v =>
        have : ¬ (v : Int) < 0 := by omega
        simp [unsI, this]
    have HT1 := Lib.hid t1
    obtain ⟨z, hz⟩ : ∃ z, z = unsI r := ⟨_, rfl⟩
    rw [← hz] at HU HT1
    clear h1 hP hr t1 hz
    go_enter Try.func79, Try.ntmps79
    go_wp2_with fail
    refine (HD _ (HE.out.up_ G0.old) (HS.out.up_ G0.old)).out.mono ?_
    rintro e w1 ⟨rfl, hb1⟩
    have G1 := Lib.hid (G0.next hb1)
    have c0 := G1.out.c0
    have c1 := G1.out.c1
    clear G0 hb1
    go_wp2_with fail
    rw [HL.out]
    refine (HU _ (HE.out.up_ G1.out.old) (HS.out.up_ G1.out.old)).out.mono ?_
    rintro e w2 ⟨rfl, hb2⟩
    have G2 := Lib.hid (G1.out.next hb2)
    clear hb2 c0 c1
    go_wp2
    go_ret
    exact ⟨ret_boolE (by rw [HT1.out]; simp), G2.out.old⟩
def GivesTwoOk (w : World) (xs ys : List Int) (b : Bool) (e : Ending) (w' : World) : Prop :=
  ∃ (A1 A2 : Option Addr) (c1 c2 : Nat), e = .returned (.tuple #[.slice A1 xs.length c1, .slice A2 ys.length c2, .bool b]) ∧ OwnI w' w.heap.size A1 xs ∧ OwnI w' w.heap.size A2 ys ∧ (0 < xs.length → 0 < ys.length → ∀ g1 o1 g2 o2, A1 = some ⟨g1, o1, none⟩ → A2 = some ⟨g2, o2, none⟩ → g1 ≠ g2) ∧ Below w.heap.size w w'
set_option maxRecDepth 100000 in
set_option maxHeartbeats 1000000 in
theorem specStab (N : Int) (A D : Option Addr) (c cd : Nat) (es : List (Int × Int)) (p : List Int) (q : Int) (w : World) (hn : es.length ≤ 1048576) (hd : p.length ≤ 1048576) (hE : EdgeS w w.heap.size A es) (hS : IntS w w.heap.size D p) :
    Calls Try.prog 30 #[.agg #[.int .i64 N, .slice A es.length c], .slice D p.length cd, .int .i64 q] w (GivesTwoOk w (stabX N es p q) (stabC N es p q) (pileB N es p q)) := by
  have HE := Lib.hid hE
  have HS := Lib.hid hS
  have G0 := GB.start w N A c es
  have HD := fun w h1 h2 => Lib.hid (specPile N A D c cd es p q w hn hd h1 h2)
  clear hE hS
  cases h1 : pileB N es p q with
  | false =>
    rw [h1] at HD
    rw [stabX_f h1, stabC_f h1]
    clear h1
    go_enter Try.func30, Try.ntmps30
    go_wp2_with fail
    refine (HD _ (HE.out.up_ G0.old) (HS.out.up_ G0.old)).out.mono ?_
    rintro e w1 ⟨rfl, hb1⟩
    have G1 := Lib.hid (G0.next hb1)
    clear G0 hb1
    go_wp2
    go_ret3
    exact ⟨none, none, 0, 0, rfl, OwnI.nil _ _ _, OwnI.nil _ _ _, fun h => absurd h (by simp), G1.out.old⟩
  | true =>
    rw [h1] at HD
    obtain ⟨M, k, rfl, rfl, hP, -⟩ := pile_parts h1
    rw [stabX_t h1, stabC_t h1]
    have HST := Lib.hid (fun (w : World) a b => l10Settle_any hP A D c cd w a b)
    have HL := Lib.hid hP.len
    have HX := Lib.hid (pileL_len M es p k (settN M es p k))
    have HC := Lib.hid (cntL_len M (settN M es p k))
    obtain ⟨xs, hxs⟩ : ∃ z, z = pileL M es p k (settN M es p k) := ⟨_, rfl⟩
    obtain ⟨ys, hys⟩ : ∃ z, z = cntL M (settN M es p k) := ⟨_, rfl⟩
    rw [← hxs, ← hys] at HST
    rw [← hxs] at HX
    rw [← hys] at HC
    rw [← hxs, ← hys]
    clear h1 hP hxs hys
    go_enter Try.func30, Try.ntmps30
    go_wp2_with fail
    refine (HD _ (HE.out.up_ G0.old) (HS.out.up_ G0.old)).out.mono ?_
    rintro e w1 ⟨rfl, hb1⟩
    have G1 := Lib.hid (G0.next hb1)
    have c0 := G1.out.c0
    have c1 := G1.out.c1
    clear G0 hb1
    go_wp2_with fail
    rw [HL.out]
    refine (HST.out _ (HE.out.up_ G1.out.old) (HS.out.up_ G1.out.old)).mono ?_
    rintro e w2 ⟨A1, A2, c1', c2, rfl, ho1, ho2, hap, hb2⟩
    have G2 := Lib.hid (G1.out.next hb2)
    have HO1 := Lib.hid (ho1.mono G1.out.old.size)
    have HO2 := Lib.hid (ho2.mono G1.out.old.size)
    have HAP := Lib.hid hap
    clear hb2 c0 c1 ho1 ho2 hap
    go_wp2
    go_ret3
    exact ⟨A1, A2, c1', c2, by rw [HX.out, HC.out]; rfl, HO1.out, HO2.out, fun _ _ => HAP.out, G2.out.old⟩
set_option maxRecDepth 100000 in
set_option maxHeartbeats 1000000 in
theorem specAval (N : Int) (A D : Option Addr) (c cd : Nat) (es : List (Int × Int)) (p : List Int) (q : Int) (w : World) (hn : es.length ≤ 1048576) (hd : p.length ≤ 1048576) (hE : EdgeS w w.heap.size A es) (hS : IntS w w.heap.size D p) :
    Calls Try.prog 38 #[.agg #[.int .i64 N, .slice A es.length c], .slice D p.length cd, .int .i64 q] w fun e w' => e = .returned (.int .i64 (avalC N es p q)) ∧ Below w.heap.size w w' := by
  have HE := Lib.hid hE
  have HS := Lib.hid hS
  have G0 := GB.start w N A c es
  have HD := fun w h1 h2 => Lib.hid (specStab N A D c cd es p q w hn hd h1 h2)
  clear hE hS
  cases h1 : pileB N es p q with
  | false =>
    rw [h1] at HD
    rw [avalC_f h1]
    clear h1
    go_enter Try.func38, Try.ntmps38
    go_wp2_with fail
    refine (HD _ (HE.out.up_ G0.old) (HS.out.up_ G0.old)).out.mono ?_
    rintro e w1 ⟨A1, A2, c1, c2, rfl, -, -, -, hb1⟩
    have G1 := Lib.hid (G0.next hb1)
    clear G0 hb1
    go_wp2
    go_ret
    exact ⟨rfl, G1.out.old⟩
  | true =>
    rw [h1] at HD
    obtain ⟨M, k, rfl, rfl, hP, -⟩ := pile_parts h1
    rw [avalC_t h1, ← deg_cnt (n := settN M es p k) (hP.ex.tops.lims hP) hP.m6]
    rw [stabC_t h1] at HD
    have HC := cntL_len M (settN M es p k)
    have hm6 := hP.m6
    obtain ⟨ys, hys⟩ : ∃ z, z = cntL M (settN M es p k) := ⟨_, rfl⟩
    rw [← hys] at HD HC ⊢
    rw [show degB ys M = degB ys ys.length by rw [HC]]
    have HDG := Lib.hid (fun (X : Option Addr) (cx : Nat) (W : World) (h : IntS W W.heap.size X ys) => specDeg X cx ys W (by omega) h)
    obtain ⟨z, hz⟩ : ∃ z, z = degB ys ys.length := ⟨_, rfl⟩
    rw [← hz] at HDG ⊢
    clear h1 hP hys HC hz hm6
    go_enter Try.func38, Try.ntmps38
    go_wp2_with fail
    refine (HD _ (HE.out.up_ G0.old) (HS.out.up_ G0.old)).out.mono ?_
    rintro e w1 ⟨A1, A2, c1, c2, rfl, -, ho, -, hb1⟩
    have G1 := Lib.hid (G0.next hb1)
    have HO := Lib.hid ho.ints
    clear G0 hb1 ho
    go_wp2_with fail
    refine (HDG.out A2 c2 _ HO.out).mono ?_
    rintro e w2 ⟨rfl, hb2⟩
    have G2 := Lib.hid (G1.out.next hb2)
    clear hb2
    go_wp2
    go_ret
    exact ⟨rfl, G2.out.old⟩
end Go.Proofs.Ytndncmjhpbjcoaa
