/- Sandpiles: the program's IsStable, FullPile. -/
import Derived.Test.YtndncmjhpbjcoaaGPilY
import Derived.Test.YtndncmjhpbjcoaaGPilE
import Derived.Test.YtndncmjhpbjcoaaGPilF
import Derived.Test.YtndncmjhpbjcoaaGPilC
import Derived.Test.YtndncmjhpbjcoaaGBI
import Derived.Test.YtndncmjhpbjcoaaGBE
import Derived.Test.YtndncmjhpbjcoaaGBF
set_option linter.all false
namespace Go.Proofs.Ytndncmjhpbjcoaa
open Go.RowKit

set_option maxRecDepth 100000 in
set_option maxHeartbeats 1000000 in
theorem implStable (N : Int) (A D : Option Addr) (c cd : Nat) (es : List (Int × Int)) (p : List Int) (q : Int) (w : World) (hn : es.length ≤ 1048576) (hd : p.length ≤ 1048576) (hE : EdgeS w w.heap.size A es) (hS : IntS w w.heap.size D p) :
    Calls Try.prog 19 #[.agg #[.int .i64 N, .slice A es.length c], .slice D p.length cd, .int .i64 q] w fun e w' => e = .returned (.bool (stableB N es p q)) ∧ Below w.heap.size w w' := by
  have HE := Lib.hid hE
  have HS := Lib.hid hS
  have G0 := GB.start w N A c es
  have HD := fun w h1 h2 => Lib.hid (implPile N A D c cd es p q w hn hd h1 h2)
  unfold stableB
  clear hE hS
  cases h1 : pileB N es p q with
  | false =>
    rw [h1] at HD
    clear h1
    go_enter Try.func19, Try.ntmps19
    go_wp2_with fail
    refine (HD _ (HE.out.up_ G0.old) (HS.out.up_ G0.old)).out.mono ?_
    rintro e w1 ⟨rfl, hb1⟩
    have G1 := Lib.hid (G0.next hb1)
    clear G0 hb1
    go_wp2
    go_ret
    exact ⟨ret_boolE rfl, G1.out.old⟩
  | true =>
    rw [h1] at HD
    obtain ⟨M, k, rfl, rfl, hP, -⟩ := pile_parts h1
    have hl := hP.len
    have HU := Lib.hid (fun (sp pb g cg : Nat) (W : World) (hb : Below w.heap.size w W) (h : Pile W sp pb g p.length cg c k A es p) => firstUnst_any sp pb g p.length cg c k w.heap.size A es p W hb.size hP.n12 (fun e he => (hP.ed e he).2.1) (by rw [hl]; exact hP.m6) rfl h (HE.out.below hb))
    have HM := Lib.hid (fun (W : World) (h : IntS W W.heap.size D p) => pileOf_any (M : Int) A D c cd k es p W (by have := hP.m0; omega) hd h)
    rw [Int.toNat_natCast, Int.toNat_natCast]
    rw [hl] at HU
    obtain ⟨r, hr⟩ : ∃ r, r = unsF M k es p := ⟨_, rfl⟩
    rw [← hr] at HU ⊢
    have t1 : (unsI r == (-1 : Int)) = decide (r = none) := by
      cases r with
      | none => rfl
      | some v =>
        have : ¬ (v : Int) = -1 := by omega
        simp [unsI, this]
    have HT1 := Lib.hid t1
    obtain ⟨z, hz⟩ : ∃ z, z = unsI r := ⟨_, rfl⟩
    rw [← hz] at HU HT1
    have HL := Lib.hid hl
    clear h1 hP hr t1 hz hl
    go_enter Try.func19, Try.ntmps19
    go_wp2_with fail
    refine (HD _ (HE.out.up_ G0.old) (HS.out.up_ G0.old)).out.mono ?_
    rintro e w1 ⟨rfl, hb1⟩
    have G1 := Lib.hid (G0.next hb1)
    have c0 := G1.out.c0
    have c1 := G1.out.c1
    clear G0 hb1
    go_wp2_with fail
    refine (HM.out _ (HS.out.up_ G1.out.old)).mono ?_
    rintro e w2 ⟨sp, pb, g, cg, rfl, hp2, -, -, -, hb2⟩
    have G2 := Lib.hid (G1.out.next hb2)
    rw [HL.out] at hp2
    have HP2 := Lib.hid hp2
    clear hb2 c0 c1 hp2
    go_wp2_with fail
    refine (HU.out sp pb g cg _ G2.out.old HP2.out).mono ?_
    rintro e w3 ⟨rfl, hb3⟩
    have G3 := Lib.hid (G2.out.next hb3)
    clear hb3
    go_wp2
    go_ret
    exact ⟨ret_boolE (by rw [HT1.out]; simp), G3.out.old⟩
end Go.Proofs.Ytndncmjhpbjcoaa
