/- Sandpiles: IsStable, Stabilize, AvalancheSize: the specification's side. -/
import Derived.OwnWalk
import Derived.Test.YtdpojcgeblbfeaaTPilD
import Derived.Test.YtdpojcgeblbfeaaTBA
set_option linter.all false
namespace Go.Proofs.Ytdpojcgeblbfeaa
open Go.RowKit

noncomputable def stableB (N : Int) (es : List (Int × Int)) (p : List Int) (q : Int) : Bool := pileB N es p q && decide (unsF N.toNat q.toNat es p = none)
set_option maxRecDepth 100000 in
set_option maxHeartbeats 1000000 in
theorem specStable (N : Int) (A D : Option Addr) (c cd : Nat) (es : List (Int × Int)) (p : List Int) (q : Int) (w : World) (hn : es.length ≤ 1048576) (hd : p.length ≤ 1048576) (hE : EdgeS w w.heap.size A es) (hS : IntS w w.heap.size D p) :
    Calls Try.prog 152 #[.agg #[.int .i64 N, .slice A es.length c], .slice D p.length cd, .int .i64 q] w fun e w' => e = .returned (.bool (stableB N es p q)) ∧ Below w.heap.size w w' := by
  have HE := Lib.hid hE
  have HS := Lib.hid hS
  have G0 := GB.start w N A c es
  have HD := fun w h1 h2 => Lib.hid (specPile N A D c cd es p q w hn hd h1 h2)
  unfold stableB
  clear hE hS
  cases h1 : pileB N es p q with
  | false =>
    rw [h1] at HD
    clear h1
    go_enter Try.func152, Try.ntmps152
    go_wp2_with fail
    refine (HD _ (HE.out.up_ G0.old) (HS.out.up_ G0.old)).out.mono ?_
    rintro e w1 ⟨rfl, hb1⟩
    have G1 := Lib.hid (G0.next hb1)
    clear G0 hb1
    go_wp2
    go_ret
    exact ⟨ret_boolE rfl, G1.out.old⟩
  | true =>
    rw [h1] at HD
    obtain ⟨M, k, rfl, rfl, hP, -⟩ := pile_parts h1
    have HU := fun w a b => Lib.hid (l10Unst_any A D c cd M k es p w hP.m6 hP.n12 hP.ed hP.len a b)
    rw [Int.toNat_natCast, Int.toNat_natCast]
    have HL := Lib.hid hP.len
    obtain ⟨r, hr⟩ : ∃ r, r = unsF M k es p := ⟨_, rfl⟩
    rw [← hr] at HU ⊢
    have t1 : decide (unsI r < 0) = decide (r = none) := by
      cases r with
      | none => rfl
      | some v =>
        have : ¬ (v : Int) < 0 := by omega
        simp [unsI, this]
    have HT1 := Lib.hid t1
    obtain ⟨z, hz⟩ : ∃ z, z = unsI r := ⟨_, rfl⟩
    rw [← hz] at HU HT1
    clear h1 hP hr t1 hz
    go_enter Try.func152, Try.ntmps152
    go_wp2_with fail
    refine (HD _ (HE.out.up_ G0.old) (HS.out.up_ G0.old)).out.mono ?_
    rintro e w1 ⟨rfl, hb1⟩
    have G1 := Lib.hid (G0.next hb1)
    have c0 := G1.out.c0
    have c1 := G1.out.c1
    clear G0 hb1
    go_wp2_with fail
    rw [HL.out]
    refine (HU _ (HE.out.up_ G1.out.old) (HS.out.up_ G1.out.old)).out.mono ?_
    rintro e w2 ⟨rfl, hb2⟩
    have G2 := Lib.hid (G1.out.next hb2)
    clear hb2 c0 c1
    go_wp2
    go_ret
    exact ⟨ret_boolE (by rw [HT1.out]; simp), G2.out.old⟩
end Go.Proofs.Ytdpojcgeblbfeaa
