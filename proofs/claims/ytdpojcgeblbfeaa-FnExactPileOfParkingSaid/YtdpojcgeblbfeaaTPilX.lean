/- The program's side of the configurations: what starts no goroutine. -/
import Derived.Test.YtdpojcgeblbfeaaTPilH
import Derived.Test.YtdpojcgeblbfeaaTBI
import Derived.Test.YtdpojcgeblbfeaaTEff
import Derived.Test.YtdpojcgeblbfeaaTBF
set_option linter.all false
namespace Go.Proofs.Ytdpojcgeblbfeaa
open Go.RowKit

set_option maxRecDepth 100000 in
set_option maxHeartbeats 1000000 in
theorem implPile (N : Int) (A D : Option Addr) (c cd : Nat) (es : List (Int × Int)) (p : List Int) (q : Int) (w : World) (hn : es.length ≤ 1048576) (hd : p.length ≤ 1048576) (hE : EdgeS w w.heap.size A es) (hS : IntS w w.heap.size D p) :
    Calls Try.prog 55 #[.agg #[.int .i64 N, .slice A es.length c], .slice D p.length cd, .int .i64 q] w fun e w' => e = .returned (.bool (pileB N es p q)) ∧ Below w.heap.size w w' := by
  have HE := Lib.hid hE
  have HS := Lib.hid hS
  have G0 := GB.start w N A c es
  have HD := fun w h1 h2 => Lib.hid (implDiv N A D c cd es p w hn hd h1 h2)
  unfold pileB
  clear hE hS
  cases h1 : divB 60 N es p with
  | false =>
    rw [h1] at HD
    clear h1
    go_enter Try.func55, Try.ntmps55
    go_wp2_with fail
    refine (HD _ (HE.out.up_ G0.old) (HS.out.up_ G0.old)).out.mono ?_
    rintro e w1 ⟨rfl, hb1⟩
    have G1 := Lib.hid (G0.next hb1)
    clear G0 hb1
    go_wp2
    go_ret
    exact ⟨ret_boolE rfl, G1.out.old⟩
  | true =>
    rw [h1] at HD
    obtain ⟨M, rfl, h0, h6, hn12, hl, -, -, -⟩ := div_limsB h1
    have HL := Lib.hid hl
    clear hl
    have HV := fun w => Lib.hid (hasVertex_any (M : Int) (.slice A es.length c) q w ⟨_, _, _, rfl⟩)
    cases h2 : vB q (M : Int) with
    | false =>
      rw [h2] at HV
      clear h1 h2
      go_enter Try.func55, Try.ntmps55
      go_wp2_with fail
      refine (HD _ (HE.out.up_ G0.old) (HS.out.up_ G0.old)).out.mono ?_
      rintro e w1 ⟨rfl, hb1⟩
      have G1 := Lib.hid (G0.next hb1)
      have c0 := G1.out.c0
      have c1 := G1.out.c1
      clear G0 hb1
      go_wp2_with fail
      refine (HV _).out.mono ?_
      rintro e w2 ⟨rfl, hb2⟩
      have G2 := Lib.hid (G1.out.next hb2)
      clear G1 hb2 c0 c1
      go_wp2
      go_ret
      exact ⟨ret_boolE rfl, G2.out.old⟩
    | true =>
      rw [h2] at HV
      obtain ⟨hq0, hq1⟩ := vB_iff h2
      obtain ⟨k, rfl⟩ : ∃ k : Nat, q = (k : Int) := ⟨q.toNat, by omega⟩
      have HP := fun w h => Lib.hid (implEff D cd p w hd h)
      cases h3 : posAll p with
      | false =>
        rw [h3] at HP
        clear h1 h2 h3
        go_enter Try.func55, Try.ntmps55
        go_wp2_with fail
        refine (HD _ (HE.out.up_ G0.old) (HS.out.up_ G0.old)).out.mono ?_
        rintro e w1 ⟨rfl, hb1⟩
        have G1 := Lib.hid (G0.next hb1)
        have c0 := G1.out.c0
        have c1 := G1.out.c1
        clear G0 hb1
        go_wp2_with fail
        refine (HV _).out.mono ?_
        rintro e w3 ⟨rfl, hb3⟩
        have G3 := Lib.hid (G1.out.next hb3)
        clear G1 hb3 c0 c1
        have G1 := G3
        have c0 := G1.out.c0
        have c1 := G1.out.c1
        clear G3
        go_wp2_with fail
        refine (HP _ (HS.out.up_ G1.out.old)).out.mono ?_
        rintro e w2 ⟨rfl, hb2⟩
        have G2 := Lib.hid (G1.out.next hb2)
        clear hb2 c0 c1
        go_wp2
        go_ret
        exact ⟨ret_boolE rfl, G2.out.old⟩
      | true =>
        rw [h3] at HP
        have hkp : k < p.length := by have := HL.out; omega
        have hk1 : (k : Int) < (p.length : Int) := by omega
        obtain ⟨x, hx⟩ : ∃ x, p[k]? = some x := ⟨_, List.getElem?_eq_getElem hkp⟩
        have hg : p.getD (k : Int).toNat 0 = x := by rw [Int.toNat_natCast, List.getD, hx]; rfl
        rw [hg]
        obtain ⟨bd, od, rfl, hbd, hcd⟩ := HS.out (by omega)
        have hcx := hcd k x hx
        have hbw : bd < w.heap.size := hbd
        have HCX := Lib.hid (show ∀ w', Below w.heap.size w w' → w'.cell? ⟨bd, od + k, none⟩ = some (.int .i64 x) from fun w' hb => (hb.cell (p := ⟨bd, od + k, none⟩) hbd).trans hcx)
        clear h1 h2 h3 hx hg hcd hcx
        go_enter Try.func55, Try.ntmps55
        go_wp2_with fail
        refine (HD _ (HE.out.up_ G0.old) (HS.out.up_ G0.old)).out.mono ?_
        rintro e w1 ⟨rfl, hb1⟩
        have G1 := Lib.hid (G0.next hb1)
        have c0 := G1.out.c0
        have c1 := G1.out.c1
        clear G0 hb1
        go_wp2_with fail
        refine (HV _).out.mono ?_
        rintro e w3 ⟨rfl, hb3⟩
        have G3 := Lib.hid (G1.out.next hb3)
        clear G1 hb3 c0 c1
        have G1 := G3
        have c0 := G1.out.c0
        have c1 := G1.out.c1
        clear G3
        go_wp2_with fail
        refine (HP _ (HS.out.up_ G1.out.old)).out.mono ?_
        rintro e w2 ⟨rfl, hb2⟩
        have G2 := Lib.hid (G1.out.next hb2)
        have hcx := HCX.out w2 G2.out.old
        clear hb2 c0 c1
        go_wp2
        go_ret
        exact ⟨ret_boolE (by rw [Bool.eq_iff_iff]; simp), G2.out.old⟩
end Go.Proofs.Ytdpojcgeblbfeaa
