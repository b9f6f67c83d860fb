/- Stabilize: what it does ahead of its go statement. -/
import Derived.Test.YtndncmjhpbjcoaaGSetD
import Derived.Test.YtndncmjhpbjcoaaGPilR
import Derived.Test.YtndncmjhpbjcoaaGPilX
import Derived.Conc.SmallLaws
set_option linter.all false
namespace Go.Proofs.Ytndncmjhpbjcoaa
open Go Go.Conc Go.RowKit

theorem preWp_k {P : Program} {x : Code} {l : List Code} {K : Act → World → Prop} {Q : Exit → Act → World → Prop} {a : Act} {w : World} (h : ∀ K' : Act → World → Prop, (∀ a w, PreWp P l K Q a w → K' a w) → x.wp P (Exit.then K' Q) a w) : PreWp P (x :: l) K Q a w := h _ fun _ _ h => h
def StK (N : Int) (A : Option Addr) (c : Nat) (es : List (Int × Int)) (p : List Int) (q : Int) (x : World) (a : Act) (y : World) : Prop :=
  pileB N es p q = true ∧ ∃ (sp pb g cg bx cc : Nat) (y0 y1 y2 y4 y5 y6 y7 y8 y11 y12 y13 y14 y15 y16 y17 y18 y19 y20 y21 y22 y23 y24 y25 y26 y27 y28 y29 y30 y31 y32 y33 y34 y35 y36 y37 y38 y39 y40 y41 y42 y43 y44 y45 : Value), a = ⟨List.toArray (y0 :: y1 :: y2 :: .pointer (some ⟨bx, 0, none⟩) :: y4 :: y5 :: y6 :: y7 :: y8 :: .pointer (some ⟨sp, 0, none⟩) :: .chan (some cc) :: y11 :: y12 :: y13 :: y14 :: y15 :: y16 :: y17 :: y18 :: y19 :: y20 :: y21 :: y22 :: y23 :: y24 :: y25 :: y26 :: y27 :: y28 :: y29 :: y30 :: y31 :: y32 :: y33 :: y34 :: y35 :: y36 :: y37 :: y38 :: y39 :: y40 :: y41 :: y42 :: y43 :: y44 :: y45 :: []), []⟩ ∧ (∀ k : Nat, q = (k : Int) → Pile y sp pb g p.length cg c k A es p) ∧ Row0 y g ∧ Blk y bx 25 #[.int .i64 N, .slice A es.length c] ∧
    y.heap[cc]? = some (.chan 0 #[] false 0 0 false) ∧ x.heap.size ≤ bx ∧ bx < g ∧ g < pb ∧ pb < sp ∧ sp < cc ∧ Below x.heap.size x y
def StQ (N : Int) (es : List (Int × Int)) (p : List Int) (q : Int) (x : World) (e : Exit) (a : Act) (y : World) : Prop :=
  e = .ret ∧ pileB N es p q = false ∧ a.defers = [] ∧ a.tmps.getD 6 undef = .slice none 0 0 ∧ a.tmps.getD 7 undef = .slice none 0 0 ∧ a.tmps.getD 8 undef = .bool false ∧ Below x.heap.size x y
theorem st_chan (w : World) : (Instr.makeChan 72 (.int .i64 0)).run Try.prog w = .ok (.chan (some w.heap.size)) (w.alloc (.chan 0 #[] false 0 0 false)) := by
  obtain ⟨i0, hi, hz0, hz1, hz2⟩ := info_parts intInfo
  exact run_makeChan Try.underlying72 hi .i64 0 (by omega) (by rw [hz2]; omega)
set_option maxRecDepth 100000 in
set_option maxHeartbeats 2000000 in
theorem st_pre (N : Int) (A D : Option Addr) (c cd : Nat) (es : List (Int × Int)) (p : List Int) (q : Int) (w : World) (hn : es.length ≤ 1048576) (hd : p.length ≤ 1048576) (hE : EdgeS w w.heap.size A es) (hS : IntS w w.heap.size D p) :
    PreWp Try.prog stPre (StK N A c es p q w) (StQ N es p q w) ⟨List.toArray (.agg #[.int .i64 N, .slice A es.length c] :: .slice D p.length cd :: .int .i64 q :: undef :: undef :: undef :: undef :: undef :: undef :: undef :: undef :: undef :: undef :: undef :: undef :: undef :: undef :: undef :: undef :: undef :: undef :: undef :: undef :: undef :: undef :: undef :: undef :: undef :: undef :: undef :: undef :: undef :: undef :: undef :: undef :: undef :: undef :: undef :: undef :: undef :: undef :: undef :: undef :: undef :: undef :: undef :: []), []⟩ w := by
  have HE := Lib.hid hE
  have HS := Lib.hid hS
  have G0 := GB.start w N A c es
  have HD := fun w h1 h2 => Lib.hid (implPile N A D c cd es p q w hn hd h1 h2)
  have HP := fun (h0 : 0 < p.length) (k : Nat) (w : World) h2 => Lib.hid (pileR_any N A D c cd k es p w h0 hd h2)
  clear hE hS
  have h0 : pileB N es p q = true → 0 < p.length := fun h => by
    obtain ⟨M, k, rfl, rfl, hP, -⟩ := pile_parts h
    rw [hP.len]; exact hP.m0
  have hq0 : pileB N es p q = true → ∃ k : Nat, q = (k : Int) := fun h => by
    obtain ⟨M, k, rfl, rfl, hP, -⟩ := pile_parts h
    exact ⟨k, rfl⟩
  have hpile : ∀ b, pileB N es p q = b → Hid (pileB N es p q = b) := fun _ h => Lib.hid h
  cases h1 : pileB N es p q with
  | false =>
    have HB := hpile _ h1
    rw [h1] at HD
    clear h1 h0 HP hq0 hpile
    refine preWp_k fun K1 hK1 => ?_
    go_wp2
    refine preWp_k fun K2 hK2 => ?_
    go_wp2_with fail
    refine (HD _ (HE.out.up_ G0.old) (HS.out.up_ G0.old)).out.mono ?_
    rintro e w1 ⟨rfl, hb1⟩
    have G1 := Lib.hid (G0.next hb1)
    clear G0 hb1
    go_wp2
    unfold StQ
    exact ⟨rfl, HB.out, rfl, rfl, rfl, rfl, G1.out.old⟩
  | true =>
    rw [h1] at HD
    obtain ⟨k, rfl⟩ := hq0 h1
    have HP2 := HP (h0 h1) k
    have HB := hpile _ h1
    clear h1 h0 HP hq0 hpile
    refine preWp_k fun K1 hK1 => ?_
    go_wp2
    refine preWp_k fun K2 hK2 => ?_
    go_wp2_with fail
    refine (HD _ (HE.out.up_ G0.old) (HS.out.up_ G0.old)).out.mono ?_
    rintro e w1 ⟨rfl, hb1⟩
    have G1 := Lib.hid (G0.next hb1)
    have c0 := G1.out.c0
    have c1 := G1.out.c1
    clear G0 hb1
    go_wp2
    refine preWp_k fun K3 hK3 => ?_
    go_wp2_with fail
    refine (HP2 _ (HS.out.up_ G1.out.old)).out.mono ?_
    rintro e w2 ⟨sp, pb, g, cg, rfl, hpl, hrow, hg, hgp, hps, hb2⟩
    have G2 := Lib.hid (G1.out.next hb2)
    have HPL := Lib.hid hpl
    have HRW := Lib.hid hrow
    have hspl := hpl.sand.lt
    have hs1 := G1.out.lt
    clear hb2 c0 c1 hpl hrow
    go_wp2
    refine preWp_k fun K4 hK4 => ?_
    go_wp2
    rw [st_chan w2]
    have hal : Below w2.heap.size w2 (w2.alloc (.chan 0 #[] false 0 0 false)) := (Below.refl _ _).alloc (Nat.le_refl _) _
    have G3 := Lib.hid (G2.out.next hal)
    go_simp
    go_wp2
    refine ⟨HB.out, sp, pb, g, cg, w.heap.size, w2.heap.size, _, _, _, _, _, _, _, _, _, _, _, _, _, _, _, _, _, _, _, _, _, _, _, _, _, _, _, _, _, _, _, _, _, _, _, _, _, _, _, _, _, _, _, rfl, fun k2 e => ?_, HRW.out.below hal, G3.out.box, heap_alloc_new _ _, Nat.le_refl _, by omega, hgp, hps, hspl, G3.out.old⟩
    have hk : k2 = k := by omega
    subst hk
    exact HPL.out.below hal
end Go.Proofs.Ytndncmjhpbjcoaa
