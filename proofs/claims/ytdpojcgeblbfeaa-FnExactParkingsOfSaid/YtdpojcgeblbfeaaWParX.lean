/- Parking functions: IsParking, ParkingOfPile, PileOfParking: both sides. -/
import Derived.Test.YtdpojcgeblbfeaaWIrcI
import Derived.Test.YtdpojcgeblbfeaaWBI
import Derived.Test.YtdpojcgeblbfeaaWMinI
set_option linter.all false
namespace Go.Proofs.Ytdpojcgeblbfeaa
open Go.RowKit

theorem sub_setz {M k : Nat} {es : List (Int × Int)} {r : List Int} {z : Int} (hes : ∀ e ∈ es, 0 ≤ e.1 ∧ e.1 < e.2 ∧ e.2 < (M : Int)) (hn : es.length ≤ 12) (hp : ∀ u, u < M → u ≠ k → -1000000 ≤ r.getD u 0 ∧ r.getD u 0 ≤ 1000000) : (subB (fullTo es k M) r).set k z = (dualL M k es r).set k z := by
  rw [← sub_set (k := k) hes hn hp, List.set_set]
set_option maxRecDepth 100000 in
set_option maxHeartbeats 1000000 in
theorem missing_any (A D : Option Addr) (c cd M k : Nat) (z : Int) (es : List (Int × Int)) (r : List Int) (w : World) (hg : graphB (M : Int) es = true) (hk : k < M) (hM : M ≤ 6) (hn : es.length ≤ 12) (hes : ∀ e ∈ es, 0 ≤ e.1 ∧ e.1 < e.2 ∧ e.2 < (M : Int)) (hl : r.length = M)
    (hr : ∀ u, u < M → u ≠ k → -1000000 ≤ r.getD u 0 ∧ r.getD u 0 ≤ 1000000) (hE : EdgeS w w.heap.size A es) (hS : IntS w w.heap.size D r) :
    Calls Try.prog 100 #[.agg #[.int .i64 (M : Int), .slice A es.length c], .slice D M cd, .int .i64 (k : Int), .int .i64 z] w (fun e w' => ∃ (F : Option Addr) (cf : Nat), e = .returned (.slice F M cf) ∧ OwnI w' w.heap.size F ((dualL M k es r).set k z) ∧ Below w.heap.size w w') := by
  have HE := Lib.hid hE
  have HS := Lib.hid hS
  have G0 := GB.start w (M : Int) A c es
  have hfo : fullOk (M : Int) es (k : Int) = true := by rw [fullOk, hg, vB_t (by omega)]; rfl
  have HF := fun w h1 => Lib.hid (implFull (M : Int) A c es (k : Int) w (by omega) h1)
  rw [fullC_t hfo] at HF
  have HFL := Lib.hid (fullTo_len es k M)
  have HM := fun (X : Option Addr) (cx : Nat) (W : World) (h1 : IntS W W.heap.size X (fullTo es k M)) (h2 : IntS W W.heap.size D r) => Lib.hid (implMinus X D cx cd (fullTo es k M) r W (by rw [fullTo_len]; omega) (by rw [fullTo_len]; omega) h1 h2)
  rw [fullTo_len, hl] at HM
  have HQ := Lib.hid (sub_setz (k := k) (z := z) hes hn hr)
  have HSL := Lib.hid (show (subB (fullTo es k M) r).length = M by rw [subB_len, fullTo_len])
  have hki : (k : Int) < (M : Int) := by omega
  have hk0 : (0 : Int) ≤ (k : Int) := Int.natCast_nonneg _
  clear hE hS hr hes hfo hg
  go_enter Try.func100, Try.ntmps100
  go_wp2_with fail
  refine (HF _ (HE.out.up_ G0.old)).out.mono ?_
  rintro e w1 ⟨A1, c1', rfl, ho1, hb1⟩
  have G1 := Lib.hid (G0.next hb1)
  have HO1 := Lib.hid ho1.ints
  clear G0 hb1 ho1 HF
  go_wp2_with fail
  rw [HFL.out]
  refine (HM A1 c1' _ HO1.out (HS.out.up_ G1.out.old)).out.mono ?_
  rintro e w2 ⟨A2, c2', rfl, ho2, hb2⟩
  rw [HSL.out]
  have G2 := Lib.hid (G1.out.next hb2)
  obtain ⟨g, o, rfl, hg1, hg2, hcs⟩ := ho2 (by rw [HSL.out]; omega)
  obtain ⟨x, hx⟩ : ∃ x, (subB (fullTo es k M) r)[k]? = some x := ⟨_, List.getElem?_eq_getElem (by rw [HSL.out]; exact hk)⟩
  obtain ⟨f0, f1⟩ := hcs k x hx
  have HCS := Lib.hid hcs
  have G1s := G1.out.old.size
  have HB3 := Lib.hid (show Below w.heap.size w (w2.setCell ⟨g, o + k, none⟩ (.int .i64 z)) from G2.out.old.setCell (p := ⟨g, o + k, none⟩) (by simp only; omega) _)
  have HO3 := Lib.hid (show OwnI (w2.setCell ⟨g, o + k, none⟩ (.int .i64 z)) w.heap.size (some ⟨g, o, none⟩) ((dualL M k es r).set k z) from fun _ => ⟨g, o, rfl, by omega, by simpa [World.setCell] using hg2, fun i y hy => by
    rw [← HQ.out, List.getElem?_set] at hy
    rw [World.frozen?_setCell]
    by_cases hi : k = i
    · subst hi
      rw [if_pos rfl, if_pos (by rw [HSL.out]; exact hk)] at hy
      cases hy
      exact ⟨World.cell?_setCell_same _ _ _ f0, f1⟩
    · rw [if_neg hi] at hy
      obtain ⟨q1, q2⟩ := HCS.out i y hy
      exact ⟨(cell_other (g := g) (a := o + k) (b := o + i) _ (by omega)).trans q1, q2⟩⟩)
  clear hb2 ho2 hcs HM hx HQ HS G1
  go_wp2
  go_ret
  exact ⟨some ⟨g, o, none⟩, c2', rfl, HO3.out, HB3.out⟩
end Go.Proofs.Ytdpojcgeblbfeaa
