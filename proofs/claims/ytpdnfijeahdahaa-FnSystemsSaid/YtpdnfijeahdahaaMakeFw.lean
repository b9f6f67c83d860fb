/- MakeFew: a drawn divisor, lowered until its degree is at most 5. -/
import Derived.Test.YtpdnfijeahdahaaBM
import Derived.Test.YtpdnfijeahdahaaBL
import Derived.Test.YtpdnfijeahdahaaBJ
namespace Go.Proofs.Ytpdnfijeahdahaa
open Go.RowKit

theorem sumV_set {l : List Int} {q : Nat} {y : Int} (hq : q < l.length) : ∀ M : Nat, sumV (fun u => (l.set q y).getD u 0) M = sumV (fun u => l.getD u 0) M + (if q < M then y - l.getD q 0 else 0)
  | 0 => by simp [sumV]
  | M + 1 => by
    have h1 := sumV_set (l := l) (q := q) (y := y) hq M
    rw [sumV, sumV, h1]
    by_cases e : M = q
    · subst e
      have h2 : (l.set M y).getD M 0 = y := by simp [List.getD, hq]
      rw [h2, if_neg (by omega), if_pos (by omega)]
      omega
    · have h2 : (l.set q y).getD M 0 = l.getD M 0 := by simp [List.getD, List.getElem?_set_ne (Ne.symm e)]
      rw [h2]
      by_cases c : q < M
      · rw [if_pos c, if_pos (by omega)]; omega
      · rw [if_neg c, if_neg (by omega)]; omega
/-- one chip less -/
theorem deg_less {l : List Int} {q : Nat} {x : Int} (hl : l.length ≤ 6) (hb : ∀ z ∈ l, -1000 ≤ z ∧ z ≤ 1000) (hx : l[q]? = some x) : degB (l.set q (x - 1)) l.length = degB l l.length - 1 := by
  have hq := (List.getElem?_eq_some_iff.1 hx).1
  have g1 := getD_boundC hb (by omega) (by omega)
  have hxb := hb x (List.mem_of_getElem? hx)
  have g2 := getD_boundC (d := l.set q (x - 1)) (lo := -1001) (hi := 1000) (fun z hz => by
    rcases List.mem_or_eq_of_mem_set hz with h | h
    · have := hb z h; omega
    · omega) (by omega) (by omega)
  have h3 : l.getD q 0 = x := by simp [List.getD, hx]
  rw [(deg_sum (fun u => by have := g2 u; omega) l.length (by omega)).1, (deg_sum (fun u => by have := g1 u; omega) l.length (by omega)).1, sumV_set hq, if_pos hq, h3]
  omega
/-- what the loop holds -/
structure FewI (w wr : World) (gc g off : Nat) (A0 : Option Addr) (n0 c0 M : Nat) (D0 : Int) (l : List Int) : Prop where
  len : l.length = M
  bd : ∀ x ∈ l, -2 - (D0 - degB l M) ≤ x ∧ x ≤ 6
  deg : D0 - 31 ≤ degB l M ∧ degB l M ≤ D0
  own : OwnI wr (gc + 1) (some ⟨g, off, none⟩) l
  cur : Cur wr gc A0 n0 c0
  old : Below w.heap.size w wr
theorem ownI_far {w w' : World} {base gc : Nat} {A : Option Addr} {l : List Int} (h : OwnI w base A l) (hg : gc < base) (hs : w.heap.size ≤ w'.heap.size) (hk : ∀ k, k ≠ gc → w'.heap[k]? = w.heap[k]?) : OwnI w' base A l := fun hn => by
  obtain ⟨g, off, e, h1, h2, h3⟩ := h hn
  have hb := hk g (by omega)
  exact ⟨g, off, e, h1, by omega, fun i z hz => ⟨(World.cell?_of_block (a := ⟨g, off + i, none⟩) hb).trans (h3 i z hz).1, (World.frozen?_of_block (a := ⟨g, off + i, none⟩) hb).trans (h3 i z hz).2⟩⟩
/-- a divisor of degree at most 5, new memory -/
def FewL (w : World) (M : Nat) (e : Ending) (w' : World) : Prop :=
  ∃ (A1 : Option Addr) (c1 : Nat) (d : List Int), e = .returned (.slice A1 M c1) ∧ Hid (d.length = M) ∧ (∀ x ∈ d, -33 ≤ x ∧ x ≤ 6) ∧ degB d M ≤ 5 ∧ OwnI w' w.heap.size A1 d ∧ Below w.heap.size w w'
theorem deg_top {l : List Int} (h : ∀ x ∈ l, -2 ≤ x ∧ x ≤ 6) : ∀ j : Nat, j ≤ 6 → -(2 * (j : Int)) ≤ degB l j ∧ degB l j ≤ 6 * (j : Int)
  | 0, _ => by simp [degB]
  | j + 1, hj => by
    have h1 := deg_top h j (by omega)
    have h2 := getD_boundC h (by omega) (by omega) j
    rw [degB, wrap64_of (by omega) (by omega)]
    omega
set_option maxRecDepth 100000 in
set_option maxHeartbeats 2000000 in
theorem makeFew_any (w : World) (m M : Nat) (hm : m ≤ 1000) (va : Option Addr) (vb vc : Nat) (A0 : Option Addr) (c0 : Nat) (xs : List Int) (hM0 : 0 < M) (hM : M ≤ 6) (hx : xs.length ≤ 1048576) (hS : CodeS w w.heap.size A0 xs) :
    Calls Try.prog 7 #[.slice A0 xs.length c0, .int .i64 m, .agg #[.int .i64 (M : Int), .slice va vb vc]] w (FewL w M) := by
  have hb0 : Below w.heap.size w (w.alloc (Obj.cells #[.int .i64 (M : Int), .slice va vb vc] 25)) := (Below.refl _ _).alloc (Nat.le_refl _) _
  obtain ⟨W0, hW0⟩ : ∃ X : World, X = w.alloc (Obj.cells #[.int .i64 (M : Int), .slice va vb vc] 25) := ⟨_, rfl⟩
  have HB := Lib.hid (show Blk W0 w.heap.size 25 #[.int .i64 (M : Int), .slice va vb vc] by rw [hW0]; exact Blk.new w _ _)
  have HS := Lib.hid hS
  rw [← hW0] at hb0
  have HB0 := Lib.hid hb0
  have NW := Lib.hid (l21New_any m hm W0 A0 c0 xs hx ((hS.keep hb0).up hb0.size))
  have DW := fun (W : World) (gc : Nat) (hg : W0.heap.size ≤ gc) (hC : Cur W gc A0 xs.length c0) (hb : Below W0.heap.size W0 W) => Lib.hid (l04DrawC_any W gc M (.slice va vb vc) ⟨_, _, _, rfl⟩ A0 c0 xs hM hx hC ((HS.out.keep (HB0.out.trans (hb.mono HB0.out.size))).up (Nat.le_trans HB0.out.size hg)))
  have LW := fun (W : World) (gc : Nat) (hg : w.heap.size ≤ gc) (hC : Cur W gc A0 xs.length c0) (hb : Below w.heap.size w W) => Lib.hid (l01Below_any (M : Int) (by omega) (by omega) W gc A0 c0 xs hx hC ((HS.out.keep hb).up hg))
  have HW0 := Lib.hid hW0
  have hMi0 : (0 : Int) < (M : Int) := by omega
  have hMi6 : (M : Int) ≤ 6 := by omega
  clear hS hb0 hW0
  go_enter Try.func7, Try.ntmps7
  go_wp2_with fail
  rw [← HW0.out]
  refine NW.out.mono ?_
  rintro e w1 ⟨gc, rfl, hN, hC, hb1⟩
  have hR1 := HB.out.below hb1 HB.out.lt
  obtain ⟨x0, x1, x2, x3, x4⟩ := box_facts hR1
  have HD := DW w1 gc hN hC hb1
  have hgl := hC.lt
  clear hC hR1
  go_wp2_with fail
  refine HD.out.mono ?_
  rintro e w2 ⟨⟨A1, c1, d, rfl, hdl, hbd, ho, hb2, hkp⟩, hcur⟩
  have hsz := HB0.out.size
  have hwgc : w.heap.size ≤ gc := by omega
  have hML := hdl.out
  obtain ⟨g, off, rfl, hg1, hg2, -⟩ := ho (by omega)
  have HI := Lib.hid (show FewI w w2 gc g off A0 xs.length c0 M (degB d M) d from
    ⟨hML, fun x hx => by have := hbd x hx; omega, by omega, ho.mono (by omega), hcur, (HB0.out.trans (hb1.mono hsz)).trans (hb2.mono hwgc)⟩)
  have hD := deg_top hbd M (by omega)
  obtain ⟨D0, hD0⟩ : ∃ D, D = degB d M := ⟨_, rfl⟩
  rw [← hD0] at HI hD
  have hgne : g ≠ gc := by omega
  have hML' : d.length = M := hML
  rw [hML']
  clear hb2 hkp ho hcur hdl hbd hb1 HD DW NW hN x0 x1 x2 x3 x4 hg1 hg2 hgl HB HW0 HB0 hsz hML hD0
  go_wp2_with fail
  go_loopg [15] 31 (fun kx _ wr => ∃ l : List Int, FewI w wr gc g off A0 xs.length c0 M D0 l ∧ degB l M - 5 ≤ (kx : Int))
  case atStart => exact ⟨d, HI.out, by have := HI.out.deg; omega⟩
  case round =>
    clear HI hML'
    obtain ⟨l, hI, hkx⟩ := hrel
    have HI := Lib.hid hI
    have hdg := hI.deg
    have hlen := Lib.hid hI.len
    have DC := Lib.hid (show Calls Try.prog 34 #[.slice (some ⟨g, off, none⟩) M c1] wr (fun e w' => e = .returned (.int .i64 (degB l M)) ∧ Below wr.heap.size wr w') by
      have h := specDeg (some ⟨g, off, none⟩) c1 l wr (by rw [hlen.out]; omega) hI.own.ints
      rw [hlen.out] at h
      exact h)
    obtain ⟨p, hp⟩ : ∃ p, p = degB l M := ⟨_, rfl⟩
    rw [← hp] at DC hdg hkx
    have HPD := Lib.hid hp
    clear hI hp
    by_cases h5 : 5 < p
    · go_wp2_with fail
      refine DC.out.mono ?_
      rintro e w5 ⟨rfl, hb5⟩
      have s5 := hb5.size
      have HI5 := Lib.hid (show FewI w w5 gc g off A0 xs.length c0 M D0 l from ⟨HI.out.len, HI.out.bd, HI.out.deg, HI.out.own.below hb5, HI.out.cur.below hb5, HI.out.old.trans (hb5.mono HI.out.old.size)⟩)
      have HC := LW w5 gc hwgc HI5.out.cur HI5.out.old
      clear HI hb5 DC
      go_wp2_with fail
      refine HC.out.mono ?_
      rintro e w6 ⟨y, rfl, hy0, hy1, hcur, hb6, hk6⟩
      obtain ⟨q, rfl⟩ : ∃ q : Nat, y = (q : Int) := ⟨y.toNat, by omega⟩
      have hq : q < l.length := by rw [hlen.out]; omega
      have ho6 := ownI_far HI5.out.own (Nat.lt_succ_self _) hb6.size hk6
      obtain ⟨g', off', e, _, hgl, hcells⟩ := ho6 (by omega)
      simp only [Option.some.injEq, Addr.mk.injEq, and_true] at e
      obtain ⟨rfl, rfl⟩ := e
      obtain ⟨x, hxq⟩ : ∃ x, l[q]? = some x := ⟨_, List.getElem?_eq_getElem hq⟩
      obtain ⟨hcl, hfr⟩ := hcells q x hxq
      have hxb := HI5.out.bd x (List.mem_of_getElem? hxq)
      rw [← HPD.out] at hxb
      have hx0 : -40 ≤ x := by omega
      have hx1 : x ≤ 6 := hxb.2
      have hqi : (q : Int) < (M : Int) := by omega
      have hless := deg_less (l := l) (q := q) (x := x) (by rw [hlen.out]; omega) (fun z hz => by have := HI5.out.bd z hz; rw [← HPD.out] at this; omega) hxq
      rw [hlen.out] at hless
      have HF := Lib.hid (show FewI w (w6.setCell ⟨g, off + q, none⟩ (.int .i64 (x - 1))) gc g off A0 xs.length c0 M D0 (l.set q (x - 1)) from by
        refine ⟨by rw [List.length_set]; exact hlen.out, fun z hz => ?_, by rw [hless, ← HPD.out]; omega, ho6.store hq, hcur.keep (Below.heap_setCell _ _ _ _ (Ne.symm hgne)), (HI5.out.old.trans (hb6.mono hwgc)).setCell (p := ⟨g, off + q, none⟩) (by simp only; omega) _⟩
        rw [hless, ← HPD.out]
        rcases List.mem_or_eq_of_mem_set hz with h | h
        · have := HI5.out.bd z h
          rw [← HPD.out] at this
          omega
        · omega)
      have HM := Lib.hid (show degB (l.set q (x - 1)) M - 5 ≤ (((p - 6).toNat : Nat) : Int) by rw [hless, ← HPD.out]; omega)
      clear hless hxq ho6 hcells hcur hb6 hk6 HI5 HC HPD hq
      go_wp2
      go_roundg (p - 6).toNat
      case measure => omega
      case rel => exact ⟨_, HF.out, HM.out⟩
    · go_wp2_with fail
      refine DC.out.mono ?_
      rintro e w5 ⟨rfl, hb5⟩
      have HO := Lib.hid ((HI.out.own.below hb5).mono (base' := w.heap.size) (by omega))
      have HOLD := Lib.hid (HI.out.old.trans (hb5.mono HI.out.old.size))
      have HBD := Lib.hid (show ∀ z ∈ l, -33 ≤ z ∧ z ≤ 6 from fun z hz => by
        have := HI.out.bd z hz
        rw [← HPD.out] at this
        omega)
      have HD5 := Lib.hid (show degB l M ≤ 5 by rw [← HPD.out]; omega)
      clear HI hb5 DC HPD
      go_wp2
      go_ret
      exact ⟨_, c1, l, rfl, hlen, HBD.out, HD5.out, HO.out, HOLD.out⟩
end Go.Proofs.Ytpdnfijeahdahaa
