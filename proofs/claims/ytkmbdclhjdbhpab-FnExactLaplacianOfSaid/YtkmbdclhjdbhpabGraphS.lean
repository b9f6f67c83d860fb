/- The specification's GraphOk. -/
import Derived.Test.YtkmbdclhjdbhpabQueue
namespace Go.Proofs.Ytkmbdclhjdbhpab
open Go.RowKit

/-- a valid graph -/
noncomputable def graphB (N : Int) (es : List (Int × Int)) : Bool := edgesB N es && ordB es && connB N es
theorem graphB_e {N : Int} {es : List (Int × Int)} (h : edgesB N es = false) : graphB N es = false := by simp [graphB, h]
theorem graphB_o {N : Int} {es : List (Int × Int)} (h : ordB es = false) : graphB N es = false := by simp [graphB, h]
theorem graphB_c {N : Int} {es : List (Int × Int)} (h : edgesB N es = true) (h2 : ordB es = true) : graphB N es = connB N es := by simp [graphB, h, h2]

theorem keepB {w W w2 : World} {p : Addr} {a : Value} (hS : W.cell? p = some a ∧ Below w.heap.size w W) (hb : Below W.heap.size W w2) (hp : p.block < w.heap.size) : w2.cell? p = some a ∧ Below w.heap.size w w2 := by
  obtain ⟨h1, h5⟩ := hS
  have hz := h5.size
  exact ⟨(hb.cell (by omega)).trans h1, h5.trans (hb.mono hz)⟩

set_option maxRecDepth 100000 in
set_option maxHeartbeats 4000000 in
theorem specGraphOk (N : Int) (A : Option Addr) (c : Nat) (es : List (Int × Int)) (w : World) (hn : es.length ≤ 9223372036854775807) (hE : EdgeS w w.heap.size A es) :
    Calls Try.prog 62 #[.agg #[.int .i64 N, .slice A es.length c]] w fun e w' => e = .returned (.bool (graphB N es)) ∧ Below w.heap.size w w' := by
  have HE := Lib.hid hE
  clear hE
  have hb0 : Below w.heap.size w (w.alloc (Obj.cells #[.int .i64 N, .slice A es.length c] 39)) := (Below.refl _ _).alloc (Nat.le_refl _) _
  cases hB : edgesB N es with
  | false =>
    have HF := Lib.hid (graphB_e hB)
    go_enter Try.func62, Try.ntmps62
    go_wp2_with fail
    refine (specEdgesOk _ _ _ _ _ hn (HE.out.up_ hb0)).mono ?_
    rintro e w1 ⟨rfl, hb1⟩
    have hbb : Below w.heap.size w w1 := hb0.trans (hb1.mono hb0.size)
    clear hb0 hb1
    go_wp2
    go_ret
    exact ⟨ret_boolE HF.out.symm, hbb⟩
  | true =>
    obtain ⟨hN1, hN6, hn12⟩ := edgesB_lims hB
    have HB := Lib.hid hB
    go_enter Try.func62, Try.ntmps62
    go_wp2_with fail
    refine (specEdgesOk _ _ _ _ _ hn (HE.out.up_ hb0)).mono ?_
    rintro e w1 ⟨rfl, hb1⟩
    have hbb : Below w.heap.size w w1 := hb0.trans (hb1.mono hb0.size)
    have hblk := (Blk.new w 39 #[.int .i64 N, .slice A es.length c]).below hb1 (by simp)
    have hg1 : w1.cell? ⟨w.heap.size, 1, none⟩ = some (.slice A es.length c) := by rw [hblk.cell]; rfl
    have HK := Lib.hid hblk
    clear hb0 hb1 hblk
    go_wp2
    go_loopw [11] (fun i wr => ∃ z : Int, 0 ≤ z ∧ z ≤ es.length ∧ i = .int .i64 z ∧ (∀ j : Nat, (j : Int) + 1 < z → pairBad es j = false) ∧ Blk wr w.heap.size 39 #[.int .i64 N, .slice A es.length c] ∧ Below w.heap.size w wr) (fun i _ => es.length - (intOf i).toNat)
    case atStart => exact ⟨0, by omega, by omega, rfl, fun j h => absurd h (by omega), HK.out, hbb⟩
    case round =>
      obtain ⟨z, hz0, hz1, rfl, hgood, hblk, hb⟩ := hrel
      have HG := Lib.hid hgood
      have HK2 := Lib.hid hblk
      have hlk := hblk.lt
      have hg0 : wr.cell? ⟨w.heap.size, 0, none⟩ = some (.int .i64 N) := by rw [hblk.cell]; rfl
      have hg2 : wr.cell? ⟨w.heap.size, 1, none⟩ = some (.slice A es.length c) := by rw [hblk.cell]; rfl
      clear hgood hblk
      by_cases hlt : z < es.length
      · by_cases hz : 0 < z
        · obtain ⟨k, rfl⟩ : ∃ k : Nat, z = (k : Int) + 1 := ⟨(z - 1).toNat, by omega⟩
          obtain ⟨b1, o1, e, hA1, hb1, he, hc0, hc1⟩ := (HE.out.below hb).at_ (k := k + 1) (by omega)
          obtain ⟨b2, o2, f, hA2, hb2, hf, hd0, hd1⟩ := (HE.out.below hb).at_ (k := k) (by omega)
          have hA3 := hA1.symm.trans hA2
          simp only [Option.some.injEq, Addr.mk.injEq, and_true] at hA3
          obtain ⟨rfl, rfl⟩ := hA3
          subst hA1
          have hi0 : (0 : Int) ≤ (k : Int) + 1 := by omega
          have hi1 : (k : Int) + 1 < (es.length : Int) := by omega
          have hi2 : (0 : Int) ≤ (k : Int) := by omega
          have hi3 : (k : Int) < (es.length : Int) := by omega
          have hw : IntKind.i64.wrap ((k : Int) + 1 - 1) = (k : Int) := by rw [IntKind.wrap_i64]; omega
          have hw2 : IntKind.i64.wrap (k : Int) = (k : Int) := by rw [IntKind.wrap_i64]; omega
          have hq : ((k : Int) + 1).toNat = k + 1 := by omega
          have HP := Lib.hid (pairBad_eq hf he)
          have hbl : b1 < wr.heap.size := by omega
          clear hA2 he hf hz0
          by_cases h1 : e.1 < f.1
          · have HF := Lib.hid (graphB_o (N := N) (ordB_false (HP.out.trans (by simp [ltE, h1]))))
            go_wp2_with fail
            go_quiet (fail)
            go_wp2
            go_ret
            exact ⟨ret_boolE HF.out.symm, below_drewN (hb.alloc hb.size _) _⟩
          · have d1 : decide (e.1 < f.1) = false := decide_eq_false h1
            by_cases h2 : e.1 = f.1
            · have d2 : (e.1 == f.1) = true := by simp [h2]
              by_cases h3 : e.2 < f.2
              · have HF := Lib.hid (graphB_o (N := N) (ordB_false (HP.out.trans (by simp [ltE, h2, h3]))))
                clear h2
                go_wp2_with fail
                go_quiet (fail)
                go_wp2
                go_ret
                exact ⟨ret_boolE HF.out.symm, below_drewN (hb.alloc hb.size _) _⟩
              · have HF := Lib.hid (HP.out.trans (show ltE e f = false by simp [ltE, h1, h3]))
                have d3 : decide (e.2 < f.2) = false := decide_eq_false h3
                clear h2
                go_wp2_with fail
                go_quiet (fail)
                go_wp2
                exact ⟨⟨(k : Int) + 1 + 1, by omega, by omega, by go_num, fun j hj => by
                  rcases Nat.lt_or_ge j k with g | g
                  · exact HG.out j (by omega)
                  · have : j = k := by omega
                    rw [this]; exact HF.out, (HK2.out.alloc _).drewN _, below_drewN (hb.alloc hb.size _) _⟩, by simp [intOf]; omega⟩
            · have HF := Lib.hid (HP.out.trans (show ltE e f = false by simp [ltE, h1, h2]))
              have d2 : (e.1 == f.1) = false := by simp [h2]
              clear h2
              go_wp2_with fail
              go_quiet (fail)
              go_wp2
              exact ⟨⟨(k : Int) + 1 + 1, by omega, by omega, by go_num, fun j hj => by
                rcases Nat.lt_or_ge j k with g | g
                · exact HG.out j (by omega)
                · have : j = k := by omega
                  rw [this]; exact HF.out, (HK2.out.alloc _).drewN _, below_drewN (hb.alloc hb.size _) _⟩, by simp [intOf]; omega⟩
        · have hz2 : z = 0 := by omega
          subst hz2
          obtain ⟨b1, o1, e, rfl, hb1, he, hc0, hc1⟩ := (HE.out.below hb).at_ (k := 0) (by omega)
          rw [Nat.zero_mul, Nat.add_zero] at hc0 hc1
          have hbl : b1 < wr.heap.size := by omega
          have hi1 : (0 : Int) < (es.length : Int) := hlt
          clear he hz
          go_wp2_with fail
          go_quiet (fail)
          go_wp2
          exact ⟨⟨1, by omega, by omega, by go_num, fun j hj => absurd hj (by omega), (HK2.out.alloc _).drewN _, below_drewN (hb.alloc hb.size _) _⟩, by simp [intOf]; omega⟩
      · have HO := Lib.hid (graphB_c (HB.out) (ordB_true (es := es) fun i hi => HG.out i (by omega)))
        go_wp2_with fail
        go_region_held3 (fun w' => w'.cell? ⟨w.heap.size, 0, none⟩ = some (.int .i64 N) ∧ w'.cell? ⟨w.heap.size, 1, none⟩ = some (.slice A es.length c) ∧ w'.cell? ⟨w.heap.size, 0, none⟩ = some (.int .i64 N) ∧ w'.cell? ⟨w.heap.size, 1, none⟩ = some (.slice A es.length c) ∧ Below wr.heap.size wr w')
          (first
            | exact ⟨hg0, hg2, hg0, hg2, (Below.refl _ _).drew⟩
            | assumption
            | exact keep4 (by assumption) hb6 hlk hlk hlk hlk)
          (first
            | (go_at_call 97; refine (l02Reach_any _ _ _ _ _ HB.out (HE.out.up_ hb.drew)).mono ?_; rintro e w6 ⟨Ar, cr, q, rfl, hq1, hq2, hb6⟩))
        have hb7 : Below w.heap.size w w6 := hb.trans ((Below.drew (Below.refl _ _)).trans hb6 |>.mono hb.size)
        have HF := Lib.hid (hq1.trans HO.out.symm)
        clear hq1
        go_wp2
        go_ret
        exact ⟨ret_boolE HF.out, hb7⟩
end Go.Proofs.Ytkmbdclhjdbhpab
