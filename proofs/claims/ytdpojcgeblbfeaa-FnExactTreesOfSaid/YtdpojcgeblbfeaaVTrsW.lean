/- The walk of laws.FnExactTreesOf. -/
import Derived.Test.YtdpojcgeblbfeaaVTrsS
import Derived.Test.YtdpojcgeblbfeaaVTrsI
import Derived.Test.YtdpojcgeblbfeaaVTrsM
import Derived.Test.YtdpojcgeblbfeaaVBA
set_option linter.all false
namespace Go.Proofs.Ytdpojcgeblbfeaa
open Go.RowKit

set_option maxRecDepth 100000 in
set_option maxHeartbeats 2000000 in
theorem lawTreesOf (N0 : Int) (A0 : Option Addr) (c0 : Nat) (es0 : List (Int × Int)) (w : World) (hg0 : GraphArg w N0 A0 c0 es0) :
    Calls Try.prog 6 #[.agg #[.int .i64 N0, .slice A0 es0.length c0]] w fun e w' => e = .returned (.bool true) ∧ Below w.heap.size w w' := by
  have hlen0 := hg0.len
  by_cases hbig : (1048576 : Int) < es0.length
  · clear hg0
    go_enter Try.func6, Try.ntmps6
    go_wp2_with (go_at_call 22; refine (szGraph_big _ _ _ _ _ _ hlen0 (by omega) (by omega) hbig).mono ?_; rintro e w1 ⟨rfl, hb1⟩)
    go_ret
    exact ⟨rfl, ((LawG.start w N0 A0 c0 es0).next hb1).old⟩
  have hsm : (es0.length : Int) ≤ 1048576 := by omega
  have hn0 : es0.length ≤ 1048576 := by omega
  clear hbig
  have HE0 := Lib.hid hg0.edges
  have hw0 := Lib.hid hg0.wf
  have hl0 := hg0.lo
  have hh0 := hg0.hi
  clear hg0
  have HSP := fun (A0 : Option Addr) (c0 : Nat) (w : World) (E0 : EdgeS w w.heap.size A0 es0) => Lib.hid (specTrs N0 A0 c0 es0 w hn0 E0)
  have HIM := fun (A0 : Option Addr) (c0 : Nat) (w : World) (E0 : EdgeS w w.heap.size A0 es0) => Lib.hid (implTrs N0 A0 c0 es0 w hn0 E0)
  obtain ⟨zs, hzs⟩ : ∃ zs, zs = treesC N0 es0 := ⟨_, rfl⟩
  have hzn : zs.length ≤ 1048576 := by rw [hzs]; exact Nat.le_trans (treesC_few N0 es0 w).1 (by decide)
  rw [← hzs] at HSP HIM
  have hzl : lens zs ≤ 1048576 := by rw [hzs]; exact (treesC_few N0 es0 w).2
  have HZR := Lib.hid (show ∀ r ∈ zs, r.length ≤ 9223372036854775807 from fun r hr => by
    obtain ⟨k, hk⟩ := List.mem_iff_getElem?.1 hr
    have := len_le_lens hk
    omega)
  clear hzs
  obtain ⟨vb, hvb⟩ : ∃ v, v = treesOk N0 es0 := ⟨_, rfl⟩
  rw [← hvb] at HSP HIM
  clear hvb
  go_enter Try.func6, Try.ntmps6
  go_wp2_with fail
  refine (szGraph_ok _ _ _ _ _ _ (by omega) hsm).mono ?_
  rintro e w1 ⟨rfl, hb1⟩
  have L_1 := Lib.hid ((LawG.start w N0 A0 c0 es0).next hb1)
  have B_1 := Lib.hid L_1.out.old
  have ltL := L_1.out.lt
  clear hb1 hsm
  have k0 := L_1.out.c0
  have k1 := L_1.out.c1
  go_wp2_with fail
  refine (toGraph_any _ _ _ _ _ hn0 (HE0.out.up_ B_1.out)).mono ?_
  rintro e w2 ⟨g2, rfl, hg2, hk2, hb2⟩
  have L_2 := Lib.hid (L_1.out.next hb2)
  have B_2 := Lib.hid (belowMoves B_1.out (belowMv hb2 _) (Nat.le_refl _) B_1.out.size)
  have s2 := hb2.size
  clear L_1 B_1 k0 k1 hb2
  have T0E_2 := Lib.hid hk2
  have lt2 := hk2.lt
  clear hk2
  have k0 := L_2.out.c0
  have k1 := L_2.out.c1
  go_wp2_with fail
  refine (HSP _ _ _ (EdgeS.of_blk T0E_2.out T0E_2.out.lt)).out.mono ?_
  rintro e w3 ⟨AW, cW, rfl, ho3, hb3⟩
  have L_3 := Lib.hid (L_2.out.next hb3)
  have B_3 := Lib.hid (belowMoves B_2.out (belowMv hb3 _) (Nat.le_refl _) B_2.out.size)
  have s3 := hb3.size
  clear L_2 B_2 T0E_2 k0 k1 hb3
  have W_3 := Lib.hid ho3
  clear ho3
  have k0 := L_3.out.c0
  have k1 := L_3.out.c1
  go_wp2_with fail
  refine (toGraph_any _ _ _ _ _ hn0 (HE0.out.up_ B_3.out)).mono ?_
  rintro e w4 ⟨g4, rfl, hg4, hk4, hb4⟩
  have L_4 := Lib.hid (L_3.out.next hb4)
  have B_4 := Lib.hid (belowMoves B_3.out (belowMv hb4 _) (Nat.le_refl _) B_3.out.size)
  have W_4 := Lib.hid (W_3.out.moves (belowMv hb4 _) (Nat.le_refl _) (by omega))
  have s4 := hb4.size
  clear L_3 B_3 W_3 k0 k1 hb4
  have X0E_4 := Lib.hid hk4
  have lt4 := hk4.lt
  clear hk4
  have k0 := L_4.out.c0
  have k1 := L_4.out.c1
  go_wp2_with fail
  obtain ⟨w5, hw5_⟩ : ∃ x, x = w4.alloc (.cells #[.int .i64 N0, .slice (some ⟨g4, 0, none⟩) es0.length es0.length] 25) := ⟨_, rfl⟩
  rw [← hw5_]
  have hb5 : Below w4.heap.size w4 w5 := by rw [hw5_]; exact (Below.refl _ _).alloc (Nat.le_refl _) _
  have hk5 : Blk w5 w4.heap.size 25 #[.int .i64 N0, .slice (some ⟨g4, 0, none⟩) es0.length es0.length] := by rw [hw5_]; exact Blk.new w4 _ _
  have sx5 : w4.heap.size + 1 ≤ w5.heap.size := by rw [hw5_]; simp
  clear hw5_
  have L_5 := Lib.hid (L_4.out.next hb5)
  have B_5 := Lib.hid (belowMoves B_4.out (belowMv hb5 _) (Nat.le_refl _) B_4.out.size)
  have W_5 := Lib.hid (W_4.out.moves (belowMv hb5 _) (Nat.le_refl _) (by omega))
  have X0E_5 := Lib.hid (X0E_4.out.moves (belowMv hb5 _) (.inr (Nat.le_refl _)))
  have s5 := hb5.size
  clear L_4 B_4 W_4 X0E_4 k0 k1 hb5
  have XB_5 := Lib.hid hk5
  clear hk5
  have k0 := L_5.out.c0
  have k1 := L_5.out.c1
  have d0 : w5.cell? ⟨w4.heap.size, 0, none⟩ = some (.int .i64 N0) := by rw [XB_5.out.cell]; rfl
  have d1 : w5.cell? ⟨w4.heap.size, 1, none⟩ = some (.slice (some ⟨g4, 0, none⟩) es0.length es0.length) := by rw [XB_5.out.cell]; rfl
  refine (HIM _ _ _ (EdgeS.of_blk X0E_5.out X0E_5.out.lt)).out.mono ?_
  rintro e w6 ⟨AG, cG, rfl, ho6, hb6⟩
  have L_6 := Lib.hid (L_5.out.next hb6)
  have B_6 := Lib.hid (belowMoves B_5.out (belowMv hb6 _) (Nat.le_refl _) B_5.out.size)
  have W_6 := Lib.hid (W_5.out.moves (belowMv hb6 _) (Nat.le_refl _) (by omega))
  have XB_6 := Lib.hid (XB_5.out.moves (belowMv hb6 _) (.inr (Nat.le_refl _)))
  have XE_6 := Lib.hid (X0E_5.out.moves (belowMv hb6 _) (.inr (Nat.le_refl _)))
  have s6 := hb6.size
  clear L_5 B_5 W_5 XB_5 X0E_5 k0 k1 d0 d1 hb6
  have G_6 := Lib.hid ho6
  clear ho6
  have k0 := L_6.out.c0
  have k1 := L_6.out.c1
  have d0 : w6.cell? ⟨w4.heap.size, 0, none⟩ = some (.int .i64 N0) := by rw [XB_6.out.cell]; rfl
  have d1 : w6.cell? ⟨w4.heap.size, 1, none⟩ = some (.slice (some ⟨g4, 0, none⟩) es0.length es0.length) := by rw [XB_6.out.cell]; rfl
  go_wp2_with fail
  refine (eqIntSS_any _ _ _ _ _ _ _ (by omega) (by omega) HZR.out HZR.out (G_6.out.ints.wide (by omega)) (W_6.out.wide (by omega))).mono ?_
  rintro e w7 ⟨rfl, hb7⟩
  have L_7 := Lib.hid (L_6.out.next hb7)
  have B_7 := Lib.hid (belowMoves B_6.out (belowMv hb7 _) (Nat.le_refl _) B_6.out.size)
  have W_7 := Lib.hid (W_6.out.moves (belowMv hb7 _) (Nat.le_refl _) (by omega))
  have XB_7 := Lib.hid (XB_6.out.moves (belowMv hb7 _) (.inr (Nat.le_refl _)))
  have XE_7 := Lib.hid (XE_6.out.moves (belowMv hb7 _) (.inr (Nat.le_refl _)))
  have G_7 := Lib.hid (G_6.out.moves (belowMv hb7 _) (.inr (Nat.le_refl _)))
  have s7 := hb7.size
  clear L_6 B_6 W_6 XB_6 XE_6 G_6 k0 k1 d0 d1 hb7
  have k0 := L_7.out.c0
  have k1 := L_7.out.c1
  have d0 : w7.cell? ⟨w4.heap.size, 0, none⟩ = some (.int .i64 N0) := by rw [XB_7.out.cell]; rfl
  have d1 : w7.cell? ⟨w4.heap.size, 1, none⟩ = some (.slice (some ⟨g4, 0, none⟩) es0.length es0.length) := by rw [XB_7.out.cell]; rfl
  have l0 := L_7.out.lt
  have l1 := XB_7.out.lt
  have l2 := XE_7.out.lt
  go_wp2_with fail
  go_region_held3 (fun w' => w'.cell? ⟨w.heap.size, 0, none⟩ = some (.int .i64 N0) ∧ w'.cell? ⟨w.heap.size, 1, none⟩ = some (.slice A0 es0.length c0) ∧ w'.cell? ⟨w4.heap.size, 0, none⟩ = some (.int .i64 N0) ∧ w'.cell? ⟨w4.heap.size, 1, none⟩ = some (.slice (some ⟨g4, 0, none⟩) es0.length es0.length) ∧ Below w7.heap.size w7 w')
    (first
      | exact ⟨k0, k1, d0, d1, (Below.refl _ _).drew⟩
      | exact keep4 (by assumption) hb8 l0 l0 l1 l1
      | exact keep4 (by assumption) hb9 l0 l0 l1 l1)
    (first
      | (go_at_call 24; refine (toGraph_any _ _ _ _ _ hn0 (HE0.out.up_ (B_7.out.drew))).mono ?_; rintro e w8 ⟨g8, rfl, hg8, hk8, hb8⟩)
      | (go_at_call 27; refine (eqGraph_any _ _ _ _ _ _ _ _ _ hlen0 hlen0 (EdgeS.of_blk (XE_7.out.drew.below hb8 l2) (Nat.lt_of_lt_of_le l2 hb8.size)) (EdgeS.of_blk hk8 hk8.lt)).mono ?_; rintro e w9 ⟨rfl, hb9⟩))
  have hbz9 : Below w7.heap.size w7 w9 := (Below.refl _ _).drew.trans (hb8.trans (hb9.mono hb8.size))
  have hq := eqG_self N0 es0
  rw [hq]
  clear hq hb8 hb9 hk8 hg8 l0 l1 l2
  have L_9 := Lib.hid (L_7.out.next hbz9)
  have B_9 := Lib.hid (belowMoves B_7.out (belowMv hbz9 _) (Nat.le_refl _) B_7.out.size)
  have W_9 := Lib.hid (W_7.out.moves (belowMv hbz9 _) (Nat.le_refl _) (by omega))
  have XB_9 := Lib.hid (XB_7.out.moves (belowMv hbz9 _) (.inr (Nat.le_refl _)))
  have XE_9 := Lib.hid (XE_7.out.moves (belowMv hbz9 _) (.inr (Nat.le_refl _)))
  have G_9 := Lib.hid (G_7.out.moves (belowMv hbz9 _) (.inr (Nat.le_refl _)))
  have s9 := hbz9.size
  clear L_7 B_7 W_7 XB_7 XE_7 G_7 k0 k1 d0 d1 hbz9
  have k0 := L_9.out.c0
  have k1 := L_9.out.c1
  have d0 : w9.cell? ⟨w4.heap.size, 0, none⟩ = some (.int .i64 N0) := by rw [XB_9.out.cell]; rfl
  have d1 : w9.cell? ⟨w4.heap.size, 1, none⟩ = some (.slice (some ⟨g4, 0, none⟩) es0.length es0.length) := by rw [XB_9.out.cell]; rfl
  go_wp2_with fail
  refine (markGraphB_any N0 _ g4 es0 _ hn0 (by omega) (by omega) XE_9.out).mono ?_
  rintro e w10 ⟨rfl, hgr10⟩
  have hm10 := grownMv hgr10
  clear hgr10
  have L_10 := Lib.hid (L_9.out.moves hm10 (by omega))
  have B_10 := Lib.hid (belowMoves B_9.out hm10 (by omega) B_9.out.size)
  have W_10 := Lib.hid (W_9.out.moves hm10 (by omega) (by omega))
  have G_10 := Lib.hid (G_9.out.moves hm10 (by omega))
  have s10 := hm10.size
  clear L_9 B_9 W_9 XB_9 XE_9 G_9 k0 k1 d0 d1 hm10
  have tk : decide ((1 : Int) + 2 * es0.length < 0) = false := decide_eq_false (by omega)
  have k0 := L_10.out.c0
  have k1 := L_10.out.c1
  go_wp2_with fail
  refine (eqIntSS_any _ _ _ _ _ _ _ (by omega) (by omega) HZR.out HZR.out (G_10.out.ints.wide (by omega)) (W_10.out.wide (by omega))).mono ?_
  rintro e w11 ⟨rfl, hb11⟩
  have L_11 := Lib.hid (L_10.out.next hb11)
  have B_11 := Lib.hid (belowMoves B_10.out (belowMv hb11 _) (Nat.le_refl _) B_10.out.size)
  have W_11 := Lib.hid (W_10.out.moves (belowMv hb11 _) (Nat.le_refl _) (by omega))
  have G_11 := Lib.hid (G_10.out.moves (belowMv hb11 _) (.inr (Nat.le_refl _)))
  have s11 := hb11.size
  clear L_10 B_10 W_10 G_10 k0 k1 hb11
  have k0 := L_11.out.c0
  have k1 := L_11.out.c1
  go_wp2_with fail
  refine (markSS_own _ _ _ _ zs _ _ hzn hzl (by omega) (by omega) G_11.out).mono ?_
  rintro e w12 ⟨rfl, ho12, hm12⟩
  have L_12 := Lib.hid (L_11.out.moves hm12 (by omega))
  have B_12 := Lib.hid (belowMoves B_11.out hm12 (by omega) B_11.out.size)
  have W_12 := Lib.hid (W_11.out.moves hm12 (by omega) (by omega))
  have s12 := hm12.size
  clear L_11 B_11 W_11 G_11 k0 k1 hm12
  have G_12 := Lib.hid ho12
  clear ho12
  go_wp2_with fail
  refine (heldSS_any _ _ _ zs _ _ hzn hzl (by omega) (by omega) G_12.out.ints).mono ?_
  rintro e w' ⟨rfl, rfl⟩
  have tq : ((1 : Int) + lens zs != 1 + lens zs) = false := by simp
  have k0 := L_12.out.c0
  have k1 := L_12.out.c1
  go_wp2_with fail
  refine (toGraph_any _ _ _ _ _ hn0 (HE0.out.up_ B_12.out)).mono ?_
  rintro e w13 ⟨g13, rfl, hg13, hk13, hb13⟩
  have L_13 := Lib.hid (L_12.out.next hb13)
  have B_13 := Lib.hid (belowMoves B_12.out (belowMv hb13 _) (Nat.le_refl _) B_12.out.size)
  have W_13 := Lib.hid (W_12.out.moves (belowMv hb13 _) (Nat.le_refl _) (by omega))
  have G_13 := Lib.hid (G_12.out.moves (belowMv hb13 _) (.inr (Nat.le_refl _)))
  have s13 := hb13.size
  clear L_12 B_12 W_12 G_12 k0 k1 hb13
  have V0E_13 := Lib.hid hk13
  have lt13 := hk13.lt
  clear hk13
  have k0 := L_13.out.c0
  have k1 := L_13.out.c1
  go_wp2_with fail
  refine (HIM _ _ _ (EdgeS.of_blk V0E_13.out V0E_13.out.lt)).out.mono ?_
  rintro e w14 ⟨AH, cH, rfl, ho14, hb14⟩
  have L_14 := Lib.hid (L_13.out.next hb14)
  have B_14 := Lib.hid (belowMoves B_13.out (belowMv hb14 _) (Nat.le_refl _) B_13.out.size)
  have W_14 := Lib.hid (W_13.out.moves (belowMv hb14 _) (Nat.le_refl _) (by omega))
  have G_14 := Lib.hid (G_13.out.moves (belowMv hb14 _) (.inr (Nat.le_refl _)))
  have s14 := hb14.size
  clear L_13 B_13 W_13 G_13 V0E_13 k0 k1 hb14
  have H_14 := Lib.hid ho14.ints
  clear ho14
  have k0 := L_14.out.c0
  have k1 := L_14.out.c1
  go_wp2_with fail
  refine (eqIntSS_any _ _ _ _ _ _ _ (by omega) (by omega) HZR.out HZR.out (H_14.out.wide (by omega)) (W_14.out.wide (by omega))).mono ?_
  rintro e w15 ⟨rfl, hb15⟩
  have L_15 := Lib.hid (L_14.out.next hb15)
  have B_15 := Lib.hid (belowMoves B_14.out (belowMv hb15 _) (Nat.le_refl _) B_14.out.size)
  have G_15 := Lib.hid (G_14.out.moves (belowMv hb15 _) (.inr (Nat.le_refl _)))
  have s15 := hb15.size
  clear L_14 B_14 W_14 G_14 H_14 k0 k1 hb15
  go_wp2_with fail
  refine (heldSS_any _ _ _ zs _ _ hzn hzl (by omega) (by omega) G_15.out.ints).mono ?_
  rintro e w' ⟨rfl, rfl⟩
  go_wp2
  go_ret
  exact ⟨rfl, B_15.out⟩
end Go.Proofs.Ytdpojcgeblbfeaa
