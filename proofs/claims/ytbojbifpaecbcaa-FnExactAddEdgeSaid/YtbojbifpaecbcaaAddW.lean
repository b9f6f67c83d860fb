/- The walk of laws.FnExactAddEdge. -/
import Derived.Test.YtbojbifpaecbcaaAdd
import Derived.Test.YtbojbifpaecbcaaAddS
import Derived.Test.YtbojbifpaecbcaaMarkG
import Derived.Test.YtbojbifpaecbcaaBA
namespace Go.Proofs.Ytbojbifpaecbcaa
open Go.RowKit

set_option maxRecDepth 100000 in
set_option maxHeartbeats 2000000 in
theorem lawAddEdge (N0 : Int) (A0 : Option Addr) (c0 : Nat) (es0 : List (Int × Int)) (n1 : Int) (n2 : Int) (w : World) (hg0 : GraphArg w N0 A0 c0 es0) (_ : -9223372036854775808 ≤ n1) (_ : n1 ≤ 9223372036854775807) (_ : -9223372036854775808 ≤ n2) (_ : n2 ≤ 9223372036854775807) :
    Calls Try.prog 6 #[.agg #[.int .i64 N0, .slice A0 es0.length c0], .int .i64 n1, .int .i64 n2] w fun e w' => e = .returned (.bool true) ∧ Below w.heap.size w w' := by
  have hlen0 := hg0.len
  by_cases hbig : (1048576 : Int) < es0.length
  · clear hg0
    go_enter Try.func6, Try.ntmps6
    go_wp2_with (go_at_call 36; refine (szGraph_big _ _ _ _ _ _ hlen0 (by omega) (by omega) hbig).mono ?_; rintro e w1 ⟨rfl, hb1⟩)
    go_ret
    exact ⟨rfl, ((LawG.start w N0 A0 c0 es0).next hb1).old⟩
  have hsm : (es0.length : Int) ≤ 1048576 := by omega
  have hn0 : es0.length ≤ 1048576 := by omega
  clear hbig
  have HE0 := Lib.hid hg0.edges
  have hw0 := Lib.hid hg0.wf
  have hl0 := hg0.lo
  have hh0 := hg0.hi
  clear hg0
  have HSP := fun (A0 : Option Addr) (c0 : Nat) (w : World) (E0 : EdgeS w w.heap.size A0 es0) => Lib.hid (specAdd N0 A0 c0 es0 n1 n2 w hn0 E0)
  have HIM := fun (A0 : Option Addr) (c0 : Nat) (w : World) (E0 : EdgeS w w.heap.size A0 es0) => Lib.hid (implAdd N0 A0 c0 es0 n1 n2 w hn0 E0)
  obtain ⟨zN, hzN⟩ : ∃ z, z = addN N0 es0 n1 n2 := ⟨_, rfl⟩
  rw [← hzN] at HSP HIM
  clear hzN
  obtain ⟨zs, hzs⟩ : ∃ zs, zs = addL N0 es0 n1 n2 := ⟨_, rfl⟩
  have hzn : zs.length ≤ 1048576 := by rw [hzs]; exact addL_len hn0
  rw [← hzs] at HSP HIM
  clear hzs
  obtain ⟨vb, hvb⟩ : ∃ v, v = addK N0 es0 n1 n2 := ⟨_, rfl⟩
  rw [← hvb] at HSP HIM
  clear hvb
  have tvb : (vb != vb) = false := by simp
  go_enter Try.func6, Try.ntmps6
  go_wp2_with fail
  refine (szGraph_ok _ _ _ _ _ _ (by omega) hsm).mono ?_
  rintro e w1 ⟨rfl, hb1⟩
  have L_1 := Lib.hid ((LawG.start w N0 A0 c0 es0).next hb1)
  have B_1 := Lib.hid L_1.out.old
  have ltL := L_1.out.lt
  clear hb1 hsm
  have k0 := L_1.out.c0
  have k1 := L_1.out.c1
  go_wp2_with fail
  refine (toGraph_any _ _ _ _ _ hn0 (HE0.out.up_ B_1.out)).mono ?_
  rintro e w2 ⟨g2, rfl, hg2, hk2, hb2⟩
  have L_2 := Lib.hid (L_1.out.next hb2)
  have B_2 := Lib.hid (belowMoves B_1.out (belowMv hb2 _) (Nat.le_refl _) B_1.out.size)
  have s2 := hb2.size
  clear L_1 B_1 k0 k1 hb2
  have T0E_2 := Lib.hid hk2
  have lt2 := hk2.lt
  clear hk2
  have k0 := L_2.out.c0
  have k1 := L_2.out.c1
  go_wp2_with fail
  refine (HSP _ _ _ (EdgeS.of_blk T0E_2.out T0E_2.out.lt)).out.mono ?_
  rintro e w3 ⟨AW, cW, rfl, ho3, hr3, hb3⟩
  clear hr3
  have L_3 := Lib.hid (L_2.out.next hb3)
  have B_3 := Lib.hid (belowMoves B_2.out (belowMv hb3 _) (Nat.le_refl _) B_2.out.size)
  have s3 := hb3.size
  clear L_2 B_2 T0E_2 k0 k1 hb3
  have W_3 := Lib.hid ho3.edges
  clear ho3
  have k0 := L_3.out.c0
  have k1 := L_3.out.c1
  have lq := L_3.out.lt
  go_wp2_with fail
  obtain ⟨w4, hw4_⟩ : ∃ x, x = w3.alloc (.cells #[.int .i64 zN, .slice AW zs.length cW] 25) := ⟨_, rfl⟩
  rw [← hw4_]
  have hb4 : Below w3.heap.size w3 w4 := by rw [hw4_]; exact (Below.refl _ _).alloc (Nat.le_refl _) _
  have hk4 : Blk w4 w3.heap.size 25 #[.int .i64 zN, .slice AW zs.length cW] := by rw [hw4_]; exact Blk.new w3 _ _
  have sx4 : w3.heap.size + 1 ≤ w4.heap.size := by rw [hw4_]; simp
  clear hw4_
  have L_4 := Lib.hid (L_3.out.next hb4)
  have B_4 := Lib.hid (belowMoves B_3.out (belowMv hb4 _) (Nat.le_refl _) B_3.out.size)
  have W_4 := Lib.hid (W_3.out.moves (belowMv hb4 _) (Nat.le_refl _) (by omega))
  have s4 := hb4.size
  clear L_3 B_3 W_3 k0 k1 lq hb4
  have WB_4 := Lib.hid hk4
  clear hk4
  have k0 := L_4.out.c0
  have k1 := L_4.out.c1
  have w0_ : w4.cell? ⟨w3.heap.size, 0, none⟩ = some (.int .i64 zN) := by rw [WB_4.out.cell]; rfl
  have w1_ : w4.cell? ⟨w3.heap.size, 1, none⟩ = some (.slice AW zs.length cW) := by rw [WB_4.out.cell]; rfl
  have w2_ := WB_4.out.lt
  refine (toGraph_any _ _ _ _ _ hn0 (HE0.out.up_ B_4.out)).mono ?_
  rintro e w5 ⟨g5, rfl, hg5, hk5, hb5⟩
  have L_5 := Lib.hid (L_4.out.next hb5)
  have B_5 := Lib.hid (belowMoves B_4.out (belowMv hb5 _) (Nat.le_refl _) B_4.out.size)
  have W_5 := Lib.hid (W_4.out.moves (belowMv hb5 _) (Nat.le_refl _) (by omega))
  have WB_5 := Lib.hid (WB_4.out.moves (belowMv hb5 _) (.inr (Nat.le_refl _)))
  have s5 := hb5.size
  clear L_4 B_4 W_4 WB_4 k0 k1 w0_ w1_ w2_ hb5
  have X0E_5 := Lib.hid hk5
  have lt5 := hk5.lt
  clear hk5
  have k0 := L_5.out.c0
  have k1 := L_5.out.c1
  have w0_ : w5.cell? ⟨w3.heap.size, 0, none⟩ = some (.int .i64 zN) := by rw [WB_5.out.cell]; rfl
  have w1_ : w5.cell? ⟨w3.heap.size, 1, none⟩ = some (.slice AW zs.length cW) := by rw [WB_5.out.cell]; rfl
  have w2_ := WB_5.out.lt
  go_wp2_with fail
  obtain ⟨w6, hw6_⟩ : ∃ x, x = w5.alloc (.cells #[.int .i64 N0, .slice (some ⟨g5, 0, none⟩) es0.length es0.length] 25) := ⟨_, rfl⟩
  rw [← hw6_]
  have hb6 : Below w5.heap.size w5 w6 := by rw [hw6_]; exact (Below.refl _ _).alloc (Nat.le_refl _) _
  have hk6 : Blk w6 w5.heap.size 25 #[.int .i64 N0, .slice (some ⟨g5, 0, none⟩) es0.length es0.length] := by rw [hw6_]; exact Blk.new w5 _ _
  have sx6 : w5.heap.size + 1 ≤ w6.heap.size := by rw [hw6_]; simp
  clear hw6_
  have L_6 := Lib.hid (L_5.out.next hb6)
  have B_6 := Lib.hid (belowMoves B_5.out (belowMv hb6 _) (Nat.le_refl _) B_5.out.size)
  have W_6 := Lib.hid (W_5.out.moves (belowMv hb6 _) (Nat.le_refl _) (by omega))
  have WB_6 := Lib.hid (WB_5.out.moves (belowMv hb6 _) (.inr (Nat.le_refl _)))
  have X0E_6 := Lib.hid (X0E_5.out.moves (belowMv hb6 _) (.inr (Nat.le_refl _)))
  have s6 := hb6.size
  clear L_5 B_5 W_5 WB_5 X0E_5 k0 k1 w0_ w1_ w2_ hb6
  have XB_6 := Lib.hid hk6
  clear hk6
  have k0 := L_6.out.c0
  have k1 := L_6.out.c1
  have d0 : w6.cell? ⟨w5.heap.size, 0, none⟩ = some (.int .i64 N0) := by rw [XB_6.out.cell]; rfl
  have d1 : w6.cell? ⟨w5.heap.size, 1, none⟩ = some (.slice (some ⟨g5, 0, none⟩) es0.length es0.length) := by rw [XB_6.out.cell]; rfl
  have w0_ : w6.cell? ⟨w3.heap.size, 0, none⟩ = some (.int .i64 zN) := by rw [WB_6.out.cell]; rfl
  have w1_ : w6.cell? ⟨w3.heap.size, 1, none⟩ = some (.slice AW zs.length cW) := by rw [WB_6.out.cell]; rfl
  have w2_ := WB_6.out.lt
  refine (HIM _ _ _ (EdgeS.of_blk X0E_6.out X0E_6.out.lt)).out.mono ?_
  rintro e w7 ⟨AG, cG, rfl, ho7, hr7, hb7⟩
  have HRG := Lib.hid hr7
  clear hr7
  have L_7 := Lib.hid (L_6.out.next hb7)
  have B_7 := Lib.hid (belowMoves B_6.out (belowMv hb7 _) (Nat.le_refl _) B_6.out.size)
  have W_7 := Lib.hid (W_6.out.moves (belowMv hb7 _) (Nat.le_refl _) (by omega))
  have WB_7 := Lib.hid (WB_6.out.moves (belowMv hb7 _) (.inr (Nat.le_refl _)))
  have XB_7 := Lib.hid (XB_6.out.moves (belowMv hb7 _) (.inr (Nat.le_refl _)))
  have XE_7 := Lib.hid (X0E_6.out.moves (belowMv hb7 _) (.inr (Nat.le_refl _)))
  have s7 := hb7.size
  clear L_6 B_6 W_6 WB_6 XB_6 X0E_6 k0 k1 d0 d1 w0_ w1_ w2_ hb7
  have G_7 := Lib.hid ho7
  clear ho7
  have k0 := L_7.out.c0
  have k1 := L_7.out.c1
  have d0 : w7.cell? ⟨w5.heap.size, 0, none⟩ = some (.int .i64 N0) := by rw [XB_7.out.cell]; rfl
  have d1 : w7.cell? ⟨w5.heap.size, 1, none⟩ = some (.slice (some ⟨g5, 0, none⟩) es0.length es0.length) := by rw [XB_7.out.cell]; rfl
  have w0_ : w7.cell? ⟨w3.heap.size, 0, none⟩ = some (.int .i64 zN) := by rw [WB_7.out.cell]; rfl
  have w1_ : w7.cell? ⟨w3.heap.size, 1, none⟩ = some (.slice AW zs.length cW) := by rw [WB_7.out.cell]; rfl
  have w2_ := WB_7.out.lt
  have lq := L_7.out.lt
  go_wp2_with fail
  obtain ⟨w8, hw8_⟩ : ∃ x, x = w7.alloc (.cells #[.int .i64 zN, .slice AG zs.length cG] 25) := ⟨_, rfl⟩
  rw [← hw8_]
  have hb8 : Below w7.heap.size w7 w8 := by rw [hw8_]; exact (Below.refl _ _).alloc (Nat.le_refl _) _
  have hk8 : Blk w8 w7.heap.size 25 #[.int .i64 zN, .slice AG zs.length cG] := by rw [hw8_]; exact Blk.new w7 _ _
  have sx8 : w7.heap.size + 1 ≤ w8.heap.size := by rw [hw8_]; simp
  clear hw8_
  have L_8 := Lib.hid (L_7.out.next hb8)
  have B_8 := Lib.hid (belowMoves B_7.out (belowMv hb8 _) (Nat.le_refl _) B_7.out.size)
  have W_8 := Lib.hid (W_7.out.moves (belowMv hb8 _) (Nat.le_refl _) (by omega))
  have WB_8 := Lib.hid (WB_7.out.moves (belowMv hb8 _) (.inr (Nat.le_refl _)))
  have XB_8 := Lib.hid (XB_7.out.moves (belowMv hb8 _) (.inr (Nat.le_refl _)))
  have XE_8 := Lib.hid (XE_7.out.moves (belowMv hb8 _) (.inr (Nat.le_refl _)))
  have G_8 := Lib.hid (G_7.out.moves (belowMv hb8 _) (Nat.le_refl _))
  have s8 := hb8.size
  clear L_7 B_7 W_7 WB_7 XB_7 XE_7 G_7 k0 k1 d0 d1 w0_ w1_ w2_ lq hb8
  have GB_8 := Lib.hid hk8
  clear hk8
  have k0 := L_8.out.c0
  have k1 := L_8.out.c1
  have d0 : w8.cell? ⟨w5.heap.size, 0, none⟩ = some (.int .i64 N0) := by rw [XB_8.out.cell]; rfl
  have d1 : w8.cell? ⟨w5.heap.size, 1, none⟩ = some (.slice (some ⟨g5, 0, none⟩) es0.length es0.length) := by rw [XB_8.out.cell]; rfl
  have w0_ : w8.cell? ⟨w3.heap.size, 0, none⟩ = some (.int .i64 zN) := by rw [WB_8.out.cell]; rfl
  have w1_ : w8.cell? ⟨w3.heap.size, 1, none⟩ = some (.slice AW zs.length cW) := by rw [WB_8.out.cell]; rfl
  have w2_ := WB_8.out.lt
  have g0_ : w8.cell? ⟨w7.heap.size, 0, none⟩ = some (.int .i64 zN) := by rw [GB_8.out.cell]; rfl
  have g1_ : w8.cell? ⟨w7.heap.size, 1, none⟩ = some (.slice AG zs.length cG) := by rw [GB_8.out.cell]; rfl
  have g2_ := GB_8.out.lt
  refine (eqGraph_any _ _ _ _ _ _ zs zs _ (by omega) (by omega) (EdgeS.keep G_8.out.edges (fun _ _ => rfl) (Nat.le_refl _)) (EdgeS.keep W_8.out (fun _ _ => rfl) (by omega))).mono ?_
  rintro e w9 ⟨rfl, hb9⟩
  have hq := eqG_self zN zs
  rw [hq]
  clear hq
  have L_9 := Lib.hid (L_8.out.next hb9)
  have B_9 := Lib.hid (belowMoves B_8.out (belowMv hb9 _) (Nat.le_refl _) B_8.out.size)
  have W_9 := Lib.hid (W_8.out.moves (belowMv hb9 _) (Nat.le_refl _) (by omega))
  have WB_9 := Lib.hid (WB_8.out.moves (belowMv hb9 _) (.inr (Nat.le_refl _)))
  have XB_9 := Lib.hid (XB_8.out.moves (belowMv hb9 _) (.inr (Nat.le_refl _)))
  have XE_9 := Lib.hid (XE_8.out.moves (belowMv hb9 _) (.inr (Nat.le_refl _)))
  have G_9 := Lib.hid (G_8.out.moves (belowMv hb9 _) (Nat.le_refl _))
  have GB_9 := Lib.hid (GB_8.out.moves (belowMv hb9 _) (.inr (Nat.le_refl _)))
  have s9 := hb9.size
  clear L_8 B_8 W_8 WB_8 XB_8 XE_8 G_8 GB_8 k0 k1 d0 d1 w0_ w1_ w2_ g0_ g1_ g2_ hb9
  have k0 := L_9.out.c0
  have k1 := L_9.out.c1
  have d0 : w9.cell? ⟨w5.heap.size, 0, none⟩ = some (.int .i64 N0) := by rw [XB_9.out.cell]; rfl
  have d1 : w9.cell? ⟨w5.heap.size, 1, none⟩ = some (.slice (some ⟨g5, 0, none⟩) es0.length es0.length) := by rw [XB_9.out.cell]; rfl
  have w0_ : w9.cell? ⟨w3.heap.size, 0, none⟩ = some (.int .i64 zN) := by rw [WB_9.out.cell]; rfl
  have w1_ : w9.cell? ⟨w3.heap.size, 1, none⟩ = some (.slice AW zs.length cW) := by rw [WB_9.out.cell]; rfl
  have w2_ := WB_9.out.lt
  have g0_ : w9.cell? ⟨w7.heap.size, 0, none⟩ = some (.int .i64 zN) := by rw [GB_9.out.cell]; rfl
  have g1_ : w9.cell? ⟨w7.heap.size, 1, none⟩ = some (.slice AG zs.length cG) := by rw [GB_9.out.cell]; rfl
  have g2_ := GB_9.out.lt
  have l0 := L_9.out.lt
  have l1 := XB_9.out.lt
  have l2 := XE_9.out.lt
  go_wp2_with fail
  go_region_held3 (fun w' => w'.cell? ⟨w.heap.size, 0, none⟩ = some (.int .i64 N0) ∧ w'.cell? ⟨w.heap.size, 1, none⟩ = some (.slice A0 es0.length c0) ∧ w'.cell? ⟨w5.heap.size, 0, none⟩ = some (.int .i64 N0) ∧ w'.cell? ⟨w5.heap.size, 1, none⟩ = some (.slice (some ⟨g5, 0, none⟩) es0.length es0.length) ∧ Below w9.heap.size w9 w')
    (first
      | exact ⟨k0, k1, d0, d1, (Below.refl _ _).drew⟩
      | exact keep4 (by assumption) hb10 l0 l0 l1 l1
      | exact keep4 (by assumption) hb11 l0 l0 l1 l1)
    (first
      | (go_at_call 38; refine (toGraph_any _ _ _ _ _ hn0 (HE0.out.up_ (B_9.out.drew))).mono ?_; rintro e w10 ⟨g10, rfl, hg10, hk10, hb10⟩)
      | (go_at_call 39; refine (eqGraph_any _ _ _ _ _ _ _ _ _ hlen0 hlen0 (EdgeS.of_blk (XE_9.out.drew.below hb10 l2) (Nat.lt_of_lt_of_le l2 hb10.size)) (EdgeS.of_blk hk10 hk10.lt)).mono ?_; rintro e w11 ⟨rfl, hb11⟩))
  have hbz11 : Below w9.heap.size w9 w11 := (Below.refl _ _).drew.trans (hb10.trans (hb11.mono hb10.size))
  have hq := eqG_self N0 es0
  rw [hq]
  clear hq hb10 hb11 hk10 hg10 l0 l1 l2
  have L_11 := Lib.hid (L_9.out.next hbz11)
  have B_11 := Lib.hid (belowMoves B_9.out (belowMv hbz11 _) (Nat.le_refl _) B_9.out.size)
  have W_11 := Lib.hid (W_9.out.moves (belowMv hbz11 _) (Nat.le_refl _) (by omega))
  have WB_11 := Lib.hid (WB_9.out.moves (belowMv hbz11 _) (.inr (Nat.le_refl _)))
  have XB_11 := Lib.hid (XB_9.out.moves (belowMv hbz11 _) (.inr (Nat.le_refl _)))
  have XE_11 := Lib.hid (XE_9.out.moves (belowMv hbz11 _) (.inr (Nat.le_refl _)))
  have G_11 := Lib.hid (G_9.out.moves (belowMv hbz11 _) (Nat.le_refl _))
  have GB_11 := Lib.hid (GB_9.out.moves (belowMv hbz11 _) (.inr (Nat.le_refl _)))
  have s11 := hbz11.size
  clear L_9 B_9 W_9 WB_9 XB_9 XE_9 G_9 GB_9 k0 k1 d0 d1 w0_ w1_ w2_ g0_ g1_ g2_ hbz11
  have k0 := L_11.out.c0
  have k1 := L_11.out.c1
  have d0 : w11.cell? ⟨w5.heap.size, 0, none⟩ = some (.int .i64 N0) := by rw [XB_11.out.cell]; rfl
  have d1 : w11.cell? ⟨w5.heap.size, 1, none⟩ = some (.slice (some ⟨g5, 0, none⟩) es0.length es0.length) := by rw [XB_11.out.cell]; rfl
  have w0_ : w11.cell? ⟨w3.heap.size, 0, none⟩ = some (.int .i64 zN) := by rw [WB_11.out.cell]; rfl
  have w1_ : w11.cell? ⟨w3.heap.size, 1, none⟩ = some (.slice AW zs.length cW) := by rw [WB_11.out.cell]; rfl
  have w2_ := WB_11.out.lt
  have g0_ : w11.cell? ⟨w7.heap.size, 0, none⟩ = some (.int .i64 zN) := by rw [GB_11.out.cell]; rfl
  have g1_ : w11.cell? ⟨w7.heap.size, 1, none⟩ = some (.slice AG zs.length cG) := by rw [GB_11.out.cell]; rfl
  have g2_ := GB_11.out.lt
  go_wp2_with fail
  refine (markGraphB_any N0 _ g5 es0 _ hn0 (by omega) (by omega) XE_11.out).mono ?_
  rintro e w12 ⟨rfl, hgr12⟩
  have hm12 := grownMv hgr12
  clear hgr12
  have L_12 := Lib.hid (L_11.out.moves hm12 (by omega))
  have B_12 := Lib.hid (belowMoves B_11.out hm12 (by omega) B_11.out.size)
  have W_12 := Lib.hid (W_11.out.moves hm12 (by omega) (by omega))
  have WB_12 := Lib.hid (WB_11.out.moves hm12 (by omega))
  have G_12 := Lib.hid (G_11.out.moves hm12 (by omega))
  have GB_12 := Lib.hid (GB_11.out.moves hm12 (by omega))
  have s12 := hm12.size
  clear L_11 B_11 W_11 WB_11 XB_11 XE_11 G_11 GB_11 k0 k1 d0 d1 w0_ w1_ w2_ g0_ g1_ g2_ hm12
  have tk : decide ((1 : Int) + 2 * es0.length < 0) = false := decide_eq_false (by omega)
  have k0 := L_12.out.c0
  have k1 := L_12.out.c1
  have w0_ : w12.cell? ⟨w3.heap.size, 0, none⟩ = some (.int .i64 zN) := by rw [WB_12.out.cell]; rfl
  have w1_ : w12.cell? ⟨w3.heap.size, 1, none⟩ = some (.slice AW zs.length cW) := by rw [WB_12.out.cell]; rfl
  have w2_ := WB_12.out.lt
  have g0_ : w12.cell? ⟨w7.heap.size, 0, none⟩ = some (.int .i64 zN) := by rw [GB_12.out.cell]; rfl
  have g1_ : w12.cell? ⟨w7.heap.size, 1, none⟩ = some (.slice AG zs.length cG) := by rw [GB_12.out.cell]; rfl
  have g2_ := GB_12.out.lt
  go_wp2_with fail
  refine (eqGraph_any _ _ _ _ _ _ zs zs _ (by omega) (by omega) (EdgeS.keep G_12.out.edges (fun _ _ => rfl) (Nat.le_refl _)) (EdgeS.keep W_12.out (fun _ _ => rfl) (by omega))).mono ?_
  rintro e w13 ⟨rfl, hb13⟩
  have hq := eqG_self zN zs
  rw [hq]
  clear hq
  have L_13 := Lib.hid (L_12.out.next hb13)
  have B_13 := Lib.hid (belowMoves B_12.out (belowMv hb13 _) (Nat.le_refl _) B_12.out.size)
  have W_13 := Lib.hid (W_12.out.moves (belowMv hb13 _) (Nat.le_refl _) (by omega))
  have WB_13 := Lib.hid (WB_12.out.moves (belowMv hb13 _) (.inr (Nat.le_refl _)))
  have G_13 := Lib.hid (G_12.out.moves (belowMv hb13 _) (Nat.le_refl _))
  have GB_13 := Lib.hid (GB_12.out.moves (belowMv hb13 _) (.inr (Nat.le_refl _)))
  have s13 := hb13.size
  clear L_12 B_12 W_12 WB_12 G_12 GB_12 k0 k1 w0_ w1_ w2_ g0_ g1_ g2_ hb13
  have k0 := L_13.out.c0
  have k1 := L_13.out.c1
  have w0_ : w13.cell? ⟨w3.heap.size, 0, none⟩ = some (.int .i64 zN) := by rw [WB_13.out.cell]; rfl
  have w1_ : w13.cell? ⟨w3.heap.size, 1, none⟩ = some (.slice AW zs.length cW) := by rw [WB_13.out.cell]; rfl
  have w2_ := WB_13.out.lt
  have g0_ : w13.cell? ⟨w7.heap.size, 0, none⟩ = some (.int .i64 zN) := by rw [GB_13.out.cell]; rfl
  have g1_ : w13.cell? ⟨w7.heap.size, 1, none⟩ = some (.slice AG zs.length cG) := by rw [GB_13.out.cell]; rfl
  have g2_ := GB_13.out.lt
  go_wp2_with fail
  refine (markGraphT_any _ _ _ _ (w6.heap.size) zs _ hzn (by omega) (by omega) G_13.out).mono ?_
  rintro e w14 ⟨rfl, ho14, w', hb', ht'⟩
  have hm14 := turnedMoves hb' ht' HRG.out
  clear hb' ht'
  have L_14 := Lib.hid (L_13.out.moves hm14 (by omega))
  have B_14 := Lib.hid (belowMoves B_13.out hm14 (by omega) B_13.out.size)
  have W_14 := Lib.hid (W_13.out.moves hm14 (by omega) (by omega))
  have WB_14 := Lib.hid (WB_13.out.moves hm14 (by omega))
  have GB_14 := Lib.hid (GB_13.out.moves hm14 (by omega))
  have s14 := hm14.size
  clear L_13 B_13 W_13 WB_13 G_13 GB_13 k0 k1 w0_ w1_ w2_ g0_ g1_ g2_ hm14
  have G_14 := Lib.hid ho14
  clear ho14
  have k0 := L_14.out.c0
  have k1 := L_14.out.c1
  have w0_ : w14.cell? ⟨w3.heap.size, 0, none⟩ = some (.int .i64 zN) := by rw [WB_14.out.cell]; rfl
  have w1_ : w14.cell? ⟨w3.heap.size, 1, none⟩ = some (.slice AW zs.length cW) := by rw [WB_14.out.cell]; rfl
  have w2_ := WB_14.out.lt
  have g0_ : w14.cell? ⟨w7.heap.size, 0, none⟩ = some (.int .i64 zN) := by rw [GB_14.out.cell]; rfl
  have g1_ : w14.cell? ⟨w7.heap.size, 1, none⟩ = some (.slice AG zs.length cG) := by rw [GB_14.out.cell]; rfl
  have g2_ := GB_14.out.lt
  go_wp2_with fail
  refine (heldGraph_any _ _ _ _ zs.length _ hzn (by omega) (by omega) G_14.out.edges).mono ?_
  rintro e w15 ⟨rfl, hb15⟩
  have L_15 := Lib.hid (L_14.out.next hb15)
  have B_15 := Lib.hid (belowMoves B_14.out (belowMv hb15 _) (Nat.le_refl _) B_14.out.size)
  have W_15 := Lib.hid (W_14.out.moves (belowMv hb15 _) (Nat.le_refl _) (by omega))
  have WB_15 := Lib.hid (WB_14.out.moves (belowMv hb15 _) (.inr (Nat.le_refl _)))
  have GB_15 := Lib.hid (GB_14.out.moves (belowMv hb15 _) (.inr (Nat.le_refl _)))
  have G_15 := Lib.hid (G_14.out.moves (belowMv hb15 _) (Nat.le_refl _))
  have s15 := hb15.size
  clear L_14 B_14 W_14 WB_14 GB_14 G_14 k0 k1 w0_ w1_ w2_ g0_ g1_ g2_ hb15
  have tq : ((1 : Int) + 2 * zs.length != 1 + 2 * zs.length) = false := by simp
  have tq0 : decide ((1 : Int) + 2 * zs.length < 0) = false := decide_eq_false (by omega)
  have k0 := L_15.out.c0
  have k1 := L_15.out.c1
  have w0_ : w15.cell? ⟨w3.heap.size, 0, none⟩ = some (.int .i64 zN) := by rw [WB_15.out.cell]; rfl
  have w1_ : w15.cell? ⟨w3.heap.size, 1, none⟩ = some (.slice AW zs.length cW) := by rw [WB_15.out.cell]; rfl
  have w2_ := WB_15.out.lt
  have g0_ : w15.cell? ⟨w7.heap.size, 0, none⟩ = some (.int .i64 zN) := by rw [GB_15.out.cell]; rfl
  have g1_ : w15.cell? ⟨w7.heap.size, 1, none⟩ = some (.slice AG zs.length cG) := by rw [GB_15.out.cell]; rfl
  have g2_ := GB_15.out.lt
  go_wp2_with fail
  refine (toGraph_any _ _ _ _ _ hn0 (HE0.out.up_ B_15.out)).mono ?_
  rintro e w16 ⟨g16, rfl, hg16, hk16, hb16⟩
  have L_16 := Lib.hid (L_15.out.next hb16)
  have B_16 := Lib.hid (belowMoves B_15.out (belowMv hb16 _) (Nat.le_refl _) B_15.out.size)
  have W_16 := Lib.hid (W_15.out.moves (belowMv hb16 _) (Nat.le_refl _) (by omega))
  have WB_16 := Lib.hid (WB_15.out.moves (belowMv hb16 _) (.inr (Nat.le_refl _)))
  have GB_16 := Lib.hid (GB_15.out.moves (belowMv hb16 _) (.inr (Nat.le_refl _)))
  have G_16 := Lib.hid (G_15.out.moves (belowMv hb16 _) (Nat.le_refl _))
  have s16 := hb16.size
  clear L_15 B_15 W_15 WB_15 GB_15 G_15 k0 k1 w0_ w1_ w2_ g0_ g1_ g2_ hb16
  have V0E_16 := Lib.hid hk16
  have lt16 := hk16.lt
  clear hk16
  have k0 := L_16.out.c0
  have k1 := L_16.out.c1
  have w0_ : w16.cell? ⟨w3.heap.size, 0, none⟩ = some (.int .i64 zN) := by rw [WB_16.out.cell]; rfl
  have w1_ : w16.cell? ⟨w3.heap.size, 1, none⟩ = some (.slice AW zs.length cW) := by rw [WB_16.out.cell]; rfl
  have w2_ := WB_16.out.lt
  have g0_ : w16.cell? ⟨w7.heap.size, 0, none⟩ = some (.int .i64 zN) := by rw [GB_16.out.cell]; rfl
  have g1_ : w16.cell? ⟨w7.heap.size, 1, none⟩ = some (.slice AG zs.length cG) := by rw [GB_16.out.cell]; rfl
  have g2_ := GB_16.out.lt
  go_wp2_with fail
  refine (HIM _ _ _ (EdgeS.of_blk V0E_16.out V0E_16.out.lt)).out.mono ?_
  rintro e w17 ⟨AH, cH, rfl, ho17, hr17, hb17⟩
  clear hr17
  have L_17 := Lib.hid (L_16.out.next hb17)
  have B_17 := Lib.hid (belowMoves B_16.out (belowMv hb17 _) (Nat.le_refl _) B_16.out.size)
  have W_17 := Lib.hid (W_16.out.moves (belowMv hb17 _) (Nat.le_refl _) (by omega))
  have WB_17 := Lib.hid (WB_16.out.moves (belowMv hb17 _) (.inr (Nat.le_refl _)))
  have GB_17 := Lib.hid (GB_16.out.moves (belowMv hb17 _) (.inr (Nat.le_refl _)))
  have G_17 := Lib.hid (G_16.out.moves (belowMv hb17 _) (Nat.le_refl _))
  have s17 := hb17.size
  clear L_16 B_16 W_16 WB_16 GB_16 G_16 V0E_16 k0 k1 w0_ w1_ w2_ g0_ g1_ g2_ hb17
  have H_17 := Lib.hid ho17.edges
  clear ho17
  have k0 := L_17.out.c0
  have k1 := L_17.out.c1
  have w0_ : w17.cell? ⟨w3.heap.size, 0, none⟩ = some (.int .i64 zN) := by rw [WB_17.out.cell]; rfl
  have w1_ : w17.cell? ⟨w3.heap.size, 1, none⟩ = some (.slice AW zs.length cW) := by rw [WB_17.out.cell]; rfl
  have w2_ := WB_17.out.lt
  have g0_ : w17.cell? ⟨w7.heap.size, 0, none⟩ = some (.int .i64 zN) := by rw [GB_17.out.cell]; rfl
  have g1_ : w17.cell? ⟨w7.heap.size, 1, none⟩ = some (.slice AG zs.length cG) := by rw [GB_17.out.cell]; rfl
  have g2_ := GB_17.out.lt
  have lq := L_17.out.lt
  go_wp2_with fail
  obtain ⟨w18, hw18_⟩ : ∃ x, x = w17.alloc (.cells #[.int .i64 zN, .slice AH zs.length cH] 25) := ⟨_, rfl⟩
  rw [← hw18_]
  have hb18 : Below w17.heap.size w17 w18 := by rw [hw18_]; exact (Below.refl _ _).alloc (Nat.le_refl _) _
  have hk18 : Blk w18 w17.heap.size 25 #[.int .i64 zN, .slice AH zs.length cH] := by rw [hw18_]; exact Blk.new w17 _ _
  have sx18 : w17.heap.size + 1 ≤ w18.heap.size := by rw [hw18_]; simp
  clear hw18_
  have L_18 := Lib.hid (L_17.out.next hb18)
  have B_18 := Lib.hid (belowMoves B_17.out (belowMv hb18 _) (Nat.le_refl _) B_17.out.size)
  have W_18 := Lib.hid (W_17.out.moves (belowMv hb18 _) (Nat.le_refl _) (by omega))
  have WB_18 := Lib.hid (WB_17.out.moves (belowMv hb18 _) (.inr (Nat.le_refl _)))
  have GB_18 := Lib.hid (GB_17.out.moves (belowMv hb18 _) (.inr (Nat.le_refl _)))
  have G_18 := Lib.hid (G_17.out.moves (belowMv hb18 _) (Nat.le_refl _))
  have H_18 := Lib.hid (H_17.out.moves (belowMv hb18 _) (Nat.le_refl _) (by omega))
  have s18 := hb18.size
  clear L_17 B_17 W_17 WB_17 GB_17 G_17 H_17 k0 k1 w0_ w1_ w2_ g0_ g1_ g2_ lq hb18
  have HB_18 := Lib.hid hk18
  clear hk18
  have k0 := L_18.out.c0
  have k1 := L_18.out.c1
  have w0_ : w18.cell? ⟨w3.heap.size, 0, none⟩ = some (.int .i64 zN) := by rw [WB_18.out.cell]; rfl
  have w1_ : w18.cell? ⟨w3.heap.size, 1, none⟩ = some (.slice AW zs.length cW) := by rw [WB_18.out.cell]; rfl
  have w2_ := WB_18.out.lt
  have g0_ : w18.cell? ⟨w7.heap.size, 0, none⟩ = some (.int .i64 zN) := by rw [GB_18.out.cell]; rfl
  have g1_ : w18.cell? ⟨w7.heap.size, 1, none⟩ = some (.slice AG zs.length cG) := by rw [GB_18.out.cell]; rfl
  have g2_ := GB_18.out.lt
  have h0_ : w18.cell? ⟨w17.heap.size, 0, none⟩ = some (.int .i64 zN) := by rw [HB_18.out.cell]; rfl
  have h1_ : w18.cell? ⟨w17.heap.size, 1, none⟩ = some (.slice AH zs.length cH) := by rw [HB_18.out.cell]; rfl
  have h2_ := HB_18.out.lt
  refine (eqGraph_any _ _ _ _ _ _ zs zs _ (by omega) (by omega) (EdgeS.keep H_18.out (fun _ _ => rfl) (by omega)) (EdgeS.keep W_18.out (fun _ _ => rfl) (by omega))).mono ?_
  rintro e w19 ⟨rfl, hb19⟩
  have hq := eqG_self zN zs
  rw [hq]
  clear hq
  have L_19 := Lib.hid (L_18.out.next hb19)
  have B_19 := Lib.hid (belowMoves B_18.out (belowMv hb19 _) (Nat.le_refl _) B_18.out.size)
  have WB_19 := Lib.hid (WB_18.out.moves (belowMv hb19 _) (.inr (Nat.le_refl _)))
  have GB_19 := Lib.hid (GB_18.out.moves (belowMv hb19 _) (.inr (Nat.le_refl _)))
  have G_19 := Lib.hid (G_18.out.moves (belowMv hb19 _) (Nat.le_refl _))
  have HB_19 := Lib.hid (HB_18.out.moves (belowMv hb19 _) (.inr (Nat.le_refl _)))
  have s19 := hb19.size
  clear L_18 B_18 W_18 WB_18 GB_18 G_18 H_18 HB_18 k0 k1 w0_ w1_ w2_ g0_ g1_ g2_ h0_ h1_ h2_ hb19
  have k0 := L_19.out.c0
  have k1 := L_19.out.c1
  have w0_ : w19.cell? ⟨w3.heap.size, 0, none⟩ = some (.int .i64 zN) := by rw [WB_19.out.cell]; rfl
  have w1_ : w19.cell? ⟨w3.heap.size, 1, none⟩ = some (.slice AW zs.length cW) := by rw [WB_19.out.cell]; rfl
  have w2_ := WB_19.out.lt
  have g0_ : w19.cell? ⟨w7.heap.size, 0, none⟩ = some (.int .i64 zN) := by rw [GB_19.out.cell]; rfl
  have g1_ : w19.cell? ⟨w7.heap.size, 1, none⟩ = some (.slice AG zs.length cG) := by rw [GB_19.out.cell]; rfl
  have g2_ := GB_19.out.lt
  have h0_ : w19.cell? ⟨w17.heap.size, 0, none⟩ = some (.int .i64 zN) := by rw [HB_19.out.cell]; rfl
  have h1_ : w19.cell? ⟨w17.heap.size, 1, none⟩ = some (.slice AH zs.length cH) := by rw [HB_19.out.cell]; rfl
  have h2_ := HB_19.out.lt
  go_wp2_with fail
  refine (heldGraph_any _ _ _ _ zs.length _ hzn (by omega) (by omega) G_19.out.edges).mono ?_
  rintro e w20 ⟨rfl, hb20⟩
  have L_20 := Lib.hid (L_19.out.next hb20)
  have B_20 := Lib.hid (belowMoves B_19.out (belowMv hb20 _) (Nat.le_refl _) B_19.out.size)
  have WB_20 := Lib.hid (WB_19.out.moves (belowMv hb20 _) (.inr (Nat.le_refl _)))
  have GB_20 := Lib.hid (GB_19.out.moves (belowMv hb20 _) (.inr (Nat.le_refl _)))
  have G_20 := Lib.hid (G_19.out.moves (belowMv hb20 _) (Nat.le_refl _))
  have HB_20 := Lib.hid (HB_19.out.moves (belowMv hb20 _) (.inr (Nat.le_refl _)))
  have s20 := hb20.size
  clear L_19 B_19 WB_19 GB_19 G_19 HB_19 k0 k1 w0_ w1_ w2_ g0_ g1_ g2_ h0_ h1_ h2_ hb20
  go_wp2
  go_ret
  exact ⟨rfl, B_20.out⟩
end Go.Proofs.Ytbojbifpaecbcaa
