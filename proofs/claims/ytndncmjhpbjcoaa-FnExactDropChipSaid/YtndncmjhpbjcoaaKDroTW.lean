/- The walk of laws.FnExactDropChip. -/
import Derived.Test.YtndncmjhpbjcoaaKDroT
import Derived.Test.YtndncmjhpbjcoaaKPilG
import Derived.Test.YtndncmjhpbjcoaaKPilC
import Derived.Test.YtndncmjhpbjcoaaKBI
import Derived.Test.YtndncmjhpbjcoaaKBA
import Derived.Test.YtndncmjhpbjcoaaKCrs
import Derived.Test.YtndncmjhpbjcoaaKCrsL
set_option linter.all false
namespace Go.Proofs.Ytndncmjhpbjcoaa
open Go Go.Conc Go.ConcN Go.RowKit

set_option maxRecDepth 100000 in
set_option maxHeartbeats 4000000 in
theorem lawTDropChip (N0 : Int) (A0 : Option Addr) (c0 : Nat) (es0 : List (Int × Int)) (A1 : Option Addr) (c1 : Nat) (xs1 : List Int) (n2 : Int) (n3 : Int) (w0 : World) (fg0 : GraphArg w0 N0 A0 c0 es0) (fg1 : IntsArg w0 A1 c1 xs1) (_ : -9223372036854775808 ≤ n2) (_ : n2 ≤ 9223372036854775807) (_ : -9223372036854775808 ≤ n3) (_ : n3 ≤ 9223372036854775807) :
    LastT Try.prog 7 #[.agg #[.int .i64 N0, .slice A0 es0.length c0], .slice A1 xs1.length c1, .int .i64 n2, .int .i64 n3] w0 (LawEnd w0) := by
  have hlen0 := fg0.len
  have hlen1 := fg1.len
  by_cases hxb : 1048576 < xs1.length
  · refine lastT_law prog_bodied prog_ready Try.func7 rfl (by kernel_rfl) fun oB T _ => ?_
    simp only [Try.ntmps7, List.size_toArray, List.length_cons, List.length_nil, Nat.reduceAdd, Nat.reduceSub, Array.replicate_succ, Array.replicate_zero, List.push_toArray, List.append_toArray, List.nil_append, List.cons_append]
    obtain ⟨w, hw_⟩ : ∃ x, x = w0.wi T 0 oB #[] := ⟨_, rfl⟩
    have HWX := Lib.hid (hb_of hw_)
    have hg0 := graphArg_lo hw_ fg0
    have hg1 := intsArg_lo hw_ fg1
    rw [← hw_]
    clear hw_ fg0 fg1
    clear hg0 hg1
    go_wp2
    go_ret
    exact ⟨rfl, HWX.out _ ((Below.refl _ _).alloc (Nat.le_refl _) _)⟩
  have hn1 : xs1.length ≤ 1048576 := by omega
  clear hxb
  by_cases hbig : (1048576 : Int) < es0.length
  · refine lastT_law prog_bodied prog_ready Try.func7 rfl (by kernel_rfl) fun oB T _ => ?_
    simp only [Try.ntmps7, List.size_toArray, List.length_cons, List.length_nil, Nat.reduceAdd, Nat.reduceSub, Array.replicate_succ, Array.replicate_zero, List.push_toArray, List.append_toArray, List.nil_append, List.cons_append]
    obtain ⟨w, hw_⟩ : ∃ x, x = w0.wi T 0 oB #[] := ⟨_, rfl⟩
    have HWX := Lib.hid (hb_of hw_)
    have hg0 := graphArg_lo hw_ fg0
    have hg1 := intsArg_lo hw_ fg1
    rw [← hw_]
    clear hw_ fg0 fg1
    clear hg0 hg1
    go_wp2_with (go_at_call 29; refine (szGraph_big _ _ _ _ _ _ hlen0 (by omega) (by omega) hbig).mono ?_; rintro e w1 ⟨rfl, hb1⟩)
    go_ret
    exact ⟨rfl, HWX.out _ ((LawG.start w N0 A0 c0 es0).next hb1).old⟩
  have hsm : (es0.length : Int) ≤ 1048576 := by omega
  have hn0 : es0.length ≤ 1048576 := by omega
  clear hbig
  have HSP := fun (A0 : Option Addr) (c0 : Nat) (A1 : Option Addr) (c1 : Nat) (w : World) (E0 : EdgeS w w.heap.size A0 es0) (S1 : IntS w w.heap.size A1 xs1) => Lib.hid (specDropC N0 A0 A1 c0 c1 es0 xs1 n2 n3 w hn0 hn1 E0 S1)
  have HIM := fun (A0 : Option Addr) (c0 : Nat) (A1 : Option Addr) (c1 : Nat) (w : World) (E0 : EdgeS w w.heap.size A0 es0) (K0 : EdgeK w A0 es0) (S1 : IntS w w.heap.size A1 xs1) => Lib.hid (implDropT N0 A0 A1 c0 c1 es0 xs1 n2 n3 w hn0 hn1 E0 K0 S1)
  obtain ⟨zs, hzs⟩ : ∃ zs, zs = dropX N0 es0 xs1 n2 n3 := ⟨_, rfl⟩
  have hzn : zs.length ≤ 1048576 := by rw [hzs]; exact Nat.le_trans (dropX_len N0 es0 xs1 n2 n3) (by decide)
  rw [← hzs] at HSP HIM
  clear hzs
  obtain ⟨vi, hvi⟩ : ∃ v, v = dropN N0 es0 xs1 n2 n3 := ⟨_, rfl⟩
  rw [← hvi] at HSP HIM
  clear hvi
  obtain ⟨vb, hvb⟩ : ∃ v, v = dropOk N0 es0 xs1 n2 n3 := ⟨_, rfl⟩
  rw [← hvb] at HSP HIM
  clear hvb
  intro cs
  rw [enter_at _ Try.func7 rfl]
  simp only [Try.ntmps7, List.size_toArray, List.length_cons, List.length_nil, Nat.reduceAdd, Nat.reduceSub, Array.replicate_succ, Array.replicate_zero, List.push_toArray, List.append_toArray, List.nil_append, List.cons_append]
  refine toD_preC prog_bodied prog_ready (l := [_, _, _, _, _, _, _, _]) (rest := .seq _ _) (Q0 := fun _ => bodyPost Try.prog Try.f7 (fun e y => e = .returned (.bool true) ∧ HB w0 y)) (fun _ _ _ h => by cases h.1) ?seg1 (fun e a w h0 h1 h2 => law_quit prog_bodied prog_ready Try.func7 (by kernel_rfl) h2 (.refl _) h1)
  intro oB T _
  obtain ⟨w, hw_⟩ : ∃ x, x = w0.wi T 0 oB #[] := ⟨_, rfl⟩
  have HWX := Lib.hid (hb_of hw_)
  have HW_ := Lib.hid hw_
  have hg0 := graphArg_lo hw_ fg0
  have hg1 := intsArg_lo hw_ fg1
  have HE0 := Lib.hid hg0.edges
  have hw0 := Lib.hid hg0.wf
  have hl0 := hg0.lo
  have hh0 := hg0.hi
  have HS1 := Lib.hid hg1.ints
  have hw1 := Lib.hid hg1.each
  rw [← hw_]
  clear hw_ hg0 hg1
  go_wp2_with (refine preWp_one fun _ _ => ?_)
  refine (szGraph_ok _ _ _ _ _ _ (by omega) hsm).mono ?_
  rintro e w1 ⟨rfl, hb1⟩
  have L_1 := Lib.hid ((LawG.start w N0 A0 c0 es0).next hb1)
  have B_1 := Lib.hid L_1.out.old
  have ltL := L_1.out.lt
  clear hb1 hsm
  have k0 := L_1.out.c0
  have k1 := L_1.out.c1
  go_wp2_with (refine preWp_one fun _ _ => ?_)
  refine (toGraph_any _ _ _ _ _ hn0 (HE0.out.up_ B_1.out)).mono ?_
  rintro e w2 ⟨g2, rfl, hg2, hk2, hb2⟩
  have L_2 := Lib.hid (L_1.out.next hb2)
  have B_2 := Lib.hid (belowMoves B_1.out (belowMv hb2 _) (Nat.le_refl _) B_1.out.size)
  have s2 := hb2.size
  clear L_1 B_1 k0 k1 hb2
  have T0E_2 := Lib.hid hk2
  have lt2 := hk2.lt
  clear hk2
  have k0 := L_2.out.c0
  have k1 := L_2.out.c1
  go_wp2_with (refine preWp_one fun _ _ => ?_)
  refine (toIntS_any _ _ _ _ hn1 (HS1.out.up_ B_2.out)).mono ?_
  rintro e w3 ⟨rfl, hk3, hb3⟩
  have L_3 := Lib.hid (L_2.out.next hb3)
  have B_3 := Lib.hid (belowMoves B_2.out (belowMv hb3 _) (Nat.le_refl _) B_2.out.size)
  have T0E_3 := Lib.hid (T0E_2.out.moves (belowMv hb3 _) (.inr (Nat.le_refl _)))
  have s3 := hb3.size
  clear L_2 B_2 T0E_2 k0 k1 hb3
  have T1_3 := Lib.hid hk3
  have lt3 := hk3.lt
  clear hk3
  have k0 := L_3.out.c0
  have k1 := L_3.out.c1
  go_wp2_with (refine preWp_one fun _ _ => ?_)
  refine (HSP _ _ _ _ _ (EdgeS.of_blk T0E_3.out T0E_3.out.lt) (IntS.of_blk T1_3.out T1_3.out.lt)).out.mono ?_
  rintro e w4 ⟨AW, cW, rfl, ho4, hb4⟩
  have L_4 := Lib.hid (L_3.out.next hb4)
  have B_4 := Lib.hid (belowMoves B_3.out (belowMv hb4 _) (Nat.le_refl _) B_3.out.size)
  have s4 := hb4.size
  clear L_3 B_3 T0E_3 T1_3 k0 k1 hb4
  have W_4 := Lib.hid ho4.ints
  clear ho4
  have k0 := L_4.out.c0
  have k1 := L_4.out.c1
  go_wp2_with (refine preWp_one fun _ _ => ?_)
  refine (toGraph_any _ _ _ _ _ hn0 (HE0.out.up_ B_4.out)).mono ?_
  rintro e w5 ⟨g5, rfl, hg5, hk5, hb5⟩
  have L_5 := Lib.hid (L_4.out.next hb5)
  have B_5 := Lib.hid (belowMoves B_4.out (belowMv hb5 _) (Nat.le_refl _) B_4.out.size)
  have W_5 := Lib.hid (W_4.out.moves (belowMv hb5 _) (Nat.le_refl _) (by omega))
  have s5 := hb5.size
  clear L_4 B_4 W_4 k0 k1 hb5
  have X0E_5 := Lib.hid hk5
  have lt5 := hk5.lt
  clear hk5
  have k0 := L_5.out.c0
  have k1 := L_5.out.c1
  go_wp2_with (refine preWp_one fun _ _ => ?_)
  obtain ⟨w6, hw6_⟩ : ∃ x, x = w5.alloc (.cells #[.int .i64 N0, .slice (some ⟨g5, 0, none⟩) es0.length es0.length] 25) := ⟨_, rfl⟩
  rw [← hw6_]
  have hb6 : Below w5.heap.size w5 w6 := by rw [hw6_]; exact (Below.refl _ _).alloc (Nat.le_refl _) _
  have hk6 : Blk w6 w5.heap.size 25 #[.int .i64 N0, .slice (some ⟨g5, 0, none⟩) es0.length es0.length] := by rw [hw6_]; exact Blk.new w5 _ _
  have sx6 : w5.heap.size + 1 ≤ w6.heap.size := by rw [hw6_]; simp
  clear hw6_
  have L_6 := Lib.hid (L_5.out.next hb6)
  have B_6 := Lib.hid (belowMoves B_5.out (belowMv hb6 _) (Nat.le_refl _) B_5.out.size)
  have W_6 := Lib.hid (W_5.out.moves (belowMv hb6 _) (Nat.le_refl _) (by omega))
  have X0E_6 := Lib.hid (X0E_5.out.moves (belowMv hb6 _) (.inr (Nat.le_refl _)))
  have s6 := hb6.size
  clear L_5 B_5 W_5 X0E_5 k0 k1 hb6
  have XB_6 := Lib.hid hk6
  clear hk6
  have k0 := L_6.out.c0
  have k1 := L_6.out.c1
  have d0 : w6.cell? ⟨w5.heap.size, 0, none⟩ = some (.int .i64 N0) := by rw [XB_6.out.cell]; rfl
  have d1 : w6.cell? ⟨w5.heap.size, 1, none⟩ = some (.slice (some ⟨g5, 0, none⟩) es0.length es0.length) := by rw [XB_6.out.cell]; rfl
  refine (toIntS_any _ _ _ _ hn1 (HS1.out.up_ B_6.out)).mono ?_
  rintro e w7 ⟨rfl, hk7, hb7⟩
  have L_7 := Lib.hid (L_6.out.next hb7)
  have B_7 := Lib.hid (belowMoves B_6.out (belowMv hb7 _) (Nat.le_refl _) B_6.out.size)
  have W_7 := Lib.hid (W_6.out.moves (belowMv hb7 _) (Nat.le_refl _) (by omega))
  have XB_7 := Lib.hid (XB_6.out.moves (belowMv hb7 _) (.inr (Nat.le_refl _)))
  have XE_7 := Lib.hid (X0E_6.out.moves (belowMv hb7 _) (.inr (Nat.le_refl _)))
  have s7 := hb7.size
  clear L_6 B_6 W_6 XB_6 X0E_6 k0 k1 d0 d1 hb7
  have X1_7 := Lib.hid hk7
  have lt7 := hk7.lt
  clear hk7
  have k0 := L_7.out.c0
  have k1 := L_7.out.c1
  have d0 : w7.cell? ⟨w5.heap.size, 0, none⟩ = some (.int .i64 N0) := by rw [XB_7.out.cell]; rfl
  have d1 : w7.cell? ⟨w5.heap.size, 1, none⟩ = some (.slice (some ⟨g5, 0, none⟩) es0.length es0.length) := by rw [XB_7.out.cell]; rfl
  go_wp2_with (refine preWp_one fun _ _ => ?_)
  refine preWp_nil ?_
  intro w8 hw8 hd8
  clear k0 k1 d0 d1
  have hws : w.heap.size = w0.heap.size := by rw [HW_.out]; rfl
  rw [hws]
  have e81 : w7.heap.size ≤ w8.heap.size := by rw [hw8]; exact Nat.le_refl _
  have e82 : w8.heap.size ≤ w7.heap.size := by rw [hw8]; exact Nat.le_refl _
  have e83 : w.heap.size ≤ w0.heap.size := by omega
  have e84 : w0.heap.size ≤ w.heap.size := by omega
  have L_8 := Lib.hid (LawG.re HW_.out L_7.out hw8 hd8)
  have B_8 := Lib.hid (below_re1 HW_.out B_7.out hw8 hd8)
  have W_8 := Lib.hid (ints_re W_7.out hw8)
  have XB_8 := Lib.hid (XB_7.out.heap hw8)
  have XE_8 := Lib.hid (XE_7.out.heap hw8)
  have X1_8 := Lib.hid (X1_7.out.heap hw8)
  clear L_7 B_7 W_7 XB_7 XE_7 X1_7 hws hw8 hd8 HW_ HWX
  clear HE0 hw0 hl0 hh0 HS1 hw1
  refine ToD.ctl prog_bodied prog_ready (fun _ _ => step_seq) ?_
  refine ToD.regionL prog_bodied prog_ready (l := [0, 1, 2, 3, 4, 5, 6, 7, 8, 9, 10, 11]) rfl ?_
  have d0_ : ∀ t d o u, (w8.wi t d o u).cell? ⟨w5.heap.size, 0, none⟩ = some (.int .i64 N0) := fun _ _ _ _ => (show w8.cell? _ = _ from by rw [XB_8.out.cell]; rfl)
  have d1_ : ∀ t d o u, (w8.wi t d o u).cell? ⟨w5.heap.size, 1, none⟩ = some (.slice (some ⟨g5, 0, none⟩) es0.length es0.length) := fun _ _ _ _ => (show w8.cell? _ = _ from by rw [XB_8.out.cell]; rfl)
  refine ToD.value prog_bodied prog_ready (v := .agg #[.int .i64 N0, .slice (some ⟨g5, 0, none⟩) es0.length es0.length]) rfl rfl rfl (fun t d o u => by
    have d0 := d0_ t d o u
    have d1 := d1_ t d o u
    simp [execOp, go_sem, Act.eval, d0, d1]) ?_
  clear d0_ d1_
  refine ToD.value prog_bodied prog_ready (v := .slice (some ⟨w6.heap.size, 0, none⟩) xs1.length xs1.length) rfl rfl rfl (fun _ _ _ _ => by simp [execOp, go_sem, Act.eval]) ?_
  refine ToD.value prog_bodied prog_ready (v := .int .i64 n2) rfl rfl rfl (fun _ _ _ _ => by simp [execOp, go_sem, Act.eval]) ?_
  refine ToD.value prog_bodied prog_ready (v := .int .i64 n3) rfl rfl rfl (fun _ _ _ _ => by simp [execOp, go_sem, Act.eval]) ?_
  try simp only [List.setIfInBounds_toArray, List.set_cons_zero, List.set_cons_succ]
  refine ToD.call prog_bodied prog_ready (f := 40) (args := #[.agg #[.int .i64 N0, .slice (some ⟨g5, 0, none⟩) es0.length es0.length], .slice (some ⟨w6.heap.size, 0, none⟩) xs1.length xs1.length, .int .i64 n2, .int .i64 n3]) rfl rfl rfl (fun t d o u => by simp [execOp, go_sem, Act.eval, resolve]) (HIM _ _ _ _ _ (EdgeS.of_blk XE_8.out XE_8.out.lt) (EdgeK.of_blk XE_8.out) (IntS.of_blk X1_8.out X1_8.out.lt)).out ?_
  rintro v w9 ⟨AG, cG, hv, ho9, hb9⟩
  cases hv
  have L_9 := Lib.hid (L_8.out.next hb9)
  have B_9 := Lib.hid (belowMoves B_8.out (belowMv hb9 _) (Nat.le_refl _) B_8.out.size)
  have W_9 := Lib.hid (W_8.out.moves (belowMv hb9 _) (Nat.le_refl _) (by omega))
  have XB_9 := Lib.hid (XB_8.out.moves (belowMv hb9 _) (.inr (Nat.le_refl _)))
  have XE_9 := Lib.hid (XE_8.out.moves (belowMv hb9 _) (.inr (Nat.le_refl _)))
  have X1_9 := Lib.hid (X1_8.out.moves (belowMv hb9 _) (.inr (Nat.le_refl _)))
  have s9 := hb9.size
  clear L_8 B_8 W_8 XB_8 XE_8 X1_8 hb9
  have G_9 := Lib.hid ho9
  clear ho9
  try simp only [List.setIfInBounds_toArray, List.set_cons_zero, List.set_cons_succ]
  have dr_ := Lib.hid (drew_of B_9.out)
  refine toD_midC prog_bodied prog_ready (k0 := 5) (cl := [_, _, _, _, _, _, _, _, _, _, _, _, _]) (rest := .seq _ _) (Q0 := fun _ => bodyPost Try.prog Try.f7 (fun e y => e = .returned (.bool true) ∧ HB w0 y)) (fun _ _ _ h => by cases h.1) rfl ?_ (fun e a w _ h1 h2 => law_quit prog_bodied prog_ready Try.func7 (by kernel_rfl) h2 dr_.out h1)
  intro oB T _
  obtain ⟨w, hw_⟩ : ∃ x, x = w0.wi T 0 oB #[] := ⟨_, rfl⟩
  have HWX := Lib.hid (hb_of hw_)
  have HW_ := Lib.hid hw_
  have hg0 := graphArg_lo hw_ fg0
  have hg1 := intsArg_lo hw_ fg1
  have HE0 := Lib.hid hg0.edges
  have hw0 := Lib.hid hg0.wf
  have hl0 := hg0.lo
  have hh0 := hg0.hi
  have HS1 := Lib.hid hg1.ints
  have hw1 := Lib.hid hg1.each
  obtain ⟨w10, hw10_⟩ : ∃ x, x = w9.wi T 0 oB #[] := ⟨_, rfl⟩
  rw [← hw10_]
  have hws : w.heap.size = w0.heap.size := by rw [hw_]; rfl
  rw [← hws]
  have e101 : w9.heap.size ≤ w10.heap.size := by rw [hw10_]; exact Nat.le_refl _
  have e102 : w10.heap.size ≤ w9.heap.size := by rw [hw10_]; exact Nat.le_refl _
  have e103 : w.heap.size ≤ w0.heap.size := by omega
  have e104 : w0.heap.size ≤ w.heap.size := by omega
  have L_10 := Lib.hid (LawG.lo hw_ hw10_ L_9.out)
  have B_10 := Lib.hid (below_lo hw_ hw10_ B_9.out)
  have W_10 := Lib.hid (ints_lo hw10_ W_9.out)
  have XB_10 := Lib.hid (blk_lo hw10_ XB_9.out)
  have XE_10 := Lib.hid (blk_lo hw10_ XE_9.out)
  have X1_10 := Lib.hid (blk_lo hw10_ X1_9.out)
  have G_10 := Lib.hid (own_lo hw10_ G_9.out)
  clear L_9 B_9 W_9 XB_9 XE_9 X1_9 G_9 hws hw_ hw10_
  clear hg0 hg1
  simp only [List.drop_succ_cons, List.drop_zero]
  have k0 := L_10.out.c0
  have k1 := L_10.out.c1
  have d0 : w10.cell? ⟨w5.heap.size, 0, none⟩ = some (.int .i64 N0) := by rw [XB_10.out.cell]; rfl
  have d1 : w10.cell? ⟨w5.heap.size, 1, none⟩ = some (.slice (some ⟨g5, 0, none⟩) es0.length es0.length) := by rw [XB_10.out.cell]; rfl
  go_wp2_with (refine preWp_one fun _ _ => ?_)
  refine (eqIntS_any _ _ _ _ _ _ _ (by omega) (by omega) (G_10.out.ints.wide (by omega)) (W_10.out.wide (by omega))).mono ?_
  rintro e w11 ⟨rfl, hb11⟩
  have L_11 := Lib.hid (L_10.out.next hb11)
  have B_11 := Lib.hid (belowMoves B_10.out (belowMv hb11 _) (Nat.le_refl _) B_10.out.size)
  have W_11 := Lib.hid (W_10.out.moves (belowMv hb11 _) (Nat.le_refl _) (by omega))
  have XB_11 := Lib.hid (XB_10.out.moves (belowMv hb11 _) (.inr (Nat.le_refl _)))
  have XE_11 := Lib.hid (XE_10.out.moves (belowMv hb11 _) (.inr (Nat.le_refl _)))
  have X1_11 := Lib.hid (X1_10.out.moves (belowMv hb11 _) (.inr (Nat.le_refl _)))
  have G_11 := Lib.hid (G_10.out.moves (belowMv hb11 _) (Nat.le_refl _))
  have s11 := hb11.size
  clear L_10 B_10 W_10 XB_10 XE_10 X1_10 G_10 k0 k1 d0 d1 hb11
  have k0 := L_11.out.c0
  have k1 := L_11.out.c1
  have d0 : w11.cell? ⟨w5.heap.size, 0, none⟩ = some (.int .i64 N0) := by rw [XB_11.out.cell]; rfl
  have d1 : w11.cell? ⟨w5.heap.size, 1, none⟩ = some (.slice (some ⟨g5, 0, none⟩) es0.length es0.length) := by rw [XB_11.out.cell]; rfl
  have l0 := L_11.out.lt
  have l1 := XB_11.out.lt
  have l2 := XE_11.out.lt
  go_wp2_with (refine preWp_one fun _ _ => ?_)
  go_region_held3 (fun w' => w'.cell? ⟨w.heap.size, 0, none⟩ = some (.int .i64 N0) ∧ w'.cell? ⟨w.heap.size, 1, none⟩ = some (.slice A0 es0.length c0) ∧ w'.cell? ⟨w5.heap.size, 0, none⟩ = some (.int .i64 N0) ∧ w'.cell? ⟨w5.heap.size, 1, none⟩ = some (.slice (some ⟨g5, 0, none⟩) es0.length es0.length) ∧ Below w11.heap.size w11 w')
    (first
      | exact ⟨k0, k1, d0, d1, (Below.refl _ _).drew⟩
      | exact keep4 (by assumption) hb12 l0 l0 l1 l1
      | exact keep4 (by assumption) hb13 l0 l0 l1 l1)
    (first
      | (go_at_call 31; refine (toGraph_any _ _ _ _ _ hn0 (HE0.out.up_ (B_11.out.drew))).mono ?_; rintro e w12 ⟨g12, rfl, hg12, hk12, hb12⟩)
      | (go_at_call 34; refine (eqGraph_any _ _ _ _ _ _ _ _ _ hlen0 hlen0 (EdgeS.of_blk (XE_11.out.drew.below hb12 l2) (Nat.lt_of_lt_of_le l2 hb12.size)) (EdgeS.of_blk hk12 hk12.lt)).mono ?_; rintro e w13 ⟨rfl, hb13⟩))
  have hbz13 : Below w11.heap.size w11 w13 := (Below.refl _ _).drew.trans (hb12.trans (hb13.mono hb12.size))
  have hq := eqG_self N0 es0
  rw [hq]
  clear hq hb12 hb13 hk12 hg12 l0 l1 l2
  have L_13 := Lib.hid (L_11.out.next hbz13)
  have B_13 := Lib.hid (belowMoves B_11.out (belowMv hbz13 _) (Nat.le_refl _) B_11.out.size)
  have W_13 := Lib.hid (W_11.out.moves (belowMv hbz13 _) (Nat.le_refl _) (by omega))
  have XB_13 := Lib.hid (XB_11.out.moves (belowMv hbz13 _) (.inr (Nat.le_refl _)))
  have XE_13 := Lib.hid (XE_11.out.moves (belowMv hbz13 _) (.inr (Nat.le_refl _)))
  have X1_13 := Lib.hid (X1_11.out.moves (belowMv hbz13 _) (.inr (Nat.le_refl _)))
  have G_13 := Lib.hid (G_11.out.moves (belowMv hbz13 _) (Nat.le_refl _))
  have s13 := hbz13.size
  clear L_11 B_11 W_11 XB_11 XE_11 X1_11 G_11 k0 k1 d0 d1 hbz13
  have k0 := L_13.out.c0
  have k1 := L_13.out.c1
  have d0 : w13.cell? ⟨w5.heap.size, 0, none⟩ = some (.int .i64 N0) := by rw [XB_13.out.cell]; rfl
  have d1 : w13.cell? ⟨w5.heap.size, 1, none⟩ = some (.slice (some ⟨g5, 0, none⟩) es0.length es0.length) := by rw [XB_13.out.cell]; rfl
  go_wp2_with (refine preWp_one fun _ _ => ?_)
  refine (toIntS_any _ _ _ _ hn1 (HS1.out.up_ B_13.out)).mono ?_
  rintro e w14 ⟨rfl, hk14, hb14⟩
  have L_14 := Lib.hid (L_13.out.next hb14)
  have B_14 := Lib.hid (belowMoves B_13.out (belowMv hb14 _) (Nat.le_refl _) B_13.out.size)
  have W_14 := Lib.hid (W_13.out.moves (belowMv hb14 _) (Nat.le_refl _) (by omega))
  have XB_14 := Lib.hid (XB_13.out.moves (belowMv hb14 _) (.inr (Nat.le_refl _)))
  have XE_14 := Lib.hid (XE_13.out.moves (belowMv hb14 _) (.inr (Nat.le_refl _)))
  have X1_14 := Lib.hid (X1_13.out.moves (belowMv hb14 _) (.inr (Nat.le_refl _)))
  have G_14 := Lib.hid (G_13.out.moves (belowMv hb14 _) (Nat.le_refl _))
  have s14 := hb14.size
  clear L_13 B_13 W_13 XB_13 XE_13 X1_13 G_13 k0 k1 d0 d1 hb14
  have Y1_14 := Lib.hid hk14
  have lt14 := hk14.lt
  clear hk14
  have k0 := L_14.out.c0
  have k1 := L_14.out.c1
  have d0 : w14.cell? ⟨w5.heap.size, 0, none⟩ = some (.int .i64 N0) := by rw [XB_14.out.cell]; rfl
  have d1 : w14.cell? ⟨w5.heap.size, 1, none⟩ = some (.slice (some ⟨g5, 0, none⟩) es0.length es0.length) := by rw [XB_14.out.cell]; rfl
  go_wp2_with (refine preWp_one fun _ _ => ?_)
  refine (eqIntS_any _ _ _ _ _ _ _ (by omega) (by omega) (IntS.of_blk X1_14.out X1_14.out.lt) (IntS.of_blk Y1_14.out Y1_14.out.lt)).mono ?_
  rintro e w15 ⟨rfl, hb15⟩
  have L_15 := Lib.hid (L_14.out.next hb15)
  have B_15 := Lib.hid (belowMoves B_14.out (belowMv hb15 _) (Nat.le_refl _) B_14.out.size)
  have W_15 := Lib.hid (W_14.out.moves (belowMv hb15 _) (Nat.le_refl _) (by omega))
  have XB_15 := Lib.hid (XB_14.out.moves (belowMv hb15 _) (.inr (Nat.le_refl _)))
  have XE_15 := Lib.hid (XE_14.out.moves (belowMv hb15 _) (.inr (Nat.le_refl _)))
  have X1_15 := Lib.hid (X1_14.out.moves (belowMv hb15 _) (.inr (Nat.le_refl _)))
  have G_15 := Lib.hid (G_14.out.moves (belowMv hb15 _) (Nat.le_refl _))
  have s15 := hb15.size
  clear L_14 B_14 W_14 XB_14 XE_14 X1_14 G_14 Y1_14 k0 k1 d0 d1 hb15
  have k0 := L_15.out.c0
  have k1 := L_15.out.c1
  have d0 : w15.cell? ⟨w5.heap.size, 0, none⟩ = some (.int .i64 N0) := by rw [XB_15.out.cell]; rfl
  have d1 : w15.cell? ⟨w5.heap.size, 1, none⟩ = some (.slice (some ⟨g5, 0, none⟩) es0.length es0.length) := by rw [XB_15.out.cell]; rfl
  go_wp2_with (refine preWp_one fun _ _ => ?_)
  refine (markGraphB_any N0 _ g5 es0 _ hn0 (by omega) (by omega) XE_15.out).mono ?_
  rintro e w16 ⟨rfl, hgr16⟩
  have hm16 := grownMv hgr16
  clear hgr16
  have L_16 := Lib.hid (L_15.out.moves hm16 (by omega))
  have B_16 := Lib.hid (belowMoves B_15.out hm16 (by omega) B_15.out.size)
  have W_16 := Lib.hid (W_15.out.moves hm16 (by omega) (by omega))
  have X1_16 := Lib.hid (X1_15.out.moves hm16 (by omega))
  have G_16 := Lib.hid (G_15.out.moves hm16 (by omega))
  have s16 := hm16.size
  clear L_15 B_15 W_15 XB_15 XE_15 X1_15 G_15 k0 k1 d0 d1 hm16
  go_wp2_with (refine preWp_one fun _ _ => ?_)
  refine (markIntS_any _ _ (w6.heap.size) xs1 _ _ hn1 (by omega) (by omega) (OwnI.of_blk X1_16.out (Nat.le_refl _))).mono ?_
  rintro e w17 ⟨rfl, _, ht17, _⟩
  have hm17 := ht17.mv
  clear ht17
  have L_17 := Lib.hid (L_16.out.moves hm17 (by omega))
  have B_17 := Lib.hid (belowMoves B_16.out hm17 (by omega) B_16.out.size)
  have W_17 := Lib.hid (W_16.out.moves hm17 (by omega) (by omega))
  have G_17 := Lib.hid (G_16.out.moves hm17 (by omega))
  have s17 := hm17.size
  clear L_16 B_16 W_16 X1_16 G_16 hm17
  have tk : decide ((1 : Int) + 2 * es0.length + xs1.length < 0) = false := decide_eq_false (by omega)
  have k0 := L_17.out.c0
  have k1 := L_17.out.c1
  go_wp2_with (refine preWp_one fun _ _ => ?_)
  refine (eqIntS_any _ _ _ _ _ _ _ (by omega) (by omega) (G_17.out.ints.wide (by omega)) (W_17.out.wide (by omega))).mono ?_
  rintro e w18 ⟨rfl, hb18⟩
  have L_18 := Lib.hid (L_17.out.next hb18)
  have B_18 := Lib.hid (belowMoves B_17.out (belowMv hb18 _) (Nat.le_refl _) B_17.out.size)
  have W_18 := Lib.hid (W_17.out.moves (belowMv hb18 _) (Nat.le_refl _) (by omega))
  have G_18 := Lib.hid (G_17.out.moves (belowMv hb18 _) (Nat.le_refl _))
  have s18 := hb18.size
  clear L_17 B_17 W_17 G_17 k0 k1 hb18
  have k0 := L_18.out.c0
  have k1 := L_18.out.c1
  go_wp2_with (refine preWp_one fun _ _ => ?_)
  refine (markIntS_any _ _ (w8.heap.size) zs _ _ hzn (by omega) (by omega) G_18.out).mono ?_
  rintro e w19 ⟨rfl, ho19, _, hbl19⟩
  have hm19 := belowMvB (hbl19 (by omega))
  clear hbl19
  have L_19 := Lib.hid (L_18.out.moves hm19 (by omega))
  have B_19 := Lib.hid (belowMoves B_18.out hm19 (by omega) B_18.out.size)
  have W_19 := Lib.hid (W_18.out.moves hm19 (by omega) (by omega))
  have s19 := hm19.size
  clear L_18 B_18 W_18 G_18 k0 k1 hm19
  have G_19 := Lib.hid ho19
  clear ho19
  go_wp2_with (refine preWp_one fun _ _ => ?_)
  refine (heldIntS_any _ _ _ _ _ _ hzn (by omega) (by omega) G_19.out.ints).mono ?_
  rintro e w' ⟨rfl, rfl⟩
  have tq : ((1 : Int) + zs.length != 1 + zs.length) = false := by simp
  have k0 := L_19.out.c0
  have k1 := L_19.out.c1
  go_wp2_with (refine preWp_one fun _ _ => ?_)
  refine preWp_nil ?_
  intro w20 hw20 hd20
  clear k0 k1
  replace hd20 := dr_.out.trans hd20
  clear dr_
  have hws : w.heap.size = w0.heap.size := by rw [HW_.out]; rfl
  rw [hws]
  have e201 : w19.heap.size ≤ w20.heap.size := by rw [hw20]; exact Nat.le_refl _
  have e202 : w20.heap.size ≤ w19.heap.size := by rw [hw20]; exact Nat.le_refl _
  have e203 : w.heap.size ≤ w0.heap.size := by omega
  have e204 : w0.heap.size ≤ w.heap.size := by omega
  have L_20 := Lib.hid (LawG.re HW_.out L_19.out hw20 hd20)
  have B_20 := Lib.hid (below_re1 HW_.out B_19.out hw20 hd20)
  have W_20 := Lib.hid (ints_re W_19.out hw20)
  have G_20 := Lib.hid (G_19.out.heap hw20)
  clear L_19 B_19 W_19 G_19 hws hw20 hd20 HW_ HWX
  clear HE0 hw0 hl0 hh0 HS1 hw1
  refine ToD.ctl prog_bodied prog_ready (fun _ _ => step_seq) ?_
  refine ToD.regionL prog_bodied prog_ready (l := [0, 1, 2, 3, 4, 5, 6, 7, 8, 9, 10, 11, 12, 13]) rfl ?_
  try simp only [List.setIfInBounds_toArray, List.set_cons_zero, List.set_cons_succ]
  have d0_ : ∀ t d o u, (w20.wi t d o u).cell? ⟨w0.heap.size, 0, none⟩ = some (.int .i64 N0) := fun _ _ _ _ => L_20.out.c0
  have d1_ : ∀ t d o u, (w20.wi t d o u).cell? ⟨w0.heap.size, 1, none⟩ = some (.slice A0 es0.length c0) := fun _ _ _ _ => L_20.out.c1
  refine ToD.value prog_bodied prog_ready (v := .agg #[.int .i64 N0, .slice A0 es0.length c0]) rfl rfl rfl (fun t d o u => by
    have d0 := d0_ t d o u
    have d1 := d1_ t d o u
    simp [execOp, go_sem, Act.eval, d0, d1]) ?_
  clear d0_ d1_
  try simp only [List.setIfInBounds_toArray, List.set_cons_zero, List.set_cons_succ]
  refine ToD.call prog_bodied prog_ready (f := 31) (args := #[.agg #[.int .i64 N0, .slice A0 es0.length c0]]) rfl rfl rfl (fun t d o u => by simp [execOp, go_sem, Act.eval, resolve]) (toGraphT N0 A0 c0 es0 _ hn0 (fg0.edges.up_ B_20.out)) ?_
  rintro v w21 ⟨g21, rfl, hg21, hk21, hb21⟩
  have L_21 := Lib.hid (L_20.out.next hb21)
  have B_21 := Lib.hid (belowMoves B_20.out (belowMv hb21 _) (Nat.le_refl _) B_20.out.size)
  have W_21 := Lib.hid (W_20.out.moves (belowMv hb21 _) (Nat.le_refl _) (by omega))
  have G_21 := Lib.hid (G_20.out.moves (belowMv hb21 _) (Nat.le_refl _))
  have s21 := hb21.size
  clear L_20 B_20 W_20 G_20 hb21
  have V0E_21 := Lib.hid hk21
  have lt21 := hk21.lt
  clear hk21
  try simp only [List.setIfInBounds_toArray, List.set_cons_zero, List.set_cons_succ]
  refine ToD.value prog_bodied prog_ready (v := .slice A1 xs1.length c1) rfl rfl rfl (fun _ _ _ _ => by simp [execOp, go_sem, Act.eval]) ?_
  try simp only [List.setIfInBounds_toArray, List.set_cons_zero, List.set_cons_succ]
  refine ToD.call prog_bodied prog_ready (f := 32) (args := #[.slice A1 xs1.length c1]) rfl rfl rfl (fun t d o u => by simp [execOp, go_sem, Act.eval, resolve]) (toIntsT A1 c1 xs1 _ hn1 (fg1.ints.up_ B_21.out)) ?_
  rintro v w22 ⟨rfl, hk22, hb22⟩
  have L_22 := Lib.hid (L_21.out.next hb22)
  have B_22 := Lib.hid (belowMoves B_21.out (belowMv hb22 _) (Nat.le_refl _) B_21.out.size)
  have W_22 := Lib.hid (W_21.out.moves (belowMv hb22 _) (Nat.le_refl _) (by omega))
  have G_22 := Lib.hid (G_21.out.moves (belowMv hb22 _) (Nat.le_refl _))
  have V0E_22 := Lib.hid (V0E_21.out.moves (belowMv hb22 _) (.inr (Nat.le_refl _)))
  have s22 := hb22.size
  clear L_21 B_21 W_21 G_21 V0E_21 hb22
  have V1_22 := Lib.hid hk22
  have lt22 := hk22.lt
  clear hk22
  try simp only [List.setIfInBounds_toArray, List.set_cons_zero, List.set_cons_succ]
  refine ToD.value prog_bodied prog_ready (v := .int .i64 n2) rfl rfl rfl (fun _ _ _ _ => by simp [execOp, go_sem, Act.eval]) ?_
  try simp only [List.setIfInBounds_toArray, List.set_cons_zero, List.set_cons_succ]
  refine ToD.value prog_bodied prog_ready (v := .int .i64 n3) rfl rfl rfl (fun _ _ _ _ => by simp [execOp, go_sem, Act.eval]) ?_
  try simp only [List.setIfInBounds_toArray, List.set_cons_zero, List.set_cons_succ]
  refine ToD.call prog_bodied prog_ready (f := 40) (args := #[.agg #[.int .i64 N0, .slice (some ⟨g21, 0, none⟩) es0.length es0.length], .slice (some ⟨w21.heap.size, 0, none⟩) xs1.length xs1.length, .int .i64 n2, .int .i64 n3]) rfl rfl rfl (fun t d o u => by simp [execOp, go_sem, Act.eval, resolve]) (HIM _ _ _ _ _ (EdgeS.of_blk V0E_22.out V0E_22.out.lt) (EdgeK.of_blk V0E_22.out) (IntS.of_blk V1_22.out V1_22.out.lt)).out ?_
  rintro v w23 ⟨AH, cH, hv, ho23, hb23⟩
  cases hv
  have L_23 := Lib.hid (L_22.out.next hb23)
  have B_23 := Lib.hid (belowMoves B_22.out (belowMv hb23 _) (Nat.le_refl _) B_22.out.size)
  have W_23 := Lib.hid (W_22.out.moves (belowMv hb23 _) (Nat.le_refl _) (by omega))
  have G_23 := Lib.hid (G_22.out.moves (belowMv hb23 _) (Nat.le_refl _))
  have V0E_23 := Lib.hid (V0E_22.out.moves (belowMv hb23 _) (.inr (Nat.le_refl _)))
  have V1_23 := Lib.hid (V1_22.out.moves (belowMv hb23 _) (.inr (Nat.le_refl _)))
  have s23 := hb23.size
  clear L_22 B_22 W_22 G_22 V0E_22 V1_22 hb23
  have H_23 := Lib.hid ho23.ints
  clear ho23
  try simp only [List.setIfInBounds_toArray, List.set_cons_zero, List.set_cons_succ]
  clear V0E_23
  clear V1_23
  have dr_ := Lib.hid (drew_of B_23.out)
  refine toD_tail prog_bodied prog_ready (k0 := 7) (Q0 := fun _ => bodyPost Try.prog Try.f7 (fun e y => e = .returned (.bool true) ∧ HB w0 y)) (fun _ _ _ h => by cases h.1) rfl ?_ (fun e a w h1 h2 => law_quit prog_bodied prog_ready Try.func7 (by kernel_rfl) h2 dr_.out h1)
  intro oB T _
  obtain ⟨w, hw_⟩ : ∃ x, x = w0.wi T 0 oB #[] := ⟨_, rfl⟩
  have HWX := Lib.hid (hb_of hw_)
  have HW_ := Lib.hid hw_
  have hg0 := graphArg_lo hw_ fg0
  have hg1 := intsArg_lo hw_ fg1
  have HE0 := Lib.hid hg0.edges
  have hw0 := Lib.hid hg0.wf
  have hl0 := hg0.lo
  have hh0 := hg0.hi
  have HS1 := Lib.hid hg1.ints
  have hw1 := Lib.hid hg1.each
  obtain ⟨w24, hw24_⟩ : ∃ x, x = w23.wi T 0 oB #[] := ⟨_, rfl⟩
  rw [← hw24_]
  have hws : w.heap.size = w0.heap.size := by rw [hw_]; rfl
  rw [← hws]
  have e241 : w23.heap.size ≤ w24.heap.size := by rw [hw24_]; exact Nat.le_refl _
  have e242 : w24.heap.size ≤ w23.heap.size := by rw [hw24_]; exact Nat.le_refl _
  have e243 : w.heap.size ≤ w0.heap.size := by omega
  have e244 : w0.heap.size ≤ w.heap.size := by omega
  have L_24 := Lib.hid (LawG.lo hw_ hw24_ L_23.out)
  have B_24 := Lib.hid (below_lo hw_ hw24_ B_23.out)
  have W_24 := Lib.hid (ints_lo hw24_ W_23.out)
  have G_24 := Lib.hid (own_lo hw24_ G_23.out)
  have H_24 := Lib.hid (ints_lo hw24_ H_23.out)
  clear L_23 B_23 W_23 G_23 H_23 hws hw_ hw24_
  clear hg0 hg1
  simp only [List.drop_succ_cons, List.drop_zero]
  have k0 := L_24.out.c0
  have k1 := L_24.out.c1
  go_wp2_with (refine preWp_one fun _ _ => ?_)
  refine (eqIntS_any _ _ _ _ _ _ _ (by omega) (by omega) (H_24.out.wide (by omega)) (W_24.out.wide (by omega))).mono ?_
  rintro e w25 ⟨rfl, hb25⟩
  have L_25 := Lib.hid (L_24.out.next hb25)
  have B_25 := Lib.hid (belowMoves B_24.out (belowMv hb25 _) (Nat.le_refl _) B_24.out.size)
  have G_25 := Lib.hid (G_24.out.moves (belowMv hb25 _) (Nat.le_refl _))
  have s25 := hb25.size
  clear L_24 B_24 W_24 G_24 H_24 k0 k1 hb25
  go_wp2_with (refine preWp_one fun _ _ => ?_)
  refine (heldIntS_any _ _ _ _ _ _ hzn (by omega) (by omega) G_25.out.ints).mono ?_
  rintro e w' ⟨rfl, rfl⟩
  go_wp2
  go_ret
  exact ⟨rfl, HWX.out _ B_25.out⟩
end Go.Proofs.Ytndncmjhpbjcoaa
