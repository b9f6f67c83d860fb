/- The walk of laws.FnExactSumOfPiles. -/
import Derived.Test.YtndncmjhpbjcoaaKSumT
import Derived.Test.YtndncmjhpbjcoaaKPilE
import Derived.Test.YtndncmjhpbjcoaaKPilC
import Derived.Test.YtndncmjhpbjcoaaKBI
import Derived.Test.YtndncmjhpbjcoaaKBA
import Derived.Test.YtndncmjhpbjcoaaKCrs
import Derived.Test.YtndncmjhpbjcoaaKCrsL
set_option linter.all false
namespace Go.Proofs.Ytndncmjhpbjcoaa
open Go Go.Conc Go.ConcN Go.RowKit

set_option maxRecDepth 100000 in
set_option maxHeartbeats 4000000 in
theorem lawTSumOfPiles (N0 : Int) (A0 : Option Addr) (c0 : Nat) (es0 : List (Int × Int)) (A1 : Option Addr) (c1 : Nat) (xs1 : List Int) (A2 : Option Addr) (c2 : Nat) (xs2 : List Int) (n3 : Int) (w0 : World) (fg0 : GraphArg w0 N0 A0 c0 es0) (fg1 : IntsArg w0 A1 c1 xs1) (fg2 : IntsArg w0 A2 c2 xs2) (_ : -9223372036854775808 ≤ n3) (_ : n3 ≤ 9223372036854775807) :
    LastT Try.prog 10 #[.agg #[.int .i64 N0, .slice A0 es0.length c0], .slice A1 xs1.length c1, .slice A2 xs2.length c2, .int .i64 n3] w0 (LawEnd w0) := by
  have hlen0 := fg0.len
  have hlen1 := fg1.len
  have hlen2 := fg2.len
  by_cases hxb : 1048576 < xs1.length
  · refine lastT_law prog_bodied prog_ready Try.func10 rfl (by kernel_rfl) fun oB T _ => ?_
    simp only [Try.ntmps10, List.size_toArray, List.length_cons, List.length_nil, Nat.reduceAdd, Nat.reduceSub, Array.replicate_succ, Array.replicate_zero, List.push_toArray, List.append_toArray, List.nil_append, List.cons_append]
    obtain ⟨w, hw_⟩ : ∃ x, x = w0.wi T 0 oB #[] := ⟨_, rfl⟩
    have HWX := Lib.hid (hb_of hw_)
    have hg0 := graphArg_lo hw_ fg0
    have hg1 := intsArg_lo hw_ fg1
    have hg2 := intsArg_lo hw_ fg2
    rw [← hw_]
    clear hw_ fg0 fg1 fg2
    clear hg0 hg1 hg2
    go_wp2
    go_ret
    exact ⟨rfl, HWX.out _ ((Below.refl _ _).alloc (Nat.le_refl _) _)⟩
  have hn1 : xs1.length ≤ 1048576 := by omega
  clear hxb
  by_cases hxb : 1048576 < xs2.length
  · refine lastT_law prog_bodied prog_ready Try.func10 rfl (by kernel_rfl) fun oB T _ => ?_
    simp only [Try.ntmps10, List.size_toArray, List.length_cons, List.length_nil, Nat.reduceAdd, Nat.reduceSub, Array.replicate_succ, Array.replicate_zero, List.push_toArray, List.append_toArray, List.nil_append, List.cons_append]
    obtain ⟨w, hw_⟩ : ∃ x, x = w0.wi T 0 oB #[] := ⟨_, rfl⟩
    have HWX := Lib.hid (hb_of hw_)
    have hg0 := graphArg_lo hw_ fg0
    have hg1 := intsArg_lo hw_ fg1
    have hg2 := intsArg_lo hw_ fg2
    rw [← hw_]
    clear hw_ fg0 fg1 fg2
    clear hg0 hg1 hg2
    go_wp2
    go_ret
    exact ⟨rfl, HWX.out _ ((Below.refl _ _).alloc (Nat.le_refl _) _)⟩
  have hn2 : xs2.length ≤ 1048576 := by omega
  clear hxb
  by_cases hbig : (1048576 : Int) < es0.length
  · refine lastT_law prog_bodied prog_ready Try.func10 rfl (by kernel_rfl) fun oB T _ => ?_
    simp only [Try.ntmps10, List.size_toArray, List.length_cons, List.length_nil, Nat.reduceAdd, Nat.reduceSub, Array.replicate_succ, Array.replicate_zero, List.push_toArray, List.append_toArray, List.nil_append, List.cons_append]
    obtain ⟨w, hw_⟩ : ∃ x, x = w0.wi T 0 oB #[] := ⟨_, rfl⟩
    have HWX := Lib.hid (hb_of hw_)
    have hg0 := graphArg_lo hw_ fg0
    have hg1 := intsArg_lo hw_ fg1
    have hg2 := intsArg_lo hw_ fg2
    rw [← hw_]
    clear hw_ fg0 fg1 fg2
    clear hg0 hg1 hg2
    go_wp2_with (go_at_call 29; refine (szGraph_big _ _ _ _ _ _ hlen0 (by omega) (by omega) hbig).mono ?_; rintro e w1 ⟨rfl, hb1⟩)
    go_ret
    exact ⟨rfl, HWX.out _ ((LawG.start w N0 A0 c0 es0).next hb1).old⟩
  have hsm : (es0.length : Int) ≤ 1048576 := by omega
  have hn0 : es0.length ≤ 1048576 := by omega
  clear hbig
  have HSP := fun (A0 : Option Addr) (c0 : Nat) (A1 : Option Addr) (c1 : Nat) (A2 : Option Addr) (c2 : Nat) (w : World) (E0 : EdgeS w w.heap.size A0 es0) (S1 : IntS w w.heap.size A1 xs1) (S2 : IntS w w.heap.size A2 xs2) => Lib.hid (specSum N0 A0 A1 A2 c0 c1 c2 es0 xs1 xs2 n3 w hn0 hn1 hn2 E0 S1 S2)
  have HIM := fun (A0 : Option Addr) (c0 : Nat) (A1 : Option Addr) (c1 : Nat) (A2 : Option Addr) (c2 : Nat) (w : World) (E0 : EdgeS w w.heap.size A0 es0) (K0 : EdgeK w A0 es0) (S1 : IntS w w.heap.size A1 xs1) (S2 : IntS w w.heap.size A2 xs2) => Lib.hid (implSumT N0 A0 A1 A2 c0 c1 c2 es0 xs1 xs2 n3 w hn0 hn1 hn2 E0 K0 S1 S2)
  obtain ⟨zs, hzs⟩ : ∃ zs, zs = sumX N0 es0 xs1 xs2 n3 := ⟨_, rfl⟩
  have hzn : zs.length ≤ 1048576 := by rw [hzs]; exact Nat.le_trans (sumX_len N0 es0 xs1 xs2 n3) (by decide)
  rw [← hzs] at HSP HIM
  clear hzs
  obtain ⟨vb, hvb⟩ : ∃ v, v = sumOk N0 es0 xs1 xs2 n3 := ⟨_, rfl⟩
  rw [← hvb] at HSP HIM
  clear hvb
  intro cs
  rw [enter_at _ Try.func10 rfl]
  simp only [Try.ntmps10, List.size_toArray, List.length_cons, List.length_nil, Nat.reduceAdd, Nat.reduceSub, Array.replicate_succ, Array.replicate_zero, List.push_toArray, List.append_toArray, List.nil_append, List.cons_append]
  refine toD_preC prog_bodied prog_ready (l := [_, _, _, _, _, _, _, _, _, _]) (rest := .seq _ _) (Q0 := fun _ => bodyPost Try.prog Try.f10 (fun e y => e = .returned (.bool true) ∧ HB w0 y)) (fun _ _ _ h => by cases h.1) ?seg1 (fun e a w h0 h1 h2 => law_quit prog_bodied prog_ready Try.func10 (by kernel_rfl) h2 (.refl _) h1)
  intro oB T _
  obtain ⟨w, hw_⟩ : ∃ x, x = w0.wi T 0 oB #[] := ⟨_, rfl⟩
  have HWX := Lib.hid (hb_of hw_)
  have HW_ := Lib.hid hw_
  have hg0 := graphArg_lo hw_ fg0
  have hg1 := intsArg_lo hw_ fg1
  have hg2 := intsArg_lo hw_ fg2
  have HE0 := Lib.hid hg0.edges
  have hw0 := Lib.hid hg0.wf
  have hl0 := hg0.lo
  have hh0 := hg0.hi
  have HS1 := Lib.hid hg1.ints
  have hw1 := Lib.hid hg1.each
  have HS2 := Lib.hid hg2.ints
  have hw2 := Lib.hid hg2.each
  rw [← hw_]
  clear hw_ hg0 hg1 hg2
  go_wp2_with (refine preWp_one fun _ _ => ?_)
  refine (szGraph_ok _ _ _ _ _ _ (by omega) hsm).mono ?_
  rintro e w1 ⟨rfl, hb1⟩
  have L_1 := Lib.hid ((LawG.start w N0 A0 c0 es0).next hb1)
  have B_1 := Lib.hid L_1.out.old
  have ltL := L_1.out.lt
  clear hb1 hsm
  have k0 := L_1.out.c0
  have k1 := L_1.out.c1
  go_wp2_with (refine preWp_one fun _ _ => ?_)
  refine (toGraph_any _ _ _ _ _ hn0 (HE0.out.up_ B_1.out)).mono ?_
  rintro e w2 ⟨g2, rfl, hg2, hk2, hb2⟩
  have L_2 := Lib.hid (L_1.out.next hb2)
  have B_2 := Lib.hid (belowMoves B_1.out (belowMv hb2 _) (Nat.le_refl _) B_1.out.size)
  have s2 := hb2.size
  clear L_1 B_1 k0 k1 hb2
  have T0E_2 := Lib.hid hk2
  have lt2 := hk2.lt
  clear hk2
  have k0 := L_2.out.c0
  have k1 := L_2.out.c1
  go_wp2_with (refine preWp_one fun _ _ => ?_)
  refine (toIntS_any _ _ _ _ hn1 (HS1.out.up_ B_2.out)).mono ?_
  rintro e w3 ⟨rfl, hk3, hb3⟩
  have L_3 := Lib.hid (L_2.out.next hb3)
  have B_3 := Lib.hid (belowMoves B_2.out (belowMv hb3 _) (Nat.le_refl _) B_2.out.size)
  have T0E_3 := Lib.hid (T0E_2.out.moves (belowMv hb3 _) (.inr (Nat.le_refl _)))
  have s3 := hb3.size
  clear L_2 B_2 T0E_2 k0 k1 hb3
  have T1_3 := Lib.hid hk3
  have lt3 := hk3.lt
  clear hk3
  have k0 := L_3.out.c0
  have k1 := L_3.out.c1
  go_wp2_with (refine preWp_one fun _ _ => ?_)
  refine (toIntS_any _ _ _ _ hn2 (HS2.out.up_ B_3.out)).mono ?_
  rintro e w4 ⟨rfl, hk4, hb4⟩
  have L_4 := Lib.hid (L_3.out.next hb4)
  have B_4 := Lib.hid (belowMoves B_3.out (belowMv hb4 _) (Nat.le_refl _) B_3.out.size)
  have T0E_4 := Lib.hid (T0E_3.out.moves (belowMv hb4 _) (.inr (Nat.le_refl _)))
  have T1_4 := Lib.hid (T1_3.out.moves (belowMv hb4 _) (.inr (Nat.le_refl _)))
  have s4 := hb4.size
  clear L_3 B_3 T0E_3 T1_3 k0 k1 hb4
  have T2_4 := Lib.hid hk4
  have lt4 := hk4.lt
  clear hk4
  have k0 := L_4.out.c0
  have k1 := L_4.out.c1
  go_wp2_with (refine preWp_one fun _ _ => ?_)
  refine (HSP _ _ _ _ _ _ _ (EdgeS.of_blk T0E_4.out T0E_4.out.lt) (IntS.of_blk T1_4.out T1_4.out.lt) (IntS.of_blk T2_4.out T2_4.out.lt)).out.mono ?_
  rintro e w5 ⟨AW, cW, rfl, ho5, hb5⟩
  have L_5 := Lib.hid (L_4.out.next hb5)
  have B_5 := Lib.hid (belowMoves B_4.out (belowMv hb5 _) (Nat.le_refl _) B_4.out.size)
  have s5 := hb5.size
  clear L_4 B_4 T0E_4 T1_4 T2_4 k0 k1 hb5
  have W_5 := Lib.hid ho5.ints
  clear ho5
  have k0 := L_5.out.c0
  have k1 := L_5.out.c1
  go_wp2_with (refine preWp_one fun _ _ => ?_)
  refine (toGraph_any _ _ _ _ _ hn0 (HE0.out.up_ B_5.out)).mono ?_
  rintro e w6 ⟨g6, rfl, hg6, hk6, hb6⟩
  have L_6 := Lib.hid (L_5.out.next hb6)
  have B_6 := Lib.hid (belowMoves B_5.out (belowMv hb6 _) (Nat.le_refl _) B_5.out.size)
  have W_6 := Lib.hid (W_5.out.moves (belowMv hb6 _) (Nat.le_refl _) (by omega))
  have s6 := hb6.size
  clear L_5 B_5 W_5 k0 k1 hb6
  have X0E_6 := Lib.hid hk6
  have lt6 := hk6.lt
  clear hk6
  have k0 := L_6.out.c0
  have k1 := L_6.out.c1
  go_wp2_with (refine preWp_one fun _ _ => ?_)
  obtain ⟨w7, hw7_⟩ : ∃ x, x = w6.alloc (.cells #[.int .i64 N0, .slice (some ⟨g6, 0, none⟩) es0.length es0.length] 25) := ⟨_, rfl⟩
  rw [← hw7_]
  have hb7 : Below w6.heap.size w6 w7 := by rw [hw7_]; exact (Below.refl _ _).alloc (Nat.le_refl _) _
  have hk7 : Blk w7 w6.heap.size 25 #[.int .i64 N0, .slice (some ⟨g6, 0, none⟩) es0.length es0.length] := by rw [hw7_]; exact Blk.new w6 _ _
  have sx7 : w6.heap.size + 1 ≤ w7.heap.size := by rw [hw7_]; simp
  clear hw7_
  have L_7 := Lib.hid (L_6.out.next hb7)
  have B_7 := Lib.hid (belowMoves B_6.out (belowMv hb7 _) (Nat.le_refl _) B_6.out.size)
  have W_7 := Lib.hid (W_6.out.moves (belowMv hb7 _) (Nat.le_refl _) (by omega))
  have X0E_7 := Lib.hid (X0E_6.out.moves (belowMv hb7 _) (.inr (Nat.le_refl _)))
  have s7 := hb7.size
  clear L_6 B_6 W_6 X0E_6 k0 k1 hb7
  have XB_7 := Lib.hid hk7
  clear hk7
  have k0 := L_7.out.c0
  have k1 := L_7.out.c1
  have d0 : w7.cell? ⟨w6.heap.size, 0, none⟩ = some (.int .i64 N0) := by rw [XB_7.out.cell]; rfl
  have d1 : w7.cell? ⟨w6.heap.size, 1, none⟩ = some (.slice (some ⟨g6, 0, none⟩) es0.length es0.length) := by rw [XB_7.out.cell]; rfl
  refine (toIntS_any _ _ _ _ hn1 (HS1.out.up_ B_7.out)).mono ?_
  rintro e w8 ⟨rfl, hk8, hb8⟩
  have L_8 := Lib.hid (L_7.out.next hb8)
  have B_8 := Lib.hid (belowMoves B_7.out (belowMv hb8 _) (Nat.le_refl _) B_7.out.size)
  have W_8 := Lib.hid (W_7.out.moves (belowMv hb8 _) (Nat.le_refl _) (by omega))
  have XB_8 := Lib.hid (XB_7.out.moves (belowMv hb8 _) (.inr (Nat.le_refl _)))
  have XE_8 := Lib.hid (X0E_7.out.moves (belowMv hb8 _) (.inr (Nat.le_refl _)))
  have s8 := hb8.size
  clear L_7 B_7 W_7 XB_7 X0E_7 k0 k1 d0 d1 hb8
  have X1_8 := Lib.hid hk8
  have lt8 := hk8.lt
  clear hk8
  have k0 := L_8.out.c0
  have k1 := L_8.out.c1
  have d0 : w8.cell? ⟨w6.heap.size, 0, none⟩ = some (.int .i64 N0) := by rw [XB_8.out.cell]; rfl
  have d1 : w8.cell? ⟨w6.heap.size, 1, none⟩ = some (.slice (some ⟨g6, 0, none⟩) es0.length es0.length) := by rw [XB_8.out.cell]; rfl
  go_wp2_with (refine preWp_one fun _ _ => ?_)
  refine (toIntS_any _ _ _ _ hn2 (HS2.out.up_ B_8.out)).mono ?_
  rintro e w9 ⟨rfl, hk9, hb9⟩
  have L_9 := Lib.hid (L_8.out.next hb9)
  have B_9 := Lib.hid (belowMoves B_8.out (belowMv hb9 _) (Nat.le_refl _) B_8.out.size)
  have W_9 := Lib.hid (W_8.out.moves (belowMv hb9 _) (Nat.le_refl _) (by omega))
  have XB_9 := Lib.hid (XB_8.out.moves (belowMv hb9 _) (.inr (Nat.le_refl _)))
  have XE_9 := Lib.hid (XE_8.out.moves (belowMv hb9 _) (.inr (Nat.le_refl _)))
  have X1_9 := Lib.hid (X1_8.out.moves (belowMv hb9 _) (.inr (Nat.le_refl _)))
  have s9 := hb9.size
  clear L_8 B_8 W_8 XB_8 XE_8 X1_8 k0 k1 d0 d1 hb9
  have X2_9 := Lib.hid hk9
  have lt9 := hk9.lt
  clear hk9
  have k0 := L_9.out.c0
  have k1 := L_9.out.c1
  have d0 : w9.cell? ⟨w6.heap.size, 0, none⟩ = some (.int .i64 N0) := by rw [XB_9.out.cell]; rfl
  have d1 : w9.cell? ⟨w6.heap.size, 1, none⟩ = some (.slice (some ⟨g6, 0, none⟩) es0.length es0.length) := by rw [XB_9.out.cell]; rfl
  go_wp2_with (refine preWp_one fun _ _ => ?_)
  refine preWp_nil ?_
  intro w10 hw10 hd10
  clear k0 k1 d0 d1
  have hws : w.heap.size = w0.heap.size := by rw [HW_.out]; rfl
  rw [hws]
  have e101 : w9.heap.size ≤ w10.heap.size := by rw [hw10]; exact Nat.le_refl _
  have e102 : w10.heap.size ≤ w9.heap.size := by rw [hw10]; exact Nat.le_refl _
  have e103 : w.heap.size ≤ w0.heap.size := by omega
  have e104 : w0.heap.size ≤ w.heap.size := by omega
  have L_10 := Lib.hid (LawG.re HW_.out L_9.out hw10 hd10)
  have B_10 := Lib.hid (below_re1 HW_.out B_9.out hw10 hd10)
  have W_10 := Lib.hid (ints_re W_9.out hw10)
  have XB_10 := Lib.hid (XB_9.out.heap hw10)
  have XE_10 := Lib.hid (XE_9.out.heap hw10)
  have X1_10 := Lib.hid (X1_9.out.heap hw10)
  have X2_10 := Lib.hid (X2_9.out.heap hw10)
  clear L_9 B_9 W_9 XB_9 XE_9 X1_9 X2_9 hws hw10 hd10 HW_ HWX
  clear HE0 hw0 hl0 hh0 HS1 hw1 HS2 hw2
  refine ToD.ctl prog_bodied prog_ready (fun _ _ => step_seq) ?_
  refine ToD.regionL prog_bodied prog_ready (l := [0, 1, 2, 3, 4, 5, 6, 7, 8, 9]) rfl ?_
  have d0_ : ∀ t d o u, (w10.wi t d o u).cell? ⟨w6.heap.size, 0, none⟩ = some (.int .i64 N0) := fun _ _ _ _ => (show w10.cell? _ = _ from by rw [XB_10.out.cell]; rfl)
  have d1_ : ∀ t d o u, (w10.wi t d o u).cell? ⟨w6.heap.size, 1, none⟩ = some (.slice (some ⟨g6, 0, none⟩) es0.length es0.length) := fun _ _ _ _ => (show w10.cell? _ = _ from by rw [XB_10.out.cell]; rfl)
  refine ToD.value prog_bodied prog_ready (v := .agg #[.int .i64 N0, .slice (some ⟨g6, 0, none⟩) es0.length es0.length]) rfl rfl rfl (fun t d o u => by
    have d0 := d0_ t d o u
    have d1 := d1_ t d o u
    simp [execOp, go_sem, Act.eval, d0, d1]) ?_
  clear d0_ d1_
  refine ToD.value prog_bodied prog_ready (v := .slice (some ⟨w7.heap.size, 0, none⟩) xs1.length xs1.length) rfl rfl rfl (fun _ _ _ _ => by simp [execOp, go_sem, Act.eval]) ?_
  refine ToD.value prog_bodied prog_ready (v := .slice (some ⟨w8.heap.size, 0, none⟩) xs2.length xs2.length) rfl rfl rfl (fun _ _ _ _ => by simp [execOp, go_sem, Act.eval]) ?_
  refine ToD.value prog_bodied prog_ready (v := .int .i64 n3) rfl rfl rfl (fun _ _ _ _ => by simp [execOp, go_sem, Act.eval]) ?_
  try simp only [List.setIfInBounds_toArray, List.set_cons_zero, List.set_cons_succ]
  refine ToD.call prog_bodied prog_ready (f := 27) (args := #[.agg #[.int .i64 N0, .slice (some ⟨g6, 0, none⟩) es0.length es0.length], .slice (some ⟨w7.heap.size, 0, none⟩) xs1.length xs1.length, .slice (some ⟨w8.heap.size, 0, none⟩) xs2.length xs2.length, .int .i64 n3]) rfl rfl rfl (fun t d o u => by simp [execOp, go_sem, Act.eval, resolve]) (HIM _ _ _ _ _ _ _ (EdgeS.of_blk XE_10.out XE_10.out.lt) (EdgeK.of_blk XE_10.out) (IntS.of_blk X1_10.out X1_10.out.lt) (IntS.of_blk X2_10.out X2_10.out.lt)).out ?_
  rintro v w11 ⟨AG, cG, hv, ho11, hb11⟩
  cases hv
  have L_11 := Lib.hid (L_10.out.next hb11)
  have B_11 := Lib.hid (belowMoves B_10.out (belowMv hb11 _) (Nat.le_refl _) B_10.out.size)
  have W_11 := Lib.hid (W_10.out.moves (belowMv hb11 _) (Nat.le_refl _) (by omega))
  have XB_11 := Lib.hid (XB_10.out.moves (belowMv hb11 _) (.inr (Nat.le_refl _)))
  have XE_11 := Lib.hid (XE_10.out.moves (belowMv hb11 _) (.inr (Nat.le_refl _)))
  have X1_11 := Lib.hid (X1_10.out.moves (belowMv hb11 _) (.inr (Nat.le_refl _)))
  have X2_11 := Lib.hid (X2_10.out.moves (belowMv hb11 _) (.inr (Nat.le_refl _)))
  have s11 := hb11.size
  clear L_10 B_10 W_10 XB_10 XE_10 X1_10 X2_10 hb11
  have G_11 := Lib.hid ho11
  clear ho11
  try simp only [List.setIfInBounds_toArray, List.set_cons_zero, List.set_cons_succ]
  have dr_ := Lib.hid (drew_of B_11.out)
  refine toD_midC prog_bodied prog_ready (k0 := 5) (cl := [_, _, _, _, _, _, _, _, _, _, _, _, _, _, _]) (rest := .seq _ _) (Q0 := fun _ => bodyPost Try.prog Try.f10 (fun e y => e = .returned (.bool true) ∧ HB w0 y)) (fun _ _ _ h => by cases h.1) rfl ?_ (fun e a w _ h1 h2 => law_quit prog_bodied prog_ready Try.func10 (by kernel_rfl) h2 dr_.out h1)
  intro oB T _
  obtain ⟨w, hw_⟩ : ∃ x, x = w0.wi T 0 oB #[] := ⟨_, rfl⟩
  have HWX := Lib.hid (hb_of hw_)
  have HW_ := Lib.hid hw_
  have hg0 := graphArg_lo hw_ fg0
  have hg1 := intsArg_lo hw_ fg1
  have hg2 := intsArg_lo hw_ fg2
  have HE0 := Lib.hid hg0.edges
  have hw0 := Lib.hid hg0.wf
  have hl0 := hg0.lo
  have hh0 := hg0.hi
  have HS1 := Lib.hid hg1.ints
  have hw1 := Lib.hid hg1.each
  have HS2 := Lib.hid hg2.ints
  have hw2 := Lib.hid hg2.each
  obtain ⟨w12, hw12_⟩ : ∃ x, x = w11.wi T 0 oB #[] := ⟨_, rfl⟩
  rw [← hw12_]
  have hws : w.heap.size = w0.heap.size := by rw [hw_]; rfl
  rw [← hws]
  have e121 : w11.heap.size ≤ w12.heap.size := by rw [hw12_]; exact Nat.le_refl _
  have e122 : w12.heap.size ≤ w11.heap.size := by rw [hw12_]; exact Nat.le_refl _
  have e123 : w.heap.size ≤ w0.heap.size := by omega
  have e124 : w0.heap.size ≤ w.heap.size := by omega
  have L_12 := Lib.hid (LawG.lo hw_ hw12_ L_11.out)
  have B_12 := Lib.hid (below_lo hw_ hw12_ B_11.out)
  have W_12 := Lib.hid (ints_lo hw12_ W_11.out)
  have XB_12 := Lib.hid (blk_lo hw12_ XB_11.out)
  have XE_12 := Lib.hid (blk_lo hw12_ XE_11.out)
  have X1_12 := Lib.hid (blk_lo hw12_ X1_11.out)
  have X2_12 := Lib.hid (blk_lo hw12_ X2_11.out)
  have G_12 := Lib.hid (own_lo hw12_ G_11.out)
  clear L_11 B_11 W_11 XB_11 XE_11 X1_11 X2_11 G_11 hws hw_ hw12_
  clear hg0 hg1 hg2
  simp only [List.drop_succ_cons, List.drop_zero]
  have k0 := L_12.out.c0
  have k1 := L_12.out.c1
  have d0 : w12.cell? ⟨w6.heap.size, 0, none⟩ = some (.int .i64 N0) := by rw [XB_12.out.cell]; rfl
  have d1 : w12.cell? ⟨w6.heap.size, 1, none⟩ = some (.slice (some ⟨g6, 0, none⟩) es0.length es0.length) := by rw [XB_12.out.cell]; rfl
  go_wp2_with (refine preWp_one fun _ _ => ?_)
  refine (eqIntS_any _ _ _ _ _ _ _ (by omega) (by omega) (G_12.out.ints.wide (by omega)) (W_12.out.wide (by omega))).mono ?_
  rintro e w13 ⟨rfl, hb13⟩
  have L_13 := Lib.hid (L_12.out.next hb13)
  have B_13 := Lib.hid (belowMoves B_12.out (belowMv hb13 _) (Nat.le_refl _) B_12.out.size)
  have W_13 := Lib.hid (W_12.out.moves (belowMv hb13 _) (Nat.le_refl _) (by omega))
  have XB_13 := Lib.hid (XB_12.out.moves (belowMv hb13 _) (.inr (Nat.le_refl _)))
  have XE_13 := Lib.hid (XE_12.out.moves (belowMv hb13 _) (.inr (Nat.le_refl _)))
  have X1_13 := Lib.hid (X1_12.out.moves (belowMv hb13 _) (.inr (Nat.le_refl _)))
  have X2_13 := Lib.hid (X2_12.out.moves (belowMv hb13 _) (.inr (Nat.le_refl _)))
  have G_13 := Lib.hid (G_12.out.moves (belowMv hb13 _) (Nat.le_refl _))
  have s13 := hb13.size
  clear L_12 B_12 W_12 XB_12 XE_12 X1_12 X2_12 G_12 k0 k1 d0 d1 hb13
  have k0 := L_13.out.c0
  have k1 := L_13.out.c1
  have d0 : w13.cell? ⟨w6.heap.size, 0, none⟩ = some (.int .i64 N0) := by rw [XB_13.out.cell]; rfl
  have d1 : w13.cell? ⟨w6.heap.size, 1, none⟩ = some (.slice (some ⟨g6, 0, none⟩) es0.length es0.length) := by rw [XB_13.out.cell]; rfl
  have l0 := L_13.out.lt
  have l1 := XB_13.out.lt
  have l2 := XE_13.out.lt
  go_wp2_with (refine preWp_one fun _ _ => ?_)
  go_region_held3 (fun w' => w'.cell? ⟨w.heap.size, 0, none⟩ = some (.int .i64 N0) ∧ w'.cell? ⟨w.heap.size, 1, none⟩ = some (.slice A0 es0.length c0) ∧ w'.cell? ⟨w6.heap.size, 0, none⟩ = some (.int .i64 N0) ∧ w'.cell? ⟨w6.heap.size, 1, none⟩ = some (.slice (some ⟨g6, 0, none⟩) es0.length es0.length) ∧ Below w13.heap.size w13 w')
    (first
      | exact ⟨k0, k1, d0, d1, (Below.refl _ _).drew⟩
      | exact keep4 (by assumption) hb14 l0 l0 l1 l1
      | exact keep4 (by assumption) hb15 l0 l0 l1 l1)
    (first
      | (go_at_call 31; refine (toGraph_any _ _ _ _ _ hn0 (HE0.out.up_ (B_13.out.drew))).mono ?_; rintro e w14 ⟨g14, rfl, hg14, hk14, hb14⟩)
      | (go_at_call 34; refine (eqGraph_any _ _ _ _ _ _ _ _ _ hlen0 hlen0 (EdgeS.of_blk (XE_13.out.drew.below hb14 l2) (Nat.lt_of_lt_of_le l2 hb14.size)) (EdgeS.of_blk hk14 hk14.lt)).mono ?_; rintro e w15 ⟨rfl, hb15⟩))
  have hbz15 : Below w13.heap.size w13 w15 := (Below.refl _ _).drew.trans (hb14.trans (hb15.mono hb14.size))
  have hq := eqG_self N0 es0
  rw [hq]
  clear hq hb14 hb15 hk14 hg14 l0 l1 l2
  have L_15 := Lib.hid (L_13.out.next hbz15)
  have B_15 := Lib.hid (belowMoves B_13.out (belowMv hbz15 _) (Nat.le_refl _) B_13.out.size)
  have W_15 := Lib.hid (W_13.out.moves (belowMv hbz15 _) (Nat.le_refl _) (by omega))
  have XB_15 := Lib.hid (XB_13.out.moves (belowMv hbz15 _) (.inr (Nat.le_refl _)))
  have XE_15 := Lib.hid (XE_13.out.moves (belowMv hbz15 _) (.inr (Nat.le_refl _)))
  have X1_15 := Lib.hid (X1_13.out.moves (belowMv hbz15 _) (.inr (Nat.le_refl _)))
  have X2_15 := Lib.hid (X2_13.out.moves (belowMv hbz15 _) (.inr (Nat.le_refl _)))
  have G_15 := Lib.hid (G_13.out.moves (belowMv hbz15 _) (Nat.le_refl _))
  have s15 := hbz15.size
  clear L_13 B_13 W_13 XB_13 XE_13 X1_13 X2_13 G_13 k0 k1 d0 d1 hbz15
  have k0 := L_15.out.c0
  have k1 := L_15.out.c1
  have d0 : w15.cell? ⟨w6.heap.size, 0, none⟩ = some (.int .i64 N0) := by rw [XB_15.out.cell]; rfl
  have d1 : w15.cell? ⟨w6.heap.size, 1, none⟩ = some (.slice (some ⟨g6, 0, none⟩) es0.length es0.length) := by rw [XB_15.out.cell]; rfl
  go_wp2_with (refine preWp_one fun _ _ => ?_)
  refine (toIntS_any _ _ _ _ hn1 (HS1.out.up_ B_15.out)).mono ?_
  rintro e w16 ⟨rfl, hk16, hb16⟩
  have L_16 := Lib.hid (L_15.out.next hb16)
  have B_16 := Lib.hid (belowMoves B_15.out (belowMv hb16 _) (Nat.le_refl _) B_15.out.size)
  have W_16 := Lib.hid (W_15.out.moves (belowMv hb16 _) (Nat.le_refl _) (by omega))
  have XB_16 := Lib.hid (XB_15.out.moves (belowMv hb16 _) (.inr (Nat.le_refl _)))
  have XE_16 := Lib.hid (XE_15.out.moves (belowMv hb16 _) (.inr (Nat.le_refl _)))
  have X1_16 := Lib.hid (X1_15.out.moves (belowMv hb16 _) (.inr (Nat.le_refl _)))
  have X2_16 := Lib.hid (X2_15.out.moves (belowMv hb16 _) (.inr (Nat.le_refl _)))
  have G_16 := Lib.hid (G_15.out.moves (belowMv hb16 _) (Nat.le_refl _))
  have s16 := hb16.size
  clear L_15 B_15 W_15 XB_15 XE_15 X1_15 X2_15 G_15 k0 k1 d0 d1 hb16
  have Y1_16 := Lib.hid hk16
  have lt16 := hk16.lt
  clear hk16
  have k0 := L_16.out.c0
  have k1 := L_16.out.c1
  have d0 : w16.cell? ⟨w6.heap.size, 0, none⟩ = some (.int .i64 N0) := by rw [XB_16.out.cell]; rfl
  have d1 : w16.cell? ⟨w6.heap.size, 1, none⟩ = some (.slice (some ⟨g6, 0, none⟩) es0.length es0.length) := by rw [XB_16.out.cell]; rfl
  go_wp2_with (refine preWp_one fun _ _ => ?_)
  refine (eqIntS_any _ _ _ _ _ _ _ (by omega) (by omega) (IntS.of_blk X1_16.out X1_16.out.lt) (IntS.of_blk Y1_16.out Y1_16.out.lt)).mono ?_
  rintro e w17 ⟨rfl, hb17⟩
  have L_17 := Lib.hid (L_16.out.next hb17)
  have B_17 := Lib.hid (belowMoves B_16.out (belowMv hb17 _) (Nat.le_refl _) B_16.out.size)
  have W_17 := Lib.hid (W_16.out.moves (belowMv hb17 _) (Nat.le_refl _) (by omega))
  have XB_17 := Lib.hid (XB_16.out.moves (belowMv hb17 _) (.inr (Nat.le_refl _)))
  have XE_17 := Lib.hid (XE_16.out.moves (belowMv hb17 _) (.inr (Nat.le_refl _)))
  have X1_17 := Lib.hid (X1_16.out.moves (belowMv hb17 _) (.inr (Nat.le_refl _)))
  have X2_17 := Lib.hid (X2_16.out.moves (belowMv hb17 _) (.inr (Nat.le_refl _)))
  have G_17 := Lib.hid (G_16.out.moves (belowMv hb17 _) (Nat.le_refl _))
  have s17 := hb17.size
  clear L_16 B_16 W_16 XB_16 XE_16 X1_16 X2_16 G_16 Y1_16 k0 k1 d0 d1 hb17
  have k0 := L_17.out.c0
  have k1 := L_17.out.c1
  have d0 : w17.cell? ⟨w6.heap.size, 0, none⟩ = some (.int .i64 N0) := by rw [XB_17.out.cell]; rfl
  have d1 : w17.cell? ⟨w6.heap.size, 1, none⟩ = some (.slice (some ⟨g6, 0, none⟩) es0.length es0.length) := by rw [XB_17.out.cell]; rfl
  go_wp2_with (refine preWp_one fun _ _ => ?_)
  refine (toIntS_any _ _ _ _ hn2 (HS2.out.up_ B_17.out)).mono ?_
  rintro e w18 ⟨rfl, hk18, hb18⟩
  have L_18 := Lib.hid (L_17.out.next hb18)
  have B_18 := Lib.hid (belowMoves B_17.out (belowMv hb18 _) (Nat.le_refl _) B_17.out.size)
  have W_18 := Lib.hid (W_17.out.moves (belowMv hb18 _) (Nat.le_refl _) (by omega))
  have XB_18 := Lib.hid (XB_17.out.moves (belowMv hb18 _) (.inr (Nat.le_refl _)))
  have XE_18 := Lib.hid (XE_17.out.moves (belowMv hb18 _) (.inr (Nat.le_refl _)))
  have X1_18 := Lib.hid (X1_17.out.moves (belowMv hb18 _) (.inr (Nat.le_refl _)))
  have X2_18 := Lib.hid (X2_17.out.moves (belowMv hb18 _) (.inr (Nat.le_refl _)))
  have G_18 := Lib.hid (G_17.out.moves (belowMv hb18 _) (Nat.le_refl _))
  have s18 := hb18.size
  clear L_17 B_17 W_17 XB_17 XE_17 X1_17 X2_17 G_17 k0 k1 d0 d1 hb18
  have Y2_18 := Lib.hid hk18
  have lt18 := hk18.lt
  clear hk18
  have k0 := L_18.out.c0
  have k1 := L_18.out.c1
  have d0 : w18.cell? ⟨w6.heap.size, 0, none⟩ = some (.int .i64 N0) := by rw [XB_18.out.cell]; rfl
  have d1 : w18.cell? ⟨w6.heap.size, 1, none⟩ = some (.slice (some ⟨g6, 0, none⟩) es0.length es0.length) := by rw [XB_18.out.cell]; rfl
  go_wp2_with (refine preWp_one fun _ _ => ?_)
  refine (eqIntS_any _ _ _ _ _ _ _ (by omega) (by omega) (IntS.of_blk X2_18.out X2_18.out.lt) (IntS.of_blk Y2_18.out Y2_18.out.lt)).mono ?_
  rintro e w19 ⟨rfl, hb19⟩
  have L_19 := Lib.hid (L_18.out.next hb19)
  have B_19 := Lib.hid (belowMoves B_18.out (belowMv hb19 _) (Nat.le_refl _) B_18.out.size)
  have W_19 := Lib.hid (W_18.out.moves (belowMv hb19 _) (Nat.le_refl _) (by omega))
  have XB_19 := Lib.hid (XB_18.out.moves (belowMv hb19 _) (.inr (Nat.le_refl _)))
  have XE_19 := Lib.hid (XE_18.out.moves (belowMv hb19 _) (.inr (Nat.le_refl _)))
  have X1_19 := Lib.hid (X1_18.out.moves (belowMv hb19 _) (.inr (Nat.le_refl _)))
  have X2_19 := Lib.hid (X2_18.out.moves (belowMv hb19 _) (.inr (Nat.le_refl _)))
  have G_19 := Lib.hid (G_18.out.moves (belowMv hb19 _) (Nat.le_refl _))
  have s19 := hb19.size
  clear L_18 B_18 W_18 XB_18 XE_18 X1_18 X2_18 G_18 Y2_18 k0 k1 d0 d1 hb19
  have k0 := L_19.out.c0
  have k1 := L_19.out.c1
  have d0 : w19.cell? ⟨w6.heap.size, 0, none⟩ = some (.int .i64 N0) := by rw [XB_19.out.cell]; rfl
  have d1 : w19.cell? ⟨w6.heap.size, 1, none⟩ = some (.slice (some ⟨g6, 0, none⟩) es0.length es0.length) := by rw [XB_19.out.cell]; rfl
  go_wp2_with (refine preWp_one fun _ _ => ?_)
  refine (markGraphB_any N0 _ g6 es0 _ hn0 (by omega) (by omega) XE_19.out).mono ?_
  rintro e w20 ⟨rfl, hgr20⟩
  have hm20 := grownMv hgr20
  clear hgr20
  have L_20 := Lib.hid (L_19.out.moves hm20 (by omega))
  have B_20 := Lib.hid (belowMoves B_19.out hm20 (by omega) B_19.out.size)
  have W_20 := Lib.hid (W_19.out.moves hm20 (by omega) (by omega))
  have X1_20 := Lib.hid (X1_19.out.moves hm20 (by omega))
  have X2_20 := Lib.hid (X2_19.out.moves hm20 (by omega))
  have G_20 := Lib.hid (G_19.out.moves hm20 (by omega))
  have s20 := hm20.size
  clear L_19 B_19 W_19 XB_19 XE_19 X1_19 X2_19 G_19 k0 k1 d0 d1 hm20
  go_wp2_with (refine preWp_one fun _ _ => ?_)
  refine (markIntS_any _ _ (w7.heap.size) xs1 _ _ hn1 (by omega) (by omega) (OwnI.of_blk X1_20.out (Nat.le_refl _))).mono ?_
  rintro e w21 ⟨rfl, _, ht21, _⟩
  have hm21 := ht21.mv
  clear ht21
  have L_21 := Lib.hid (L_20.out.moves hm21 (by omega))
  have B_21 := Lib.hid (belowMoves B_20.out hm21 (by omega) B_20.out.size)
  have W_21 := Lib.hid (W_20.out.moves hm21 (by omega) (by omega))
  have X2_21 := Lib.hid (X2_20.out.moves hm21 (by omega))
  have G_21 := Lib.hid (G_20.out.moves hm21 (by omega))
  have s21 := hm21.size
  clear L_20 B_20 W_20 X1_20 X2_20 G_20 hm21
  go_wp2_with (refine preWp_one fun _ _ => ?_)
  refine (markIntS_any _ _ (w8.heap.size) xs2 _ _ hn2 (by omega) (by omega) (OwnI.of_blk X2_21.out (Nat.le_refl _))).mono ?_
  rintro e w22 ⟨rfl, _, ht22, _⟩
  have hm22 := ht22.mv
  clear ht22
  have L_22 := Lib.hid (L_21.out.moves hm22 (by omega))
  have B_22 := Lib.hid (belowMoves B_21.out hm22 (by omega) B_21.out.size)
  have W_22 := Lib.hid (W_21.out.moves hm22 (by omega) (by omega))
  have G_22 := Lib.hid (G_21.out.moves hm22 (by omega))
  have s22 := hm22.size
  clear L_21 B_21 W_21 X2_21 G_21 hm22
  have tk : decide ((1 : Int) + 2 * es0.length + xs1.length + xs2.length < 0) = false := decide_eq_false (by omega)
  have k0 := L_22.out.c0
  have k1 := L_22.out.c1
  go_wp2_with (refine preWp_one fun _ _ => ?_)
  refine (eqIntS_any _ _ _ _ _ _ _ (by omega) (by omega) (G_22.out.ints.wide (by omega)) (W_22.out.wide (by omega))).mono ?_
  rintro e w23 ⟨rfl, hb23⟩
  have L_23 := Lib.hid (L_22.out.next hb23)
  have B_23 := Lib.hid (belowMoves B_22.out (belowMv hb23 _) (Nat.le_refl _) B_22.out.size)
  have W_23 := Lib.hid (W_22.out.moves (belowMv hb23 _) (Nat.le_refl _) (by omega))
  have G_23 := Lib.hid (G_22.out.moves (belowMv hb23 _) (Nat.le_refl _))
  have s23 := hb23.size
  clear L_22 B_22 W_22 G_22 k0 k1 hb23
  have k0 := L_23.out.c0
  have k1 := L_23.out.c1
  go_wp2_with (refine preWp_one fun _ _ => ?_)
  refine (markIntS_any _ _ (w10.heap.size) zs _ _ hzn (by omega) (by omega) G_23.out).mono ?_
  rintro e w24 ⟨rfl, ho24, _, hbl24⟩
  have hm24 := belowMvB (hbl24 (by omega))
  clear hbl24
  have L_24 := Lib.hid (L_23.out.moves hm24 (by omega))
  have B_24 := Lib.hid (belowMoves B_23.out hm24 (by omega) B_23.out.size)
  have W_24 := Lib.hid (W_23.out.moves hm24 (by omega) (by omega))
  have s24 := hm24.size
  clear L_23 B_23 W_23 G_23 k0 k1 hm24
  have G_24 := Lib.hid ho24
  clear ho24
  go_wp2_with (refine preWp_one fun _ _ => ?_)
  refine (heldIntS_any _ _ _ _ _ _ hzn (by omega) (by omega) G_24.out.ints).mono ?_
  rintro e w' ⟨rfl, rfl⟩
  have tq : ((1 : Int) + zs.length != 1 + zs.length) = false := by simp
  have k0 := L_24.out.c0
  have k1 := L_24.out.c1
  go_wp2_with (refine preWp_one fun _ _ => ?_)
  refine preWp_nil ?_
  intro w25 hw25 hd25
  clear k0 k1
  replace hd25 := dr_.out.trans hd25
  clear dr_
  have hws : w.heap.size = w0.heap.size := by rw [HW_.out]; rfl
  rw [hws]
  have e251 : w24.heap.size ≤ w25.heap.size := by rw [hw25]; exact Nat.le_refl _
  have e252 : w25.heap.size ≤ w24.heap.size := by rw [hw25]; exact Nat.le_refl _
  have e253 : w.heap.size ≤ w0.heap.size := by omega
  have e254 : w0.heap.size ≤ w.heap.size := by omega
  have L_25 := Lib.hid (LawG.re HW_.out L_24.out hw25 hd25)
  have B_25 := Lib.hid (below_re1 HW_.out B_24.out hw25 hd25)
  have W_25 := Lib.hid (ints_re W_24.out hw25)
  have G_25 := Lib.hid (G_24.out.heap hw25)
  clear L_24 B_24 W_24 G_24 hws hw25 hd25 HW_ HWX
  clear HE0 hw0 hl0 hh0 HS1 hw1 HS2 hw2
  refine ToD.ctl prog_bodied prog_ready (fun _ _ => step_seq) ?_
  refine ToD.regionL prog_bodied prog_ready (l := [0, 1, 2, 3, 4, 5, 6, 7, 8, 9, 10, 11, 12]) rfl ?_
  try simp only [List.setIfInBounds_toArray, List.set_cons_zero, List.set_cons_succ]
  have d0_ : ∀ t d o u, (w25.wi t d o u).cell? ⟨w0.heap.size, 0, none⟩ = some (.int .i64 N0) := fun _ _ _ _ => L_25.out.c0
  have d1_ : ∀ t d o u, (w25.wi t d o u).cell? ⟨w0.heap.size, 1, none⟩ = some (.slice A0 es0.length c0) := fun _ _ _ _ => L_25.out.c1
  refine ToD.value prog_bodied prog_ready (v := .agg #[.int .i64 N0, .slice A0 es0.length c0]) rfl rfl rfl (fun t d o u => by
    have d0 := d0_ t d o u
    have d1 := d1_ t d o u
    simp [execOp, go_sem, Act.eval, d0, d1]) ?_
  clear d0_ d1_
  try simp only [List.setIfInBounds_toArray, List.set_cons_zero, List.set_cons_succ]
  refine ToD.call prog_bodied prog_ready (f := 31) (args := #[.agg #[.int .i64 N0, .slice A0 es0.length c0]]) rfl rfl rfl (fun t d o u => by simp [execOp, go_sem, Act.eval, resolve]) (toGraphT N0 A0 c0 es0 _ hn0 (fg0.edges.up_ B_25.out)) ?_
  rintro v w26 ⟨g26, rfl, hg26, hk26, hb26⟩
  have L_26 := Lib.hid (L_25.out.next hb26)
  have B_26 := Lib.hid (belowMoves B_25.out (belowMv hb26 _) (Nat.le_refl _) B_25.out.size)
  have W_26 := Lib.hid (W_25.out.moves (belowMv hb26 _) (Nat.le_refl _) (by omega))
  have G_26 := Lib.hid (G_25.out.moves (belowMv hb26 _) (Nat.le_refl _))
  have s26 := hb26.size
  clear L_25 B_25 W_25 G_25 hb26
  have V0E_26 := Lib.hid hk26
  have lt26 := hk26.lt
  clear hk26
  try simp only [List.setIfInBounds_toArray, List.set_cons_zero, List.set_cons_succ]
  refine ToD.value prog_bodied prog_ready (v := .slice A1 xs1.length c1) rfl rfl rfl (fun _ _ _ _ => by simp [execOp, go_sem, Act.eval]) ?_
  try simp only [List.setIfInBounds_toArray, List.set_cons_zero, List.set_cons_succ]
  refine ToD.call prog_bodied prog_ready (f := 32) (args := #[.slice A1 xs1.length c1]) rfl rfl rfl (fun t d o u => by simp [execOp, go_sem, Act.eval, resolve]) (toIntsT A1 c1 xs1 _ hn1 (fg1.ints.up_ B_26.out)) ?_
  rintro v w27 ⟨rfl, hk27, hb27⟩
  have L_27 := Lib.hid (L_26.out.next hb27)
  have B_27 := Lib.hid (belowMoves B_26.out (belowMv hb27 _) (Nat.le_refl _) B_26.out.size)
  have W_27 := Lib.hid (W_26.out.moves (belowMv hb27 _) (Nat.le_refl _) (by omega))
  have G_27 := Lib.hid (G_26.out.moves (belowMv hb27 _) (Nat.le_refl _))
  have V0E_27 := Lib.hid (V0E_26.out.moves (belowMv hb27 _) (.inr (Nat.le_refl _)))
  have s27 := hb27.size
  clear L_26 B_26 W_26 G_26 V0E_26 hb27
  have V1_27 := Lib.hid hk27
  have lt27 := hk27.lt
  clear hk27
  try simp only [List.setIfInBounds_toArray, List.set_cons_zero, List.set_cons_succ]
  refine ToD.value prog_bodied prog_ready (v := .slice A2 xs2.length c2) rfl rfl rfl (fun _ _ _ _ => by simp [execOp, go_sem, Act.eval]) ?_
  try simp only [List.setIfInBounds_toArray, List.set_cons_zero, List.set_cons_succ]
  refine ToD.call prog_bodied prog_ready (f := 32) (args := #[.slice A2 xs2.length c2]) rfl rfl rfl (fun t d o u => by simp [execOp, go_sem, Act.eval, resolve]) (toIntsT A2 c2 xs2 _ hn2 (fg2.ints.up_ B_27.out)) ?_
  rintro v w28 ⟨rfl, hk28, hb28⟩
  have L_28 := Lib.hid (L_27.out.next hb28)
  have B_28 := Lib.hid (belowMoves B_27.out (belowMv hb28 _) (Nat.le_refl _) B_27.out.size)
  have W_28 := Lib.hid (W_27.out.moves (belowMv hb28 _) (Nat.le_refl _) (by omega))
  have G_28 := Lib.hid (G_27.out.moves (belowMv hb28 _) (Nat.le_refl _))
  have V0E_28 := Lib.hid (V0E_27.out.moves (belowMv hb28 _) (.inr (Nat.le_refl _)))
  have V1_28 := Lib.hid (V1_27.out.moves (belowMv hb28 _) (.inr (Nat.le_refl _)))
  have s28 := hb28.size
  clear L_27 B_27 W_27 G_27 V0E_27 V1_27 hb28
  have V2_28 := Lib.hid hk28
  have lt28 := hk28.lt
  clear hk28
  try simp only [List.setIfInBounds_toArray, List.set_cons_zero, List.set_cons_succ]
  refine ToD.value prog_bodied prog_ready (v := .int .i64 n3) rfl rfl rfl (fun _ _ _ _ => by simp [execOp, go_sem, Act.eval]) ?_
  try simp only [List.setIfInBounds_toArray, List.set_cons_zero, List.set_cons_succ]
  refine ToD.call prog_bodied prog_ready (f := 27) (args := #[.agg #[.int .i64 N0, .slice (some ⟨g26, 0, none⟩) es0.length es0.length], .slice (some ⟨w26.heap.size, 0, none⟩) xs1.length xs1.length, .slice (some ⟨w27.heap.size, 0, none⟩) xs2.length xs2.length, .int .i64 n3]) rfl rfl rfl (fun t d o u => by simp [execOp, go_sem, Act.eval, resolve]) (HIM _ _ _ _ _ _ _ (EdgeS.of_blk V0E_28.out V0E_28.out.lt) (EdgeK.of_blk V0E_28.out) (IntS.of_blk V1_28.out V1_28.out.lt) (IntS.of_blk V2_28.out V2_28.out.lt)).out ?_
  rintro v w29 ⟨AH, cH, hv, ho29, hb29⟩
  cases hv
  have L_29 := Lib.hid (L_28.out.next hb29)
  have B_29 := Lib.hid (belowMoves B_28.out (belowMv hb29 _) (Nat.le_refl _) B_28.out.size)
  have W_29 := Lib.hid (W_28.out.moves (belowMv hb29 _) (Nat.le_refl _) (by omega))
  have G_29 := Lib.hid (G_28.out.moves (belowMv hb29 _) (Nat.le_refl _))
  have V0E_29 := Lib.hid (V0E_28.out.moves (belowMv hb29 _) (.inr (Nat.le_refl _)))
  have V1_29 := Lib.hid (V1_28.out.moves (belowMv hb29 _) (.inr (Nat.le_refl _)))
  have V2_29 := Lib.hid (V2_28.out.moves (belowMv hb29 _) (.inr (Nat.le_refl _)))
  have s29 := hb29.size
  clear L_28 B_28 W_28 G_28 V0E_28 V1_28 V2_28 hb29
  have H_29 := Lib.hid ho29.ints
  clear ho29
  try simp only [List.setIfInBounds_toArray, List.set_cons_zero, List.set_cons_succ]
  clear V0E_29
  clear V1_29
  clear V2_29
  have dr_ := Lib.hid (drew_of B_29.out)
  refine toD_tail prog_bodied prog_ready (k0 := 8) (Q0 := fun _ => bodyPost Try.prog Try.f10 (fun e y => e = .returned (.bool true) ∧ HB w0 y)) (fun _ _ _ h => by cases h.1) rfl ?_ (fun e a w h1 h2 => law_quit prog_bodied prog_ready Try.func10 (by kernel_rfl) h2 dr_.out h1)
  intro oB T _
  obtain ⟨w, hw_⟩ : ∃ x, x = w0.wi T 0 oB #[] := ⟨_, rfl⟩
  have HWX := Lib.hid (hb_of hw_)
  have HW_ := Lib.hid hw_
  have hg0 := graphArg_lo hw_ fg0
  have hg1 := intsArg_lo hw_ fg1
  have hg2 := intsArg_lo hw_ fg2
  have HE0 := Lib.hid hg0.edges
  have hw0 := Lib.hid hg0.wf
  have hl0 := hg0.lo
  have hh0 := hg0.hi
  have HS1 := Lib.hid hg1.ints
  have hw1 := Lib.hid hg1.each
  have HS2 := Lib.hid hg2.ints
  have hw2 := Lib.hid hg2.each
  obtain ⟨w30, hw30_⟩ : ∃ x, x = w29.wi T 0 oB #[] := ⟨_, rfl⟩
  rw [← hw30_]
  have hws : w.heap.size = w0.heap.size := by rw [hw_]; rfl
  rw [← hws]
  have e301 : w29.heap.size ≤ w30.heap.size := by rw [hw30_]; exact Nat.le_refl _
  have e302 : w30.heap.size ≤ w29.heap.size := by rw [hw30_]; exact Nat.le_refl _
  have e303 : w.heap.size ≤ w0.heap.size := by omega
  have e304 : w0.heap.size ≤ w.heap.size := by omega
  have L_30 := Lib.hid (LawG.lo hw_ hw30_ L_29.out)
  have B_30 := Lib.hid (below_lo hw_ hw30_ B_29.out)
  have W_30 := Lib.hid (ints_lo hw30_ W_29.out)
  have G_30 := Lib.hid (own_lo hw30_ G_29.out)
  have H_30 := Lib.hid (ints_lo hw30_ H_29.out)
  clear L_29 B_29 W_29 G_29 H_29 hws hw_ hw30_
  clear hg0 hg1 hg2
  simp only [List.drop_succ_cons, List.drop_zero]
  have k0 := L_30.out.c0
  have k1 := L_30.out.c1
  go_wp2_with (refine preWp_one fun _ _ => ?_)
  refine (eqIntS_any _ _ _ _ _ _ _ (by omega) (by omega) (H_30.out.wide (by omega)) (W_30.out.wide (by omega))).mono ?_
  rintro e w31 ⟨rfl, hb31⟩
  have L_31 := Lib.hid (L_30.out.next hb31)
  have B_31 := Lib.hid (belowMoves B_30.out (belowMv hb31 _) (Nat.le_refl _) B_30.out.size)
  have G_31 := Lib.hid (G_30.out.moves (belowMv hb31 _) (Nat.le_refl _))
  have s31 := hb31.size
  clear L_30 B_30 W_30 G_30 H_30 k0 k1 hb31
  go_wp2_with (refine preWp_one fun _ _ => ?_)
  refine (heldIntS_any _ _ _ _ _ _ hzn (by omega) (by omega) G_31.out.ints).mono ?_
  rintro e w' ⟨rfl, rfl⟩
  go_wp2
  go_ret
  exact ⟨rfl, HWX.out _ B_31.out⟩
end Go.Proofs.Ytndncmjhpbjcoaa
