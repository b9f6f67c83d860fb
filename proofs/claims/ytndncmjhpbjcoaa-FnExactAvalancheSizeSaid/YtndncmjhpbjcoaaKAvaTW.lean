/- The walk of laws.FnExactAvalancheSize. -/
import Derived.Test.YtndncmjhpbjcoaaKAvaT
import Derived.Test.YtndncmjhpbjcoaaKPilE
import Derived.Test.YtndncmjhpbjcoaaKPilC
import Derived.Test.YtndncmjhpbjcoaaKBI
import Derived.Test.YtndncmjhpbjcoaaKBA
import Derived.Test.YtndncmjhpbjcoaaKCrs
import Derived.Test.YtndncmjhpbjcoaaKCrsL
set_option linter.all false
namespace Go.Proofs.Ytndncmjhpbjcoaa
open Go Go.Conc Go.ConcN Go.RowKit

set_option maxRecDepth 100000 in
set_option maxHeartbeats 4000000 in
theorem lawTAvalancheSize (N0 : Int) (A0 : Option Addr) (c0 : Nat) (es0 : List (Int × Int)) (A1 : Option Addr) (c1 : Nat) (xs1 : List Int) (n2 : Int) (w0 : World) (fg0 : GraphArg w0 N0 A0 c0 es0) (fg1 : IntsArg w0 A1 c1 xs1) (_ : -9223372036854775808 ≤ n2) (_ : n2 ≤ 9223372036854775807) :
    LastT Try.prog 6 #[.agg #[.int .i64 N0, .slice A0 es0.length c0], .slice A1 xs1.length c1, .int .i64 n2] w0 (LawEnd w0) := by
  have hlen0 := fg0.len
  have hlen1 := fg1.len
  by_cases hxb : 1048576 < xs1.length
  · refine lastT_law prog_bodied prog_ready Try.func6 rfl (by kernel_rfl) fun oB T _ => ?_
    simp only [Try.ntmps6, List.size_toArray, List.length_cons, List.length_nil, Nat.reduceAdd, Nat.reduceSub, Array.replicate_succ, Array.replicate_zero, List.push_toArray, List.append_toArray, List.nil_append, List.cons_append]
    obtain ⟨w, hw_⟩ : ∃ x, x = w0.wi T 0 oB #[] := ⟨_, rfl⟩
    have HWX := Lib.hid (hb_of hw_)
    have hg0 := graphArg_lo hw_ fg0
    have hg1 := intsArg_lo hw_ fg1
    rw [← hw_]
    clear hw_ fg0 fg1
    clear hg0 hg1
    go_wp2
    go_ret
    exact ⟨rfl, HWX.out _ ((Below.refl _ _).alloc (Nat.le_refl _) _)⟩
  have hn1 : xs1.length ≤ 1048576 := by omega
  clear hxb
  by_cases hbig : (1048576 : Int) < es0.length
  · refine lastT_law prog_bodied prog_ready Try.func6 rfl (by kernel_rfl) fun oB T _ => ?_
    simp only [Try.ntmps6, List.size_toArray, List.length_cons, List.length_nil, Nat.reduceAdd, Nat.reduceSub, Array.replicate_succ, Array.replicate_zero, List.push_toArray, List.append_toArray, List.nil_append, List.cons_append]
    obtain ⟨w, hw_⟩ : ∃ x, x = w0.wi T 0 oB #[] := ⟨_, rfl⟩
    have HWX := Lib.hid (hb_of hw_)
    have hg0 := graphArg_lo hw_ fg0
    have hg1 := intsArg_lo hw_ fg1
    rw [← hw_]
    clear hw_ fg0 fg1
    clear hg0 hg1
    go_wp2_with (go_at_call 29; refine (szGraph_big _ _ _ _ _ _ hlen0 (by omega) (by omega) hbig).mono ?_; rintro e w1 ⟨rfl, hb1⟩)
    go_ret
    exact ⟨rfl, HWX.out _ ((LawG.start w N0 A0 c0 es0).next hb1).old⟩
  have hsm : (es0.length : Int) ≤ 1048576 := by omega
  have hn0 : es0.length ≤ 1048576 := by omega
  clear hbig
  have HSP := fun (A0 : Option Addr) (c0 : Nat) (A1 : Option Addr) (c1 : Nat) (w : World) (E0 : EdgeS w w.heap.size A0 es0) (S1 : IntS w w.heap.size A1 xs1) => Lib.hid (specAval N0 A0 A1 c0 c1 es0 xs1 n2 w hn0 hn1 E0 S1)
  have HIM := fun (A0 : Option Addr) (c0 : Nat) (A1 : Option Addr) (c1 : Nat) (w : World) (E0 : EdgeS w w.heap.size A0 es0) (K0 : EdgeK w A0 es0) (S1 : IntS w w.heap.size A1 xs1) => Lib.hid (implAvalT N0 A0 A1 c0 c1 es0 xs1 n2 w hn0 hn1 E0 K0 S1)
  obtain ⟨vv, hvv⟩ : ∃ v, v = avalC N0 es0 xs1 n2 := ⟨_, rfl⟩
  rw [← hvv] at HSP HIM
  clear hvv
  intro cs
  rw [enter_at _ Try.func6 rfl]
  simp only [Try.ntmps6, List.size_toArray, List.length_cons, List.length_nil, Nat.reduceAdd, Nat.reduceSub, Array.replicate_succ, Array.replicate_zero, List.push_toArray, List.append_toArray, List.nil_append, List.cons_append]
  refine toD_preC prog_bodied prog_ready (l := [_, _, _, _, _, _, _, _]) (rest := .seq _ _) (Q0 := fun _ => bodyPost Try.prog Try.f6 (fun e y => e = .returned (.bool true) ∧ HB w0 y)) (fun _ _ _ h => by cases h.1) ?seg1 (fun e a w h0 h1 h2 => law_quit prog_bodied prog_ready Try.func6 (by kernel_rfl) h2 (.refl _) h1)
  intro oB T _
  obtain ⟨w, hw_⟩ : ∃ x, x = w0.wi T 0 oB #[] := ⟨_, rfl⟩
  have HWX := Lib.hid (hb_of hw_)
  have HW_ := Lib.hid hw_
  have hg0 := graphArg_lo hw_ fg0
  have hg1 := intsArg_lo hw_ fg1
  have HE0 := Lib.hid hg0.edges
  have hw0 := Lib.hid hg0.wf
  have hl0 := hg0.lo
  have hh0 := hg0.hi
  have HS1 := Lib.hid hg1.ints
  have hw1 := Lib.hid hg1.each
  rw [← hw_]
  clear hw_ hg0 hg1
  go_wp2_with (refine preWp_one fun _ _ => ?_)
  refine (szGraph_ok _ _ _ _ _ _ (by omega) hsm).mono ?_
  rintro e w1 ⟨rfl, hb1⟩
  have L_1 := Lib.hid ((LawG.start w N0 A0 c0 es0).next hb1)
  have B_1 := Lib.hid L_1.out.old
  have ltL := L_1.out.lt
  clear hb1 hsm
  have k0 := L_1.out.c0
  have k1 := L_1.out.c1
  go_wp2_with (refine preWp_one fun _ _ => ?_)
  refine (toGraph_any _ _ _ _ _ hn0 (HE0.out.up_ B_1.out)).mono ?_
  rintro e w2 ⟨g2, rfl, hg2, hk2, hb2⟩
  have L_2 := Lib.hid (L_1.out.next hb2)
  have B_2 := Lib.hid (belowMoves B_1.out (belowMv hb2 _) (Nat.le_refl _) B_1.out.size)
  have s2 := hb2.size
  clear L_1 B_1 k0 k1 hb2
  have T0E_2 := Lib.hid hk2
  have lt2 := hk2.lt
  clear hk2
  have k0 := L_2.out.c0
  have k1 := L_2.out.c1
  go_wp2_with (refine preWp_one fun _ _ => ?_)
  refine (toIntS_any _ _ _ _ hn1 (HS1.out.up_ B_2.out)).mono ?_
  rintro e w3 ⟨rfl, hk3, hb3⟩
  have L_3 := Lib.hid (L_2.out.next hb3)
  have B_3 := Lib.hid (belowMoves B_2.out (belowMv hb3 _) (Nat.le_refl _) B_2.out.size)
  have T0E_3 := Lib.hid (T0E_2.out.moves (belowMv hb3 _) (.inr (Nat.le_refl _)))
  have s3 := hb3.size
  clear L_2 B_2 T0E_2 k0 k1 hb3
  have T1_3 := Lib.hid hk3
  have lt3 := hk3.lt
  clear hk3
  have k0 := L_3.out.c0
  have k1 := L_3.out.c1
  go_wp2_with (refine preWp_one fun _ _ => ?_)
  refine (HSP _ _ _ _ _ (EdgeS.of_blk T0E_3.out T0E_3.out.lt) (IntS.of_blk T1_3.out T1_3.out.lt)).out.mono ?_
  rintro e w4 ⟨rfl, hb4⟩
  have L_4 := Lib.hid (L_3.out.next hb4)
  have B_4 := Lib.hid (belowMoves B_3.out (belowMv hb4 _) (Nat.le_refl _) B_3.out.size)
  have s4 := hb4.size
  clear L_3 B_3 T0E_3 T1_3 k0 k1 hb4
  have k0 := L_4.out.c0
  have k1 := L_4.out.c1
  go_wp2_with (refine preWp_one fun _ _ => ?_)
  refine (toGraph_any _ _ _ _ _ hn0 (HE0.out.up_ B_4.out)).mono ?_
  rintro e w5 ⟨g5, rfl, hg5, hk5, hb5⟩
  have L_5 := Lib.hid (L_4.out.next hb5)
  have B_5 := Lib.hid (belowMoves B_4.out (belowMv hb5 _) (Nat.le_refl _) B_4.out.size)
  have s5 := hb5.size
  clear L_4 B_4 k0 k1 hb5
  have X0E_5 := Lib.hid hk5
  have lt5 := hk5.lt
  clear hk5
  have k0 := L_5.out.c0
  have k1 := L_5.out.c1
  go_wp2_with (refine preWp_one fun _ _ => ?_)
  obtain ⟨w6, hw6_⟩ : ∃ x, x = w5.alloc (.cells #[.int .i64 N0, .slice (some ⟨g5, 0, none⟩) es0.length es0.length] 25) := ⟨_, rfl⟩
  rw [← hw6_]
  have hb6 : Below w5.heap.size w5 w6 := by rw [hw6_]; exact (Below.refl _ _).alloc (Nat.le_refl _) _
  have hk6 : Blk w6 w5.heap.size 25 #[.int .i64 N0, .slice (some ⟨g5, 0, none⟩) es0.length es0.length] := by rw [hw6_]; exact Blk.new w5 _ _
  have sx6 : w5.heap.size + 1 ≤ w6.heap.size := by rw [hw6_]; simp
  clear hw6_
  have L_6 := Lib.hid (L_5.out.next hb6)
  have B_6 := Lib.hid (belowMoves B_5.out (belowMv hb6 _) (Nat.le_refl _) B_5.out.size)
  have X0E_6 := Lib.hid (X0E_5.out.moves (belowMv hb6 _) (.inr (Nat.le_refl _)))
  have s6 := hb6.size
  clear L_5 B_5 X0E_5 k0 k1 hb6
  have XB_6 := Lib.hid hk6
  clear hk6
  have k0 := L_6.out.c0
  have k1 := L_6.out.c1
  have d0 : w6.cell? ⟨w5.heap.size, 0, none⟩ = some (.int .i64 N0) := by rw [XB_6.out.cell]; rfl
  have d1 : w6.cell? ⟨w5.heap.size, 1, none⟩ = some (.slice (some ⟨g5, 0, none⟩) es0.length es0.length) := by rw [XB_6.out.cell]; rfl
  refine (toIntS_any _ _ _ _ hn1 (HS1.out.up_ B_6.out)).mono ?_
  rintro e w7 ⟨rfl, hk7, hb7⟩
  have L_7 := Lib.hid (L_6.out.next hb7)
  have B_7 := Lib.hid (belowMoves B_6.out (belowMv hb7 _) (Nat.le_refl _) B_6.out.size)
  have XB_7 := Lib.hid (XB_6.out.moves (belowMv hb7 _) (.inr (Nat.le_refl _)))
  have XE_7 := Lib.hid (X0E_6.out.moves (belowMv hb7 _) (.inr (Nat.le_refl _)))
  have s7 := hb7.size
  clear L_6 B_6 XB_6 X0E_6 k0 k1 d0 d1 hb7
  have X1_7 := Lib.hid hk7
  have lt7 := hk7.lt
  clear hk7
  have k0 := L_7.out.c0
  have k1 := L_7.out.c1
  have d0 : w7.cell? ⟨w5.heap.size, 0, none⟩ = some (.int .i64 N0) := by rw [XB_7.out.cell]; rfl
  have d1 : w7.cell? ⟨w5.heap.size, 1, none⟩ = some (.slice (some ⟨g5, 0, none⟩) es0.length es0.length) := by rw [XB_7.out.cell]; rfl
  go_wp2_with (refine preWp_one fun _ _ => ?_)
  refine preWp_nil ?_
  intro w8 hw8 hd8
  clear k0 k1 d0 d1
  have hws : w.heap.size = w0.heap.size := by rw [HW_.out]; rfl
  rw [hws]
  have e81 : w7.heap.size ≤ w8.heap.size := by rw [hw8]; exact Nat.le_refl _
  have e82 : w8.heap.size ≤ w7.heap.size := by rw [hw8]; exact Nat.le_refl _
  have e83 : w.heap.size ≤ w0.heap.size := by omega
  have e84 : w0.heap.size ≤ w.heap.size := by omega
  have L_8 := Lib.hid (LawG.re HW_.out L_7.out hw8 hd8)
  have B_8 := Lib.hid (below_re1 HW_.out B_7.out hw8 hd8)
  have XB_8 := Lib.hid (XB_7.out.heap hw8)
  have XE_8 := Lib.hid (XE_7.out.heap hw8)
  have X1_8 := Lib.hid (X1_7.out.heap hw8)
  clear L_7 B_7 XB_7 XE_7 X1_7 hws hw8 hd8 HW_ HWX
  clear HE0 hw0 hl0 hh0 HS1 hw1
  refine ToD.ctl prog_bodied prog_ready (fun _ _ => step_seq) ?_
  refine ToD.regionL prog_bodied prog_ready (l := [0, 1, 2, 3, 4]) rfl ?_
  have d0_ : ∀ t d o u, (w8.wi t d o u).cell? ⟨w5.heap.size, 0, none⟩ = some (.int .i64 N0) := fun _ _ _ _ => (show w8.cell? _ = _ from by rw [XB_8.out.cell]; rfl)
  have d1_ : ∀ t d o u, (w8.wi t d o u).cell? ⟨w5.heap.size, 1, none⟩ = some (.slice (some ⟨g5, 0, none⟩) es0.length es0.length) := fun _ _ _ _ => (show w8.cell? _ = _ from by rw [XB_8.out.cell]; rfl)
  refine ToD.value prog_bodied prog_ready (v := .agg #[.int .i64 N0, .slice (some ⟨g5, 0, none⟩) es0.length es0.length]) rfl rfl rfl (fun t d o u => by
    have d0 := d0_ t d o u
    have d1 := d1_ t d o u
    simp [execOp, go_sem, Act.eval, d0, d1]) ?_
  clear d0_ d1_
  refine ToD.value prog_bodied prog_ready (v := .slice (some ⟨w6.heap.size, 0, none⟩) xs1.length xs1.length) rfl rfl rfl (fun _ _ _ _ => by simp [execOp, go_sem, Act.eval]) ?_
  refine ToD.value prog_bodied prog_ready (v := .int .i64 n2) rfl rfl rfl (fun _ _ _ _ => by simp [execOp, go_sem, Act.eval]) ?_
  try simp only [List.setIfInBounds_toArray, List.set_cons_zero, List.set_cons_succ]
  refine ToD.call prog_bodied prog_ready (f := 20) (args := #[.agg #[.int .i64 N0, .slice (some ⟨g5, 0, none⟩) es0.length es0.length], .slice (some ⟨w6.heap.size, 0, none⟩) xs1.length xs1.length, .int .i64 n2]) rfl rfl rfl (fun t d o u => by simp [execOp, go_sem, Act.eval, resolve]) (HIM _ _ _ _ _ (EdgeS.of_blk XE_8.out XE_8.out.lt) (EdgeK.of_blk XE_8.out) (IntS.of_blk X1_8.out X1_8.out.lt)).out ?_
  rintro v w9 ⟨rfl, hb9⟩
  have L_9 := Lib.hid (L_8.out.next hb9)
  have B_9 := Lib.hid (belowMoves B_8.out (belowMv hb9 _) (Nat.le_refl _) B_8.out.size)
  have XB_9 := Lib.hid (XB_8.out.moves (belowMv hb9 _) (.inr (Nat.le_refl _)))
  have XE_9 := Lib.hid (XE_8.out.moves (belowMv hb9 _) (.inr (Nat.le_refl _)))
  have X1_9 := Lib.hid (X1_8.out.moves (belowMv hb9 _) (.inr (Nat.le_refl _)))
  have s9 := hb9.size
  clear L_8 B_8 XB_8 XE_8 X1_8 hb9
  try simp only [List.setIfInBounds_toArray, List.set_cons_zero, List.set_cons_succ]
  have dr_ := Lib.hid (drew_of B_9.out)
  refine toD_tail prog_bodied prog_ready (k0 := 4) (Q0 := fun _ => bodyPost Try.prog Try.f6 (fun e y => e = .returned (.bool true) ∧ HB w0 y)) (fun _ _ _ h => by cases h.1) rfl ?_ (fun e a w h1 h2 => law_quit prog_bodied prog_ready Try.func6 (by kernel_rfl) h2 dr_.out h1)
  intro oB T _
  obtain ⟨w, hw_⟩ : ∃ x, x = w0.wi T 0 oB #[] := ⟨_, rfl⟩
  have HWX := Lib.hid (hb_of hw_)
  have HW_ := Lib.hid hw_
  have hg0 := graphArg_lo hw_ fg0
  have hg1 := intsArg_lo hw_ fg1
  have HE0 := Lib.hid hg0.edges
  have hw0 := Lib.hid hg0.wf
  have hl0 := hg0.lo
  have hh0 := hg0.hi
  have HS1 := Lib.hid hg1.ints
  have hw1 := Lib.hid hg1.each
  obtain ⟨w10, hw10_⟩ : ∃ x, x = w9.wi T 0 oB #[] := ⟨_, rfl⟩
  rw [← hw10_]
  have hws : w.heap.size = w0.heap.size := by rw [hw_]; rfl
  rw [← hws]
  have e101 : w9.heap.size ≤ w10.heap.size := by rw [hw10_]; exact Nat.le_refl _
  have e102 : w10.heap.size ≤ w9.heap.size := by rw [hw10_]; exact Nat.le_refl _
  have e103 : w.heap.size ≤ w0.heap.size := by omega
  have e104 : w0.heap.size ≤ w.heap.size := by omega
  have L_10 := Lib.hid (LawG.lo hw_ hw10_ L_9.out)
  have B_10 := Lib.hid (below_lo hw_ hw10_ B_9.out)
  have XB_10 := Lib.hid (blk_lo hw10_ XB_9.out)
  have XE_10 := Lib.hid (blk_lo hw10_ XE_9.out)
  have X1_10 := Lib.hid (blk_lo hw10_ X1_9.out)
  clear L_9 B_9 XB_9 XE_9 X1_9 hws hw_ hw10_
  clear hg0 hg1
  simp only [List.drop_succ_cons, List.drop_zero]
  have k0 := L_10.out.c0
  have k1 := L_10.out.c1
  have d0 : w10.cell? ⟨w5.heap.size, 0, none⟩ = some (.int .i64 N0) := by rw [XB_10.out.cell]; rfl
  have d1 : w10.cell? ⟨w5.heap.size, 1, none⟩ = some (.slice (some ⟨g5, 0, none⟩) es0.length es0.length) := by rw [XB_10.out.cell]; rfl
  have l0 := L_10.out.lt
  have l1 := XB_10.out.lt
  have l2 := XE_10.out.lt
  go_wp2_with (refine preWp_one fun _ _ => ?_)
  go_region_held3 (fun w' => w'.cell? ⟨w.heap.size, 0, none⟩ = some (.int .i64 N0) ∧ w'.cell? ⟨w.heap.size, 1, none⟩ = some (.slice A0 es0.length c0) ∧ w'.cell? ⟨w5.heap.size, 0, none⟩ = some (.int .i64 N0) ∧ w'.cell? ⟨w5.heap.size, 1, none⟩ = some (.slice (some ⟨g5, 0, none⟩) es0.length es0.length) ∧ Below w10.heap.size w10 w')
    (first
      | exact ⟨k0, k1, d0, d1, (Below.refl _ _).drew⟩
      | exact keep4 (by assumption) hb11 l0 l0 l1 l1
      | exact keep4 (by assumption) hb12 l0 l0 l1 l1)
    (first
      | (go_at_call 31; refine (toGraph_any _ _ _ _ _ hn0 (HE0.out.up_ (B_10.out.drew))).mono ?_; rintro e w11 ⟨g11, rfl, hg11, hk11, hb11⟩)
      | (go_at_call 34; refine (eqGraph_any _ _ _ _ _ _ _ _ _ hlen0 hlen0 (EdgeS.of_blk (XE_10.out.drew.below hb11 l2) (Nat.lt_of_lt_of_le l2 hb11.size)) (EdgeS.of_blk hk11 hk11.lt)).mono ?_; rintro e w12 ⟨rfl, hb12⟩))
  have hbz12 : Below w10.heap.size w10 w12 := (Below.refl _ _).drew.trans (hb11.trans (hb12.mono hb11.size))
  have hq := eqG_self N0 es0
  rw [hq]
  clear hq hb11 hb12 hk11 hg11 l0 l1 l2
  have L_12 := Lib.hid (L_10.out.next hbz12)
  have B_12 := Lib.hid (belowMoves B_10.out (belowMv hbz12 _) (Nat.le_refl _) B_10.out.size)
  have XB_12 := Lib.hid (XB_10.out.moves (belowMv hbz12 _) (.inr (Nat.le_refl _)))
  have XE_12 := Lib.hid (XE_10.out.moves (belowMv hbz12 _) (.inr (Nat.le_refl _)))
  have X1_12 := Lib.hid (X1_10.out.moves (belowMv hbz12 _) (.inr (Nat.le_refl _)))
  have s12 := hbz12.size
  clear L_10 B_10 XB_10 XE_10 X1_10 k0 k1 d0 d1 hbz12
  have k0 := L_12.out.c0
  have k1 := L_12.out.c1
  have d0 : w12.cell? ⟨w5.heap.size, 0, none⟩ = some (.int .i64 N0) := by rw [XB_12.out.cell]; rfl
  have d1 : w12.cell? ⟨w5.heap.size, 1, none⟩ = some (.slice (some ⟨g5, 0, none⟩) es0.length es0.length) := by rw [XB_12.out.cell]; rfl
  go_wp2_with (refine preWp_one fun _ _ => ?_)
  refine (toIntS_any _ _ _ _ hn1 (HS1.out.up_ B_12.out)).mono ?_
  rintro e w13 ⟨rfl, hk13, hb13⟩
  have L_13 := Lib.hid (L_12.out.next hb13)
  have B_13 := Lib.hid (belowMoves B_12.out (belowMv hb13 _) (Nat.le_refl _) B_12.out.size)
  have XB_13 := Lib.hid (XB_12.out.moves (belowMv hb13 _) (.inr (Nat.le_refl _)))
  have XE_13 := Lib.hid (XE_12.out.moves (belowMv hb13 _) (.inr (Nat.le_refl _)))
  have X1_13 := Lib.hid (X1_12.out.moves (belowMv hb13 _) (.inr (Nat.le_refl _)))
  have s13 := hb13.size
  clear L_12 B_12 XB_12 XE_12 X1_12 k0 k1 d0 d1 hb13
  have Y1_13 := Lib.hid hk13
  have lt13 := hk13.lt
  clear hk13
  have k0 := L_13.out.c0
  have k1 := L_13.out.c1
  have d0 : w13.cell? ⟨w5.heap.size, 0, none⟩ = some (.int .i64 N0) := by rw [XB_13.out.cell]; rfl
  have d1 : w13.cell? ⟨w5.heap.size, 1, none⟩ = some (.slice (some ⟨g5, 0, none⟩) es0.length es0.length) := by rw [XB_13.out.cell]; rfl
  go_wp2_with (refine preWp_one fun _ _ => ?_)
  refine (eqIntS_any _ _ _ _ _ _ _ (by omega) (by omega) (IntS.of_blk X1_13.out X1_13.out.lt) (IntS.of_blk Y1_13.out Y1_13.out.lt)).mono ?_
  rintro e w14 ⟨rfl, hb14⟩
  have L_14 := Lib.hid (L_13.out.next hb14)
  have B_14 := Lib.hid (belowMoves B_13.out (belowMv hb14 _) (Nat.le_refl _) B_13.out.size)
  have XB_14 := Lib.hid (XB_13.out.moves (belowMv hb14 _) (.inr (Nat.le_refl _)))
  have XE_14 := Lib.hid (XE_13.out.moves (belowMv hb14 _) (.inr (Nat.le_refl _)))
  have X1_14 := Lib.hid (X1_13.out.moves (belowMv hb14 _) (.inr (Nat.le_refl _)))
  have s14 := hb14.size
  clear L_13 B_13 XB_13 XE_13 X1_13 Y1_13 k0 k1 d0 d1 hb14
  have k0 := L_14.out.c0
  have k1 := L_14.out.c1
  have d0 : w14.cell? ⟨w5.heap.size, 0, none⟩ = some (.int .i64 N0) := by rw [XB_14.out.cell]; rfl
  have d1 : w14.cell? ⟨w5.heap.size, 1, none⟩ = some (.slice (some ⟨g5, 0, none⟩) es0.length es0.length) := by rw [XB_14.out.cell]; rfl
  go_wp2
  go_ret
  exact ⟨rfl, HWX.out _ B_14.out⟩
end Go.Proofs.Ytndncmjhpbjcoaa
