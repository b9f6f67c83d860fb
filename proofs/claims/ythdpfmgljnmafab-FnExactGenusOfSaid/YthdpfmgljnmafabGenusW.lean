/- The walk of laws.FnExactGenusOf. -/
import Derived.Test.YthdpfmgljnmafabGenus
import Derived.Test.YthdpfmgljnmafabLawG
namespace Go.Proofs.Ythdpfmgljnmafab
open Go.RowKit

set_option maxHeartbeats 1000000 in
theorem lawGenusOf (N : Int) (A : Option Addr) (c : Nat) (es : List (Int × Int)) (w : World) (hg : GraphArg w N A c es) :
    Calls Try.prog 3 #[.agg #[.int .i64 N, .slice A es.length c]] w fun e w' => e = .returned (.bool true) ∧ Below w.heap.size w w' := by
  have hn := hg.len
  by_cases hbig : (1048576 : Int) < es.length
  · go_enter Try.func3, Try.ntmps3
    go_wp2_with (go_at_call 15; refine (szGraph_big _ _ _ _ _ _ hn (by omega) (by omega) hbig).mono ?_; rintro e w1 ⟨rfl, hb1⟩)
    go_ret
    exact ⟨rfl, ((LawG.start w N A c es).next hb1).old⟩
  have hsm : (es.length : Int) ≤ 1048576 := by omega
  have hn' : es.length ≤ 1048576 := by omega
  clear hbig
  have HE := Lib.hid hg.edges
  have hlo := hg.lo
  have hhi := hg.hi
  have HW := Lib.hid hg.wf
  clear hg
  go_enter Try.func3, Try.ntmps3
  go_wp2_with fail
  refine (szGraph_ok _ _ _ _ _ _ (by omega) hsm).mono ?_
  rintro e w1 ⟨rfl, hb1⟩
  have L1 := (LawG.start w N A c es).next hb1
  have c0 := L1.c0
  have c1 := L1.c1
  clear hb1
  go_wp2_with fail
  refine (toGraph_any _ _ _ _ _ hn' (L1.edges HE.out)).mono ?_
  rintro e w2 ⟨g2, rfl, hg2, hblk2, hb2⟩
  have L2 := L1.next hb2
  clear c0 c1 L1 hb2
  have c0 := L2.c0
  have c1 := L2.c1
  have HB2 := Lib.hid hblk2
  clear hblk2
  go_wp2_with fail
  refine (specGenus _ _ _ _ _ hn' HW.out hlo hhi (EdgeS.of_blk HB2.out HB2.out.lt)).mono ?_
  rintro e w3 ⟨rfl, hb3⟩
  have L3 := L2.next hb3
  clear c0 c1 L2 hb3 HB2
  have c0 := L3.c0
  have c1 := L3.c1
  go_wp2_with fail
  refine (toGraph_any _ _ _ _ _ hn' (L3.edges HE.out)).mono ?_
  rintro e w4 ⟨g4, rfl, hg4, hblk4, hb4⟩
  have L4 := L3.next hb4
  clear c0 c1 L3 hb4
  have c0 := L4.c0
  have c1 := L4.c1
  have HB4 := Lib.hid hblk4
  have hlt4 := hblk4.lt
  clear hblk4
  go_wp2_with fail
  have L4a := L4.alloc (.cells #[.int .i64 N, .slice (some ⟨g4, 0, none⟩) es.length es.length] 29)
  have hx4 := Blk.new w4 29 #[.int .i64 N, .slice (some ⟨g4, 0, none⟩) es.length es.length]
  have he4 := HB4.out.alloc (.cells #[.int .i64 N, .slice (some ⟨g4, 0, none⟩) es.length es.length] 29)
  refine (implGenus _ _ _ _ _ hn' HW.out hlo hhi (EdgeS.of_blk he4 he4.lt)).mono ?_
  rintro e w5 ⟨rfl, hb5⟩
  have L5 := L4a.next hb5
  have hx5 := hx4.below hb5 hx4.lt
  have he5 := he4.below hb5 he4.lt
  have d0 : w5.cell? ⟨w4.heap.size, 0, none⟩ = some (.int .i64 N) := by rw [hx5.cell]; rfl
  have d1 : w5.cell? ⟨w4.heap.size, 1, none⟩ = some (.slice (some ⟨g4, 0, none⟩) es.length es.length) := by rw [hx5.cell]; rfl
  have l1 := hx5.lt
  have l2 := he5.lt
  clear c0 c1 L4 L4a hb5 hx4 he4 HB4 hlt4
  have c0 := L5.c0
  have c1 := L5.c1
  have l0 := L5.lt
  have HE5 := Lib.hid he5
  clear hx5 he5
  go_wp2_with fail
  go_region_held3 (fun w' => w'.cell? ⟨w.heap.size, 0, none⟩ = some (.int .i64 N) ∧ w'.cell? ⟨w.heap.size, 1, none⟩ = some (.slice A es.length c) ∧ w'.cell? ⟨w4.heap.size, 0, none⟩ = some (.int .i64 N) ∧ w'.cell? ⟨w4.heap.size, 1, none⟩ = some (.slice (some ⟨g4, 0, none⟩) es.length es.length) ∧ Below w5.heap.size w5 w')
    (first
      | exact ⟨c0, c1, d0, d1, (Below.refl _ _).drew⟩
      | exact keep4 (by assumption) hb6 l0 l0 l1 l1
      | exact keep4 (by assumption) hb7 l0 l0 l1 l1)
    (first
      | (go_at_call 17; refine (toGraph_any _ _ _ _ _ hn' ((L5.drew).edges HE.out)).mono ?_; rintro e w6 ⟨g6, rfl, hg6, hblk6, hb6⟩)
      | (go_at_call 19; refine (eqGraph_any _ _ _ _ _ _ _ _ _ hn hn (EdgeS.of_blk (HE5.out.drew.below hb6 l2) (Nat.lt_of_lt_of_le l2 hb6.size)) (EdgeS.of_blk hblk6 hblk6.lt)).mono ?_; rintro e w7 ⟨rfl, hb7⟩))
  have hb8 : Below w.heap.size w w7 := L5.old.drew.trans ((hb6.trans (hb7.mono hb6.size)).mono L5.old.size)
  have hq := eqG_self N es
  go_wp2
  all_goals
    first
    | (have hf : (!eqG N N es es) = true := by assumption
       rw [hq] at hf
       cases hf)
    | (go_ret
       exact ⟨rfl, hb8⟩)
end Go.Proofs.Ythdpfmgljnmafab
