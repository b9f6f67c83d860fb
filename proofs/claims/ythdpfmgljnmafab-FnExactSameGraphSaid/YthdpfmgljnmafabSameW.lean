/- The walk of laws.FnExactSameGraph. -/
import Derived.Test.YthdpfmgljnmafabSame
import Derived.Test.YthdpfmgljnmafabLawG
namespace Go.Proofs.Ythdpfmgljnmafab
open Go.RowKit

/-- two boxes of graphs that came in, and all that lay before, as they were -/
structure LawGG (w wc : World) (N M : Int) (A C : Option Addr) (c d : Nat) (es fs : List (Int × Int)) : Prop where
  box : Blk wc w.heap.size 24 #[.int .i64 N, .slice A es.length c]
  box2 : Blk wc (w.heap.size + 1) 24 #[.int .i64 M, .slice C fs.length d]
  old : Below w.heap.size w wc
section
variable {w wc wd : World} {N M : Int} {A C : Option Addr} {c d : Nat} {es fs : List (Int × Int)}
theorem LawGG.c0 (h : LawGG w wc N M A C c d es fs) : wc.cell? ⟨w.heap.size, 0, none⟩ = some (.int .i64 N) := by rw [h.box.cell]; rfl
theorem LawGG.c1 (h : LawGG w wc N M A C c d es fs) : wc.cell? ⟨w.heap.size, 1, none⟩ = some (.slice A es.length c) := by rw [h.box.cell]; rfl
theorem LawGG.c2 (h : LawGG w wc N M A C c d es fs) : wc.cell? ⟨w.heap.size + 1, 0, none⟩ = some (.int .i64 M) := by rw [h.box2.cell]; rfl
theorem LawGG.c3 (h : LawGG w wc N M A C c d es fs) : wc.cell? ⟨w.heap.size + 1, 1, none⟩ = some (.slice C fs.length d) := by rw [h.box2.cell]; rfl
theorem LawGG.next (h : LawGG w wc N M A C c d es fs) (hb : Below wc.heap.size wc wd) : LawGG w wd N M A C c d es fs := ⟨h.box.below hb h.box.lt, h.box2.below hb h.box2.lt, h.old.trans (hb.mono h.old.size)⟩
theorem LawGG.alloc (h : LawGG w wc N M A C c d es fs) (o : Obj) : LawGG w (wc.alloc o) N M A C c d es fs := ⟨h.box.alloc o, h.box2.alloc o, h.old.alloc h.old.size o⟩
theorem LawGG.drew (h : LawGG w wc N M A C c d es fs) : LawGG w wc.drew N M A C c d es fs := ⟨h.box.drew, h.box2.drew, h.old.drew⟩
theorem LawGG.edges (h : LawGG w wc N M A C c d es fs) (hE : EdgeS w w.heap.size A es) : EdgeS wc wc.heap.size A es := hE.up_ h.old
theorem LawGG.edges2 (h : LawGG w wc N M A C c d es fs) (hE : EdgeS w w.heap.size C fs) : EdgeS wc wc.heap.size C fs := hE.up_ h.old
theorem LawGG.start (w : World) (N M : Int) (A C : Option Addr) (c d : Nat) (es fs : List (Int × Int)) : LawGG w ((w.alloc (.cells #[.int .i64 N, .slice A es.length c] 24)).alloc (.cells #[.int .i64 M, .slice C fs.length d] 24)) N M A C c d es fs := by
  have hq := Blk.new (w.alloc (.cells #[.int .i64 N, .slice A es.length c] 24)) 24 #[.int .i64 M, .slice C fs.length d]
  rw [show (w.alloc (Obj.cells #[.int .i64 N, .slice A es.length c] 24)).heap.size = w.heap.size + 1 by simp] at hq
  exact ⟨(Blk.new w _ _).alloc _, hq, ((Below.refl _ _).alloc (Nat.le_refl _) _).alloc (by simp) _⟩
end

set_option maxHeartbeats 2000000 in
theorem lawSameGraph (N : Int) (A : Option Addr) (c : Nat) (es : List (Int × Int)) (M : Int) (C : Option Addr) (d : Nat) (fs : List (Int × Int)) (w : World) (hg : GraphArg w N A c es) (hg2 : GraphArg w M C d fs) :
    Calls Try.prog 7 #[.agg #[.int .i64 N, .slice A es.length c], .agg #[.int .i64 M, .slice C fs.length d]] w fun e w' => e = .returned (.bool true) ∧ Below w.heap.size w w' := by
  have hn := hg.len
  have hm := hg2.len
  have HL0 := Lib.hid (LawGG.start w N M A C c d es fs)
  by_cases hbig : (1048576 : Int) < es.length
  · go_enter Try.func7, Try.ntmps7
    go_wp2_with (go_at_call 15; refine (szGraph_big _ _ _ _ _ _ hn (by omega) (by omega) hbig).mono ?_; rintro e w1 ⟨rfl, hb1⟩)
    go_ret
    exact ⟨rfl, (HL0.out.next hb1).old⟩
  have hsm : (es.length : Int) ≤ 1048576 := by omega
  have hn' : es.length ≤ 1048576 := by omega
  clear hbig
  have HE := Lib.hid hg.edges
  have HF := Lib.hid hg2.edges
  clear hg hg2
  by_cases hbig : (1048576 : Int) - es.length < fs.length
  · go_enter Try.func7, Try.ntmps7
    go_wp2_with fail
    refine (szGraph_ok _ _ _ _ _ _ (by omega) hsm).mono ?_
    rintro e w1 ⟨rfl, hb1⟩
    have L1 := HL0.out.next hb1
    have c2 := L1.c2
    have c3 := L1.c3
    clear hb1
    go_wp2_with fail
    refine (szGraph_big _ _ _ _ _ _ hm (by omega) (by omega) hbig).mono ?_
    rintro e w2 ⟨rfl, hb2⟩
    go_wp2
    go_ret
    exact ⟨rfl, (L1.next hb2).old⟩
  have hsm2 : (fs.length : Int) ≤ 1048576 - es.length := by omega
  have hm' : fs.length ≤ 1048576 := by omega
  clear hbig
  go_enter Try.func7, Try.ntmps7
  go_wp2_with fail
  refine (szGraph_ok _ _ _ _ _ _ (by omega) hsm).mono ?_
  rintro e w1 ⟨rfl, hb1⟩
  have L1 := HL0.out.next hb1
  have c2 := L1.c2
  have c3 := L1.c3
  clear hb1
  go_wp2_with fail
  refine (szGraph_ok _ _ _ _ _ _ (by omega) hsm2).mono ?_
  rintro e w2 ⟨rfl, hb2⟩
  have L2 := L1.next hb2
  clear c2 c3 L1 hb2
  have c0 := L2.c0
  have c1 := L2.c1
  have c2 := L2.c2
  have c3 := L2.c3
  have l0 := L2.box.lt
  have l1 := L2.box2.lt
  have HLD := Lib.hid L2.drew
  clear L2
  go_wp2_with fail
  go_region_held3 (fun w' => w'.cell? ⟨w.heap.size, 0, none⟩ = some (.int .i64 N) ∧ w'.cell? ⟨w.heap.size, 1, none⟩ = some (.slice A es.length c) ∧ w'.cell? ⟨w.heap.size + 1, 0, none⟩ = some (.int .i64 M) ∧ w'.cell? ⟨w.heap.size + 1, 1, none⟩ = some (.slice C fs.length d) ∧ Below w2.heap.size w2 w')
    (first
      | exact ⟨c0, c1, c2, c3, (Below.refl _ _).drew⟩
      | exact keep4 (by assumption) hb3 l0 l0 l1 l1
      | exact keep4 (by assumption) hb4 l0 l0 l1 l1
      | exact keep4 (by assumption) hb5 l0 l0 l1 l1)
    (first
      | (go_at_call_of 17 (Value.agg #[.int .i64 N, .slice A es.length c]); refine (toGraph_any _ _ _ _ _ hn' (HLD.out.edges HE.out)).mono ?_; rintro e w3 ⟨g3, rfl, hg3, hblk3, hb3⟩)
      | (go_at_call 17; refine (toGraph_any _ _ _ _ _ hm' ((HLD.out.next hb3).edges2 HF.out)).mono ?_; rintro e w4 ⟨g4, rfl, hg4, hblk4, hb4⟩)
      | (go_at_call 31; refine (specSame _ _ _ _ _ _ _ _ _ hn hm (EdgeS.of_blk (hblk3.below hb4 hblk3.lt) (Nat.lt_of_lt_of_le hblk3.lt hb4.size)) (EdgeS.of_blk hblk4 hblk4.lt)).mono ?_; rintro e w5 ⟨rfl, hb5⟩))
  have L5 := ((HLD.out.next hb3).next hb4).next hb5
  clear c0 c1 c2 c3 l0 l1 hblk3 hblk4 hb3 hb4 hb5 HLD
  have c0 := L5.c0
  have c1 := L5.c1
  have c2 := L5.c2
  have c3 := L5.c3
  go_wp2_with fail
  refine (toGraph_any _ _ _ _ _ hn' (L5.edges HE.out)).mono ?_
  rintro e w6 ⟨g6, rfl, hg6, hblk6, hb6⟩
  have L6 := (L5.next hb6).alloc (.cells #[.int .i64 N, .slice (some ⟨g6, 0, none⟩) es.length es.length] 29)
  have hx6 := Blk.new w6 29 #[.int .i64 N, .slice (some ⟨g6, 0, none⟩) es.length es.length]
  have he6 := hblk6.alloc (.cells #[.int .i64 N, .slice (some ⟨g6, 0, none⟩) es.length es.length] 29)
  have L6b := L5.next hb6
  clear c0 c1 c2 c3 L5 hblk6 hb6
  have c2 := L6b.c2
  have c3 := L6b.c3
  have l1 := L6b.box2.lt
  go_wp2_with fail
  refine (toGraph_any _ _ _ _ _ hm' (L6.edges2 HF.out)).mono ?_
  rintro e w7 ⟨g7, rfl, hg7, hblk7, hb7⟩
  have L7 := (L6.next hb7).alloc (.cells #[.int .i64 M, .slice (some ⟨g7, 0, none⟩) fs.length fs.length] 29)
  have hx7 := (hx6.below hb7 hx6.lt).alloc (.cells #[.int .i64 M, .slice (some ⟨g7, 0, none⟩) fs.length fs.length] 29)
  have he7 := (he6.below hb7 he6.lt).alloc (.cells #[.int .i64 M, .slice (some ⟨g7, 0, none⟩) fs.length fs.length] 29)
  have hy7 := Blk.new w7 29 #[.int .i64 M, .slice (some ⟨g7, 0, none⟩) fs.length fs.length]
  have hf7 := hblk7.alloc (.cells #[.int .i64 M, .slice (some ⟨g7, 0, none⟩) fs.length fs.length] 29)
  have hx7b := hx6.below hb7 hx6.lt
  have d0 : w7.cell? ⟨w6.heap.size, 0, none⟩ = some (.int .i64 N) := by rw [hx7b.cell]; rfl
  have d1 : w7.cell? ⟨w6.heap.size, 1, none⟩ = some (.slice (some ⟨g6, 0, none⟩) es.length es.length) := by rw [hx7b.cell]; rfl
  have l2 := hx7b.lt
  clear c2 c3 l1 L6 L6b hx6 he6 hblk7 hb7 hx7b
  go_wp2_with fail
  refine (implSame _ _ _ _ _ _ _ _ _ hn hm (EdgeS.of_blk he7 he7.lt) (EdgeS.of_blk hf7 hf7.lt)).mono ?_
  rintro e w8 ⟨rfl, hb8⟩
  have L8 := L7.next hb8
  have hx8 := hx7.below hb8 hx7.lt
  have hy8 := hy7.below hb8 hy7.lt
  have he8 := he7.below hb8 he7.lt
  have hf8 := hf7.below hb8 hf7.lt
  clear d0 d1 l2 L7 hx7 hy7 he7 hf7 hb8
  have c0 := L8.c0
  have c1 := L8.c1
  have l0 := L8.box.lt
  have d0 : w8.cell? ⟨w6.heap.size, 0, none⟩ = some (.int .i64 N) := by rw [hx8.cell]; rfl
  have d1 : w8.cell? ⟨w6.heap.size, 1, none⟩ = some (.slice (some ⟨g6, 0, none⟩) es.length es.length) := by rw [hx8.cell]; rfl
  have l1 := hx8.lt
  have l2 := he8.lt
  have HE8 := Lib.hid he8
  have HY8 := Lib.hid hy8
  have HF8 := Lib.hid hf8
  clear hx8 hy8 he8 hf8
  go_wp2_with fail
  go_region_held3 (fun w' => w'.cell? ⟨w.heap.size, 0, none⟩ = some (.int .i64 N) ∧ w'.cell? ⟨w.heap.size, 1, none⟩ = some (.slice A es.length c) ∧ w'.cell? ⟨w6.heap.size, 0, none⟩ = some (.int .i64 N) ∧ w'.cell? ⟨w6.heap.size, 1, none⟩ = some (.slice (some ⟨g6, 0, none⟩) es.length es.length) ∧ Below w8.heap.size w8 w')
    (first
      | exact ⟨c0, c1, d0, d1, (Below.refl _ _).drew⟩
      | exact keep4 (by assumption) hb9 l0 l0 l1 l1
      | exact keep4 (by assumption) hb10 l0 l0 l1 l1)
    (first
      | (go_at_call 17; refine (toGraph_any _ _ _ _ _ hn' ((L8.drew).edges HE.out)).mono ?_; rintro e w9 ⟨g9, rfl, hg9, hblk9, hb9⟩)
      | (go_at_call 19; refine (eqGraph_any _ _ _ _ _ _ _ _ _ hn hn (EdgeS.of_blk (HE8.out.drew.below hb9 l2) (Nat.lt_of_lt_of_le l2 hb9.size)) (EdgeS.of_blk hblk9 hblk9.lt)).mono ?_; rintro e w10 ⟨rfl, hb10⟩))
  have hq := eqG_self N es
  have L10 := (L8.drew.next hb9).next hb10
  have hy10 := (HY8.out.drew.below hb9 (HY8.out.drew.lt)).below hb10 ((HY8.out.drew.below hb9 (HY8.out.drew.lt)).lt)
  have hf10 := (HF8.out.drew.below hb9 (HF8.out.drew.lt)).below hb10 ((HF8.out.drew.below hb9 (HF8.out.drew.lt)).lt)
  clear c0 c1 d0 d1 l0 l1 l2 L8 HE8 HY8 HF8 hblk9 hb9 hb10
  have c2 := L10.c2
  have c3 := L10.c3
  have l0 := L10.box2.lt
  have d2 : w10.cell? ⟨w7.heap.size, 0, none⟩ = some (.int .i64 M) := by rw [hy10.cell]; rfl
  have d3 : w10.cell? ⟨w7.heap.size, 1, none⟩ = some (.slice (some ⟨g7, 0, none⟩) fs.length fs.length) := by rw [hy10.cell]; rfl
  have l1 := hy10.lt
  have l2 := hf10.lt
  have HF10 := Lib.hid hf10
  clear hy10 hf10
  go_wp2_with fail
  all_goals try (have hf : (!eqG N N es es) = true := by assumption
                 rw [hq] at hf
                 cases hf)
  go_region_held3 (fun w' => w'.cell? ⟨w.heap.size + 1, 0, none⟩ = some (.int .i64 M) ∧ w'.cell? ⟨w.heap.size + 1, 1, none⟩ = some (.slice C fs.length d) ∧ w'.cell? ⟨w7.heap.size, 0, none⟩ = some (.int .i64 M) ∧ w'.cell? ⟨w7.heap.size, 1, none⟩ = some (.slice (some ⟨g7, 0, none⟩) fs.length fs.length) ∧ Below w10.heap.size w10 w')
    (first
      | exact ⟨c2, c3, d2, d3, (Below.refl _ _).drew⟩
      | exact keep4 (by assumption) hb11 l0 l0 l1 l1
      | exact keep4 (by assumption) hb12 l0 l0 l1 l1)
    (first
      | (go_at_call 17; refine (toGraph_any _ _ _ _ _ hm' ((L10.drew).edges2 HF.out)).mono ?_; rintro e w11 ⟨g11, rfl, hg11, hblk11, hb11⟩)
      | (go_at_call 19; refine (eqGraph_any _ _ _ _ _ _ _ _ _ hm hm (EdgeS.of_blk (HF10.out.drew.below hb11 l2) (Nat.lt_of_lt_of_le l2 hb11.size)) (EdgeS.of_blk hblk11 hblk11.lt)).mono ?_; rintro e w12 ⟨rfl, hb12⟩))
  have hq2 := eqG_self M fs
  have hb13 := ((L10.drew.next hb11).next hb12).old
  go_wp2
  all_goals
    first
    | (have hf : (!eqG M M fs fs) = true := by assumption
       rw [hq2] at hf
       cases hf)
    | (go_ret
       exact ⟨rfl, hb13⟩)
end Go.Proofs.Ythdpfmgljnmafab
