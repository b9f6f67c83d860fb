/- The walk of laws.FnExactDistancesFrom. -/
import Derived.Test.YthdpfmgljnmafabDistI
import Derived.Test.YthdpfmgljnmafabMarkE
import Derived.Test.YthdpfmgljnmafabLawG
namespace Go.Proofs.Ythdpfmgljnmafab
open Go.RowKit

theorem IntS.grown {w w' : World} {B g : Nat} {A : Option Addr} {zs : List Int} (h : IntS w B A zs) (hg : w.grownBy w' (some g)) (hB : B ≤ g) (hs : B ≤ w.heap.size) : IntS w' B A zs :=
  h.keep (fun p hp => World.cell?_of_block (hg.block p.block (by omega) (by simp; omega))) (Nat.le_refl _)
theorem OwnI.grown {w w' : World} {base g : Nat} {A : Option Addr} {zs : List Int} (h : OwnI w base A zs) (hb : w.grownBy w' (some g)) (hB : g < base) : OwnI w' base A zs := fun hn => by
  obtain ⟨k, off, e, h1, hk, hc⟩ := h hn
  have hbl := hb.block k hk (by simp; omega)
  exact ⟨k, off, e, h1, Nat.lt_of_lt_of_le hk hb.size, fun i z hz => ⟨(World.cell?_of_block (a := ⟨k, off + i, none⟩) hbl).trans (hc i z hz).1, (World.frozen?_of_block (a := ⟨k, off + i, none⟩) hbl).trans (hc i z hz).2⟩⟩
theorem LawG.grown {w wc wd : World} {N : Int} {A : Option Addr} {c g : Nat} {es : List (Int × Int)} (h : LawG w wc N A c es) (hg : wc.grownBy wd (some g)) (hne : w.heap.size < g) : LawG w wd N A c es :=
  ⟨h.box.grown hg (by simp; omega), h.old.grown hg h.old.size (fun k hk => by cases hk; omega)⟩
theorem LawG.nextB {w wc wd : World} {N : Int} {A : Option Addr} {c base : Nat} {es : List (Int × Int)} (h : LawG w wc N A c es) (hb : Below base wc wd) (hbase : w.heap.size < base) : LawG w wd N A c es := ⟨h.box.below hb hbase, h.old.trans (hb.mono (Nat.le_of_lt hbase))⟩

set_option maxHeartbeats 400000 in
theorem markGraph_any (N k : Int) (g : Nat) (es : List (Int × Int)) (w : World) (hn : es.length ≤ 1048576) (h0 : 0 ≤ k) (h1 : k ≤ 1099511627776) (hE : Blk w g 66 (flat es).toArray) :
    Calls Try.prog 23 #[.agg #[.int .i64 N, .slice (some ⟨g, 0, none⟩) es.length es.length], .int .i64 k] w fun e w' => e = .returned (.int .i64 (k + 2 * es.length)) ∧ w.grownBy w' (some g) := by
  have HE := Lib.hid hE
  have hgl := hE.lt
  clear hE
  go_enter Try.func23, Try.ntmps23
  go_wp2_with fail
  refine (markEdgeS_any _ _ g es k _ hn h0 h1 (OwnE.of_blk (HE.out.alloc _) (Nat.le_refl _))).mono ?_
  rintro e w1 ⟨rfl, _, ht, _⟩
  have hg1 : w.grownBy w1 (some g) := ⟨ht.os, ht.tape, ht.output, by rw [ht.size]; simp, fun i hi hne => by
    rw [ht.block i (by simp; omega) (fun off he => hne (by injection he with he; injection he with he; rw [he]))]
    exact Below.heap_alloc w _ i hi⟩
  go_wp2
  go_ret
  exact ⟨rfl, hg1⟩

set_option maxRecDepth 100000 in
set_option maxHeartbeats 2000000 in
theorem lawDistancesFrom (N : Int) (A : Option Addr) (c : Nat) (es : List (Int × Int)) (v : Int) (w : World) (hg : GraphArg w N A c es) (_ : -9223372036854775808 ≤ v) (_ : v ≤ 9223372036854775807) :
    Calls Try.prog 4 #[.agg #[.int .i64 N, .slice A es.length c], .int .i64 v] w fun e w' => e = .returned (.bool true) ∧ Below w.heap.size w w' := by
  have hn := hg.len
  by_cases hbig : (1048576 : Int) < es.length
  · go_enter Try.func4, Try.ntmps4
    go_wp2_with (go_at_call 15; refine (szGraph_big _ _ _ _ _ _ hn (by omega) (by omega) hbig).mono ?_; rintro e w1 ⟨rfl, hb1⟩)
    go_ret
    exact ⟨rfl, ((LawG.start w N A c es).next hb1).old⟩
  have hsm : (es.length : Int) ≤ 1048576 := by omega
  have hn' : es.length ≤ 1048576 := by omega
  clear hbig
  have HE := Lib.hid hg.edges
  obtain ⟨zs, hzs⟩ : ∃ zs, zs = distB N es v := ⟨_, rfl⟩
  have hzn : zs.length ≤ 1048576 := by rw [hzs]; exact distB_len
  have HSP := fun A c w hE => Lib.hid (specDist N A c es v w hn' hE)
  have HIM := fun A c w hE => Lib.hid (implDist N A c es v w hn' hE)
  rw [← hzs] at HSP HIM
  clear hg hzs
  go_enter Try.func4, Try.ntmps4
  go_wp2_with fail
  refine (szGraph_ok _ _ _ _ _ _ (by omega) hsm).mono ?_
  rintro e w1 ⟨rfl, hb1⟩
  have L1 := (LawG.start w N A c es).next hb1
  have c0 := L1.c0
  have c1 := L1.c1
  clear hb1
  go_wp2_with fail
  refine (toGraph_any _ _ _ _ _ hn' (L1.edges HE.out)).mono ?_
  rintro e w2 ⟨g2, rfl, hg2, hblk2, hb2⟩
  have L2 := L1.next hb2
  clear c0 c1 L1 hb2
  have c0 := L2.c0
  have c1 := L2.c1
  have HB2 := Lib.hid hblk2
  clear hblk2
  go_wp2_with fail
  refine (HSP _ _ _ (EdgeS.of_blk HB2.out HB2.out.lt)).out.mono ?_
  rintro e w3 ⟨A3, c3, rfl, ho3, hb3⟩
  have L3 := L2.next hb3
  have W3 := Lib.hid ho3.ints
  have l3 := L3.lt
  clear c0 c1 L2 hb3 HB2 ho3
  have c0 := L3.c0
  have c1 := L3.c1
  go_wp2_with fail
  refine (toGraph_any _ _ _ _ _ hn' (L3.edges HE.out)).mono ?_
  rintro e w4 ⟨g4, rfl, hg4, hblk4, hb4⟩
  have L4 := L3.next hb4
  have W4 := Lib.hid (W3.out.below hb4)
  have s34 := hb4.size
  clear c0 c1 L3 hb4 W3
  have c0 := L4.c0
  have c1 := L4.c1
  have HB4 := Lib.hid hblk4
  have hlt4 := hblk4.lt
  clear hblk4
  go_wp2_with fail
  have L4a := L4.alloc (.cells #[.int .i64 N, .slice (some ⟨g4, 0, none⟩) es.length es.length] 29)
  have hx4 := Blk.new w4 29 #[.int .i64 N, .slice (some ⟨g4, 0, none⟩) es.length es.length]
  have he4 := HB4.out.alloc (.cells #[.int .i64 N, .slice (some ⟨g4, 0, none⟩) es.length es.length] 29)
  have hb4a : Below w4.heap.size w4 (w4.alloc (.cells #[.int .i64 N, .slice (some ⟨g4, 0, none⟩) es.length es.length] 29)) := (Below.refl _ _).alloc (Nat.le_refl _) _
  refine (HIM _ _ _ (EdgeS.of_blk he4 he4.lt)).out.mono ?_
  rintro e w5 ⟨A5, c5, rfl, ho5, hb5⟩
  rw [World.size_alloc] at ho5
  have L5 := L4a.next hb5
  have W5 := Lib.hid ((W4.out.below (hb4a.mono s34)).below (hb5.mono (by simp; omega)))
  have hx5 := hx4.below hb5 hx4.lt
  have he5 := he4.below hb5 he4.lt
  have s45 : w4.heap.size + 1 ≤ w5.heap.size := by have := hb5.size; simpa using this
  clear c0 c1 L4 L4a hb5 hx4 he4 HB4 hb4a W4
  have c0 := L5.c0
  have c1 := L5.c1
  have G5 := Lib.hid ho5
  have X5 := Lib.hid hx5
  have E5 := Lib.hid he5
  clear hx5 he5 ho5
  go_wp2_with fail
  refine (eqIntS_any _ _ _ _ _ _ _ (by omega) (by omega) G5.out.ints (W5.out.keep (fun _ _ => rfl) (by omega))).mono ?_
  rintro e w6 ⟨rfl, hb6⟩
  have L6 := L5.next hb6
  have W6 := Lib.hid (W5.out.below (hb6.mono (by omega)))
  have G6 := Lib.hid (G5.out.below hb6)
  have hx6 := X5.out.below hb6 X5.out.lt
  have he6 := E5.out.below hb6 E5.out.lt
  have s56 := hb6.size
  clear c0 c1 L5 hb6 W5 G5 X5 E5
  have c0 := L6.c0
  have c1 := L6.c1
  have d0 : w6.cell? ⟨w4.heap.size, 0, none⟩ = some (.int .i64 N) := by rw [hx6.cell]; rfl
  have d1 : w6.cell? ⟨w4.heap.size, 1, none⟩ = some (.slice (some ⟨g4, 0, none⟩) es.length es.length) := by rw [hx6.cell]; rfl
  have l1 := hx6.lt
  have l2 := he6.lt
  have l0 := L6.lt
  have E6 := Lib.hid he6
  have X6 := Lib.hid hx6
  clear hx6 he6
  go_wp2_with fail
  go_region_held3 (fun w' => w'.cell? ⟨w.heap.size, 0, none⟩ = some (.int .i64 N) ∧ w'.cell? ⟨w.heap.size, 1, none⟩ = some (.slice A es.length c) ∧ w'.cell? ⟨w4.heap.size, 0, none⟩ = some (.int .i64 N) ∧ w'.cell? ⟨w4.heap.size, 1, none⟩ = some (.slice (some ⟨g4, 0, none⟩) es.length es.length) ∧ Below w6.heap.size w6 w')
    (first
      | exact ⟨c0, c1, d0, d1, (Below.refl _ _).drew⟩
      | exact keep4 (by assumption) hb7 l0 l0 l1 l1
      | exact keep4 (by assumption) hb8 l0 l0 l1 l1)
    (first
      | (go_at_call 17; refine (toGraph_any _ _ _ _ _ hn' ((L6.drew).edges HE.out)).mono ?_; rintro e w7 ⟨g7, rfl, hg7, hblk7, hb7⟩)
      | (go_at_call 19; refine (eqGraph_any _ _ _ _ _ _ _ _ _ hn hn (EdgeS.of_blk (E6.out.drew.below hb7 l2) (Nat.lt_of_lt_of_le l2 hb7.size)) (EdgeS.of_blk hblk7 hblk7.lt)).mono ?_; rintro e w8 ⟨rfl, hb8⟩))
  have hb9 : Below w6.heap.size w6 w8 := (Below.refl _ _).drew.trans (hb7.trans (hb8.mono hb7.size))
  have L8 := L6.next hb9
  have W8 := Lib.hid (W6.out.below (hb9.mono (by omega)))
  have G8 := Lib.hid (G6.out.below hb9)
  have X8 := Lib.hid (X6.out.below hb9 l1)
  have E8 := Lib.hid (E6.out.below hb9 l2)
  have s68 := hb9.size
  have hq := eqG_self N es
  rw [hq]
  clear c0 c1 d0 d1 L6 W6 G6 X6 E6 hb7 hb8 hb9 hblk7 hg7 hq
  have c0 := L8.c0
  have c1 := L8.c1
  have d0 : w8.cell? ⟨w4.heap.size, 0, none⟩ = some (.int .i64 N) := by rw [X8.out.cell]; rfl
  have d1 : w8.cell? ⟨w4.heap.size, 1, none⟩ = some (.slice (some ⟨g4, 0, none⟩) es.length es.length) := by rw [X8.out.cell]; rfl
  go_wp2_with fail
  refine (markGraph_any N 1 g4 es _ hn' (by omega) (by omega) E8.out).mono ?_
  rintro e w9 ⟨rfl, hg9⟩
  have L9 := L8.grown hg9 (by omega)
  have W9 := Lib.hid (W8.out.grown hg9 hg4 (by omega))
  have G9 := Lib.hid (G8.out.grown hg9 (by omega))
  have s89 := hg9.size
  have t9 : decide ((1 : Int) + 2 * es.length < 0) = false := decide_eq_false (by omega)
  clear c0 c1 d0 d1 L8 W8 G8 X8 E8 hg9
  go_wp2_with fail
  refine (eqIntS_any _ _ _ _ _ _ _ (by omega) (by omega) G9.out.ints (W9.out.keep (fun _ _ => rfl) (by omega))).mono ?_
  rintro e w10 ⟨rfl, hb10⟩
  have L10 := L9.next hb10
  have W10 := Lib.hid (W9.out.below (hb10.mono (by omega)))
  have G10 := Lib.hid (G9.out.below hb10)
  have s910 := hb10.size
  clear L9 W9 G9 hb10
  go_wp2_with fail
  refine (markIntS_any _ _ (w4.heap.size + 1) zs _ _ hzn (by omega) (by omega) G10.out).mono ?_
  rintro e w11 ⟨rfl, ho11, ht11, hbl⟩
  have hb11 := hbl (by omega)
  have s11 := Nat.le_of_eq ht11.size
  have s11b := Nat.le_of_eq ht11.size.symm
  have L11 := L10.nextB hb11 (by omega)
  have W11 := Lib.hid (W10.out.below (hb11.mono (by omega)))
  have G11 := Lib.hid ho11
  clear L10 W10 G10 hb11 hbl ht11 ho11
  go_wp2_with fail
  refine (heldIntS_any _ _ _ _ _ _ hzn (by omega) (by omega) G11.out.ints).mono ?_
  rintro e w' ⟨rfl, rfl⟩
  have t11 : ((1 : Int) + zs.length != 1 + zs.length) = false := by simp
  have c0 := L11.c0
  have c1 := L11.c1
  go_wp2_with fail
  refine (toGraph_any _ _ _ _ _ hn' (L11.edges HE.out)).mono ?_
  rintro e w12 ⟨g12, rfl, hg12, hblk12, hb12⟩
  have L12 := L11.next hb12
  have W12 := Lib.hid (W11.out.below (hb12.mono (by omega)))
  have G12 := Lib.hid (G11.out.below hb12)
  have s12 := hb12.size
  have E12 := Lib.hid hblk12
  clear c0 c1 L11 W11 G11 hb12 hblk12
  go_wp2_with fail
  refine (HIM _ _ _ (EdgeS.of_blk E12.out E12.out.lt)).out.mono ?_
  rintro e w13 ⟨A13, c13, rfl, ho13, hb13⟩
  have L13 := L12.next hb13
  have W13 := Lib.hid (W12.out.below (hb13.mono (by omega)))
  have G13 := Lib.hid (G12.out.below hb13)
  have H13 := Lib.hid ho13.ints
  have s13 := hb13.size
  clear L12 W12 G12 hb13 ho13 E12
  go_wp2_with fail
  refine (eqIntS_any _ _ _ _ _ _ _ (by omega) (by omega) H13.out (W13.out.keep (fun _ _ => rfl) (by omega))).mono ?_
  rintro e w14 ⟨rfl, hb14⟩
  have L14 := L13.next hb14
  have G14 := Lib.hid (G13.out.below hb14)
  clear L13 W13 G13 H13 hb14
  go_wp2_with fail
  refine (heldIntS_any _ _ _ _ _ _ hzn (by omega) (by omega) G14.out.ints).mono ?_
  rintro e w' ⟨rfl, rfl⟩
  go_wp2
  go_ret
  exact ⟨rfl, L14.old⟩
end Go.Proofs.Ythdpfmgljnmafab
