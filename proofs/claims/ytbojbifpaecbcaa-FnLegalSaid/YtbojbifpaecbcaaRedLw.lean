/- laws.FnReduced: the walk. -/
import Derived.Test.YtbojbifpaecbcaaRedF
import Derived.Test.YtbojbifpaecbcaaMakeS
import Derived.Test.YtbojbifpaecbcaaSmHas
namespace Go.Proofs.Ytbojbifpaecbcaa
open Go.RowKit

/-- what a law over a drawn graph holds: the graph's box X, the graph -/
structure GLaw (w wc : World) (X M : Nat) (A : Option Addr) (c : Nat) (es : List (Int × Int)) : Prop where
  old : Below w.heap.size w wc
  box : Blk wc X 25 #[.int .i64 (M : Int), .slice A es.length c]
  own : OwnE wc w.heap.size A es
theorem GLaw.next {w wc wd : World} {X M c : Nat} {A : Option Addr} {es : List (Int × Int)} (h : GLaw w wc X M A c es) (hb : Below wc.heap.size wc wd) : GLaw w wd X M A c es :=
  ⟨h.old.trans (hb.mono h.old.size), h.box.below hb h.box.lt, h.own.below hb⟩
theorem keepX {W0 w' w'' : World} {K X : Nat} {a b : Value} (h : w'.cell? ⟨X, 0, none⟩ = some a ∧ w'.cell? ⟨X, 1, none⟩ = some b ∧ Below W0.heap.size W0 w') (hb : Below K w' w'') (hX : X < K) (hB : W0.heap.size ≤ K) :
    w''.cell? ⟨X, 0, none⟩ = some a ∧ w''.cell? ⟨X, 1, none⟩ = some b ∧ Below W0.heap.size W0 w'' := ⟨(hb.cell (p := ⟨X, 0, none⟩) hX).trans h.1, (hb.cell (p := ⟨X, 1, none⟩) hX).trans h.2.1, h.2.2.trans (hb.mono hB)⟩
theorem red_exists {A D : Option Addr} {c cd M q : Nat} {es : List (Int × Int)} {d : List Int} {w : World} (hg : graphB (M : Int) es = true) (hM2 : 2 ≤ M) (hM5 : M ≤ 5) (hel : es.length ≤ 8) (hdl : d.length = M) (hbd : ∀ x ∈ d, -60 ≤ x ∧ x ≤ 60) (hq : q < M)
    (hE : EdgeS w w.heap.size A es) (hS : IntS w w.heap.size D d) : ∃ f, IsRed M es d q f := by
  obtain ⟨e, w', fr, ⟨pr, pb, g, cg, gs, f, _, hf, _⟩, _⟩ := reduce_any A D c cd M q es d w (by omega) (by omega) hq hdl (by omega) (fun e he => all_edge (graphB_all hg).1 he) (getD_bound hbd (by omega) (by omega)) (graphB_all hg).2.cut hE hS []
  exact ⟨f, hf⟩
set_option maxRecDepth 100000 in
set_option maxHeartbeats 8000000 in
theorem lawReduced (A0 : Option Addr) (c0 : Nat) (xs : List Int) (w : World) (hn : xs.length ≤ 9223372036854775807) (hS : CodeS w w.heap.size A0 xs) :
    Calls Try.prog 4 #[.slice A0 xs.length c0] w fun e w' => e = .returned (.bool true) ∧ Below w.heap.size w w' := by
  by_cases hs : xs.length ≤ 1048576
  · have hsi : (xs.length : Int) ≤ 1048576 := by omega
    have HS := Lib.hid hS
    have HG := Lib.hid (makeGraph_any w A0 c0 xs hs hS)
    clear hS
    go_enter Try.func4, Try.ntmps4
    go_wp2_with fail
    refine HG.out.mono ?_
    rintro e w1 ⟨M, A, c, es, rfl, hM2, hM5, hel, hg, ho, hb1⟩
    obtain ⟨W1, hW1⟩ : ∃ X : World, X = w1.alloc (Obj.cells #[.int .i64 (M : Int), .slice A es.length c] 25) := ⟨_, rfl⟩
    have G1 := Lib.hid (show GLaw w W1 w1.heap.size M A c es from by
      rw [hW1]
      exact ⟨hb1.alloc hb1.size _, Blk.new w1 _ _, ho.below ((Below.refl _ _).alloc (Nat.le_refl _) _)⟩)
    have HW1 := Lib.hid hW1
    have HGR := Lib.hid hg
    obtain ⟨x0, x1, x2, x3, x4⟩ := box_facts G1.out.box
    clear ho hb1 hW1 hg HG
    have HD := Lib.hid (makeDivisor_any W1 20 M (by omega) A es.length c A0 c0 xs (by omega) hs ((HS.out.keep G1.out.old).up G1.out.old.size))
    go_wp2_with fail
    rw [← HW1.out]
    refine HD.out.mono ?_
    rintro e w2 ⟨D, cd, d, rfl, HDL, hbd, hod, hb2⟩
    have hdl := HDL.out
    have G2 := Lib.hid (G1.out.next hb2)
    have HOD := Lib.hid (hod.mono (base' := w.heap.size) G1.out.old.size)
    have HBD := Lib.hid hbd
    clear hod hb2 hbd HD G1 x0 x1 x2 x3 x4 HW1
    obtain ⟨x0, x1, x2, x3, x4⟩ := box_facts G2.out.box
    -- q
    have hrm := fun (y : Int) (hy0 : 0 ≤ y) => Lib.hid (show 0 ≤ y % (M : Int) ∧ y % (M : Int) < (M : Int) ∧ IntKind.i64.wrap (y % (M : Int)) = y % (M : Int) from by
      have h1 := Int.emod_nonneg y (show (M : Int) ≠ 0 by omega)
      have h2 := Int.emod_lt_of_pos y (show (0 : Int) < (M : Int) by omega)
      refine ⟨h1, h2, ?_⟩
      rw [IntKind.wrap_i64]
      omega)
    have hN0 : ((M : Int) == 0) = false := by simp; omega
    have hN7 : (M : Int) ≠ 0 := by omega
    have hN9 : ¬ M = 0 := by omega
    have MN := fun (W : World) (hb : Below w2.heap.size w2 W) => Lib.hid (makeNum_any 60 (by omega) W A0 c0 xs hs ((HS.out.keep (G2.out.old.trans (hb.mono G2.out.old.size))).up (Nat.le_trans G2.out.old.size hb.size)))
    rw [hdl]
    go_wp2_with fail
    go_region_held3 (fun w' => w'.cell? ⟨w1.heap.size, 0, none⟩ = some (.int .i64 (M : Int)) ∧ w'.cell? ⟨w1.heap.size, 1, none⟩ = some (.slice A es.length c) ∧ Below w2.heap.size w2 w')
      (first
        | exact ⟨x0, x1, (Below.refl _ _).drew⟩
        | exact keepX (by assumption) hb3 x4 (Nat.le_refl _))
      ((go_at_call 23; refine (MN _ (Below.refl _ _).drew).out.mono ?_; rintro e w3 ⟨y, rfl, hy0, hy1, hb3⟩; obtain ⟨hr0, hr1, hr2⟩ := (hrm y hy0).out))
    obtain ⟨q, hqe, hq⟩ : ∃ q : Nat, (q : Int) = y.tmod (M : Int) ∧ q < M := by
      rw [Int.tmod_eq_emod_of_nonneg hy0]
      exact ⟨(y % (M : Int)).toNat, by omega, by omega⟩
    rw [← hqe]
    have hb3' : Below w2.heap.size w2 w3 := (Below.refl _ _).drew.trans hb3
    have G3 := Lib.hid (G2.out.next hb3')
    have HOD3 := Lib.hid (HOD.out.below hb3')
    clear hrm hN0 hN7 hN9 MN hr0 hr1 hr2 hy0 hy1 hqe hb3 hb3' G2 HOD x0 x1 x2 x3 x4
    obtain ⟨x0, x1, x2, x3, x4⟩ := box_facts G3.out.box
    -- the facts
    have hM6 : M ≤ 6 := by omega
    have hen : es.length ≤ 1048576 := by omega
    have hdn : d.length ≤ 1048576 := by omega
    have HEX := Lib.hid (red_exists (q := q) (c := c) (cd := cd) HGR.out hM2 hM5 hel hdl (fun x hx => by have := HBD.out x hx; omega) hq G3.out.own.edges HOD3.out.ints)
    have F0 := Lib.hid (redLaw HGR.out hM5 hel hdl HBD.out (t := List.replicate M 0) (by simp) (fun x hx => by rw [List.eq_of_mem_replicate hx]; omega) hq HEX.out)
    obtain ⟨r, hr⟩ : ∃ r, r = redR (M : Int) es d (q : Int) := ⟨_, rfl⟩
    obtain ⟨s, hsr⟩ : ∃ s, s = scrR (M : Int) es d (q : Int) := ⟨_, rfl⟩
    obtain ⟨k, hk⟩ : ∃ k, k = chipR (M : Int) es d (q : Int) := ⟨_, rfl⟩
    have HR := Lib.hid hr
    have HSR := Lib.hid hsr
    have HK := Lib.hid hk
    have hrl : Hid (r.length = M) := Lib.hid (by rw [hr]; exact F0.out.rl)
    have hsl : Hid (s.length = M) := Lib.hid (by rw [hsr]; exact F0.out.sl)
    have RD := fun (W : World) (E : Option Addr) (ce : Nat) (f : List Int) (h1 : EdgeS W W.heap.size A es) (h2 : IntS W W.heap.size E f) (h3 : f.length = M) (h4 : burnOk (M : Int) es f (q : Int) = true) (h5 : redR (M : Int) es f (q : Int) = r) => Lib.hid (show Calls Try.prog 24 #[.agg #[.int .i64 (M : Int), .slice A es.length c], .slice E M ce, .int .i64 (q : Int)] W (fun e w' => ∃ (A1 : Option Addr) (c1 : Nat), e = .returned (.tuple #[.slice A1 M c1, .bool true]) ∧ OwnI w' W.heap.size A1 r ∧ Below W.heap.size W w') from by
      have h := implRed (M : Int) A E c ce es f (q : Int) W hen (by omega) h1 h2
      rw [h3, h4, h5] at h
      refine h.mono ?_
      rintro e w' ⟨A1, c1, rfl, ho, hb⟩
      exact ⟨A1, c1, by rw [hrl.out], ho, hb⟩)
    have SC := fun (W : World) (h1 : EdgeS W W.heap.size A es) (h2 : IntS W W.heap.size D d) => Lib.hid (show Calls Try.prog 25 #[.agg #[.int .i64 (M : Int), .slice A es.length c], .slice D M cd, .int .i64 (q : Int)] W (fun e w' => ∃ (A1 : Option Addr) (c1 : Nat), e = .returned (.tuple #[.slice A1 M c1, .bool true]) ∧ OwnI w' W.heap.size A1 s ∧ Below W.heap.size W w') from by
      have h := implScp (M : Int) A D c cd es d (q : Int) W hen (by omega) h1 h2
      rw [hdl, F0.out.ok, ← hsr] at h
      refine h.mono ?_
      rintro e w' ⟨A1, c1, rfl, ho, hb⟩
      exact ⟨A1, c1, by rw [hsl.out], ho, hb⟩)
    have FI := fun (W : World) (S : Option Addr) (cs : Nat) (t x : List Int) (h1 : EdgeS W W.heap.size A es) (h2 : IntS W W.heap.size D d) (h3 : IntS W W.heap.size S t) (h4 : t.length = M) (h5 : fireOk (M : Int) es d t = true) (h6 : fireB (M : Int) es d t = x) (h7 : x.length = M) => Lib.hid (show Calls Try.prog 26 #[.agg #[.int .i64 (M : Int), .slice A es.length c], .slice D M cd, .slice S M cs] W (fun e w' => ∃ (A1 : Option Addr) (c1 : Nat), e = .returned (.tuple #[.slice A1 M c1, .bool true]) ∧ OwnI w' W.heap.size A1 x ∧ Below W.heap.size W w') from by
      have h := implFire (M : Int) A D S c cd cs es d t W hen (by omega) (by omega) h1 h2 h3
      rw [hdl, h4, h5, h6] at h
      refine h.mono ?_
      rintro e w' ⟨A1, c1, rfl, ho, hb⟩
      exact ⟨A1, c1, by rw [h7], ho, hb⟩)
    have SA := fun (W : World) (E F : Option Addr) (ce cf : Nat) (h1 : IntS W W.heap.size E r) (h2 : IntS W W.heap.size F r) => Lib.hid (show Calls Try.prog 27 #[.slice E M ce, .slice F M cf] W (fun e w' => e = .returned (.bool true) ∧ w' = W) from by
      have h := sameI_any E F ce cf r r W (by have := hrl.out; omega) (by have := hrl.out; omega) h1 h2
      rw [hrl.out, show decide (r = r) = true from decide_eq_true rfl] at h
      exact h)
    have IR := fun (W : World) (E : Option Addr) (ce : Nat) (h1 : EdgeS W W.heap.size A es) (h2 : IntS W W.heap.size E r) => Lib.hid (show Calls Try.prog 28 #[.agg #[.int .i64 (M : Int), .slice A es.length c], .slice E M ce, .int .i64 (q : Int)] W (fun e w' => e = .returned (.bool true) ∧ Below W.heap.size W w') from by
      have h := implIsRed (M : Int) A E c ce es r (q : Int) W hen (by have := hrl.out; omega) h1 h2
      rw [show isRedB (M : Int) es r (q : Int) = true by rw [hr]; exact F0.out.red, hrl.out] at h
      exact h)
    have CH := fun (W : World) (h1 : EdgeS W W.heap.size A es) (h2 : IntS W W.heap.size D d) => Lib.hid (show Calls Try.prog 30 #[.agg #[.int .i64 (M : Int), .slice A es.length c], .slice D M cd, .int .i64 (q : Int)] W (fun e w' => e = .returned (.tuple #[.int .i64 k, .bool true]) ∧ Below W.heap.size W w') from by
      have h := implChip (M : Int) A D c cd es d (q : Int) W hen (by omega) h1 h2
      rw [hdl, F0.out.ok, ← hk] at h
      exact h)
    have MO := fun (W : World) (E : Option Addr) (ce : Nat) (h1 : EdgeS W W.heap.size A es) (h2 : IntS W W.heap.size E r) => Lib.hid (show Calls Try.prog 31 #[.agg #[.int .i64 (M : Int), .slice A es.length c], .slice E M ce, .int .i64 (q : Int)] W (fun e w' => ∃ (A1 : Option Addr) (c1 : Nat), e = .returned (.slice A1 0 c1) ∧ Below W.heap.size W w') from by
      have h := implMost (M : Int) A E c ce es r (q : Int) W hen (by have := hrl.out; omega) h1 h2
      rw [show mostB (M : Int) es r (q : Int) = [] by rw [hr]; exact F0.out.most, hrl.out] at h
      refine h.mono ?_
      rintro e w' ⟨A1, c1, rfl, ho, hb⟩
      exact ⟨A1, c1, rfl, hb⟩)
    have MS := fun (W : World) (hb : Below w.heap.size w W) => Lib.hid (show Calls Try.prog 29 #[.slice A0 xs.length c0, .int .i64 40, .agg #[.int .i64 (M : Int), .slice A es.length c]] W (fun e w' => ∃ (A1 : Option Addr) (c1 : Nat) (t : List Int), e = .returned (.slice A1 M c1) ∧ Hid (t.length = M) ∧ (∀ x ∈ t, -3 ≤ x ∧ x ≤ 3) ∧ OwnI w' W.heap.size A1 t ∧ Below W.heap.size W w') from by
      refine (makeScript_any W 40 M (by omega) A es.length c A0 c0 xs (by omega) hs ((HS.out.keep hb).up hb.size)).mono ?_
      rintro e w' ⟨A1, c1, t, rfl, hl, hbt, ho, hb⟩
      exact ⟨A1, c1, t, by rw [hl.out], hl, hbt, ho, hb⟩)
    have F1 := fun (t : List Int) (h1 : t.length = M) (h2 : ∀ x ∈ t, -3 ≤ x ∧ x ≤ 3) => Lib.hid (redLaw HGR.out hM5 hel hdl HBD.out h1 h2 hq HEX.out)
    have s0q : s[q]? = some 0 := by rw [hsr]; exact F0.out.s0
    have rkq : r[q]? = some k := by rw [hr, hk]; exact F0.out.chip
    have RQ := Lib.hid rkq
    have SQ := Lib.hid s0q
    have hqM : (q : Int) < (M : Int) := by omega
    have hq0 : (0 : Int) ≤ (q : Int) := Int.natCast_nonneg _
    clear hr hsr hk s0q rkq hen hdn hdl hel
    -- ReducedOf
    go_wp2_with fail
    refine (RD w3 D cd d G3.out.own.edges HOD3.out.ints HDL.out F0.out.ok HR.out.symm).out.mono ?_
    rintro e w4 ⟨R, cr, rfl, hor, hb4⟩
    have G4 := Lib.hid (G3.out.next hb4)
    have D4 := Lib.hid (HOD3.out.below hb4)
    have R4 := Lib.hid (hor.mono (base' := w.heap.size) G3.out.old.size)
    clear hor hb4 G3 HOD3 x0 x1 x2 x3 x4
    obtain ⟨x0, x1, x2, x3, x4⟩ := box_facts G4.out.box
    -- ReducingScript
    go_wp2_with fail
    refine (SC w4 G4.out.own.edges D4.out.ints).out.mono ?_
    rintro e w5 ⟨S, cs, rfl, hos, hb5⟩
    have G5 := Lib.hid (G4.out.next hb5)
    have D5 := Lib.hid (D4.out.below hb5)
    have R5 := Lib.hid (R4.out.below hb5)
    obtain ⟨bs, os, rfl, hbs0, hbs1, hsc⟩ := hos (by have := hsl.out; omega)
    have S5 := Lib.hid (hos.mono (base' := w.heap.size) G4.out.old.size)
    have c5 := (hsc q 0 SQ.out).1
    clear hos hsc hb5 G4 D4 R4 x0 x1 x2 x3 x4
    obtain ⟨x0, x1, x2, x3, x4⟩ := box_facts G5.out.box
    -- FireScript
    go_wp2_with fail
    refine (FI w5 _ cs s r G5.out.own.edges D5.out.ints S5.out.ints hsl.out (by rw [HSR.out]; exact F0.out.fok) (by rw [HSR.out, HR.out]; exact F0.out.fs) hrl.out).out.mono ?_
    rintro e w6 ⟨X, cx, rfl, hox, hb6⟩
    have G6 := Lib.hid (G5.out.next hb6)
    have D6 := Lib.hid (D5.out.below hb6)
    have R6 := Lib.hid (R5.out.below hb6)
    have X6 := Lib.hid (hox.mono (base' := w.heap.size) G5.out.old.size)
    have c6 : w6.cell? ⟨bs, os + q, none⟩ = some (.int .i64 0) := (hb6.cell (p := ⟨bs, os + q, none⟩) hbs1).trans c5
    clear hox hb6 G5 D5 R5 S5 c5 x0 x1 x2 x3 x4
    obtain ⟨x0, x1, x2, x3, x4⟩ := box_facts G6.out.box
    -- the first test
    go_wp2_with fail
    refine (SA w6 X R cx cr X6.out.ints R6.out.ints).out.mono ?_
    rintro e w7 ⟨rfl, rfl⟩
    go_wp2_with fail
    refine (IR w7 R cr G6.out.own.edges R6.out.ints).out.mono ?_
    rintro e w8 ⟨rfl, hb8⟩
    have G8 := Lib.hid (G6.out.next hb8)
    have D8 := Lib.hid (D6.out.below hb8)
    have R8 := Lib.hid (R6.out.below hb8)
    clear hb8 G6 D6 R6 X6 c6 x0 x1 x2 x3 x4
    obtain ⟨x0, x1, x2, x3, x4⟩ := box_facts G8.out.box
    -- another script
    go_wp2_with fail
    go_region_held3 (fun w' => w'.cell? ⟨w1.heap.size, 0, none⟩ = some (.int .i64 (M : Int)) ∧ w'.cell? ⟨w1.heap.size, 1, none⟩ = some (.slice A es.length c) ∧ Below w8.heap.size w8 w')
      (first
        | exact ⟨x0, x1, (Below.refl _ _).drew⟩
        | exact keepX (by assumption) hb9 x4 (Nat.le_refl _)
        | exact keepX (by assumption) hb10 (Nat.lt_of_lt_of_le x4 hb9.size) hb9.size)
      (first
        | (go_at_call 29; refine (MS _ G8.out.old.drew).out.mono ?_; rintro e w9 ⟨T, ct, t, rfl, HTL, hbt, hot, hb9⟩; have G9 := Lib.hid (G8.out.next ((Below.refl _ _).drew.trans hb9)); have D9 := Lib.hid (D8.out.below ((Below.refl _ _).drew.trans hb9)))
        | (go_at_call 26; refine (FI w9 T ct t (fireB (M : Int) es d t) G9.out.own.edges D9.out.ints hot.ints HTL.out (F1 t HTL.out hbt).out.tok rfl (F1 t HTL.out hbt).out.el).out.mono ?_; rintro e w10 ⟨E, ce, rfl, hoe, hb10⟩))
    have FT := Lib.hid (F1 t HTL.out hbt)
    have hb10' : Below w8.heap.size w8 w10 := ((Below.refl _ _).drew.trans hb9).trans (hb10.mono hb9.size)
    have G10 := Lib.hid (G9.out.next hb10)
    have D10 := Lib.hid (D9.out.below hb10)
    have R10 := Lib.hid (R8.out.below hb10')
    have E10 := Lib.hid (hoe.mono (base' := w.heap.size) G9.out.old.size)
    clear hoe hb10 hb10' hb9 hot G8 D8 R8 G9 D9 x0 x1 x2 x3 x4 F1 MS
    obtain ⟨x0, x1, x2, x3, x4⟩ := box_facts G10.out.box
    go_wp2_with fail
    refine (RD w10 E ce (fireB (M : Int) es d t) G10.out.own.edges E10.out.ints FT.out.el FT.out.eok (by rw [HR.out]; exact FT.out.same)).out.mono ?_
    rintro e w11 ⟨R2, cr2, rfl, hor2, hb11⟩
    have G11 := Lib.hid (G10.out.next hb11)
    have D11 := Lib.hid (D10.out.below hb11)
    have R11 := Lib.hid (R10.out.below hb11)
    have Q11 := Lib.hid (hor2.mono (base' := w.heap.size) G10.out.old.size)
    clear hor2 hb11 G10 D10 R10 E10 x0 x1 x2 x3 x4
    obtain ⟨x0, x1, x2, x3, x4⟩ := box_facts G11.out.box
    go_wp2_with fail
    refine (CH w11 G11.out.own.edges D11.out.ints).out.mono ?_
    rintro e w12 ⟨rfl, hb12⟩
    have G12 := Lib.hid (G11.out.next hb12)
    have Q12 := Lib.hid (Q11.out.below hb12)
    have hr12 := R11.out.below hb12
    obtain ⟨br, orr, rfl, hbr0, hbr1, hrc⟩ := hr12 (by have := hrl.out; omega)
    have R12 := Lib.hid hr12
    have c12 := (hrc q k RQ.out).1
    clear hr12 hrc hb12 G11 D11 R11 Q11 x0 x1 x2 x3 x4
    obtain ⟨x0, x1, x2, x3, x4⟩ := box_facts G12.out.box
    have hkk : (k == k) = true := by simp
    go_wp2_with fail
    refine (SA w12 R2 _ cr2 cr Q12.out.ints R12.out.ints).out.mono ?_
    rintro e w13 ⟨rfl, rfl⟩
    go_wp2_with fail
    refine (MO w13 _ cr G12.out.own.edges R12.out.ints).out.mono ?_
    rintro e w14 ⟨A9, c9, rfl, hb14⟩
    have HB14 := Lib.hid (show Below w.heap.size w w14 from (G12.out.next hb14).old)
    clear hb14
    go_wp2
    go_ret
    exact ⟨rfl, HB14.out⟩
  · have hsi : (1048576 : Int) < (xs.length : Int) := by omega
    have hsj : (xs.length : Int) ≤ 9223372036854775807 := by omega
    clear hS
    go_enter Try.func4, Try.ntmps4
    go_wp2
    go_ret
    exact ⟨rfl, Below.refl _ _⟩
end Go.Proofs.Ytbojbifpaecbcaa
