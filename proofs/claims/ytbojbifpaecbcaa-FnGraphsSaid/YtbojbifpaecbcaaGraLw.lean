/- laws.FnGraphs: the walk. -/
import Derived.Test.YtbojbifpaecbcaaGraM
import Derived.Test.YtbojbifpaecbcaaMake
namespace Go.Proofs.Ytbojbifpaecbcaa
open Go.RowKit

/-- what a law over a drawn graph holds: the graph's box X, the graph -/
structure GLawG (w wc : World) (X M : Nat) (A : Option Addr) (c : Nat) (es : List (Int × Int)) : Prop where
  old : Below w.heap.size w wc
  box : Blk wc X 25 #[.int .i64 (M : Int), .slice A es.length c]
  own : OwnE wc w.heap.size A es
theorem GLawG.next {w wc wd : World} {X M c : Nat} {A : Option Addr} {es : List (Int × Int)} (h : GLawG w wc X M A c es) (hb : Below wc.heap.size wc wd) : GLawG w wd X M A c es :=
  ⟨h.old.trans (hb.mono h.old.size), h.box.below hb h.box.lt, h.own.below hb⟩
theorem sumV_part {f : Nat → Int} {k : Nat} : ∀ {M : Nat}, (∀ u, u < M → 0 ≤ f u) → k ≤ M → 0 ≤ sumV f k ∧ sumV f k ≤ sumV f M
  | 0, _, hk => by rw [show k = 0 by omega]; simp [sumV]
  | M + 1, h0, hk => by
    have h1 := h0 M (by omega)
    by_cases e : k = M + 1
    · subst e
      refine ⟨?_, Int.le_refl _⟩
      have h2 := sumV_le (f := fun _ => 0) (g := f) (M + 1) h0
      rw [sumV_const] at h2
      omega
    · have := sumV_part (k := k) (M := M) (fun u hu => h0 u (by omega)) (by omega)
      simp only [sumV]
      omega
theorem valB_lo {M : Nat} {es : List (Int × Int)} (v : Nat) : 0 ≤ valB (M : Int) es (v : Int) := by
  unfold valB
  split <;> omega
theorem multB_lo {M : Nat} {es : List (Int × Int)} (v w : Nat) : 0 ≤ multB (M : Int) es (v : Int) (w : Int) := by
  unfold multB
  split <;> omega
/-- the partial sums stay small -/
theorem val_part {M : Nat} {es : List (Int × Int)} (hg : graphB (M : Int) es = true) (hel : es.length ≤ 8) {k : Nat} (hk : k ≤ M) : 0 ≤ sumV (fun v => valB (M : Int) es (v : Int)) k ∧ sumV (fun v => valB (M : Int) es (v : Int)) k ≤ 16 := by
  have h := sumV_part (f := fun v => valB (M : Int) es (v : Int)) (fun u _ => valB_lo u) hk
  rw [val_sum hg] at h
  omega
theorem mult_part {M : Nat} {es : List (Int × Int)} (hg : graphB (M : Int) es = true) (hel : es.length ≤ 8) {v : Nat} (hv : v < M) {k : Nat} (hk : k ≤ M) : 0 ≤ sumV (fun w => multB (M : Int) es (v : Int) (w : Int)) k ∧ sumV (fun w => multB (M : Int) es (v : Int) (w : Int)) k ≤ 16 := by
  have h := sumV_part (f := fun w => multB (M : Int) es (v : Int) (w : Int)) (fun u _ => multB_lo v u) hk
  rw [row_sum hg hv] at h
  have h2 := val_part hg hel (Nat.succ_le_of_lt hv)
  have h3 := val_part hg hel (Nat.le_of_lt hv)
  simp only [sumV] at h2
  omega
theorem wf_edges {N : Int} {es : List (Int × Int)} (h : edgesB N es = true) : ∀ e ∈ es, (Lit.int .i64 e.1).wf = true ∧ (Lit.int .i64 e.2).wf = true := fun e he => by
  have h1 := all_edge h he
  have h2 := edgesB_lims h
  exact ⟨wfInt (by omega) (by omega), wfInt (by omega) (by omega)⟩
set_option maxRecDepth 100000 in
set_option maxHeartbeats 8000000 in
theorem lawGraphs (A0 : Option Addr) (c0 : Nat) (xs : List Int) (w : World) (hn : xs.length ≤ 9223372036854775807) (hS : CodeS w w.heap.size A0 xs) :
    Calls Try.prog 3 #[.slice A0 xs.length c0] w fun e w' => e = .returned (.bool true) ∧ Below w.heap.size w w' := by
  by_cases hs : xs.length ≤ 1048576
  · have hsi : (xs.length : Int) ≤ 1048576 := by omega
    have HG := Lib.hid (makeGraph_any w A0 c0 xs hs hS)
    clear hS
    go_enter Try.func3, Try.ntmps3
    go_wp2_with fail
    refine HG.out.mono ?_
    rintro e w1 ⟨M, A, c, es, rfl, hM2, hM5, hel, hg, ho, hb1⟩
    obtain ⟨W1, hW1⟩ : ∃ X : World, X = w1.alloc (Obj.cells #[.int .i64 (M : Int), .slice A es.length c] 25) := ⟨_, rfl⟩
    have G1 := Lib.hid (show GLawG w W1 w1.heap.size M A c es from by
      rw [hW1]
      exact ⟨hb1.alloc hb1.size _, Blk.new w1 _ _, ho.below ((Below.refl _ _).alloc (Nat.le_refl _) _)⟩)
    have HW1 := Lib.hid hW1
    have HGR := Lib.hid hg
    have F := Lib.hid (graLaw hg hM2 hel)
    obtain ⟨L, hL⟩ : ∃ L, L = insE es (0, (M : Int) - 1) := ⟨_, rfl⟩
    rw [← hL] at F
    have hen : es.length ≤ 1048576 := by omega
    have hwf := Lib.hid (wf_edges (graphB_all hg).1)
    have hMi : (M : Int) ≤ 5 := by omega
    have hMj : (2 : Int) ≤ (M : Int) := by omega
    have MU := fun (W : World) (a b : Nat) (ha : a < M) (hb : b < M) (h : EdgeS W W.heap.size A es) => Lib.hid (implMultL (M : Int) A c es (a : Int) (b : Int) W hen hwf.out (by omega) (by omega) (by omega) (by omega) (by omega) (by omega) h)
    have VA := fun (W : World) (a : Nat) (ha : a < M) (h : EdgeS W W.heap.size A es) => Lib.hid (implValL (M : Int) A c es (a : Int) W hen hwf.out (by omega) (by omega) (by omega) (by omega) h)
    have VP := fun (k : Nat) (hk : k ≤ M) => Lib.hid (val_part HGR.out hel hk)
    have MP := fun (v : Nat) (hv : v < M) (k : Nat) (hk : k ≤ M) => Lib.hid (mult_part HGR.out hel hv hk)
    have RS := fun (v : Nat) (hv : v < M) => Lib.hid (row_sum HGR.out hv)
    have VS := Lib.hid (val_sum HGR.out)
    clear ho hb1 hW1 hg HG hL
    obtain ⟨fv, hfv⟩ : ∃ fv : Nat → Int, fv = fun (v : Nat) => valB (M : Int) es (v : Int) := ⟨_, rfl⟩
    obtain ⟨fm, hfm⟩ : ∃ fm : Nat → Nat → Int, fm = fun (v w : Nat) => multB (M : Int) es (v : Int) (w : Int) := ⟨_, rfl⟩
    have VA2 := fun (W : World) (a : Nat) (ha : a < M) (h : EdgeS W W.heap.size A es) => Lib.hid (show Calls Try.prog 15 #[.agg #[.int .i64 (M : Int), .slice A es.length c], .int .i64 (a : Int)] W (fun e w' => e = .returned (.int .i64 (fv a)) ∧ Below W.heap.size W w') from by rw [hfv]; exact (VA W a ha h).out)
    have MU2 := fun (W : World) (a b : Nat) (ha : a < M) (hb : b < M) (h : EdgeS W W.heap.size A es) => Lib.hid (show Calls Try.prog 14 #[.agg #[.int .i64 (M : Int), .slice A es.length c], .int .i64 (a : Int), .int .i64 (b : Int)] W (fun e w' => e = .returned (.int .i64 (fm a b)) ∧ Below W.heap.size W w') from by rw [hfm]; exact (MU W a b ha hb h).out)
    have VP2 := fun (k : Nat) (hk : k ≤ M) => Lib.hid (show 0 ≤ sumV fv k ∧ sumV fv k ≤ 16 from by rw [hfv]; exact (VP k hk).out)
    have MP2 := fun (v : Nat) (hv : v < M) (k : Nat) (hk : k ≤ M) => Lib.hid (show 0 ≤ sumV (fm v) k ∧ sumV (fm v) k ≤ 16 from by rw [hfm]; exact (MP v hv k hk).out)
    have RS2 := fun (v : Nat) (hv : v < M) => Lib.hid (show sumV (fm v) M = fv v from by rw [hfm, hfv]; exact (RS v hv).out)
    have VS2 := Lib.hid (show sumV fv M = 2 * es.length from by rw [hfv]; exact VS.out)
    clear VA MU VP MP RS VS hfv hfm
    obtain ⟨x0, x1, x2, x3, x4⟩ := box_facts G1.out.box
    go_wp2
    rw [← HW1.out]
    go_loopw [4, 5, 6, 7] (fun s v _ _ wr => ∃ k : Nat, v = .int .i64 k ∧ k ≤ M ∧ s = .int .i64 (sumV fv k) ∧ GLawG w wr w1.heap.size M A c es) (fun _ v _ _ _ => M - (intOf v).toNat)
    case atStart => exact ⟨0, rfl, Nat.zero_le _, rfl, G1.out⟩
    case round =>
      clear G1 HW1 x0 x1 x2 x3 x4
      obtain ⟨k, rfl, hk, rfl, hgl⟩ := hrel
      have GK := Lib.hid hgl
      obtain ⟨x0, x1, x2, x3, x4⟩ := box_facts hgl.box
      clear hgl
      have hk0 : (0 : Int) ≤ (k : Int) := Int.natCast_nonneg _
      by_cases hlt : k < M
      · have hk1 : (k : Int) < (M : Int) := by omega
        obtain ⟨wo, rfl⟩ : ∃ x : World, x = wr := ⟨_, rfl⟩
        go_wp2
        go_loopw [6, 7] (fun n i wq => ∃ j : Nat, i = .int .i64 j ∧ j ≤ M ∧ n = .int .i64 (sumV (fm k) j) ∧ GLawG w wq w1.heap.size M A c es) (fun _ i _ => M - (intOf i).toNat)
        case atStart => exact ⟨0, rfl, Nat.zero_le _, rfl, GK.out⟩
        case round =>
          clear GK x0 x1 x2 x3 x4
          obtain ⟨j, rfl, hj, rfl, hgl⟩ := hrel
          have GJ := Lib.hid hgl
          obtain ⟨x0, x1, x2, x3, x4⟩ := box_facts hgl.box
          clear hgl
          have hj0 : (0 : Int) ≤ (j : Int) := Int.natCast_nonneg _
          obtain ⟨a1, a2⟩ := (MP2 k hlt j hj).out
          by_cases hjl : j < M
          · have hj1 : (j : Int) < (M : Int) := by omega
            obtain ⟨b1, b2⟩ := (MP2 k hlt (j + 1) (by omega)).out
            simp only [sumV] at b1 b2
            have HC := MU2 wr k j hlt hjl GJ.out.own.edges
            go_wp2_with fail
            refine HC.out.mono ?_
            rintro e w5 ⟨rfl, hb5⟩
            have G5 := Lib.hid (GJ.out.next hb5)
            clear hb5 HC GJ x0 x1 x2 x3 x4
            obtain ⟨x0, x1, x2, x3, x4⟩ := box_facts G5.out.box
            go_wp2
            exact ⟨⟨j + 1, by go_num, by omega, rfl, G5.out⟩, by simp [intOf]; omega⟩
          · have hjM : j = M := by omega
            have hjn : ¬ ((j : Int) < (M : Int)) := by omega
            have HC := VA2 wr k hlt GJ.out.own.edges
            have HRS := Lib.hid (show sumV (fm k) j = fv k from by rw [hjM]; exact (RS2 k hlt).out)
            obtain ⟨b1, b2⟩ := (VP2 (k + 1) (by omega)).out
            obtain ⟨b3, b4⟩ := (VP2 k hk).out
            simp only [sumV] at b1 b2
            clear hjM
            rw [HRS.out] at a1 a2 ⊢
            go_wp2_with fail
            refine HC.out.mono ?_
            rintro e w5 ⟨rfl, hb5⟩
            have G5 := Lib.hid (GJ.out.next hb5)
            have hff : (fv k == fv k) = true := by simp
            clear hb5 HC GJ x0 x1 x2 x3 x4
            obtain ⟨x0, x1, x2, x3, x4⟩ := box_facts G5.out.box
            go_wp2
            exact ⟨⟨k + 1, by go_num, by omega, rfl, G5.out⟩, by simp [intOf]; omega⟩
      · have hkM : k = M := by omega
        have hkn : ¬ ((k : Int) < (M : Int)) := by omega
        have HSUM := Lib.hid (show sumV fv k = 2 * es.length from by rw [hkM]; exact VS2.out)
        clear hkM
        rw [HSUM.out]
        have hvB : vB 0 (M : Int) = true := vB_t ⟨by omega, by omega⟩
        have DC := Lib.hid (show Calls Try.prog 16 #[.agg #[.int .i64 (M : Int), .slice A es.length c], .int .i64 0] wr (fun e w' => ∃ (A1 : Option Addr) (c1 : Nat), e = .returned (.slice A1 M c1) ∧ Below wr.heap.size wr w') from by
          refine (implDist (M : Int) A c es 0 wr hen GK.out.own.edges).mono ?_
          rintro e w' ⟨A1, c1, rfl, -, hb⟩
          exact ⟨A1, c1, by rw [distB_t HGR.out hvB, dists_len, Int.toNat_natCast], hb⟩)
        clear MU2 VA2 VP2 MP2 RS2 VS2 hvB
        go_wp2_with fail
        refine DC.out.mono ?_
        rintro e w2 ⟨A2, c2, rfl, hb2⟩
        have G2 := Lib.hid (GK.out.next hb2)
        clear hb2 DC GK x0 x1 x2 x3 x4
        obtain ⟨x0, x1, x2, x3, x4⟩ := box_facts G2.out.box
        have AC := Lib.hid (show Calls Try.prog 17 #[.agg #[.int .i64 (M : Int), .slice A es.length c], .int .i64 ((M : Int) - 1), .int .i64 0] w2 (fun e w' => ∃ (A1 : Option Addr) (c1 : Nat), e = .returned (.tuple #[.agg #[.int .i64 (M : Int), .slice A1 L.length c1], .bool true]) ∧ OwnE w' w2.heap.size A1 L ∧ Below w2.heap.size w2 w') from by
          refine (implAdd (M : Int) A c es ((M : Int) - 1) 0 w2 hen G2.out.own.edges).mono ?_
          rintro e w' ⟨A1, c1, rfl, ho, -, hb⟩
          rw [F.out.l] at ho ⊢
          exact ⟨A1, c1, by rw [F.out.k, (add_yes F.out.k).1], ho, hb⟩)
        go_wp2_with fail
        refine AC.out.mono ?_
        rintro e w3 ⟨A3, c3, rfl, ho3, hb3⟩
        have h3 := G2.out.next hb3
        obtain ⟨w4, hw4⟩ : ∃ X : World, X = w3.alloc (Obj.cells #[.int .i64 (M : Int), .slice A3 L.length c3] 25) := ⟨_, rfl⟩
        have hb4 : Below w3.heap.size w3 w4 := by rw [hw4]; exact (Below.refl _ _).alloc (Nat.le_refl _) _
        have G4 := Lib.hid (h3.next hb4)
        have X4 := Lib.hid (show GLawG w w4 w3.heap.size M A3 c3 L from ⟨(h3.next hb4).old, by rw [hw4]; exact Blk.new w3 _ _, (ho3.mono (base' := w.heap.size) G2.out.old.size).below hb4⟩)
        have HW4 := Lib.hid hw4
        have hlL : L.length ≤ 1048576 := by have := F.out.len; omega
        have HP4 := Lib.hid (show w4.drew.cell? ⟨w1.heap.size, 0, none⟩ = some (.int .i64 (M : Int)) ∧ w4.drew.cell? ⟨w1.heap.size, 1, none⟩ = some (.slice A es.length c) ∧ w4.drew.cell? ⟨w3.heap.size, 0, none⟩ = some (.int .i64 (M : Int)) ∧ w4.drew.cell? ⟨w3.heap.size, 1, none⟩ = some (.slice A3 L.length c3) ∧ Below w4.heap.size w4 w4.drew from
          ⟨(box_facts G4.out.box).1, (box_facts G4.out.box).2.1, (box_facts X4.out.box).1, (box_facts X4.out.box).2.1, (Below.refl _ _).drew⟩)
        have GO := fun (W : World) (h : W.cell? ⟨w1.heap.size, 0, none⟩ = some (.int .i64 (M : Int)) ∧ W.cell? ⟨w1.heap.size, 1, none⟩ = some (.slice A es.length c) ∧ W.cell? ⟨w3.heap.size, 0, none⟩ = some (.int .i64 (M : Int)) ∧ W.cell? ⟨w3.heap.size, 1, none⟩ = some (.slice A3 L.length c3) ∧ Below w4.heap.size w4 W) => Lib.hid (show Calls Try.prog 18 #[.agg #[.int .i64 (M : Int), .slice A es.length c]] W (fun e w' => e = .returned (.bool true) ∧ Below W.heap.size W w') from by
          have h := implGraphOk (M : Int) A c es W hen ((G4.out.own.below h.2.2.2.2).edges)
          rw [HGR.out] at h
          exact h)
        obtain ⟨gn, hgn⟩ : ∃ gn, gn = genusB (M : Int) es := ⟨_, rfl⟩
        have HGN := Lib.hid hgn
        have hgn1 : -10 ≤ gn := by rw [hgn, genusB_t HGR.out]; omega
        have hgn2 : gn ≤ 10 := by rw [hgn, genusB_t HGR.out]; omega
        have GG := fun (W : World) (h : W.cell? ⟨w1.heap.size, 0, none⟩ = some (.int .i64 (M : Int)) ∧ W.cell? ⟨w1.heap.size, 1, none⟩ = some (.slice A es.length c) ∧ W.cell? ⟨w3.heap.size, 0, none⟩ = some (.int .i64 (M : Int)) ∧ W.cell? ⟨w3.heap.size, 1, none⟩ = some (.slice A3 L.length c3) ∧ Below w4.heap.size w4 W) => Lib.hid (show Calls Try.prog 19 #[.agg #[.int .i64 (M : Int), .slice A es.length c]] W (fun e w' => e = .returned (.int .i64 gn) ∧ Below W.heap.size W w') from by
          rw [HGN.out]
          exact implGenus (M : Int) A c es W hen hwf.out (by omega) (by omega) ((G4.out.own.below h.2.2.2.2).edges))
        have GX := fun (W : World) (h : W.cell? ⟨w1.heap.size, 0, none⟩ = some (.int .i64 (M : Int)) ∧ W.cell? ⟨w1.heap.size, 1, none⟩ = some (.slice A es.length c) ∧ W.cell? ⟨w3.heap.size, 0, none⟩ = some (.int .i64 (M : Int)) ∧ W.cell? ⟨w3.heap.size, 1, none⟩ = some (.slice A3 L.length c3) ∧ Below w4.heap.size w4 W) => Lib.hid (show Calls Try.prog 19 #[.agg #[.int .i64 (M : Int), .slice A3 L.length c3]] W (fun e w' => e = .returned (.int .i64 (gn + 1)) ∧ Below W.heap.size W w') from by
          rw [HGN.out, ← F.out.gen]
          exact implGenus (M : Int) A3 c3 L W hlL (wf_edges (graphB_all F.out.gr).1) (by omega) (by omega) ((X4.out.own.below h.2.2.2.2).edges))
        have hw2 : IntKind.i64.wrap (2 * (es.length : Int)) = 2 * (es.length : Int) := by rw [IntKind.wrap_i64]; omega
        have hw3 : IntKind.i64.wrap (gn + 1) = gn + 1 := by rw [IntKind.wrap_i64]; omega
        have hlt1 : w1.heap.size < w4.heap.size := G4.out.box.lt
        have hlt3 : w3.heap.size < w4.heap.size := X4.out.box.lt
        clear ho3 hb3 h3 hb4 hw4 hgn G2 AC
        go_wp2_with fail
        rw [← HW4.out]
        clear x0 x1 x2 x3 x4
        go_region_held3 (fun w' => w'.cell? ⟨w1.heap.size, 0, none⟩ = some (.int .i64 (M : Int)) ∧ w'.cell? ⟨w1.heap.size, 1, none⟩ = some (.slice A es.length c) ∧ w'.cell? ⟨w3.heap.size, 0, none⟩ = some (.int .i64 (M : Int)) ∧ w'.cell? ⟨w3.heap.size, 1, none⟩ = some (.slice A3 L.length c3) ∧ Below w4.heap.size w4 w')
          (first
            | with_reducible exact HP4.out
            | with_reducible exact keepPA (by assumption) hbg)
          (first
            | (go_at_call 18; refine (GO _ (by assumption)).out.mono ?_; rintro e wg ⟨rfl, hbg⟩)
            | (go_at_call 19
               first
                 | (with_reducible refine (GG _ (by assumption)).out.mono ?_
                    rintro e wg ⟨rfl, hbg⟩)
                 | (with_reducible refine (GX _ (by assumption)).out.mono ?_
                    rintro e wg ⟨rfl, hbg⟩)))
        have hbz : Below w4.heap.size w4 wg := And.right (And.right (And.right (And.right (by assumption))))
        have G5 := Lib.hid (G4.out.next hbz)
        have X5 := Lib.hid (X4.out.next hbz)
        have HFD := Lib.hid (fun (i : Nat) => F.out.drop i)
        have HMM := Lib.hid F.out.mem
        clear hbg hbz G4 X4 HP4 GO GG GX HW4 hw2 hw3 F HGN hgn1 hgn2
        obtain ⟨x0, x1, x2, x3, x4⟩ := box_facts X5.out.box
        have hMM1 : (M : Int) - 1 = ((M - 1 : Nat) : Int) := by omega
        obtain ⟨m, hm⟩ : ∃ m : Int, m = (M : Int) - 1 := ⟨_, rfl⟩
        have HM := Lib.hid hm
        rw [← hm] at HFD HMM
        clear hMM1 hm
        go_wp2_with fail
        go_loopw [11, 12, 89] (fun _ _ i wr => ∃ j : Nat, i = .int .i64 j ∧ j ≤ L.length ∧ Hid (∀ t, t < j → L[t]? ≠ some (0, m)) ∧ GLawG w wr w1.heap.size M A c es ∧ GLawG w wr w3.heap.size M A3 c3 L) (fun _ _ i _ => L.length - (intOf i).toNat)
        case atStart => exact ⟨0, rfl, Nat.zero_le _, Lib.hid (fun t ht => by omega), G5.out, X5.out⟩
        case round =>
          clear G5 X5 x0 x1 x2 x3 x4
          obtain ⟨j, rfl, hj, HF, hgl, hxl⟩ := hrel
          have GK := Lib.hid hgl
          have XK := Lib.hid hxl
          clear hgl hxl
          have hj0 : (0 : Int) ≤ (j : Int) := Int.natCast_nonneg _
          obtain ⟨x0, x1, x2, x3, x4⟩ := box_facts GK.out.box
          obtain ⟨y0, y1, y2, y3, y4⟩ := box_facts XK.out.box
          by_cases hjl : j < L.length
          · have hj1 : (j : Int) < (L.length : Int) := by omega
            obtain ⟨b1, o1, e, hA, hb1, he, hd0, hd1⟩ := XK.out.own.edges.at_ hjl
            subst hA
            obtain ⟨p1, p2⟩ := e
            simp only at hd0 hd1
            obtain ⟨w6, hw6⟩ : ∃ X : World, X = wr.alloc (Obj.cells #[.int .i64 p1, .int .i64 p2] 36) := ⟨_, rfl⟩
            have hb6 : Below wr.heap.size wr w6 := by rw [hw6]; exact (Below.refl _ _).alloc (Nat.le_refl _) _
            have GK6 := Lib.hid (GK.out.next hb6)
            have XK6 := Lib.hid (XK.out.next hb6)
            have HW6 := Lib.hid hw6
            clear hw6 hb6
            by_cases hp1 : p1 = 0
            · by_cases hp2 : p2 = m
              · subst hp1
                subst hp2
                obtain ⟨k1, k2⟩ := HFD.out j he HF.out
                have DC := Lib.hid (show Calls Try.prog 20 #[.agg #[.int .i64 (M : Int), .slice (some ⟨b1, o1, none⟩) L.length c3], .int .i64 (j : Int)] w6 (fun e w' => ∃ (A1 : Option Addr) (c1 : Nat), e = .returned (.tuple #[.agg #[.int .i64 (M : Int), .slice A1 es.length c1], .bool true]) ∧ OwnE w' w6.heap.size A1 es ∧ Below w6.heap.size w6 w') from by
                  refine (implDrop (M : Int) (some ⟨b1, o1, none⟩) c3 L (j : Int) w6 hlL (by omega) (by omega) XK6.out.own.edges).mono ?_
                  rintro e w' ⟨A1, c1, rfl, ho, -, hb⟩
                  rw [k2] at ho ⊢
                  exact ⟨A1, c1, by rw [k1, (drop_yes k1).1], ho, hb⟩)
                have t1 : (p2 == (M : Int) - 1) = true := by rw [HM.out]; simp
                clear he k1 k2
                go_wp2_with fail
                rw [← HW6.out]
                refine DC.out.mono ?_
                rintro e w7 ⟨A7, c7, rfl, ho7, hb7⟩
                obtain ⟨w8, hw8⟩ : ∃ X : World, X = w7.alloc (Obj.cells #[.int .i64 (M : Int), .slice A7 es.length c7] 25) := ⟨_, rfl⟩
                have hb8 : Below w7.heap.size w7 w8 := by rw [hw8]; exact (Below.refl _ _).alloc (Nat.le_refl _) _
                have G8 := Lib.hid ((GK6.out.next hb7).next hb8)
                have HO8 := Lib.hid (ho7.below hb8)
                have SC := Lib.hid (show Calls Try.prog 21 #[.agg #[.int .i64 (M : Int), .slice A7 es.length c7], .agg #[.int .i64 (M : Int), .slice A es.length c]] w8 (fun e w' => e = .returned (.bool true) ∧ Below w8.heap.size w8 w') from by
                  have h := implSame (M : Int) (M : Int) A7 A c7 c es es w8 (by omega) (by omega) HO8.out.edges G8.out.own.edges
                  rw [show eqG (M : Int) (M : Int) es es = true by simp [eqG]] at h
                  exact h)
                have GK7 := GK6.out.next hb7
                have HW8 := Lib.hid hw8
                clear ho7 hb7 hb8 hw8 x0 x1 x2 x3 x4 y0 y1 y2 y3 y4 hd0 hd1 DC
                obtain ⟨x0, x1, x2, x3, x4⟩ := box_facts GK7.box
                clear GK7
                go_wp2_with fail
                rw [← HW8.out]
                refine SC.out.mono ?_
                rintro e w9 ⟨rfl, hb9⟩
                have HB9 := Lib.hid (show Below w.heap.size w w9 from (G8.out.next hb9).old)
                clear hb9
                go_wp2
                go_ret
                exact ⟨rfl, HB9.out⟩
              · have HF2 := Lib.hid (show ∀ t, t < j + 1 → L[t]? ≠ some (0, m) from fun t ht => by
                  by_cases e : t = j
                  · rw [e, he]
                    intro h
                    injection h with h
                    injection h with _ h
                    exact hp2 h
                  · exact HF.out t (by omega))
                have t1 : (p2 == (M : Int) - 1) = false := by rw [← HM.out]; simpa using hp2
                subst hp1
                clear he HF hp2
                go_wp2
                rw [← HW6.out]
                exact ⟨⟨j + 1, by go_num, by omega, HF2, GK6.out, XK6.out⟩, by simp [intOf]; omega⟩
            · have HF2 := Lib.hid (show ∀ t, t < j + 1 → L[t]? ≠ some (0, m) from fun t ht => by
                by_cases e : t = j
                · rw [e, he]
                  intro h
                  injection h with h
                  injection h with h _
                  exact hp1 h
                · exact HF.out t (by omega))
              have t1 : (p1 == 0) = false := by simpa using hp1
              clear he HF hp1
              go_wp2
              rw [← HW6.out]
              exact ⟨⟨j + 1, by go_num, by omega, HF2, GK6.out, XK6.out⟩, by simp [intOf]; omega⟩
          · exfalso
            obtain ⟨t, ht⟩ := List.getElem?_of_mem HMM.out
            have := (List.getElem?_eq_some_iff.1 ht).1
            exact HF.out t (by omega) ht
  · have hsi : (1048576 : Int) < (xs.length : Int) := by omega
    have hsj : (xs.length : Int) ≤ 9223372036854775807 := by omega
    clear hS
    go_enter Try.func3, Try.ntmps3
    go_wp2
    go_ret
    exact ⟨rfl, Below.refl _ _⟩
end Go.Proofs.Ytbojbifpaecbcaa
