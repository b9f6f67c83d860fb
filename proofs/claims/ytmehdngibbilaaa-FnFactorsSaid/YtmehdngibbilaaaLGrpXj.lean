/- The critical group: the program's ClassesOf. -/
import Derived.Test.YtmehdngibbilaaaLGrpXi
import Derived.Test.YtmehdngibbilaaaLBI
import Derived.Test.YtmehdngibbilaaaLBJ
namespace Go.Proofs.Ytmehdngibbilaaa
open Go.RowKit
attribute [local go_sem] Oper.semAt_some

theorem spared_iff {M : Nat} {es : List (Int × Int)} {d : List Int} (hM : 0 < M) : (((sparedL M (burntL M es d 0)).length : Int) == 0) = burnsB M es d := by
  have hb := (burntL_all (M := M) (es := es) (d := d) (q := 0) (by omega)).1
  unfold burnsB
  rw [Bool.eq_iff_iff, decide_eq_true_eq]
  simp only [beq_iff_eq]
  constructor
  · intro h
    exact spared_nil (q := 0) hb (List.eq_nil_of_length_eq_zero (by omega))
  · intro h
    have e : sparedL M (burntL M es d 0) = [] := by
      refine List.eq_nil_iff_forall_not_mem.2 fun x hx => ?_
      obtain ⟨h1, h2, h3⟩ := sparedL_mem.1 hx
      obtain ⟨v, rfl⟩ : ∃ v : Nat, x = (v : Int) := ⟨x.toNat, by omega⟩
      exact h3 (hb.full h v (by omega))
    rw [e]
    rfl
theorem cls_calls {m : Nat} {es : List (Int × Int)} (hG : GrL m es) (A : Option Addr) (c : Nat) (d : List Int) (hd : d.length = m + 1) :
    (∀ (D : Option Addr) (cd : Nat) (W : World), IntS W W.heap.size D d → Calls Try.prog 75 #[.agg #[.int .i64 ((m + 1 : Nat) : Int), .slice A es.length c], .slice D (m + 1) cd] W (GivesBoard W A es.length c d)) ∧
    (∀ (pb g cg : Nat) (W : World), Blk W pb 116 #[.slice A es.length c, .slice (some ⟨g, 0, none⟩) d.length cg] → Chips W g d → EdgeS W W.heap.size A es → Calls Try.prog 76 #[.pointer (some ⟨pb, 0, none⟩), .int .i64 0] W (GivesFire W (m + 1) es d 0 pb)) ∧
    (∀ (B base pf gh ch pb : Nat) (h : Nat → Int) (W : World), Blaze W B base pf gh ch pb (m + 1) (burntL (m + 1) es d 0) h → Calls Try.prog 77 #[.pointer (some ⟨pf, 0, none⟩)] W (GivesInts W (sparedL (m + 1) (burntL (m + 1) es d 0)))) := by
  have h5 := hG.m5
  refine ⟨fun D cd W h => ?_, fun pb g cg W h1 h2 h3 => ?_, fun B base pf gh ch pb h W hz => ?_⟩
  · have k := boardOf_any ((m + 1 : Nat) : Int) A D es.length c cd d W (by omega) (by omega) h
    rw [hd] at k
    exact k
  · rw [hd] at h1
    exact burn_any pb g cg c (m + 1) 0 A es d W (by omega) (by omega) (by omega) hd hG.n12 hG.ed h1.lt h1 h2 h3
  · have hb := (burntL_all (M := m + 1) (es := es) (d := d) (q := 0) (by omega)).1
    have hl := hb.len
    exact spared_any B base pf gh ch pb (m + 1) _ h W (by omega) (by omega) (by
      have := hb.first
      cases e : burntL (m + 1) es d 0 with
      | nil => rw [e] at this; simp at this
      | cons x l => simp) hz
theorem effOf_new (n k : Int) (W : World) : Calls Try.prog 74 #[.int .i64 n, .int .i64 k] W fun e w' =>
    ∃ b1 b2 : Nat, e = .returned (.func (.func 119) #[] #[.pointer (some ⟨b1, 0, none⟩), .pointer (some ⟨b2, 0, none⟩)]) ∧ Boxed w' b1 3 (.int .i64 n) ∧ Boxed w' b2 3 (.int .i64 k) ∧ Below W.heap.size W w' := by
  refine (effectiveOf_any n k W).mono ?_
  rintro e w' ⟨rfl, rfl⟩
  have h := Boxed.new (W.alloc (.cells #[.int .i64 n] 3)) 3 (.int .i64 k)
  rw [World.size_alloc] at h
  exact ⟨_, _, rfl, (Boxed.new W _ _).alloc _, h, ((Below.refl _ _).alloc (Nat.le_refl _) _).alloc (by simp) _⟩
set_option maxRecDepth 100000 in
set_option maxHeartbeats 4000000 in
theorem implCls (N : Int) (A : Option Addr) (c : Nat) (es : List (Int × Int)) (w : World) (hn : es.length ≤ 1048576) (hE : EdgeS w w.heap.size A es) :
    Calls Try.prog 29 #[.agg #[.int .i64 N, .slice A es.length c]] w fun e w' => ∃ (A2 : Option Addr) (c2 : Nat), e = .returned (.tuple #[.slice A2 (clsC N es).length c2, .bool (clsOk N es)]) ∧ OwnSS w' w.heap.size w'.heap.size A2 (clsC N es) ∧ Below w.heap.size w w' := by
  have HE := Lib.hid hE
  have G0 := GB.start w N A c es
  have HD := fun w h1 => Lib.hid (implGraphOk N A c es w (by omega) h1)
  have HO := fun w h1 => Lib.hid (implOrdG N A c es w hn h1)
  cases h1 : graphB N es with
  | false =>
    rw [h1] at HD
    have h0 : clsOk N es = false := by rw [clsOk, h1]; rfl
    rw [clsC_f h0, h0]
    clear h1 h0 hE HO
    refine callsIn_wide.1 (callsIn_of_wp_marks (n := 9) Try.func29 rfl trivial (wpIn_wide.2 ?_) rfl)
    simp only [Try.ntmps29, List.size_toArray, List.length_cons, List.length_nil, Nat.reduceAdd, Nat.reduceSub, Array.replicate_succ, Array.replicate_zero, List.push_toArray, List.append_toArray, List.nil_append, List.cons_append]
    go_wp2_with fail
    refine (HD _ (HE.out.up_ G0.old)).out.mono ?_
    rintro e w1 ⟨rfl, hb1⟩
    have G1 := Lib.hid (G0.next hb1)
    clear G0 hb1
    go_wp2
    exact marks_leave (B := w.heap.size) (fun h => (by cases h)) [] w1 (by simp) (fun D hE => by simp at hE) (fun w' hw' => ⟨_, results_tmp2 rfl _ _ _, none, 0, rfl, OwnSS.nil _ _ _ _, G1.out.old.trans (hw'.below (Nat.le_refl _) G1.out.old.size)⟩)
  | true =>
    rw [h1] at HD
    by_cases h2 : treesB N es ≤ 400
    · have h0 : clsOk N es = true := by rw [clsOk, h1, decide_eq_true h2]; rfl
      obtain ⟨m, rfl, hG⟩ := grl_of h1
      have h5 := hG.m5
      have HGN := fun w h => Lib.hid (implGenT ((m + 1 : Nat) : Int) A c es w h1 h)
      have hmE := few_edges hG w
      have hn12 := hG.n12
      obtain ⟨k, hk⟩ : ∃ k, k = es.length - m := ⟨_, rfl⟩
      have hgn : (es.length : Int) - ((m + 1 : Nat) : Int) + 1 = (k : Int) := by omega
      rw [hgn] at HGN
      have hcls := eff_cls hG w
      have hfew := effG_few hG
      rw [← hk] at hcls hfew
      rw [clsC_t h0, h0, hcls.eq]
      obtain ⟨T, hT⟩ : ∃ T, T = treesB ((m + 1 : Nat) : Int) es := ⟨_, rfl⟩
      rw [← hT] at HO h2
      have t2 : ¬ (400 : Int) < T := by omega
      have hk12 : k ≤ 12 := by omega
      obtain ⟨EC, hEC⟩ : ∃ q : Nat → List (List Int), q = effC m es (k : Int) := ⟨_, rfl⟩
      obtain ⟨EL, hEL⟩ : ∃ q, q = effB (m + 1) (k : Int) := ⟨_, rfl⟩
      rw [← hEC, ← hEL]
      rw [← hEL] at hfew
      have HEC0 := Lib.hid (show EC 0 = [] by rw [hEC]; rfl)
      have HECS := Lib.hid (show ∀ (t : Nat) (r : List Int), EL[t]? = some r → EC (t + 1) = EC t ++ if burnsB (m + 1) es (lowC (k : Int) r) = true then [lowC (k : Int) r] else [] from fun t r h => by rw [hEC]; rw [hEL] at h; exact effC_step h)
      have HECL := Lib.hid (show ∀ t, (EC t).length ≤ t from fun t => by rw [hEC]; exact effC_len _ _)
      have HEM := Lib.hid (show ∀ r ∈ EL, r.length = m + 1 ∧ ∀ y ∈ r, 0 ≤ y ∧ y ≤ (k : Int) from fun r h => by rw [hEL] at h; exact effB_mem _ _ r h)
      have HIT0 := Lib.hid (show ∀ (b1 b2 : Nat) (W : World), Boxed W b1 3 (.int .i64 ((m + 1 : Nat) : Int)) → Boxed W b2 3 (.int .i64 (k : Int)) → Itr w.heap.size 119 #[.pointer (some ⟨b1, 0, none⟩), .pointer (some ⟨b2, 0, none⟩)] EL W from fun b1 b2 W k1 k2 => by rw [hEL]; exact efo_itr w.heap.size m k b1 b2 W (by omega) (by omega) k1 k2)
      have HSD := Lib.hid (cls_calls hG A c)
      have hM6 : m + 1 ≤ 6 := by omega
      have hM0 : 0 < m + 1 := by omega
      clear h0 h1 h2 hE hT hgn hcls hmE hk hG hEC hEL h5
      generalize m + 1 = M at *
      refine callsIn_wide.1 (callsIn_of_wp_marks (n := 9) Try.func29 rfl trivial (wpIn_wide.2 ?_) rfl)
      simp only [Try.ntmps29, List.size_toArray, List.length_cons, List.length_nil, Nat.reduceAdd, Nat.reduceSub, Array.replicate_succ, Array.replicate_zero, List.push_toArray, List.append_toArray, List.nil_append, List.cons_append]
      go_wp2_with fail
      refine (HD _ (HE.out.up_ G0.old)).out.mono ?_
      rintro e w1 ⟨rfl, hb1⟩
      have G1 := Lib.hid (G0.next hb1)
      have c0 := G1.out.c0
      have c1 := G1.out.c1
      clear G0 hb1
      go_wp2_with fail
      refine (HO _ (HE.out.up_ G1.out.old)).out.mono ?_
      rintro e w2 ⟨rfl, hb2⟩
      have G2 := Lib.hid (G1.out.next hb2)
      clear hb2 c0 c1
      have c0 := G2.out.c0
      have c1 := G2.out.c1
      go_wp2_with fail
      refine (HGN _ (HE.out.up_ G2.out.old)).out.mono ?_
      rintro e w3 ⟨rfl, hb3⟩
      have G3 := Lib.hid (G2.out.next hb3)
      clear hb3 c0 c1
      have c0 := G3.out.c0
      have c1 := G3.out.c1
      have hw3 := G3.out.lt
      have hs31 : (w3.alloc (.cells #[.int .i64 (k : Int)] 3)).heap.size = w3.heap.size + 1 := by simp
      have hbz : Below w3.heap.size w3 ((w3.alloc (.cells #[.int .i64 (k : Int)] 3)).alloc (.cells #[.slice none 0 0] 30)) := ((Below.refl _ _).alloc (Nat.le_refl _) _).alloc (by simp) _
      have hgbz : Boxed ((w3.alloc (.cells #[.int .i64 (k : Int)] 3)).alloc (.cells #[.slice none 0 0] 30)) w3.heap.size 3 (.int .i64 (k : Int)) := (Boxed.new w3 _ _).alloc _
      have hcbz := Boxed.new (w3.alloc (.cells #[.int .i64 (k : Int)] 3)) 30 (.slice none 0 0)
      rw [hs31] at hcbz
      have GZ := Lib.hid (G3.out.next hbz)
      have HGZ := Lib.hid hgbz
      have HCZ := Lib.hid hcbz
      clear hs31 hbz hgbz hcbz
      go_wp2_with fail
      refine (effOf_new _ _ _).mono ?_
      rintro e w4 ⟨b1, b2, rfl, hx1, hx2, hb4⟩
      have G4 := Lib.hid (GZ.out.next hb4)
      have HG4 := Lib.hid (show Boxed w4 w3.heap.size 3 (.int .i64 (k : Int)) from (hb4.block _ HGZ.out.lt).trans HGZ.out)
      have HC4 := Lib.hid (show Boxed w4 (w3.heap.size + 1) 30 (.slice none 0 0) from (hb4.block _ HCZ.out.lt).trans HCZ.out)
      have HIT := Lib.hid (HIT0.out b1 b2 w4 hx1 hx2)
      have HI0 := Lib.hid (show ClsI w3 w4 (w3.heap.size + 1) (EC 0) from by rw [HEC0.out]; exact ⟨_, [], fun _ => 0, fun _ => 0, HC4.out, ⟨rfl, .inl ⟨rfl, rfl⟩⟩, fun i r h => by simp at h, fun i j _ h => by simp at h, fun i h => by simp at h, fun _ => rfl⟩)
      have hq4 := G4.out.old.size
      have hg4 := HG4.out.lt
      clear hx1 hx2 hb4 GZ HGZ HCZ HC4 c0 c1 HGN HO HD HIT0 HEC0
      go_wp2
      have hmx : Try.prog.follows .mixedOrders = true := by kernel_rfl
      refine wpIn_wide.1 (range_it (n := 9) (q := w.heap.size) (L := EL) rfl (enters_of Try.func119 (by kernel_rfl) rfl) HIT.out hq4 (Below.refl _ _)
        (fun t Z => GB w Z (M : Int) A c es ∧ Boxed Z w3.heap.size 3 (.int .i64 (k : Int)) ∧ ClsI w3 Z (w3.heap.size + 1) (EC t)) (fun _ _ _ => False) ?abd ?abdx ⟨G4.out, HG4.out, HI0.out⟩
        (fun v => { tmps := #[.agg #[.int .i64 (M : Int), .slice A es.length c], .pointer (some ⟨w.heap.size, 0, none⟩), .slice none 0 0, .bool false, .pointer (some ⟨w3.heap.size, 0, none⟩), .pointer (some ⟨w3.heap.size + 1, 0, none⟩), v,
          .agg #[.int .i64 (M : Int), .slice A es.length c], .bool true, .bool false, .bool false, .agg #[.int .i64 (M : Int), .slice A es.length c], .int .i64 T, .bool (decide (400 < T)), .bool (decide (400 < T)),
          .agg #[.int .i64 (M : Int), .slice A es.length c], .int .i64 (k : Int), .pointer (some ⟨w.heap.size, 0, none⟩), .int .i64 (M : Int), .int .i64 (k : Int),
          .func (.func 119) #[] #[.pointer (some ⟨b1, 0, none⟩), .pointer (some ⟨b2, 0, none⟩)], v,
          undef, undef, undef, undef, undef, undef, undef, undef, undef, undef, undef, undef, undef, undef, undef, undef, undef, undef], defers := [] }) ?assign ?body ?done ?stop)
      case abd =>
        rintro t X Y ⟨h1, h2, h3⟩ hs
        exact ⟨⟨hs.keep _ _ h1.box (.inl rfl), h1.old.trans (hs.below hq4 h1.old.size)⟩, box_stp h2 hs, h3.ck (CK.of_stp hs)⟩
      case abdx => exact fun c t X Y h hs => h
      case stop => exact fun c t Z h => h.elim
      case assign =>
        intro l2 v Wz K hK
        gi_wp2
        exact hK
      case body =>
        clear G4 HG4 HI0 HIT
        rintro l2 t b cc r X Y hl2 ⟨h1, h2, h3⟩ hs hr ⟨hfb, hfo⟩
        have hck := CK.of_stp hs
        have g1 : GB w Y (M : Int) A c es := ⟨hs.keep _ _ h1.box (.inl rfl), h1.old.trans (hs.below hq4 h1.old.size)⟩
        have g2 := box_stp h2 hs
        have hxs := h1.old.size
        have hXw := h1.lt
        have hX3 := h2.lt
        have hbl := (World.ownsRow.lt hfo b rfl).2
        obtain ⟨hrl, hry⟩ := HEM.out r (List.mem_of_getElem? hr)
        obtain ⟨x, hx⟩ : ∃ x, r[0]? = some x := ⟨_, List.getElem?_eq_getElem (by omega)⟩
        obtain ⟨hx0, hx1⟩ := hry x (List.mem_of_getElem? hx)
        have hgx : gt r 0 = x := by simp [gt, List.getD, hx]
        obtain ⟨g', o', e', -, -, hcells⟩ := OwnI.of_own hfo (by omega)
        simp only [Option.some.injEq, Addr.mk.injEq, and_true] at e'
        obtain ⟨rfl, rfl⟩ := e'
        have q1 := (hcells 0 x hx).1
        have q2 := (hcells 0 x hx).2
        rw [Nat.zero_add] at q1 q2
        have hwx : IntKind.i64.wrap (x - (k : Int)) = x - (k : Int) := by rw [IntKind.wrap_i64]; omega
        have hst := World.ownsRow.stored hfo 0 (.int .i64 (x - (k : Int)))
        have hlow : (intCells r).set 0 (.int .i64 (x - (k : Int))) = intCells (lowC (k : Int) r) := by rw [lowC, hgx]; simp [intCells, List.map_set]
        rw [hlow] at hst
        have hll := lowC_len (k : Int) r
        have HSTEP := Lib.hid (HECS.out t r hr)
        obtain ⟨d, hd⟩ : ∃ d, d = lowC (k : Int) r := ⟨_, rfl⟩
        rw [← hd] at hst hll HSTEP
        have hdl : d.length = M := by omega
        obtain ⟨Y0, hY0⟩ : ∃ z, z = Y.setCell ⟨b, 0, none⟩ (.int .i64 (x - (k : Int))) := ⟨_, rfl⟩
        obtain ⟨Y1, hY1⟩ : ∃ z, z = Y0.drew := ⟨_, rfl⟩
        have hY2 := Lib.hid (show Y1 = (Y.setCell ⟨b, 0, none⟩ (.int .i64 (x - (k : Int)))).drew by rw [hY1, hY0])
        rw [← hY0] at hst
        have hd01 : Below Y0.heap.size Y0 Y1 := by rw [hY1]; exact (Below.refl _ _).drew
        have hck0 : CK X Y0 := by rw [hY0]; exact hck.store (by simpa using hfb)
        have HCK1 := Lib.hid (hck0.below hd01)
        have hsz1 : Y1.heap.size = Y.heap.size := by rw [hY1, hY0]; simp [World.setCell]
        have G1 := Lib.hid ((show GB w Y0 (M : Int) A c es from by rw [hY0]; exact ⟨g1.box.far (by simp only; omega) _, g1.old.setCell (p := ⟨b, 0, none⟩) (by simp only; omega) _⟩).next hd01)
        have HQ1 := Lib.hid (show QOwn Y1 X.heap.size (.slice (some ⟨b, 0, none⟩) d.length cc) d from by
          have h := hst.1
          rw [← hll] at h
          exact QOwn.below h hd01)
        have HR1 := Lib.hid (show Rnd w.heap.size w4.heap.size X.heap.size Y Y1 from (show Rnd w.heap.size w4.heap.size X.heap.size Y Y0 from by rw [hY0]; exact rnd_store hfo hfb (by omega)).trans (Rnd.of_below hd01 _ _ _))
        have HKX := Lib.hid h3
        have HGX := Lib.hid h2
        obtain ⟨p1, p2, p3⟩ := HSD.out d hdl
        have HPB := Lib.hid p1
        have HPN := Lib.hid p2
        have HPS := Lib.hid p3
        have hsp := spared_iff (es := es) (d := d) (M := M) hM0
        obtain ⟨S, hS⟩ : ∃ q, q = sparedL M (burntL M es d 0) := ⟨_, rfl⟩
        obtain ⟨BR, hBR⟩ : ∃ q, q = burntL M es d 0 := ⟨_, rfl⟩
        rw [← hS] at hsp
        have HPN := Lib.hid (show ∀ (pb g cg : Nat) (W : World), Blk W pb 116 #[.slice A es.length c, .slice (some ⟨g, 0, none⟩) d.length cg] → Chips W g d → EdgeS W W.heap.size A es → Calls Try.prog 76 #[.pointer (some ⟨pb, 0, none⟩), .int .i64 0] W (fun e w' => ∃ (base pf gh ch : Nat) (h : Nat → Int), e = .returned (.pointer (some ⟨pf, 0, none⟩)) ∧ Blaze w' W.heap.size base pf gh ch pb M BR h ∧ Below W.heap.size W w') from fun pb g cg W q1 q2 q3 => (HPN.out pb g cg W q1 q2 q3).mono fun e w' ⟨base, pf, gh, ch, h, k1, k2, _, k4⟩ => ⟨base, pf, gh, ch, h, k1, by rw [hBR]; exact k2, k4⟩)
        have HPS := Lib.hid (show ∀ (B base pf gh ch pb : Nat) (h : Nat → Int) (W : World), Blaze W B base pf gh ch pb M BR h → Calls Try.prog 77 #[.pointer (some ⟨pf, 0, none⟩)] W (GivesInts W S) from fun B base pf gh ch pb h W hz => by rw [hS]; rw [hBR] at hz; exact HPS.out B base pf gh ch pb h W hz)
        have cgb := g2.cell
        rw [hrl]
        have hM1 : (0 : Int) < (M : Int) := by omega
        have HDL := Lib.hid hdl
        have hXb : X.heap.size ≤ b := hfb
        have hEL := (List.getElem?_eq_some_iff.1 hr).1
        have hYX := hs.size
        have HEL := Lib.hid (HECL.out t)
        have hcbx : w3.heap.size + 1 < X.heap.size := by
          obtain ⟨v, vs, G, C, k1, -⟩ := h3
          exact k1.lt
        obtain ⟨i1, hj, hy0, hy1, hy2⟩ := info_parts rowsInfo
        clear h1 h2 h3 hs hr hfo hck hck0 g1 g2 hry hx hgx hcells hst hlow hll hrl HSD p1 p2 p3 hS hBR hY1 hY0 hd01 hd
        gi_wp2
        refine region_round hmx (by kernel_rfl) ?_
        refine wpAnyIn_take (i := 0) (v := .slice (some ⟨b, 0, none⟩) M cc) rfl rfl (by kernel_rfl) (by kernel_rfl) (by kernel_rfl) (fun _ _ _ h => h) ⟨Or.inl ⟨by rfl, fun w => ?_⟩, fun _ => rfl⟩ ?_
        · go_simp
        refine wpAnyIn_take (i := 1) (v := .pointer (some ⟨b, 0, none⟩)) rfl rfl (by kernel_rfl) (by kernel_rfl) (by kernel_rfl) (fun _ _ _ h => h) ⟨Or.inl ⟨by rfl, fun w => ?_⟩, fun _ => rfl⟩ ?_
        · go_simp
        refine wpAnyIn_ready (rs := [2, 3]) (by kernel_rfl) (by simp) ?_
        refine AllReadyIn.cons rfl (fun K hK => ?_) (AllReadyIn.cons rfl (fun K hK => ?_) AllReadyIn.nil)
        all_goals
          go_simp
          refine hK _ _ ?_
          clear hK K
        refine wpAnyIn_ready (rs := [3]) (by kernel_rfl) (by simp) ?_
        rotate_left
        refine wpAnyIn_ready (rs := [2]) (by kernel_rfl) (by simp) ?_
        rotate_left
        all_goals
          refine AllReadyIn.cons rfl (fun K hK => ?_) AllReadyIn.nil
          go_simp
          refine hK _ _ ?_
          clear hK K
          refine wpAnyIn_take (i := 4) (v := .int .i64 (x - (k : Int))) rfl rfl (by kernel_rfl) (by kernel_rfl) (by kernel_rfl) (fun _ _ _ h => h) ⟨Or.inl ⟨by rfl, fun w => ?_⟩, fun _ => rfl⟩ ?_
          · go_simp
          refine wpAnyIn_take (i := 5) (v := .pointer (some ⟨b, 0, none⟩)) rfl rfl (by kernel_rfl) (by kernel_rfl) (by kernel_rfl) (fun _ _ _ h => h) ⟨Or.inl ⟨by rfl, fun w => ?_⟩, fun _ => rfl⟩ ?_
          · go_simp
          refine wpAnyIn_ready (rs := [6]) (by kernel_rfl) (by simp) ?_
          refine AllReadyIn.cons rfl (fun K hK => ?_) AllReadyIn.nil
          go_simp
          refine hK _ _ ?_
          clear hK K
          refine wpAnyIn_done (by kernel_rfl) ?_ _
          rw [← hY2.out]
          clear hY2 q1 q2 cgb
          have c0 := G1.out.c0
          have c1 := G1.out.c1
          gi_wp2_with fail
          refine ⟨trivial, (callsIn_wide.2 (HPB.out (some ⟨b, 0, none⟩) cc _ HQ1.out.ints)).mono ?_⟩
          rintro e wb ⟨pp, gg, cg, rfl, hbd, hch, -, -, hbb⟩
          have Gb := Lib.hid (G1.out.next hbb)
          have HBD := Lib.hid hbd
          have HCH := Lib.hid hch
          have HBB := Lib.hid hbb
          clear hbd hch hbb c0 c1
          gi_wp2_with fail
          refine ⟨trivial, (callsIn_wide.2 (HPN.out pp gg cg wb HBD.out HCH.out (HE.out.up_ Gb.out.old))).mono ?_⟩
          rintro e wf ⟨base, pf, gh, ch, h, rfl, hz, hbf⟩
          have HZ := Lib.hid hz
          have HBF := Lib.hid (HBB.out.trans (hbf.mono HBB.out.size))
          clear hz hbf
          gi_wp2_with fail
          refine ⟨trivial, (callsIn_wide.2 (HPS.out _ base pf gh ch pp h wf HZ.out)).mono ?_⟩
          rintro e ws ⟨As, cs, rfl, -, hbs⟩
          have HBS := Lib.hid (HBF.out.trans (hbs.mono HBF.out.size))
          clear hbs HBF HBB HZ HBD HCH
          have HCKS := Lib.hid (HCK1.out.below HBS.out)
          have HRS := Lib.hid (HR1.out.trans (Rnd.of_below HBS.out w.heap.size w4.heap.size X.heap.size))
          have GS := Lib.hid (G1.out.next HBS.out)
          have HGS := Lib.hid (HCKS.out.keep _ _ HGX.out rfl)
          have HQS := Lib.hid (QOwn.below HQ1.out HBS.out)
          have hss := HBS.out.size
          cases hB : burnsB M es d with
          | false =>
            rw [hB] at hsp
            rw [hB, if_neg (by decide), List.append_nil] at HSTEP
            have HFIN := Lib.hid (HKX.out.ck HCKS.out)
            clear hB HBS HKX HGX HPB HPN HPS Gb G1 HCK1 HR1 HQ1
            gi_wp2
            exact ⟨HRS.out, GS.out, HGS.out, by rw [HSTEP.out]; exact HFIN.out⟩
          | true =>
            rw [hB] at hsp
            rw [hB, if_pos rfl] at HSTEP
            obtain ⟨v, vs, G, C, k1, k2, k3, k4, k5, k7⟩ := HKX.out
            have ow : ∀ {base e s k : Nat} {v : Value} {xs : List Value}, X.ownsRow base e s v k xs → ws.ownsRow base e s v k xs := fun h => own_kept h fun j _ hj => HCKS.out.keep j _ hj rfl
            have s1 : Boxed ws (w3.heap.size + 1) 30 v := HCKS.out.keep _ _ k1 rfl
            have s2 := ow k2
            have hxs2 := HCKS.out.size
            have hvl : vs.length = (EC t).length := by have := k2.1; omega
            have hvs : ∀ u ∈ vs, ∃ A k c, u = .slice A k c := fun u hu => by
              obtain ⟨i, hi⟩ := List.getElem?_of_mem hu
              have hil := (List.getElem?_eq_some_iff.1 hi).1
              obtain ⟨q1, -, -⟩ := k3 i ((EC t)[i]'(by omega)) (List.getElem?_eq_getElem (by omega))
              rw [hi] at q1
              injection q1 with q1
              exact ⟨_, _, _, q1⟩
            have FIN := Lib.hid (show ∀ w9 v', w9.ownsRow w3.heap.size 27 1 v' ((EC t).length + 1) (vs ++ [.slice (some ⟨b, 0, none⟩) d.length cc]) → (ws.alloc (.cells #[.slice (some ⟨b, 0, none⟩) d.length cc] 27)).grownBy w9 v.ownBlock →
                Rnd w.heap.size w4.heap.size X.heap.size Y (w9.setCell ⟨w3.heap.size + 1, 0, none⟩ v') ∧ GB w (w9.setCell ⟨w3.heap.size + 1, 0, none⟩ v') (M : Int) A c es ∧ Boxed (w9.setCell ⟨w3.heap.size + 1, 0, none⟩ v') w3.heap.size 3 (.int .i64 (k : Int)) ∧ ClsI w3 (w9.setCell ⟨w3.heap.size + 1, 0, none⟩ v') (w3.heap.size + 1) (EC (t + 1)) from fun w9 v' ho hg => by
              have hal : Below ws.heap.size ws (ws.alloc (.cells #[.slice (some ⟨b, 0, none⟩) d.length cc] 27)) := (Below.refl _ _).alloc (Nat.le_refl _) _
              have GA := GS.out.next hal
              have hlow : ∀ q, v.ownBlock = some q → w3.heap.size ≤ q := fun q hq => (s2.lt q hq).1
              refine ⟨HRS.out.trans (cls_rnd (w0 := w3) k7 (by omega) (by omega) s1 s2 hvs rfl hg), ⟨(GA.box.grown hg (fun h => by have := hlow _ h; omega)).far (by simp only; omega) _, (GA.old.grown hg GA.old.size (fun q hq => by have := hlow q hq; omega)).setCell (p := ⟨w3.heap.size + 1, 0, none⟩) (by simp only; omega) _⟩, ?_, ?_⟩
              · have g5 : Boxed (ws.alloc (.cells #[.slice (some ⟨b, 0, none⟩) d.length cc] 27)) w3.heap.size 3 (.int .i64 (k : Int)) := Boxed.alloc HGS.out _
                exact (Boxed.kept g5 hg (Boxed.not_row g5 (by decide) (s2.alloc _))).other (by omega) _
              · rw [HSTEP.out]
                exact ClsI.push s1 s2 (fun i r hr => by
                  obtain ⟨q1, q2, q3⟩ := k3 i r hr
                  exact ⟨q1, q2, ow q3⟩) k4 (fun i hi => by have := k5 i hi; omega) (fun i hi => by have := k5 i hi; omega) (ownsRow_mono HQS.out (by omega)) (by omega) (by omega) rfl ho hg)
            have KEEP := Lib.hid (show ∀ w9, (ws.alloc (.cells #[.slice (some ⟨b, 0, none⟩) d.length cc] 27)).grownBy w9 v.ownBlock → Boxed w9 (w3.heap.size + 1) 30 v from fun w9 hg => Boxed.kept (s1.alloc _) hg (Boxed.not_row (s1.alloc (.cells #[.slice (some ⟨b, 0, none⟩) d.length cc] 27)) (by decide) (s2.alloc _)))
            have Y2 := Lib.hid (s2.alloc (.cells #[.slice (some ⟨b, 0, none⟩) d.length cc] 27))
            have n3 : (EC t).length + 1 ≤ maxLen := by have := HEL.out; unfold maxLen; omega
            have n4 : ((EC t).length + 1) * 24 ≤ 140737488355328 := by have := HEL.out; omega
            have n5 : w3.heap.size ≤ (ws.alloc (.cells #[.slice (some ⟨b, 0, none⟩) d.length cc] 27)).heap.size := by simp; omega
            have cbx := s1.cell
            have fbx := s1.frozen
            rw [HDL.out] at FIN KEEP Y2 n5
            clear hB HBS HKX HGX HPB HPN HPS Gb G1 HCK1 HR1 HQ1 k1 k2 k3 k4 k5 k7 s1 s2 ow hvs hvl HRS GS HGS HQS HSTEP
            gi_wp2_with (gi_at_builtin; refine wpListIn_append_own _ rfl _ _ 30 rfl w3.heap.size 27 i1 (.slice none 0 0) 1 24 Try.underlying30 hj hy0 hy1 hy2 rfl (by decide) _ _ _ rfl Y2.out ⟨ws.heap.size, 0, none⟩ 1 1 [_] rfl rfl (one_cell _ _ rfl _ _) (fun u hu => by rw [List.mem_singleton] at hu; rw [hu]; rfl) n3 n4 n5 ?_; intro v' w9 hown' hgrow _; have hbx := (KEEP.out w9 hgrow); have cb := hbx.cell; have fb := hbx.frozen; have HO := Lib.hid hown'; have HG := Lib.hid hgrow; clear hown' hgrow hbx; obtain ⟨A', m', c', rfl⟩ := own_sl HO.out)
            exact FIN.out w9 _ HO.out HG.out
      case done =>
        rintro Z ⟨h1, h2, h3⟩ hD
        obtain ⟨A9, c9, hbx, ho⟩ := h3.out (B := w.heap.size) (by omega)
        have cz := hbx.cell
        have H3 := Lib.hid h3
        have H1 := Lib.hid h1
        clear h1 h2 h3 ho
        go_wp2
        refine marks_leave (B := w.heap.size) (fun h => (by cases h)) [w4.heap.size] Z (by simp) (fun D hE => by
          rw [List.mem_singleton] at hE
          subst hE
          exact ⟨hq4, hD⟩) (fun w' hw' => ⟨_, results_tmp2 rfl _ _ _, ?_⟩)
        obtain ⟨A2, c2, hbx2, ho2⟩ := (H3.out.ck (CK.of_stp hw')).out (B := w.heap.size) (by omega)
        have h9 : Boxed w' (w3.heap.size + 1) 30 (.slice A9 (EC EL.length).length c9) := box_stp hbx hw'
        have h8 := (show w'.heap[w3.heap.size + 1]? = _ from h9).symm.trans hbx2
        simp only [Option.some.injEq, Obj.cells.injEq, Array.mk.injEq, List.cons.injEq, Value.slice.injEq, and_true, true_and] at h8
        obtain ⟨rfl, rfl⟩ := h8
        exact ⟨A9, c9, rfl, ho2, H1.out.old.trans (hw'.below (Nat.le_refl _) H1.out.old.size)⟩
    · have h0 : clsOk N es = false := by rw [clsOk, h1, decide_eq_false h2]; rfl
      rw [clsC_f h0, h0]
      obtain ⟨T, hT⟩ : ∃ T, T = treesB N es := ⟨_, rfl⟩
      rw [← hT] at HO h2
      have t2 : (400 : Int) < T := by omega
      clear h1 h0 hE hT h2
      refine callsIn_wide.1 (callsIn_of_wp_marks (n := 9) Try.func29 rfl trivial (wpIn_wide.2 ?_) rfl)
      simp only [Try.ntmps29, List.size_toArray, List.length_cons, List.length_nil, Nat.reduceAdd, Nat.reduceSub, Array.replicate_succ, Array.replicate_zero, List.push_toArray, List.append_toArray, List.nil_append, List.cons_append]
      go_wp2_with fail
      refine (HD _ (HE.out.up_ G0.old)).out.mono ?_
      rintro e w1 ⟨rfl, hb1⟩
      have G1 := Lib.hid (G0.next hb1)
      have c0 := G1.out.c0
      have c1 := G1.out.c1
      clear G0 hb1
      go_wp2_with fail
      refine (HO _ (HE.out.up_ G1.out.old)).out.mono ?_
      rintro e w2 ⟨rfl, hb2⟩
      have G2 := Lib.hid (G1.out.next hb2)
      clear hb2 c0 c1
      go_wp2
      exact marks_leave (B := w.heap.size) (fun h => (by cases h)) [] w2 (by simp) (fun D hE => by simp at hE) (fun w' hw' => ⟨_, results_tmp2 rfl _ _ _, none, 0, rfl, OwnSS.nil _ _ _ _, G2.out.old.trans (hw'.below (Nat.le_refl _) G2.out.old.size)⟩)
end Go.Proofs.Ytmehdngibbilaaa
