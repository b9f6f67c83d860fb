/- Parking functions: IsParking, ParkingOfPile, PileOfParking: both sides. -/
import Derived.Test.YtdpojcgeblbfeaaTIrcI
import Derived.Test.YtdpojcgeblbfeaaTIsRed
import Derived.Test.YtdpojcgeblbfeaaTMinI
set_option linter.all false
namespace Go.Proofs.Ytdpojcgeblbfeaa
open Go.RowKit

noncomputable def parkB (N : Int) (es : List (Int × Int)) (f : List Int) (q : Int) : Bool := isRedB N es f q && decide (f.getD q.toNat 0 = -1)
structure ParkL (M k : Nat) (es : List (Int × Int)) (f : List Int) : Prop where
  m0 : 0 < M
  m6 : M ≤ 6
  n12 : es.length ≤ 12
  ed : ∀ e ∈ es, 0 ≤ e.1 ∧ e.1 < e.2 ∧ e.2 < (M : Int)
  conn : Conn (M : Int) es
  len : f.length = M
  lim : ∀ u, -60 ≤ f.getD u 0 ∧ f.getD u 0 ≤ 60
  qm : k < M
  zero : f.getD k 0 = -1
  pos : ∀ u, u < M → u ≠ k → 0 ≤ f.getD u 0
  all : (burntL M es f (k : Int)).length = M
theorem red_parts {N : Int} {es : List (Int × Int)} {f : List Int} {q : Int} (h : isRedB N es f q = true) : ∃ M k : Nat, N = (M : Int) ∧ q = (k : Int) ∧ graphB N es = true ∧ 0 < M ∧ M ≤ 6 ∧ es.length ≤ 12 ∧ (∀ e ∈ es, 0 ≤ e.1 ∧ e.1 < e.2 ∧ e.2 < (M : Int)) ∧ Conn (M : Int) es ∧ f.length = M ∧ (∀ u, -60 ≤ f.getD u 0 ∧ f.getD u 0 ≤ 60) ∧ k < M ∧ (∀ u, u < M → u ≠ k → 0 ≤ f.getD u 0) ∧ (burntL M es f (k : Int)).length = M := by
  unfold isRedB at h
  simp only [Bool.and_eq_true, decide_eq_true_eq, Bool.not_eq_true'] at h
  obtain ⟨h1, h2, h3⟩ := h
  rw [burnR_t h1] at h3
  unfold burnOk at h1
  rw [Bool.and_eq_true] at h1
  obtain ⟨M, rfl, h0, h6, hn, hl, hes, hdb, hc⟩ := div_limsB h1.1
  obtain ⟨k1, k2⟩ := vB_iff h1.2
  obtain ⟨k, rfl⟩ : ∃ k : Nat, q = (k : Int) := ⟨q.toNat, by omega⟩
  refine ⟨M, k, rfl, rfl, (divB_all h1.1).1, h0, h6, hn, hes, hc, hl, hdb, by omega, fun u hu hne => ?_, by rw [Int.toNat_natCast] at h3; omega⟩
  have h4 := List.any_eq_false.1 h2 u (List.mem_range.2 (by omega))
  unfold debtAt at h4
  apply Classical.byContradiction
  intro hn2
  apply h4
  simp only [Bool.and_eq_true, Bool.not_eq_true', decide_eq_false_iff_not, decide_eq_true_eq]
  exact ⟨by omega, by omega⟩
theorem park_parts {N : Int} {es : List (Int × Int)} {f : List Int} {q : Int} (h : parkB N es f q = true) : ∃ M k : Nat, N = (M : Int) ∧ q = (k : Int) ∧ ParkL M k es f ∧ graphB N es = true := by
  unfold parkB at h
  rw [Bool.and_eq_true, decide_eq_true_eq] at h
  obtain ⟨M, k, rfl, rfl, hg, h0, h6, hn, hes, hc, hl, hlim, hk, hp, hb⟩ := red_parts h.1
  exact ⟨M, k, rfl, rfl, ⟨h0, h6, hn, hes, hc, hl, hlim, hk, by have := h.2; rwa [Int.toNat_natCast] at this, hp, hb⟩, hg⟩
theorem parkB_f {N : Int} {es : List (Int × Int)} {f : List Int} {q : Int} (h : isRedB N es f q = false) : parkB N es f q = false := by rw [parkB, h]; rfl
theorem parkB_t {N : Int} {es : List (Int × Int)} {f : List Int} {k : Nat} (h : isRedB N es f (k : Int) = true) : parkB N es f (k : Int) = (f.getD k 0 == -1) := by
  rw [parkB, h, Bool.true_and, Int.toNat_natCast]
  rfl
set_option maxRecDepth 100000 in
set_option maxHeartbeats 1000000 in
theorem specPark (N : Int) (A D : Option Addr) (c cd : Nat) (es : List (Int × Int)) (f : List Int) (q : Int) (w : World) (hn : es.length ≤ 1048576) (hd : f.length ≤ 1048576) (hE : EdgeS w w.heap.size A es) (hS : IntS w w.heap.size D f) :
    Calls Try.prog 37 #[.agg #[.int .i64 N, .slice A es.length c], .slice D f.length cd, .int .i64 q] w fun e w' => e = .returned (.bool (parkB N es f q)) ∧ Below w.heap.size w w' := by
  have HE := Lib.hid hE
  have HS := Lib.hid hS
  have G0 := GB.start w N A c es
  have HD := fun w h1 h2 => Lib.hid (specIsRed N A D c cd es f q w hn hd h1 h2)
  clear hE hS
  cases h1 : isRedB N es f q with
  | false =>
    rw [h1] at HD
    rw [parkB_f h1]
    clear h1
    go_enter Try.func37, Try.ntmps37
    go_wp2_with fail
    refine (HD _ (HE.out.up_ G0.old) (HS.out.up_ G0.old)).out.mono ?_
    rintro e w1 ⟨rfl, hb1⟩
    have G1 := Lib.hid (G0.next hb1)
    clear G0 hb1
    go_wp2
    go_ret
    exact ⟨rfl, G1.out.old⟩
  | true =>
    rw [h1] at HD
    obtain ⟨M, k, rfl, rfl, -, -, h6, -, -, -, hl, -, hk, -, -⟩ := red_parts h1
    have HV := Lib.hid (parkB_t h1)
    obtain ⟨b, o, x, rfl, hb, hx, hc⟩ := HS.out.at_ (k := k) (by omega)
    have HX := Lib.hid (show f.getD k 0 = x by rw [List.getD, hx]; rfl)
    rw [HV.out, HX.out]
    have hk0 : (0 : Int) ≤ (k : Int) := Int.natCast_nonneg _
    have hk1 : (k : Int) < (f.length : Int) := by omega
    clear h1 hl hx
    go_enter Try.func37, Try.ntmps37
    go_wp2_with fail
    refine (HD _ (HE.out.up_ G0.old) (HS.out.up_ G0.old)).out.mono ?_
    rintro e w1 ⟨rfl, hb1⟩
    have hc1 : w1.cell? ⟨b, o + k, none⟩ = some (.int .i64 x) := ((G0.old.trans (hb1.mono G0.old.size)).cell (p := ⟨b, o + k, none⟩) hb).trans hc
    have G1 := Lib.hid (G0.next hb1)
    clear G0 hb1 hc
    go_wp2
    go_ret
    exact ⟨rfl, G1.out.old⟩
set_option maxRecDepth 100000 in
set_option maxHeartbeats 1000000 in
theorem implPark (N : Int) (A D : Option Addr) (c cd : Nat) (es : List (Int × Int)) (f : List Int) (q : Int) (w : World) (hn : es.length ≤ 1048576) (hd : f.length ≤ 1048576) (hE : EdgeS w w.heap.size A es) (hS : IntS w w.heap.size D f) :
    Calls Try.prog 38 #[.agg #[.int .i64 N, .slice A es.length c], .slice D f.length cd, .int .i64 q] w fun e w' => e = .returned (.bool (parkB N es f q)) ∧ Below w.heap.size w w' := by
  have HE := Lib.hid hE
  have HS := Lib.hid hS
  have G0 := GB.start w N A c es
  have HD := fun w h1 h2 => Lib.hid (implIsRed N A D c cd es f q w hn hd h1 h2)
  clear hE hS
  cases h1 : isRedB N es f q with
  | false =>
    rw [h1] at HD
    rw [parkB_f h1]
    clear h1
    go_enter Try.func38, Try.ntmps38
    go_wp2_with fail
    refine (HD _ (HE.out.up_ G0.old) (HS.out.up_ G0.old)).out.mono ?_
    rintro e w1 ⟨rfl, hb1⟩
    have G1 := Lib.hid (G0.next hb1)
    clear G0 hb1
    go_wp2
    go_ret
    exact ⟨rfl, G1.out.old⟩
  | true =>
    rw [h1] at HD
    obtain ⟨M, k, rfl, rfl, -, -, h6, -, -, -, hl, -, hk, -, -⟩ := red_parts h1
    have HV := Lib.hid (parkB_t h1)
    obtain ⟨b, o, x, rfl, hb, hx, hc⟩ := HS.out.at_ (k := k) (by omega)
    have HX := Lib.hid (show f.getD k 0 = x by rw [List.getD, hx]; rfl)
    rw [HV.out, HX.out]
    have hk0 : (0 : Int) ≤ (k : Int) := Int.natCast_nonneg _
    have hk1 : (k : Int) < (f.length : Int) := by omega
    clear h1 hl hx
    go_enter Try.func38, Try.ntmps38
    go_wp2_with fail
    refine (HD _ (HE.out.up_ G0.old) (HS.out.up_ G0.old)).out.mono ?_
    rintro e w1 ⟨rfl, hb1⟩
    have hc1 : w1.cell? ⟨b, o + k, none⟩ = some (.int .i64 x) := ((G0.old.trans (hb1.mono G0.old.size)).cell (p := ⟨b, o + k, none⟩) hb).trans hc
    have G1 := Lib.hid (G0.next hb1)
    clear G0 hb1 hc
    go_wp2
    go_ret
    exact ⟨rfl, G1.out.old⟩
theorem sub_setz {M k : Nat} {es : List (Int × Int)} {r : List Int} {z : Int} (hes : ∀ e ∈ es, 0 ≤ e.1 ∧ e.1 < e.2 ∧ e.2 < (M : Int)) (hn : es.length ≤ 12) (hp : ∀ u, u < M → u ≠ k → -1000000 ≤ r.getD u 0 ∧ r.getD u 0 ≤ 1000000) : (subB (fullTo es k M) r).set k z = (dualL M k es r).set k z := by
  rw [← sub_set (k := k) hes hn hp, List.set_set]
theorem dual_set0 {M k : Nat} {es : List (Int × Int)} {r : List Int} (hk : k < M) : (dualL M k es r).set k 0 = dualL M k es r := by
  refine List.ext_getElem (by simp) fun i h1 h2 => ?_
  rw [List.getElem_set]
  split
  · next e =>
    subst e
    have := dual_get (q := k) (es := es) (c := r) hk
    rw [if_pos rfl] at this
    have h3 : (dualL M k es r).getD k 0 = (dualL M k es r)[k] := by simp [List.getD, h2]
    rw [← h3, this]
  · rfl
set_option maxRecDepth 100000 in
set_option maxHeartbeats 1000000 in
theorem missing_any (A D : Option Addr) (c cd M k : Nat) (z : Int) (es : List (Int × Int)) (r : List Int) (w : World) (hg : graphB (M : Int) es = true) (hk : k < M) (hM : M ≤ 6) (hn : es.length ≤ 12) (hes : ∀ e ∈ es, 0 ≤ e.1 ∧ e.1 < e.2 ∧ e.2 < (M : Int)) (hl : r.length = M)
    (hr : ∀ u, u < M → u ≠ k → -1000000 ≤ r.getD u 0 ∧ r.getD u 0 ≤ 1000000) (hE : EdgeS w w.heap.size A es) (hS : IntS w w.heap.size D r) :
    Calls Try.prog 100 #[.agg #[.int .i64 (M : Int), .slice A es.length c], .slice D M cd, .int .i64 (k : Int), .int .i64 z] w (fun e w' => ∃ (F : Option Addr) (cf : Nat), e = .returned (.slice F M cf) ∧ OwnI w' w.heap.size F ((dualL M k es r).set k z) ∧ Below w.heap.size w w') := by
  have HE := Lib.hid hE
  have HS := Lib.hid hS
  have G0 := GB.start w (M : Int) A c es
  have hfo : fullOk (M : Int) es (k : Int) = true := by rw [fullOk, hg, vB_t (by omega)]; rfl
  have HF := fun w h1 => Lib.hid (implFull (M : Int) A c es (k : Int) w (by omega) h1)
  rw [fullC_t hfo] at HF
  have HFL := Lib.hid (fullTo_len es k M)
  have HM := fun (X : Option Addr) (cx : Nat) (W : World) (h1 : IntS W W.heap.size X (fullTo es k M)) (h2 : IntS W W.heap.size D r) => Lib.hid (implMinus X D cx cd (fullTo es k M) r W (by rw [fullTo_len]; omega) (by rw [fullTo_len]; omega) h1 h2)
  rw [fullTo_len, hl] at HM
  have HQ := Lib.hid (sub_setz (k := k) (z := z) hes hn hr)
  have HSL := Lib.hid (show (subB (fullTo es k M) r).length = M by rw [subB_len, fullTo_len])
  have hki : (k : Int) < (M : Int) := by omega
  have hk0 : (0 : Int) ≤ (k : Int) := Int.natCast_nonneg _
  clear hE hS hr hes hfo hg
  go_enter Try.func100, Try.ntmps100
  go_wp2_with fail
  refine (HF _ (HE.out.up_ G0.old)).out.mono ?_
  rintro e w1 ⟨A1, c1', rfl, ho1, hb1⟩
  have G1 := Lib.hid (G0.next hb1)
  have HO1 := Lib.hid ho1.ints
  clear G0 hb1 ho1 HF
  go_wp2_with fail
  rw [HFL.out]
  refine (HM A1 c1' _ HO1.out (HS.out.up_ G1.out.old)).out.mono ?_
  rintro e w2 ⟨A2, c2', rfl, ho2, hb2⟩
  rw [HSL.out]
  have G2 := Lib.hid (G1.out.next hb2)
  obtain ⟨g, o, rfl, hg1, hg2, hcs⟩ := ho2 (by rw [HSL.out]; omega)
  obtain ⟨x, hx⟩ : ∃ x, (subB (fullTo es k M) r)[k]? = some x := ⟨_, List.getElem?_eq_getElem (by rw [HSL.out]; exact hk)⟩
  obtain ⟨f0, f1⟩ := hcs k x hx
  have HCS := Lib.hid hcs
  have G1s := G1.out.old.size
  have HB3 := Lib.hid (show Below w.heap.size w (w2.setCell ⟨g, o + k, none⟩ (.int .i64 z)) from G2.out.old.setCell (p := ⟨g, o + k, none⟩) (by simp only; omega) _)
  have HO3 := Lib.hid (show OwnI (w2.setCell ⟨g, o + k, none⟩ (.int .i64 z)) w.heap.size (some ⟨g, o, none⟩) ((dualL M k es r).set k z) from fun _ => ⟨g, o, rfl, by omega, by simpa [World.setCell] using hg2, fun i y hy => by
    rw [← HQ.out, List.getElem?_set] at hy
    rw [World.frozen?_setCell]
    by_cases hi : k = i
    · subst hi
      rw [if_pos rfl, if_pos (by rw [HSL.out]; exact hk)] at hy
      cases hy
      exact ⟨World.cell?_setCell_same _ _ _ f0, f1⟩
    · rw [if_neg hi] at hy
      obtain ⟨q1, q2⟩ := HCS.out i y hy
      exact ⟨(cell_other (g := g) (a := o + k) (b := o + i) _ (by omega)).trans q1, q2⟩⟩)
  clear hb2 ho2 hcs HM hx HQ HS G1
  go_wp2
  go_ret
  exact ⟨some ⟨g, o, none⟩, c2', rfl, HO3.out, HB3.out⟩
noncomputable def popX (N : Int) (es : List (Int × Int)) (p : List Int) (q : Int) : List Int := if ircB N es p q = true then (dualL N.toNat q.toNat es p).set q.toNat (-1) else []
noncomputable def pipX (N : Int) (es : List (Int × Int)) (f : List Int) (q : Int) : List Int := if parkB N es f q = true then dualL N.toNat q.toNat es f else []
theorem popX_f {N : Int} {es : List (Int × Int)} {p : List Int} {q : Int} (h : ircB N es p q = false) : popX N es p q = [] := by rw [popX, if_neg (by rw [h]; decide)]
theorem popX_t {M k : Nat} {es : List (Int × Int)} {p : List Int} (h : ircB (M : Int) es p (k : Int) = true) : popX (M : Int) es p (k : Int) = (dualL M k es p).set k (-1) := by rw [popX, if_pos h]; rfl
theorem pipX_f {N : Int} {es : List (Int × Int)} {p : List Int} {q : Int} (h : parkB N es p q = false) : pipX N es p q = [] := by rw [pipX, if_neg (by rw [h]; decide)]
theorem pipX_t {M k : Nat} {es : List (Int × Int)} {p : List Int} (h : parkB (M : Int) es p (k : Int) = true) : pipX (M : Int) es p (k : Int) = dualL M k es p := by rw [pipX, if_pos h]; rfl
theorem irc_parts {N : Int} {es : List (Int × Int)} {p : List Int} {q : Int} (h : ircB N es p q = true) : ∃ M k : Nat, N = (M : Int) ∧ q = (k : Int) ∧ PileL M k es p ∧ graphB N es = true := by
  unfold ircB stableB at h
  rw [Bool.and_eq_true, Bool.and_eq_true] at h
  exact pile_parts h.1.1
theorem popX_len (N : Int) (es : List (Int × Int)) (p : List Int) (q : Int) : (popX N es p q).length ≤ 6 := by
  cases h : ircB N es p q with
  | false => rw [popX_f h]; simp
  | true =>
    obtain ⟨M, k, rfl, rfl, hP, -⟩ := irc_parts h
    rw [popX_t h, List.length_set, dual_len]
    exact hP.m6
theorem pipX_len (N : Int) (es : List (Int × Int)) (p : List Int) (q : Int) : (pipX N es p q).length ≤ 6 := by
  cases h : parkB N es p q with
  | false => rw [pipX_f h]; simp
  | true =>
    obtain ⟨M, k, rfl, rfl, hP, -⟩ := park_parts h
    rw [pipX_t h, dual_len]
    exact hP.m6
set_option maxRecDepth 100000 in
set_option maxHeartbeats 1000000 in
theorem implPop (N : Int) (A D : Option Addr) (c cd : Nat) (es : List (Int × Int)) (p : List Int) (q : Int) (w : World) (hn : es.length ≤ 1048576) (hd : p.length ≤ 1048576) (hE : EdgeS w w.heap.size A es) (hS : IntS w w.heap.size D p) :
    Calls Try.prog 48 #[.agg #[.int .i64 N, .slice A es.length c], .slice D p.length cd, .int .i64 q] w (GivesIntsOk w (popX N es p q) (ircB N es p q)) := by
  have HE := Lib.hid hE
  have HS := Lib.hid hS
  have G0 := GB.start w N A c es
  have HD := fun w h1 h2 => Lib.hid (implIrc N A D c cd es p q w hn hd h1 h2)
  clear hE hS
  cases h1 : ircB N es p q with
  | false =>
    rw [h1] at HD
    rw [popX_f h1]
    clear h1
    go_enter Try.func48, Try.ntmps48
    go_wp2_with fail
    refine (HD _ (HE.out.up_ G0.old) (HS.out.up_ G0.old)).out.mono ?_
    rintro e w1 ⟨rfl, hb1⟩
    have G1 := Lib.hid (G0.next hb1)
    clear G0 hb1
    go_wp2
    go_ret2
    exact ⟨none, 0, rfl, fun h => absurd h (by simp), G1.out.old⟩
  | true =>
    rw [h1] at HD
    obtain ⟨M, k, rfl, rfl, hP, hg⟩ := irc_parts h1
    have HLN := Lib.hid hP.len
    rw [popX_t h1]
    have HC := fun (W : World) h1 h2 => Lib.hid (missing_any A D c cd M k (-1) es p W hg hP.qm hP.m6 hP.n12 hP.ed hP.len (fun u _ _ => by have := hP.lim u; omega) h1 h2)
    have HL := Lib.hid (show ((dualL M k es p).set k (-1)).length = M by rw [List.length_set, dual_len])
    clear h1 hP hg
    go_enter Try.func48, Try.ntmps48
    go_wp2_with fail
    refine (HD _ (HE.out.up_ G0.old) (HS.out.up_ G0.old)).out.mono ?_
    rintro e w1 ⟨rfl, hb1⟩
    have G1 := Lib.hid (G0.next hb1)
    have c0 := G1.out.c0
    have c1 := G1.out.c1
    clear G0 hb1 HD
    go_wp2_with fail
    rw [HLN.out]
    refine (HC _ (HE.out.up_ G1.out.old) (HS.out.up_ G1.out.old)).out.mono ?_
    rintro e w2 ⟨F, cf, rfl, ho2, hb2⟩
    have HO2 := Lib.hid (ho2.mono G1.out.old.size)
    have HB2 := Lib.hid (G1.out.old.trans (hb2.mono G1.out.old.size))
    clear ho2 hb2 HC c0 c1 G1
    go_wp2
    go_ret2
    exact ⟨F, cf, by rw [HL.out]; rfl, HO2.out, HB2.out⟩
set_option maxRecDepth 100000 in
set_option maxHeartbeats 1000000 in
theorem implPip (N : Int) (A D : Option Addr) (c cd : Nat) (es : List (Int × Int)) (p : List Int) (q : Int) (w : World) (hn : es.length ≤ 1048576) (hd : p.length ≤ 1048576) (hE : EdgeS w w.heap.size A es) (hS : IntS w w.heap.size D p) :
    Calls Try.prog 50 #[.agg #[.int .i64 N, .slice A es.length c], .slice D p.length cd, .int .i64 q] w (GivesIntsOk w (pipX N es p q) (parkB N es p q)) := by
  have HE := Lib.hid hE
  have HS := Lib.hid hS
  have G0 := GB.start w N A c es
  have HD := fun w h1 h2 => Lib.hid (implPark N A D c cd es p q w hn hd h1 h2)
  clear hE hS
  cases h1 : parkB N es p q with
  | false =>
    rw [h1] at HD
    rw [pipX_f h1]
    clear h1
    go_enter Try.func50, Try.ntmps50
    go_wp2_with fail
    refine (HD _ (HE.out.up_ G0.old) (HS.out.up_ G0.old)).out.mono ?_
    rintro e w1 ⟨rfl, hb1⟩
    have G1 := Lib.hid (G0.next hb1)
    clear G0 hb1
    go_wp2
    go_ret2
    exact ⟨none, 0, rfl, fun h => absurd h (by simp), G1.out.old⟩
  | true =>
    rw [h1] at HD
    obtain ⟨M, k, rfl, rfl, hP, hg⟩ := park_parts h1
    have HLN := Lib.hid hP.len
    rw [pipX_t h1]
    have HZ := Lib.hid (dual_set0 (es := es) (r := p) hP.qm)
    have HC := fun (W : World) h1 h2 => Lib.hid (missing_any A D c cd M k 0 es p W hg hP.qm hP.m6 hP.n12 hP.ed hP.len (fun u _ _ => by have := hP.lim u; omega) h1 h2)
    have HL := Lib.hid (show (dualL M k es p).length = M by rw [dual_len])
    clear h1 hP hg
    go_enter Try.func50, Try.ntmps50
    go_wp2_with fail
    refine (HD _ (HE.out.up_ G0.old) (HS.out.up_ G0.old)).out.mono ?_
    rintro e w1 ⟨rfl, hb1⟩
    have G1 := Lib.hid (G0.next hb1)
    have c0 := G1.out.c0
    have c1 := G1.out.c1
    clear G0 hb1 HD
    go_wp2_with fail
    rw [HLN.out]
    refine (HC _ (HE.out.up_ G1.out.old) (HS.out.up_ G1.out.old)).out.mono ?_
    rintro e w2 ⟨F, cf, rfl, ho2, hb2⟩
    rw [HZ.out] at ho2
    have HO2 := Lib.hid (ho2.mono G1.out.old.size)
    have HB2 := Lib.hid (G1.out.old.trans (hb2.mono G1.out.old.size))
    clear ho2 hb2 HC c0 c1 G1
    go_wp2
    go_ret2
    exact ⟨F, cf, by rw [HL.out]; rfl, HO2.out, HB2.out⟩
set_option maxRecDepth 100000 in
set_option maxHeartbeats 1000000 in
theorem specPip (N : Int) (A D : Option Addr) (c cd : Nat) (es : List (Int × Int)) (p : List Int) (q : Int) (w : World) (hn : es.length ≤ 1048576) (hd : p.length ≤ 1048576) (hE : EdgeS w w.heap.size A es) (hS : IntS w w.heap.size D p) :
    Calls Try.prog 49 #[.agg #[.int .i64 N, .slice A es.length c], .slice D p.length cd, .int .i64 q] w (GivesIntsOk w (pipX N es p q) (parkB N es p q)) := by
  have HE := Lib.hid hE
  have HS := Lib.hid hS
  have G0 := GB.start w N A c es
  have HD := fun w h1 h2 => Lib.hid (specPark N A D c cd es p q w hn hd h1 h2)
  clear hE hS
  cases h1 : parkB N es p q with
  | false =>
    rw [h1] at HD
    rw [pipX_f h1]
    clear h1
    go_enter Try.func49, Try.ntmps49
    go_wp2_with fail
    refine (HD _ (HE.out.up_ G0.old) (HS.out.up_ G0.old)).out.mono ?_
    rintro e w1 ⟨rfl, hb1⟩
    have G1 := Lib.hid (G0.next hb1)
    clear G0 hb1
    go_wp2
    go_ret2
    exact ⟨none, 0, rfl, fun h => absurd h (by simp), G1.out.old⟩
  | true =>
    rw [h1] at HD
    obtain ⟨M, k, rfl, rfl, hP, hg⟩ := park_parts h1
    have HLN := Lib.hid hP.len
    rw [pipX_t h1]
    have HC := fun (W : World) h1 h2 => Lib.hid (l11Full_any A D c cd M k es p W hg hP.qm hP.m6 hP.n12 hP.ed hP.len (fun u _ _ => by have := hP.lim u; omega) h1 h2)
    have HL := Lib.hid (show (dualL M k es p).length = M by rw [dual_len])
    clear h1 hP hg
    go_enter Try.func49, Try.ntmps49
    go_wp2_with fail
    refine (HD _ (HE.out.up_ G0.old) (HS.out.up_ G0.old)).out.mono ?_
    rintro e w1 ⟨rfl, hb1⟩
    have G1 := Lib.hid (G0.next hb1)
    have c0 := G1.out.c0
    have c1 := G1.out.c1
    clear G0 hb1 HD
    go_wp2_with fail
    rw [HLN.out]
    refine (HC _ (HE.out.up_ G1.out.old) (HS.out.up_ G1.out.old)).out.mono ?_
    rintro e w2 ⟨F, cf, rfl, ho2, hb2⟩
    have HO2 := Lib.hid (ho2.mono G1.out.old.size)
    have HB2 := Lib.hid (G1.out.old.trans (hb2.mono G1.out.old.size))
    clear ho2 hb2 HC c0 c1 G1
    go_wp2
    go_ret2
    exact ⟨F, cf, by rw [HL.out]; rfl, HO2.out, HB2.out⟩
set_option maxRecDepth 100000 in
set_option maxHeartbeats 1000000 in
theorem specPop (N : Int) (A D : Option Addr) (c cd : Nat) (es : List (Int × Int)) (p : List Int) (q : Int) (w : World) (hn : es.length ≤ 1048576) (hd : p.length ≤ 1048576) (hE : EdgeS w w.heap.size A es) (hS : IntS w w.heap.size D p) :
    Calls Try.prog 47 #[.agg #[.int .i64 N, .slice A es.length c], .slice D p.length cd, .int .i64 q] w (GivesIntsOk w (popX N es p q) (ircB N es p q)) := by
  have HE := Lib.hid hE
  have HS := Lib.hid hS
  have G0 := GB.start w N A c es
  have HD := fun w h1 h2 => Lib.hid (specIrc N A D c cd es p q w hn hd h1 h2)
  clear hE hS
  cases h1 : ircB N es p q with
  | false =>
    rw [h1] at HD
    rw [popX_f h1]
    clear h1
    go_enter Try.func47, Try.ntmps47
    go_wp2_with fail
    refine (HD _ (HE.out.up_ G0.old) (HS.out.up_ G0.old)).out.mono ?_
    rintro e w1 ⟨rfl, hb1⟩
    have G1 := Lib.hid (G0.next hb1)
    clear G0 hb1
    go_wp2
    go_ret2
    exact ⟨none, 0, rfl, fun h => absurd h (by simp), G1.out.old⟩
  | true =>
    rw [h1] at HD
    obtain ⟨M, k, rfl, rfl, hP, hg⟩ := irc_parts h1
    have HLN := Lib.hid hP.len
    rw [popX_t h1]
    have hk := hP.qm
    have hM := hP.m6
    have hl := hP.len
    have hfo : fullOk (M : Int) es (k : Int) = true := by rw [fullOk, hg, vB_t (by omega)]; rfl
    have HF := fun w h1 => Lib.hid (specFull (M : Int) A c es (k : Int) w hn h1)
    rw [fullC_t hfo] at HF
    have HFL := Lib.hid (fullTo_len es k M)
    have HM := fun (X : Option Addr) (cx : Nat) (W : World) (h1 : IntS W W.heap.size X (fullTo es k M)) (h2 : IntS W W.heap.size D p) => Lib.hid (specMinus X D cx cd (fullTo es k M) p W (by omega) (by rw [fullTo_len]; omega) h1 h2)
    rw [fullTo_len, hl] at HM
    have HQ := Lib.hid (sub_setz (k := k) (z := -1) (r := p) hP.ed hP.n12 (fun u _ _ => by have := hP.lim u; omega))
    have HSL := Lib.hid (show (subB (fullTo es k M) p).length = M by rw [subB_len, fullTo_len])
    have HL := Lib.hid (show ((dualL M k es p).set k (-1)).length = M by rw [List.length_set, dual_len])
    have hki : (k : Int) < (M : Int) := by omega
    have hk0 : (0 : Int) ≤ (k : Int) := Int.natCast_nonneg _
    clear hl hfo
    clear h1 hP hg
    go_enter Try.func47, Try.ntmps47
    go_wp2_with fail
    refine (HD _ (HE.out.up_ G0.old) (HS.out.up_ G0.old)).out.mono ?_
    rintro e w1 ⟨rfl, hb1⟩
    have G1 := Lib.hid (G0.next hb1)
    have c0 := G1.out.c0
    have c1 := G1.out.c1
    clear G0 hb1 HD
    go_wp2_with fail
    refine (HF _ (HE.out.up_ G1.out.old)).out.mono ?_
    rintro e w2 ⟨A1, c1', rfl, ho1, hb1⟩
    have G2 := Lib.hid (G1.out.next hb1)
    have HO1 := Lib.hid ho1.ints
    clear hb1 ho1 HF G1 c0 c1
    go_wp2_with fail
    rw [HFL.out, HLN.out]
    refine (HM A1 c1' _ HO1.out (HS.out.up_ G2.out.old)).out.mono ?_
    rintro e w3 ⟨A2, c2', rfl, ho2, hb2⟩
    rw [HSL.out]
    have G3 := Lib.hid (G2.out.next hb2)
    obtain ⟨g, o, rfl, hg1, hg2, hcs⟩ := ho2 (by rw [HSL.out]; omega)
    obtain ⟨x, hx⟩ : ∃ x, (subB (fullTo es k M) p)[k]? = some x := ⟨_, List.getElem?_eq_getElem (by rw [HSL.out]; exact hk)⟩
    obtain ⟨f0, f1⟩ := hcs k x hx
    have HCS := Lib.hid hcs
    have G2s := G2.out.old.size
    have HB3 := Lib.hid (show Below w.heap.size w (w3.setCell ⟨g, o + k, none⟩ (.int .i64 (-1))) from G3.out.old.setCell (p := ⟨g, o + k, none⟩) (by simp only; omega) _)
    have HO3 := Lib.hid (show OwnI (w3.setCell ⟨g, o + k, none⟩ (.int .i64 (-1))) w.heap.size (some ⟨g, o, none⟩) ((dualL M k es p).set k (-1)) from fun _ => ⟨g, o, rfl, by omega, by simpa [World.setCell] using hg2, fun i y hy => by
      rw [← HQ.out, List.getElem?_set] at hy
      rw [World.frozen?_setCell]
      by_cases hi : k = i
      · subst hi
        rw [if_pos rfl, if_pos (by rw [HSL.out]; exact hk)] at hy
        cases hy
        exact ⟨World.cell?_setCell_same _ _ _ f0, f1⟩
      · rw [if_neg hi] at hy
        obtain ⟨q1, q2⟩ := HCS.out i y hy
        exact ⟨(cell_other (g := g) (a := o + k) (b := o + i) _ (by omega)).trans q1, q2⟩⟩)
    clear hb2 ho2 hcs HM hx HQ HS G2
    go_wp2
    go_ret2
    exact ⟨some ⟨g, o, none⟩, c2', by rw [HL.out]; rfl, HO3.out, HB3.out⟩
end Go.Proofs.Ytdpojcgeblbfeaa
