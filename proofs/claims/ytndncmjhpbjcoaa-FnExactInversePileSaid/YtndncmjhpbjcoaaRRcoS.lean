/- RecurrentOf: plain lists; the specification's side. -/
import Derived.Test.YtndncmjhpbjcoaaRRecO
import Derived.Test.YtndncmjhpbjcoaaRSubS
import Derived.Test.YtndncmjhpbjcoaaRAddD
import Derived.Test.YtndncmjhpbjcoaaRPilH
import Derived.Test.YtndncmjhpbjcoaaRPilZ
import Derived.Test.YtndncmjhpbjcoaaRBJ
set_option linter.all false
namespace Go.Proofs.Ytndncmjhpbjcoaa
open Go.RowKit

section
variable {M k : Nat} {es : List (Int × Int)} {p r : List Int}
theorem fullTo_get {u : Nat} (h : u < M) : (fullTo es k M).getD u 0 = if u = k then 0 else valP es u - 1 := by rw [List.getD, fullTo_at h]; rfl
theorem sub_full (hes : ∀ e ∈ es, 0 ≤ e.1 ∧ e.1 < e.2 ∧ e.2 < (M : Int)) (hn : es.length ≤ 12) (hp : ∀ u, -1000000 ≤ p.getD u 0 ∧ p.getD u 0 ≤ 1000000) (hz : p.getD k 0 = 0) : subB (fullTo es k M) p = dualL M k es p := by
  unfold subB dualL
  rw [fullTo_len]
  refine List.map_congr_left fun u hu => ?_
  rw [List.mem_range] at hu
  have h1 := valP_lim u es fun e he => (hes e he).2.1
  have h2 := hp u
  rw [fullTo_get hu]
  by_cases h : u = k
  · subst h
    rw [if_pos rfl, if_pos rfl, hz]
    exact wrap64_of (by omega) (by omega)
  · rw [if_neg h, if_neg h]
    exact wrap64_of (by omega) (by omega)
theorem sub_set (hes : ∀ e ∈ es, 0 ≤ e.1 ∧ e.1 < e.2 ∧ e.2 < (M : Int)) (hn : es.length ≤ 12) (hp : ∀ u, u < M → u ≠ k → -1000000 ≤ r.getD u 0 ∧ r.getD u 0 ≤ 1000000) : (subB (fullTo es k M) r).set k 0 = dualL M k es r := by
  refine List.ext_getElem? fun u => ?_
  by_cases hu : u < M
  · have h1 := valP_lim u es fun e he => (hes e he).2.1
    have hd : (dualL M k es r)[u]? = some (if u = k then 0 else valP es u - 1 - r.getD u 0) := by simp [dualL, hu]
    have hs : (subB (fullTo es k M) r)[u]? = some (wrap64 ((fullTo es k M).getD u 0 - r.getD u 0)) := by simp [subB, fullTo_len, hu]
    rw [hd, List.getElem?_set, hs]
    by_cases h : k = u
    · subst h
      rw [if_pos rfl, if_pos (by rw [subB_len, fullTo_len]; exact hu), if_pos rfl]
    · have h2 := hp u hu fun e => h e.symm
      rw [if_neg h, if_neg fun e => h e.symm, fullTo_get hu, if_neg fun e => h e.symm, wrap64_of (by omega) (by omega)]
  · rw [List.getElem?_eq_none (by rw [List.length_set, subB_len, fullTo_len]; omega), List.getElem?_eq_none (by rw [dual_len]; omega)]
theorem add_neg (hl : p.length = M) (hes : ∀ e ∈ es, 0 ≤ e.1 ∧ e.1 < e.2 ∧ e.2 < (M : Int)) (hn : es.length ≤ 12) (hp : ∀ u, -1000000 ≤ p.getD u 0 ∧ p.getD u 0 ≤ 1000000) (hz : p.getD k 0 = 0) : addB (fullTo es k M) (negB p) = dualL M k es p := by
  have hg : ∀ u, u < M → (negB p).getD u 0 = -p.getD u 0 := fun u hu => by
    have h2 := hp u
    obtain ⟨x, hx⟩ : ∃ x, p[u]? = some x := ⟨_, List.getElem?_eq_getElem (by omega)⟩
    rw [List.getD, hx, Option.getD_some] at h2
    rw [List.getD, negB_at hx, List.getD, hx]
    exact wrap64_of (by omega) (by omega)
  rw [addB, if_pos (by rw [fullTo_len, negB_length, hl])]
  unfold sumsB dualL
  rw [fullTo_len]
  refine List.map_congr_left fun u hu => ?_
  rw [List.mem_range] at hu
  have h1 := valP_lim u es fun e he => (hes e he).2.1
  have h2 := hp u
  rw [fullTo_get hu, hg u hu]
  by_cases h : u = k
  · subst h
    rw [if_pos rfl, if_pos rfl, hz]
    exact wrap64_of (by omega) (by omega)
  · rw [if_neg h, if_neg h, wrap64_of (by omega) (by omega)]
    omega
theorem red_few (hes : ∀ e ∈ es, 0 ≤ e.1 ∧ e.1 < e.2 ∧ e.2 < (M : Int)) (hk : k < M) (hn : es.length ≤ 12) {d : List Int} {f : Nat → Int} (hd : ∀ u, -1000000 ≤ d.getD u 0 ∧ d.getD u 0 ≤ 1000000) (hf : IsRed M es d k f) {u : Nat} (hu : u < M) (hne : u ≠ k) :
    -1000000 ≤ (chipsOf M (Dv d es f)).getD u 0 ∧ (chipsOf M (Dv d es f)).getD u 0 ≤ 1000000 := by
  have h1 := burn_lim hes hk hf.all u hu hne
  have h2 := hf.pos u hu hne
  have h3 := valP_lim u es fun e he => (hes e he).2.1
  rw [chips_get hu (Dv_bound hn hd hes hf.bound u)] at h1 ⊢
  omega
end
noncomputable def rcoX (N : Int) (es : List (Int × Int)) (p : List Int) (q : Int) : List Int := if pileB N es p q = true then recC N.toNat q.toNat es p else []
theorem rcoX_f {N : Int} {es : List (Int × Int)} {p : List Int} {q : Int} (h : pileB N es p q = false) : rcoX N es p q = [] := by rw [rcoX, if_neg (by rw [h]; decide)]
theorem rcoX_t {M k : Nat} {es : List (Int × Int)} {p : List Int} (h : pileB (M : Int) es p (k : Int) = true) : rcoX (M : Int) es p (k : Int) = recC M k es p := by rw [rcoX, if_pos h]; rfl
theorem rcoX_len (N : Int) (es : List (Int × Int)) (p : List Int) (q : Int) : (rcoX N es p q).length ≤ 6 := by
  cases h : pileB N es p q with
  | false => rw [rcoX_f h]; simp
  | true =>
    obtain ⟨M, k, rfl, rfl, hP, -⟩ := pile_parts h
    rw [rcoX_t h, recC_len]
    exact hP.m6
set_option maxRecDepth 100000 in
set_option maxHeartbeats 1000000 in
/-- full minus a reduced divisor, nothing at the sink -/
theorem l11Full_any (A D : Option Addr) (c cd M k : Nat) (es : List (Int × Int)) (r : List Int) (w : World) (hg : graphB (M : Int) es = true) (hk : k < M) (hM : M ≤ 6) (hn : es.length ≤ 12) (hes : ∀ e ∈ es, 0 ≤ e.1 ∧ e.1 < e.2 ∧ e.2 < (M : Int)) (hl : r.length = M)
    (hr : ∀ u, u < M → u ≠ k → -1000000 ≤ r.getD u 0 ∧ r.getD u 0 ≤ 1000000) (hE : EdgeS w w.heap.size A es) (hS : IntS w w.heap.size D r) :
    Calls Try.prog 90 #[.agg #[.int .i64 (M : Int), .slice A es.length c], .slice D M cd, .int .i64 (k : Int)] w (fun e w' => ∃ (F : Option Addr) (cf : Nat), e = .returned (.slice F M cf) ∧ OwnI w' w.heap.size F (dualL M k es r) ∧ Below w.heap.size w w') := by
  have HE := Lib.hid hE
  have HS := Lib.hid hS
  have G0 := GB.start w (M : Int) A c es
  have hfo : fullOk (M : Int) es (k : Int) = true := by rw [fullOk, hg, vB_t (by omega)]; rfl
  have HF := fun w h1 => Lib.hid (specFull (M : Int) A c es (k : Int) w (by omega) h1)
  rw [fullC_t hfo] at HF
  have HFL := Lib.hid (fullTo_len es k M)
  have HM := fun (X : Option Addr) (cx : Nat) (W : World) (h1 : IntS W W.heap.size X (fullTo es k M)) (h2 : IntS W W.heap.size D r) => Lib.hid (specMinus X D cx cd (fullTo es k M) r W (by omega) (by rw [fullTo_len]; omega) h1 h2)
  rw [fullTo_len, hl] at HM
  have HQ := Lib.hid (sub_set (k := k) hes hn hr)
  have HSL := Lib.hid (show (subB (fullTo es k M) r).length = M by rw [subB_len, fullTo_len])
  have hki : (k : Int) < (M : Int) := by omega
  have hk0 : (0 : Int) ≤ (k : Int) := Int.natCast_nonneg _
  clear hE hS hr hes hfo hg
  go_enter Try.func90, Try.ntmps90
  go_wp2_with fail
  refine (HF _ (HE.out.up_ G0.old)).out.mono ?_
  rintro e w1 ⟨A1, c1', rfl, ho1, hb1⟩
  have G1 := Lib.hid (G0.next hb1)
  have HO1 := Lib.hid ho1.ints
  clear G0 hb1 ho1 HF
  go_wp2_with fail
  rw [HFL.out]
  refine (HM A1 c1' _ HO1.out (HS.out.up_ G1.out.old)).out.mono ?_
  rintro e w2 ⟨A2, c2', rfl, ho2, hb2⟩
  rw [HSL.out]
  have G2 := Lib.hid (G1.out.next hb2)
  obtain ⟨g, o, rfl, hg1, hg2, hcs⟩ := ho2 (by rw [HSL.out]; omega)
  obtain ⟨x, hx⟩ : ∃ x, (subB (fullTo es k M) r)[k]? = some x := ⟨_, List.getElem?_eq_getElem (by rw [HSL.out]; exact hk)⟩
  obtain ⟨f0, f1⟩ := hcs k x hx
  have HCS := Lib.hid hcs
  have G1s := G1.out.old.size
  have HB3 := Lib.hid (show Below w.heap.size w (w2.setCell ⟨g, o + k, none⟩ (.int .i64 0)) from G2.out.old.setCell (p := ⟨g, o + k, none⟩) (by simp only; omega) _)
  have HO3 := Lib.hid (show OwnI (w2.setCell ⟨g, o + k, none⟩ (.int .i64 0)) w.heap.size (some ⟨g, o, none⟩) (dualL M k es r) from fun _ => ⟨g, o, rfl, by omega, by simpa [World.setCell] using hg2, fun i z hz => by
    rw [← HQ.out, List.getElem?_set] at hz
    rw [World.frozen?_setCell]
    by_cases hi : k = i
    · subst hi
      rw [if_pos rfl, if_pos (by rw [HSL.out]; exact hk)] at hz
      cases hz
      exact ⟨World.cell?_setCell_same _ _ _ f0, f1⟩
    · rw [if_neg hi] at hz
      obtain ⟨q1, q2⟩ := HCS.out i z hz
      exact ⟨(cell_other (g := g) (a := o + k) (b := o + i) _ (by omega)).trans q1, q2⟩⟩)
  clear hb2 ho2 hcs HM hx HQ HS G1
  go_wp2
  go_ret
  exact ⟨some ⟨g, o, none⟩, c2', rfl, HO3.out, HB3.out⟩
set_option maxRecDepth 100000 in
set_option maxHeartbeats 1000000 in
/-- the recurrent configuration of a class -/
theorem l11Class_any (A D : Option Addr) (c cd M k : Nat) (es : List (Int × Int)) (p : List Int) (w : World) (hg : graphB (M : Int) es = true) (hk : k < M) (hM : M ≤ 6) (hn : es.length ≤ 12) (hes : ∀ e ∈ es, 0 ≤ e.1 ∧ e.1 < e.2 ∧ e.2 < (M : Int)) (hc : Cut M es) (hl : p.length = M)
    (hp : ∀ u, -60 ≤ p.getD u 0 ∧ p.getD u 0 ≤ 60) (hz : p.getD k 0 = 0) (hE : EdgeS w w.heap.size A es) (hS : IntS w w.heap.size D p) :
    Calls Try.prog 84 #[.agg #[.int .i64 (M : Int), .slice A es.length c], .slice D M cd, .int .i64 (k : Int)] w (fun e w' => ∃ (F : Option Addr) (cf : Nat), e = .returned (.slice F M cf) ∧ OwnI w' w.heap.size F (recC M k es p) ∧ Below w.heap.size w w') := by
  have HE := Lib.hid hE
  have HS := Lib.hid hS
  have G0 := GB.start w (M : Int) A c es
  have hfo : fullOk (M : Int) es (k : Int) = true := by rw [fullOk, hg, vB_t (by omega)]; rfl
  have HF := fun w h1 => Lib.hid (specFull (M : Int) A c es (k : Int) w (by omega) h1)
  rw [fullC_t hfo] at HF
  have HFL := Lib.hid (fullTo_len es k M)
  have HM := fun (X : Option Addr) (cx : Nat) (W : World) (h1 : IntS W W.heap.size X (fullTo es k M)) (h2 : IntS W W.heap.size D p) => Lib.hid (specMinus X D cx cd (fullTo es k M) p W (by omega) (by rw [fullTo_len]; omega) h1 h2)
  rw [fullTo_len, hl, sub_full hes hn (fun u => by have := hp u; omega) hz] at HM
  have hdl := dual_lim (q := k) hes hn (by omega) hp
  have hdm : ∀ u, -1000000 ≤ (dualL M k es p).getD u 0 ∧ (dualL M k es p).getD u 0 ≤ 1000000 := fun u => by have := hdl u; omega
  have HR := fun (X : Option Addr) (cx : Nat) (W : World) (h1 : EdgeS W W.heap.size A es) (h2 : IntS W W.heap.size X (dualL M k es p)) => Lib.hid (l05ReduceW_any A X c cx M k es (dualL M k es p) W (by omega) hM hk (dual_len _ _ _ _) hn hes (fun u => by have := hdl u; omega) hc h1 h2)
  rw [dual_len] at HR
  have HDL := Lib.hid (dual_len M k es p)
  have HFU := fun (f : Nat → Int) (hf : IsRed M es (dualL M k es p) k f) (X : Option Addr) (cx : Nat) (W : World) (h1 : EdgeS W W.heap.size A es) (h2 : IntS W W.heap.size X (chipsOf M (Dv (dualL M k es p) es f))) => Lib.hid (l11Full_any A X c cx M k es _ W hg hk hM hn hes (chipsOf_len _ _) (fun u hu hne => red_few hes hk hn hdm hf hu hne) h1 h2)
  have HRC := Lib.hid (fun (f : Nat → Int) (hf : IsRed M es (dualL M k es p) k f) => show dualL M k es (chipsOf M (Dv (dualL M k es p) es f)) = recC M k es p by rw [recC, (redF_eq hf hk hn hdm hes).2])
  clear hE hS hp hes hfo hg hdl hdm hc hz
  go_enter Try.func84, Try.ntmps84
  go_wp2_with fail
  refine (HF _ (HE.out.up_ G0.old)).out.mono ?_
  rintro e w1 ⟨A1, c1', rfl, ho1, hb1⟩
  have G1 := Lib.hid (G0.next hb1)
  have HO1 := Lib.hid ho1.ints
  clear G0 hb1 ho1 HF
  go_wp2_with fail
  rw [HFL.out]
  refine (HM A1 c1' _ HO1.out (HS.out.up_ G1.out.old)).out.mono ?_
  rintro e w2 ⟨A2, c2', rfl, ho2, hb2⟩
  rw [HDL.out]
  have G2 := Lib.hid (G1.out.next hb2)
  have HO2 := Lib.hid ho2.ints
  have c0 := G2.out.c0
  have c1 := G2.out.c1
  clear G1 hb2 ho2 HM HO1
  go_wp2_with fail
  refine (HR A2 c2' _ (HE.out.up_ G2.out.old) HO2.out).out.mono ?_
  rintro e w3 ⟨A3, A4, c3, c4, f, rfl, hf, ho3, -, hb3⟩
  have G3 := Lib.hid (G2.out.next hb3)
  have HO3 := Lib.hid ho3.ints
  have HQ := Lib.hid (HRC.out f hf)
  have HF3 := fun (X : Option Addr) (cx : Nat) (W : World) h1 h2 => HFU f hf X cx W h1 h2
  clear HFU HRC hf c0 c1 G2 ho3 hb3 HR HO2
  have c0 := G3.out.c0
  have c1 := G3.out.c1
  go_wp2_with fail
  refine (HF3 A3 c3 _ (HE.out.up_ G3.out.old) HO3.out).out.mono ?_
  rintro e w4 ⟨A5, c5, rfl, ho5, hb5⟩
  rw [HQ.out] at ho5
  have G4 := Lib.hid (G3.out.next hb5)
  have HO5 := Lib.hid (ho5.mono G3.out.old.size)
  clear hb5 ho5 G3 HF3 c0 c1
  go_wp2
  go_ret
  exact ⟨A5, c5, rfl, HO5.out, G4.out.old⟩
set_option maxRecDepth 100000 in
set_option maxHeartbeats 1000000 in
theorem specRco (N : Int) (A D : Option Addr) (c cd : Nat) (es : List (Int × Int)) (p : List Int) (q : Int) (w : World) (hn : es.length ≤ 1048576) (hd : p.length ≤ 1048576) (hE : EdgeS w w.heap.size A es) (hS : IntS w w.heap.size D p) :
    Calls Try.prog 42 #[.agg #[.int .i64 N, .slice A es.length c], .slice D p.length cd, .int .i64 q] w (GivesIntsOk w (rcoX N es p q) (pileB N es p q)) := by
  have HE := Lib.hid hE
  have HS := Lib.hid hS
  have G0 := GB.start w N A c es
  have HP := fun w h1 h2 => Lib.hid (specPile N A D c cd es p q w hn hd h1 h2)
  clear hE hS
  cases h1 : pileB N es p q with
  | false =>
    rw [h1] at HP
    rw [rcoX_f h1]
    clear h1
    go_enter Try.func42, Try.ntmps42
    go_wp2_with fail
    refine (HP _ (HE.out.up_ G0.old) (HS.out.up_ G0.old)).out.mono ?_
    rintro e w1 ⟨rfl, hb1⟩
    have G1 := Lib.hid (G0.next hb1)
    clear G0 hb1
    go_wp2
    go_ret2
    exact ⟨none, 0, rfl, OwnI.nil _ _ _, G1.out.old⟩
  | true =>
    rw [h1] at HP
    obtain ⟨M, k, rfl, rfl, hP, hg⟩ := pile_parts h1
    rw [rcoX_t h1]
    have HL := Lib.hid hP.len
    have HRL := Lib.hid (recC_len (M := M) (q := k) (es := es) (p := p))
    have HC := fun (W : World) h1 h2 => Lib.hid (l11Class_any A D c cd M k es p W hg hP.qm hP.m6 hP.n12 hP.ed hP.cut hP.len (fun u => by have := hP.lim u; omega) hP.zero h1 h2)
    clear h1 hP hg
    go_enter Try.func42, Try.ntmps42
    go_wp2_with fail
    refine (HP _ (HE.out.up_ G0.old) (HS.out.up_ G0.old)).out.mono ?_
    rintro e w1 ⟨rfl, hb1⟩
    have G1 := Lib.hid (G0.next hb1)
    have c0 := G1.out.c0
    have c1 := G1.out.c1
    clear G0 hb1
    go_wp2_with fail
    rw [HL.out]
    refine (HC _ (HE.out.up_ G1.out.old) (HS.out.up_ G1.out.old)).out.mono ?_
    rintro e w2 ⟨A2, c2, rfl, ho2, hb2⟩
    have G2 := Lib.hid (G1.out.next hb2)
    have HO2 := Lib.hid (ho2.mono G1.out.old.size)
    clear hb2 c0 c1 ho2
    go_wp2
    go_ret2
    exact ⟨A2, c2, by rw [HRL.out]; rfl, HO2.out, G2.out.old⟩
end Go.Proofs.Ytndncmjhpbjcoaa
