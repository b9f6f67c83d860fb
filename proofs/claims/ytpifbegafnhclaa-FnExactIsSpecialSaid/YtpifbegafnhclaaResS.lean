/- ResidualOf and IsSpecial: both sides. -/
import Derived.Test.YtpifbegafnhclaaCanS
namespace Go.Proofs.Ytpifbegafnhclaa
open Go.RowKit

noncomputable def resB (N : Int) (es : List (Int × Int)) (d : List Int) : List Int := if divB 60 N es d = true then subB (canB N es) d else []
theorem resB_f {N : Int} {es : List (Int × Int)} {d : List Int} (h : divB 60 N es d = false) : resB N es d = [] := by rw [resB, if_neg (by rw [h]; decide)]
theorem resB_t {N : Int} {es : List (Int × Int)} {d : List Int} (h : divB 60 N es d = true) : resB N es d = subB (canB N es) d := by rw [resB, if_pos h]
theorem can_len {M : Nat} {es : List (Int × Int)} {d : List Int} (h : divB 60 (M : Int) es d = true) : (canB (M : Int) es).length = M := by
  rw [canB_t (divB_all h).1, canL_len]
theorem resB_len (N : Int) (es : List (Int × Int)) (d : List Int) : (resB N es d).length ≤ 6 := by
  cases h : divB 60 N es d with
  | false => rw [resB_f h]; simp
  | true => rw [resB_t h, subB_len]; exact canB_len N es
theorem resB_lim {M : Nat} {es : List (Int × Int)} {d : List Int} (h : divB 60 (M : Int) es d = true) (u : Nat) : -62 ≤ (resB (M : Int) es d).getD u 0 ∧ (resB (M : Int) es d).getD u 0 ≤ 70 := by
  obtain ⟨M', hM, h0, h6, hn, hl, -, hdb, -⟩ := div_limsB h
  obtain rfl : M' = M := by omega
  rw [resB_t h]
  by_cases hu : u < M'
  · have hc := canL_at (M := M') (es := es) hu
    rw [← canB_t (divB_all h).1] at hc
    have hd : d[u]? = some (d.getD u 0) := by simp [List.getD, List.getElem?_eq_getElem (show u < d.length by omega)]
    have := subB_at hc hd
    rw [List.getD, this, Option.getD_some]
    have h1 := val_lim (M' : Int) hn (u : Int)
    have h2 := hdb u
    rw [wrap64_of (by omega) (by omega)]
    omega
  · have : (subB (canB (M' : Int) es) d)[u]? = none := List.getElem?_eq_none (by rw [subB_len, can_len h]; omega)
    rw [List.getD, this]
    simp
/-- the reduced divisor has no debt just where the chosen one has none at q -/
theorem winX_pos {M : Nat} {es : List (Int × Int)} {d : List Int} {f : Nat → Int} (hf : IsRed M es d 0 f) (hM0 : 0 < M) (hn : es.length ≤ 12) (hd : ∀ u, -100 ≤ d.getD u 0 ∧ d.getD u 0 ≤ 100) (hes : ∀ e ∈ es, 0 ≤ e.1 ∧ e.1 < e.2 ∧ e.2 < (M : Int)) : posAll (chipsOf M (Dv d es f)) = winX M es d := by
  obtain ⟨h0, h1⟩ := winX_of hf hM0 hn hd hes
  rw [h1]
  by_cases h : 0 ≤ Dv d es f 0
  · rw [decide_eq_true h]
    refine posAll_iff.2 fun y hy => ?_
    obtain ⟨u, hu⟩ := List.getElem?_of_mem hy
    have hul : u < M := by have := (List.getElem?_eq_some_iff.1 hu).1; rwa [chipsOf_len] at this
    have hb := Dv_bound (d := d) (M := M) hn (fun u => by have := hd u; omega) hes hf.bound u
    have hg := chipsOf_at (Dv d es f) hul
    rw [hg, wrap64_of (by omega) (by omega)] at hu
    injection hu with hu
    rw [← hu]
    by_cases e : u = 0
    · rw [e]; exact h
    · exact hf.pos u hul e
  · rw [decide_eq_false h]
    cases hp : posAll (chipsOf M (Dv d es f)) with
    | false => rfl
    | true => exact absurd (posAll_iff.1 hp _ (List.mem_of_getElem? h0)) h
noncomputable def spcB (N : Int) (es : List (Int × Int)) (d : List Int) : Bool := einOk N es d && winX N.toNat es (resB N es d)
theorem spcB_f {N : Int} {es : List (Int × Int)} {d : List Int} (h : einOk N es d = false) : spcB N es d = false := by simp [spcB, h]
theorem spcB_t {M : Nat} {es : List (Int × Int)} {d : List Int} (h : einOk (M : Int) es d = true) : spcB (M : Int) es d = winX M es (resB (M : Int) es d) := by simp [spcB, h]
theorem ein_div {N : Int} {es : List (Int × Int)} {d : List Int} (h : einOk N es d = true) : divB 60 N es d = true := by
  unfold einOk at h
  rw [Bool.and_eq_true] at h
  exact h.1
set_option maxRecDepth 100000 in
set_option maxHeartbeats 2000000 in
theorem specRes (N : Int) (A D : Option Addr) (c cd : Nat) (es : List (Int × Int)) (d : List Int) (w : World) (hn : es.length ≤ 1048576) (hw : ∀ e ∈ es, (Lit.int .i64 e.1).wf = true ∧ (Lit.int .i64 e.2).wf = true) (lo : -9223372036854775808 ≤ N) (hi : N ≤ 9223372036854775807) (hd : d.length ≤ 1048576) (hE : EdgeS w w.heap.size A es) (hS : IntS w w.heap.size D d) :
    Calls Try.prog 15 #[.agg #[.int .i64 N, .slice A es.length c], .slice D d.length cd] w (GivesIntsOk w (resB N es d) (divB 60 N es d)) := by
  have HE := Lib.hid hE
  have HS := Lib.hid hS
  have G0 := GB.start w N A c es
  have HD := fun w h1 h2 => Lib.hid (specDiv N A D c cd es d w hn hd h1 h2)
  cases h1 : divB 60 N es d with
  | false =>
    rw [h1] at HD
    rw [resB_f h1]
    clear h1 hw hE hS
    go_enter Try.func15, Try.ntmps15
    go_wp2_with fail
    refine (HD _ (HE.out.up_ G0.old) (HS.out.up_ G0.old)).out.mono ?_
    rintro e w1 ⟨rfl, hb1⟩
    have G1 := Lib.hid (G0.next hb1)
    clear G0 hb1
    go_wp2
    go_ret2
    exact ⟨none, 0, rfl, OwnI.nil _ _ _, G1.out.old⟩
  | true =>
    rw [h1] at HD
    obtain ⟨M, rfl, hM0, hM6, -, hl, -⟩ := div_limsB h1
    have hcl := can_len h1
    rw [resB_t h1]
    have HC := fun w h1 => Lib.hid (specCan (M : Int) A c es w hn hw lo hi h1)
    have HM := Lib.hid (fun (Ay : Option Addr) (cy : Nat) (W : World) (h1 : IntS W W.heap.size Ay (canB (M : Int) es)) (h2 : IntS W W.heap.size D d) => specMinus Ay D cy cd (canB (M : Int) es) d W hd (by omega) h1 h2)
    obtain ⟨K, hK⟩ : ∃ K, K = canB (M : Int) es := ⟨_, rfl⟩
    rw [← hK] at HC HM hcl ⊢
    have HSL := Lib.hid (subB_len K d)
    clear h1 hK hw hE hS hn hd hl hcl hM0 hM6
    go_enter Try.func15, Try.ntmps15
    go_wp2_with fail
    refine (HD _ (HE.out.up_ G0.old) (HS.out.up_ G0.old)).out.mono ?_
    rintro e w1 ⟨rfl, hb1⟩
    have G1 := Lib.hid (G0.next hb1)
    have c0 := G1.out.c0
    have c1 := G1.out.c1
    clear G0 hb1
    go_wp2_with fail
    refine (HC _ (HE.out.up_ G1.out.old)).out.mono ?_
    rintro e w2 ⟨A2, c2, rfl, ho, hb2⟩
    have G2 := Lib.hid (G1.out.next hb2)
    have HO := Lib.hid ho.ints
    clear hb2 c0 c1 ho
    go_wp2_with fail
    refine (HM.out A2 c2 _ HO.out (HS.out.up_ G2.out.old)).mono ?_
    rintro e w3 ⟨A3, c3, rfl, ho, hb3⟩
    have G3 := Lib.hid (G2.out.next hb3)
    have HO3 := Lib.hid (ho.mono G2.out.old.size)
    clear hb3 ho
    go_wp2
    go_ret2
    exact ⟨A3, c3, rfl, HO3.out, G3.out.old⟩
set_option maxRecDepth 100000 in
set_option maxHeartbeats 2000000 in
theorem implRes (N : Int) (A D : Option Addr) (c cd : Nat) (es : List (Int × Int)) (d : List Int) (w : World) (hn : es.length ≤ 1048576) (hw : ∀ e ∈ es, (Lit.int .i64 e.1).wf = true ∧ (Lit.int .i64 e.2).wf = true) (lo : -9223372036854775808 ≤ N) (hi : N ≤ 9223372036854775807) (hd : d.length ≤ 1048576) (hE : EdgeS w w.heap.size A es) (hS : IntS w w.heap.size D d) :
    Calls Try.prog 17 #[.agg #[.int .i64 N, .slice A es.length c], .slice D d.length cd] w (GivesIntsOk w (resB N es d) (divB 60 N es d)) := by
  have HE := Lib.hid hE
  have HS := Lib.hid hS
  have G0 := GB.start w N A c es
  have HD := fun w h1 h2 => Lib.hid (implDiv N A D c cd es d w hn hd h1 h2)
  cases h1 : divB 60 N es d with
  | false =>
    rw [h1] at HD
    rw [resB_f h1]
    clear h1 hw hE hS
    go_enter Try.func17, Try.ntmps17
    go_wp2_with fail
    refine (HD _ (HE.out.up_ G0.old) (HS.out.up_ G0.old)).out.mono ?_
    rintro e w1 ⟨rfl, hb1⟩
    have G1 := Lib.hid (G0.next hb1)
    clear G0 hb1
    go_wp2
    go_ret2
    exact ⟨none, 0, rfl, OwnI.nil _ _ _, G1.out.old⟩
  | true =>
    rw [h1] at HD
    obtain ⟨M, rfl, hM0, hM6, -, hl, -⟩ := div_limsB h1
    have hcl := can_len h1
    rw [resB_t h1]
    have HC := fun w h1 => Lib.hid (implCan (M : Int) A c es w hn hw lo hi h1)
    have HM := Lib.hid (fun (Ay : Option Addr) (cy : Nat) (W : World) (h1 : IntS W W.heap.size Ay (canB (M : Int) es)) (h2 : IntS W W.heap.size D d) => implMinus Ay D cy cd (canB (M : Int) es) d W (by omega) (by omega) h1 h2)
    obtain ⟨K, hK⟩ : ∃ K, K = canB (M : Int) es := ⟨_, rfl⟩
    rw [← hK] at HC HM hcl ⊢
    have HSL := Lib.hid (subB_len K d)
    clear h1 hK hw hE hS hn hd hl hcl hM0 hM6
    go_enter Try.func17, Try.ntmps17
    go_wp2_with fail
    refine (HD _ (HE.out.up_ G0.old) (HS.out.up_ G0.old)).out.mono ?_
    rintro e w1 ⟨rfl, hb1⟩
    have G1 := Lib.hid (G0.next hb1)
    have c0 := G1.out.c0
    have c1 := G1.out.c1
    clear G0 hb1
    go_wp2_with fail
    refine (HC _ (HE.out.up_ G1.out.old)).out.mono ?_
    rintro e w2 ⟨A2, c2, rfl, ho, hb2⟩
    have G2 := Lib.hid (G1.out.next hb2)
    have HO := Lib.hid ho.ints
    clear hb2 c0 c1 ho
    go_wp2_with fail
    refine (HM.out A2 c2 _ HO.out (HS.out.up_ G2.out.old)).mono ?_
    rintro e w3 ⟨A3, c3, rfl, ho, hb3⟩
    have G3 := Lib.hid (G2.out.next hb3)
    have HO3 := Lib.hid (ho.mono G2.out.old.size)
    clear hb3 ho
    go_wp2
    go_ret2
    exact ⟨A3, c3, rfl, HO3.out, G3.out.old⟩
set_option maxRecDepth 100000 in
set_option maxHeartbeats 2000000 in
theorem specSpc (N : Int) (A D : Option Addr) (c cd : Nat) (es : List (Int × Int)) (d : List Int) (w : World) (hn : es.length ≤ 1048576) (hw : ∀ e ∈ es, (Lit.int .i64 e.1).wf = true ∧ (Lit.int .i64 e.2).wf = true) (lo : -9223372036854775808 ≤ N) (hi : N ≤ 9223372036854775807) (hd : d.length ≤ 1048576) (hE : EdgeS w w.heap.size A es) (hS : IntS w w.heap.size D d) :
    Calls Try.prog 18 #[.agg #[.int .i64 N, .slice A es.length c], .slice D d.length cd] w fun e w' => e = .returned (.bool (spcB N es d)) ∧ Below w.heap.size w w' := by
  have HE := Lib.hid hE
  have HS := Lib.hid hS
  have G0 := GB.start w N A c es
  have HD := fun w h1 h2 => Lib.hid (l07Ok_any N A D c cd es d w hn hd h1 h2)
  cases h1 : einOk N es d with
  | false =>
    rw [h1] at HD
    rw [spcB_f h1]
    clear h1 hw hE hS
    go_enter Try.func18, Try.ntmps18
    go_wp2_with fail
    refine (HD _ (HE.out.up_ G0.old) (HS.out.up_ G0.old)).out.mono ?_
    rintro e w1 ⟨rfl, hb1⟩
    have G1 := Lib.hid (G0.next hb1)
    clear G0 hb1
    go_wp2
    go_ret
    exact ⟨ret_boolE rfl, G1.out.old⟩
  | true =>
    rw [h1] at HD
    have hdv := ein_div h1
    obtain ⟨M, rfl, hM0, hM6, hn12, hl, hes, -, hcn⟩ := div_limsB hdv
    have HR := fun w h1 h2 => Lib.hid (specRes (M : Int) A D c cd es d w hn hw lo hi hd h1 h2)
    have hrl : (resB (M : Int) es d).length = M := by rw [resB_t hdv, subB_len, can_len hdv]
    have HW := fun (Ay : Option Addr) (cy : Nat) (W : World) h1 h2 => Lib.hid (specWin7 A Ay c cy M es (resB (M : Int) es d) W hM0 hM6 hrl hn12 hes (fun u => by have := resB_lim hdv u; omega) hcn.cut h1 h2)
    rw [spcB_t h1]
    rw [hdv] at HR
    obtain ⟨K, hK⟩ : ∃ K, K = resB (M : Int) es d := ⟨_, rfl⟩
    rw [← hK] at HR HW ⊢
    obtain ⟨X, hX⟩ : ∃ X, X = winX M es K := ⟨_, rfl⟩
    rw [← hX] at HW ⊢
    clear h1 hK hX hw hE hS hn hd hl hM0 hM6 hdv hn12 hes hcn hrl
    go_enter Try.func18, Try.ntmps18
    go_wp2_with fail
    refine (HD _ (HE.out.up_ G0.old) (HS.out.up_ G0.old)).out.mono ?_
    rintro e w1 ⟨rfl, hb1⟩
    have G1 := Lib.hid (G0.next hb1)
    have c0 := G1.out.c0
    have c1 := G1.out.c1
    clear G0 hb1
    go_wp2_with fail
    refine (HR _ (HE.out.up_ G1.out.old) (HS.out.up_ G1.out.old)).out.mono ?_
    rintro e w2 ⟨A2, c2, rfl, ho, hb2⟩
    have G2 := Lib.hid (G1.out.next hb2)
    have HO := Lib.hid ho.ints
    clear hb2 c0 c1 ho
    have c0 := G2.out.c0
    have c1 := G2.out.c1
    go_wp2_with fail
    refine (HW A2 c2 _ (HE.out.up_ G2.out.old) HO.out).out.mono ?_
    rintro e w3 ⟨rfl, hb3⟩
    have G3 := Lib.hid (G2.out.next hb3)
    clear hb3 c0 c1
    go_wp2
    go_ret
    exact ⟨ret_boolE rfl, G3.out.old⟩
set_option maxRecDepth 100000 in
set_option maxHeartbeats 2000000 in
theorem implSpc (N : Int) (A D : Option Addr) (c cd : Nat) (es : List (Int × Int)) (d : List Int) (w : World) (hn : es.length ≤ 1048576) (hw : ∀ e ∈ es, (Lit.int .i64 e.1).wf = true ∧ (Lit.int .i64 e.2).wf = true) (lo : -9223372036854775808 ≤ N) (hi : N ≤ 9223372036854775807) (hd : d.length ≤ 1048576) (hE : EdgeS w w.heap.size A es) (hS : IntS w w.heap.size D d) :
    Calls Try.prog 19 #[.agg #[.int .i64 N, .slice A es.length c], .slice D d.length cd] w fun e w' => e = .returned (.bool (spcB N es d)) ∧ Below w.heap.size w w' := by
  have HE := Lib.hid hE
  have HS := Lib.hid hS
  have G0 := GB.start w N A c es
  have HD := fun w h1 h2 => Lib.hid (implLis N A D c cd es d w hn hd h1 h2)
  cases h1 : einOk N es d with
  | false =>
    rw [h1] at HD
    rw [spcB_f h1]
    clear h1 hw hE hS
    go_enter Try.func19, Try.ntmps19
    go_wp2_with fail
    refine (HD _ (HE.out.up_ G0.old) (HS.out.up_ G0.old)).out.mono ?_
    rintro e w1 ⟨rfl, hb1⟩
    have G1 := Lib.hid (G0.next hb1)
    clear G0 hb1
    go_wp2
    go_ret
    exact ⟨ret_boolE rfl, G1.out.old⟩
  | true =>
    rw [h1] at HD
    have hdv := ein_div h1
    obtain ⟨M, rfl, hM0, hM6, hn12, hl, hes, -, hcn⟩ := div_limsB hdv
    have HR := fun w h1 h2 => Lib.hid (implRes (M : Int) A D c cd es d w hn hw lo hi hd h1 h2)
    have hrl : (resB (M : Int) es d).length = M := by rw [resB_t hdv, subB_len, can_len hdv]
    have HP := fun (Ay : Option Addr) (cy : Nat) (W : World) h1 h2 => Lib.hid (reduceW_any A Ay c cy M 0 es (resB (M : Int) es d) W hM0 hM6 hM0 hrl hn12 hes (fun u => by have := resB_lim hdv u; omega) hcn.cut h1 h2)
    have HX := Lib.hid (fun (f : Nat → Int) (hf : IsRed M es (resB (M : Int) es d) 0 f) => winX_pos hf hM0 hn12 (fun u => by have := resB_lim hdv u; omega) hes)
    rw [spcB_t h1]
    rw [hdv] at HR
    obtain ⟨K, hK⟩ : ∃ K, K = resB (M : Int) es d := ⟨_, rfl⟩
    rw [← hK] at HR HP HX ⊢
    obtain ⟨X, hX⟩ : ∃ X, X = winX M es K := ⟨_, rfl⟩
    rw [← hX] at HX ⊢
    have HM := Lib.hid (show M ≤ 1048576 by omega)
    clear h1 hK hX hw hE hS hn hd hl hM0 hM6 hdv hn12 hes hcn hrl
    go_enter Try.func19, Try.ntmps19
    go_wp2_with fail
    refine (HD _ (HE.out.up_ G0.old) (HS.out.up_ G0.old)).out.mono ?_
    rintro e w1 ⟨rfl, hb1⟩
    have G1 := Lib.hid (G0.next hb1)
    have c0 := G1.out.c0
    have c1 := G1.out.c1
    clear G0 hb1
    go_wp2_with fail
    refine (HR _ (HE.out.up_ G1.out.old) (HS.out.up_ G1.out.old)).out.mono ?_
    rintro e w2 ⟨A2, c2, rfl, ho, hb2⟩
    have G2 := Lib.hid (G1.out.next hb2)
    have HO := Lib.hid ho.ints
    clear hb2 c0 c1 ho
    have c0 := G2.out.c0
    have c1 := G2.out.c1
    go_wp2_with fail
    refine (HP A2 c2 _ (HE.out.up_ G2.out.old) HO.out).out.mono ?_
    rintro e w3 ⟨pr, pb, g, cg, gs, f, rfl, hf, hr, hN, hb3⟩
    have G3 := Lib.hid (G2.out.next hb3)
    have HQ := Lib.hid (isWonQ pr pb g cg M (chipsOf M (Dv K es f)) w3 (chipsOf_len M _) HM.out (by rw [hr.red.cell]; rfl) (by rw [hr.brd.cell]; rfl) (hr.chips.own (base := w2.heap.size) hN.n1).ints)
    rw [HX.out f hf] at HQ
    clear hb3 c0 c1 hf hr hN
    go_wp2_with fail
    refine HQ.out.mono ?_
    rintro e w4 ⟨rfl, hb4⟩
    have G4 := Lib.hid (G3.out.next hb4)
    clear hb4
    go_wp2
    go_ret
    exact ⟨ret_boolE rfl, G4.out.old⟩
end Go.Proofs.Ytpifbegafnhclaa
