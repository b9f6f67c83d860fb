/- nextChoice: the counter of the ascending lists, over slices.Backward. -/
import Derived.Test.YtdpojcgeblbfeaaVCntU
set_option linter.all false
namespace Go.Proofs.Ytdpojcgeblbfeaa
open Go.RowKit
attribute [local go_sem] Oper.semAt_some

theorem ctuL_up {c : List Int} {v : Nat} (hv : v ≤ c.length) : ctuL c v (c.length - v) (c.getD v 0 + 1) = upA c v := by
  unfold ctuL upA
  refine List.map_congr_left fun u hu => ?_
  have := List.mem_range.1 hu
  by_cases h : u < v
  · rw [if_neg (by omega), if_pos h]
  · rw [if_pos (by omega), if_neg h]
structure NxtI (w Z : World) (g M n : Nat) (x : List Int) (b : Bool) : Prop where
  d : Blk Z g 3 (intCells x).toArray
  bD : Blk Z w.heap.size 28 #[.slice (some ⟨g, 0, none⟩) M M]
  bE : Blk Z (w.heap.size + 1) 3 #[.int .i64 (n : Int)]
  bR : Blk Z (w.heap.size + 1 + 1) 4 #[.bool b]
  bB : Blk Z (w.heap.size + 1 + 1 + 1) 28 #[.slice (some ⟨g, 0, none⟩) M M]
  gr : w.grownBy Z (some g)
theorem NxtI.stq {w Z Z' : World} {g M n B : Nat} {x : List Int} {b : Bool} (h : NxtI w Z g M n x b) (hs : Stq B Z Z') (hB : w.heap.size ≤ B) : NxtI w Z' g M n x b :=
  ⟨hs.block h.d, hs.block h.bD, hs.block h.bE, hs.block h.bR, hs.block h.bB, grownBy_stq h.gr hs hB⟩
theorem NxtI.say {w Z : World} {g M n : Nat} {x : List Int} {b : Bool} (h : NxtI w Z g M n x b) (hg : g < w.heap.size) (b' : Bool) : NxtI w (Z.setCell ⟨w.heap.size + 1 + 1, 0, none⟩ (.bool b')) g M n x b' :=
  ⟨h.d.far (by simp only; omega) _, h.bD.far (by simp only; omega) _, h.bE.far (by simp only; omega) _, by have := h.bR.set_ 0 (.bool b'); exact this, h.bB.far (by simp only; omega) _, grownBy_new h.gr (by omega)⟩
theorem NxtI.grown {w Z Z' : World} {g M n : Nat} {x x' : List Int} {b : Bool} (h : NxtI w Z g M n x b) (hg : g < w.heap.size) (hgr : Z.grownBy Z' (some g)) (hd : Blk Z' g 3 (intCells x').toArray) : NxtI w Z' g M n x' b :=
  ⟨hd, Blk.grown h.bD hgr (fun e => by injection e with e; omega), Blk.grown h.bE hgr (fun e => by injection e with e; omega), Blk.grown h.bR hgr (fun e => by injection e with e; omega), Blk.grown h.bB hgr (fun e => by injection e with e; omega), h.gr.trans hgr⟩
theorem rndB_grownC {n g : Nat} {X Y : World} (h : X.grownBy Y (some g)) (hr : ∃ cur t f, X.heap[g]? = some (.cells cur t f)) : RndB n X Y :=
  ⟨h.size, fun k o hk ho _ => (h.block k (Array.getElem?_eq_some_iff.1 hk).1 fun e => by
    obtain ⟨cur, t, f, hc⟩ := hr
    injection e with e
    subst e
    rw [hk] at hc
    injection hc with hc
    rw [hc] at ho
    cases ho).trans hk⟩
def NxtP (n M : Nat) (c : List Int) (b : Bool) (x : List Int) : Prop := (b = true ∧ ∃ v, v < M ∧ c.getD v 0 < (n : Int) - (M : Int) + (v : Int) ∧ (∀ u, v < u → u < M → c.getD u 0 = (n : Int) - (M : Int) + (u : Int)) ∧ x = upA c v) ∨ (b = false ∧ ∀ u, u < M → c.getD u 0 = (n : Int) - (M : Int) + (u : Int))
set_option maxRecDepth 100000 in
set_option maxHeartbeats 4000000 in
theorem nextChoice_any (g M n : Nat) (c : List Int) (w : World) (hM : M ≤ 6) (hn : n ≤ 12) (hMn : M ≤ n) (hc : AscP n M c) (hB : Blk w g 3 (intCells c).toArray) :
    Calls Try.prog 87 #[.slice (some ⟨g, 0, none⟩) M M, .int .i64 (n : Int)] w fun e w' => ∃ b x, e = .returned (.bool b) ∧ NxtP n M c b x ∧ (b = true → Blk w' g 3 (intCells x).toArray) ∧ w.grownBy w' (some g) := by
  have hg := hB.lt
  have hcl := hc.1
  obtain ⟨W3, hW3⟩ : ∃ X : World, X = ((w.alloc (.cells #[.slice (some ⟨g, 0, none⟩) M M] 28)).alloc (.cells #[.int .i64 (n : Int)] 3)).alloc (.cells #[.bool false] 4) := ⟨_, rfl⟩
  obtain ⟨W4, hW4⟩ : ∃ X : World, X = W3.alloc (.cells #[.slice (some ⟨g, 0, none⟩) M M] 28) := ⟨_, rfl⟩
  have hs3 : W3.heap.size = w.heap.size + 3 := by rw [hW3]; simp
  have hb3 : Below w.heap.size w W3 := by rw [hW3]; exact (((Below.refl _ _).alloc (Nat.le_refl _) _).alloc (by simp) _).alloc (by simp; omega) _
  have hb4 : Below w.heap.size w W4 := by rw [hW4]; exact hb3.alloc (by omega) _
  have hI4 : NxtI w W4 g M n c false := by
    refine ⟨hB.below hb4 hg, ?_, ?_, ?_, ?_, ⟨hb4.os, hb4.tape, hb4.output, hb4.size, fun k hk _ => hb4.block k hk⟩⟩
    · rw [hW4, hW3]; exact (((Blk.new w _ _).alloc _).alloc _).alloc _
    · have h := ((Blk.new (w.alloc (.cells #[.slice (some ⟨g, 0, none⟩) M M] 28)) 3 #[.int .i64 (n : Int)]).alloc (.cells #[.bool false] 4)).alloc (.cells #[.slice (some ⟨g, 0, none⟩) M M] 28)
      rw [World.size_alloc, ← hW3, ← hW4] at h
      exact h
    · have h := (Blk.new ((w.alloc (.cells #[.slice (some ⟨g, 0, none⟩) M M] 28)).alloc (.cells #[.int .i64 (n : Int)] 3)) 4 #[.bool false]).alloc (.cells #[.slice (some ⟨g, 0, none⟩) M M] 28)
      rw [World.size_alloc, World.size_alloc, ← hW3, ← hW4] at h
      exact h
    · have h := Blk.new W3 28 #[.slice (some ⟨g, 0, none⟩) M M]
      rw [hs3, ← hW4] at h
      exact h
  have HI4 := Lib.hid hI4
  have hs4 : W4.heap.size = w.heap.size + 4 := by rw [hW4]; simp; omega
  have HC := Lib.hid hc
  have HCL := Lib.hid hcl
  have HW3 := Lib.hid hW3
  have HW4 := Lib.hid hW4
  have hlb : W4.cell? ⟨w.heap.size + 1 + 1 + 1, 0, none⟩ = some (.slice (some ⟨g, 0, none⟩) M M) := by rw [hI4.bB.cell]; rfl
  have HLB := Lib.hid hlb
  have z2 : W3.cell? ⟨w.heap.size, 0, none⟩ = some (.slice (some ⟨g, 0, none⟩) M M) := by
    rw [hW3]
    have h := ((Blk.new w 28 #[.slice (some ⟨g, 0, none⟩) M M]).alloc (.cells #[.int .i64 (n : Int)] 3)).alloc (.cells #[.bool false] 4)
    rw [h.cell]
    rfl
  clear hcl hc hB hW3 hW4 hb3 hb4 hI4 hlb
  refine callsIn_wide.1 (callsIn_of_wp_marks (n := 9) Try.func87 rfl trivial (wpIn_wide.2 ?_) rfl)
  simp only [Try.ntmps87, List.size_toArray, List.length_cons, List.length_nil, Nat.reduceAdd, Nat.reduceSub, Array.replicate_succ, Array.replicate_zero, List.push_toArray, List.append_toArray, List.nil_append, List.cons_append]
  go_wp2_with fail
  rw [← HW3.out]
  refine (back_int _ _ _ _).mono ?_
  rintro e w4 ⟨rfl, rfl⟩
  rw [← HW4.out, hs3]
  have hb3 : w.heap.size + 3 = w.heap.size + 1 + 1 + 1 := rfl
  rw [hb3]
  clear z2 hs3 hb3 HW3 HW4
  go_wp2
  refine wpIn_wide.1 (range_back (n := 9) (m := M) (lb := w.heap.size + 1 + 1 + 1) (c := M) (A := some ⟨g, 0, none⟩) rfl back_enters_int (back_it_int _ _ _ _ (by omega)) HLB.out
    (fun t Z => t ≤ M ∧ NxtI w Z g M n c false ∧ ∀ u, M - t ≤ u → u < M → c.getD u 0 = (n : Int) - (M : Int) + (u : Int))
    (fun k t Z => k = .ret ∧ ∃ v, v < M ∧ c.getD v 0 < (n : Int) - (M : Int) + (v : Int) ∧ (∀ u, v < u → u < M → c.getD u 0 = (n : Int) - (M : Int) + (u : Int)) ∧ NxtI w Z g M n (upA c v) true)
    ?abd ?abdx ?hrd ⟨Nat.zero_le _, HI4.out, fun u h1 h2 => absurd h2 (by omega)⟩
    (fun v1 v2 => { tmps := #[.slice (some ⟨g, 0, none⟩) M M, .int .i64 (n : Int), .pointer (some ⟨w.heap.size, 0, none⟩), .pointer (some ⟨w.heap.size + 1, 0, none⟩), .pointer (some ⟨w.heap.size + 1 + 1, 0, none⟩), v1, undef, .slice (some ⟨g, 0, none⟩) M M, .func (.func 186) #[] #[.pointer (some ⟨w.heap.size + 1 + 1 + 1, 0, none⟩)], v1, v2, undef, undef, undef, undef, undef, undef, undef, undef, undef, undef, undef, undef, undef, undef, undef, undef, undef, undef, undef, undef, undef], defers := [] }) ?assign ?body ?done ?stop)
  case abd => exact fun t X Y ⟨h1, h2, h3⟩ hs => ⟨h1, h2.stq hs (by omega), h3⟩
  case abdx => exact fun k t X Y ⟨h1, v, h2, h3, h4, h5⟩ hs => ⟨h1, v, h2, h3, h4, h5.stq hs (by omega)⟩
  case hrd =>
    rintro t X ⟨h1, h2, h3⟩ ht
    have hcl := HCL.out
    refine ⟨.int .i64 (c.getD (M - 1 - t) 0), by rw [h2.bB.cell]; rfl, g, 0, rfl, ?_⟩
    rw [h2.d.cell, Nat.zero_add]
    simp [intCells, show M - 1 - t < c.length by omega, List.getD]
  case assign =>
    intro l v1 v2 Wz K hK
    gi_wp2
    exact hK
  case body =>
    rintro l t u Y hl ⟨h1, h2, h3⟩ ht -
    have hcl := HCL.out
    obtain ⟨v, hv⟩ : ∃ v, v = M - 1 - t := ⟨_, rfl⟩
    have hv1 : M - t = v + 1 := by omega
    have hv2 : M - (t + 1) = v := by omega
    have hvM : v < M := by omega
    rw [hv1] at h3
    rw [← hv]
    have hcd : Y.cell? ⟨g, v, none⟩ = some (.int .i64 (c.getD v 0)) := by
      rw [h2.d.cell]
      simp [intCells, show v < c.length by omega, List.getD]
    have hD : Y.cell? ⟨w.heap.size, 0, none⟩ = some (.slice (some ⟨g, 0, none⟩) M M) := by rw [h2.bD.cell]; rfl
    have hEE : Y.cell? ⟨w.heap.size + 1, 0, none⟩ = some (.int .i64 (n : Int)) := by rw [h2.bE.cell]; rfl
    have hv0 : (0 : Int) ≤ (v : Int) := Int.natCast_nonneg _
    have hv9 : (v : Int) < (M : Int) := by omega
    have hbot := HC.out.2.1 v hvM
    have htop := HC.out.top hvM
    have z5 : IntKind.i64.wrap ((n : Int) - (M : Int)) = (n : Int) - (M : Int) := by rw [IntKind.wrap_i64]; omega
    have z6 : IntKind.i64.wrap ((n : Int) - (M : Int) + (v : Int)) = (n : Int) - (M : Int) + (v : Int) := by rw [IntKind.wrap_i64]; omega
    have hz : IntKind.i64.wrap (c.getD v 0 + 1) = c.getD v 0 + 1 := by rw [IntKind.wrap_i64]; omega
    obtain ⟨cv, hcv⟩ : ∃ z, z = c.getD v 0 := ⟨_, rfl⟩
    rw [← hcv] at hcd hz htop hbot
    have hvM2 : v ≤ M := by omega
    have hvn : ¬ M = v := by omega
    have HI := Lib.hid h2
    have HH := Lib.hid h3
    have HCV := Lib.hid hcv
    have HV2 := Lib.hid hv2
    clear h2 h3 hcv hv hv1 hv2
    by_cases hlt : cv < (n : Int) - (M : Int) + (v : Int)
    · have t1 : decide (cv < (n : Int) - (M : Int) + (v : Int)) = true := decide_eq_true hlt
      have mixed : Try.prog.follows .mixedOrders = true := by kernel_rfl
      have HS0 := Lib.hid (show (fun W : World => W.cell? ⟨w.heap.size, 0, none⟩ = some (.slice (some ⟨g, 0, none⟩) M M)) Y.drew from hD)
      have HCD := Lib.hid (show Y.drew.cell? ⟨g, v, none⟩ = some (.int .i64 cv) from hcd)
      gi_wp2_with fail
      refine region_round_held (S := fun W : World => W.cell? ⟨w.heap.size, 0, none⟩ = some (.slice (some ⟨g, 0, none⟩) M M)) mixed (by kernel_rfl) (fun ⟨_, _, h⟩ => h) ?_
      refine wpAnyH_on 0 (some 23) (.slice (some ⟨g, 0, none⟩) M M) rfl (by kernel_rfl) (by kernel_rfl) (by kernel_rfl) (fun _ _ _ h => h) rfl HS0.out (by rfl) ?_ ?_
      · intro W s1
        go_simp
      try simp only [Act.put, List.setIfInBounds_toArray, List.set_cons_zero, List.set_cons_succ]
      refine wpAnyH_on 1 (some 24) (.int .i64 (v : Int)) rfl (by kernel_rfl) (by kernel_rfl) (by kernel_rfl) (fun _ _ _ h => h) rfl HS0.out (by rfl) ?_ ?_
      · intro W s1
        go_simp
      try simp only [Act.put, List.setIfInBounds_toArray, List.set_cons_zero, List.set_cons_succ]
      refine wpAnyH_on 2 (some 25) (.slice (some ⟨g, v, none⟩) (M - v) (M - v)) rfl (by kernel_rfl) (by kernel_rfl) (by kernel_rfl) (fun _ _ _ h => h) rfl HS0.out (by rfl) ?_ ?_
      · intro W s1
        go_simp
      try simp only [Act.put, List.setIfInBounds_toArray, List.set_cons_zero, List.set_cons_succ]
      refine wpAnyH_on 3 (some 26) (.slice (some ⟨g, 0, none⟩) M M) rfl (by kernel_rfl) (by kernel_rfl) (by kernel_rfl) (fun _ _ _ h => h) rfl HS0.out (by rfl) ?_ ?_
      · intro W s1
        go_simp
      try simp only [Act.put, List.setIfInBounds_toArray, List.set_cons_zero, List.set_cons_succ]
      refine wpAnyH_on 4 (some 27) (.int .i64 (v : Int)) rfl (by kernel_rfl) (by kernel_rfl) (by kernel_rfl) (fun _ _ _ h => h) rfl HS0.out (by rfl) ?_ ?_
      · intro W s1
        go_simp
      try simp only [Act.put, List.setIfInBounds_toArray, List.set_cons_zero, List.set_cons_succ]
      refine wpAnyH_on 5 (some 28) (.pointer (some ⟨g, v, none⟩)) rfl (by kernel_rfl) (by kernel_rfl) (by kernel_rfl) (fun _ _ _ h => h) rfl HS0.out (by rfl) ?_ ?_
      · intro W s1
        go_simp
      try simp only [Act.put, List.setIfInBounds_toArray, List.set_cons_zero, List.set_cons_succ]
      refine wpAnyH_ready (rs := [6]) (by kernel_rfl) (by simp) ?_
      refine AllReadyH.cons rfl (fun K hK => ?_) AllReadyH.nil
      have qv := HCD.out
      go_simp
      refine hK.out _ _ (by with_reducible exact HS0.out) (fun _ => ?_)
      clear hK K qv
      try simp only [Act.put, List.setIfInBounds_toArray, List.set_cons_zero, List.set_cons_succ]
      refine wpAnyH_ready (rs := [7]) (by kernel_rfl) (by simp) ?_
      refine AllReadyH.cons rfl (fun K hK => ?_) AllReadyH.nil
      go_simp
      refine hK.out _ _ (by with_reducible exact HS0.out) (fun _ => ?_)
      clear hK K
      try simp only [Act.put, List.setIfInBounds_toArray, List.set_cons_zero, List.set_cons_succ]
      refine wpAnyH_ready (rs := [8]) (by kernel_rfl) (by simp) ?_
      refine AllReadyH.cons rfl (fun K hK => ?_) AllReadyH.nil
      go_simp
      refine (countUp_any g v (M - v) (M - v) (cv + 1) c _ (by omega) (by omega) (by rw [HCL.out]; omega) (Blk.below HI.out.d ((Below.refl _ _).drew) HI.out.d.lt)).mono ?_
      rintro e w5 ⟨rfl, hd5, hg5⟩
      have hI5 : NxtI w w5 g M n (upA c v) false := by
        have h0 := HI.out.stq (Stq.of_below ((Below.refl Y.heap.size Y).drew) w.heap.size) (Nat.le_refl _)
        refine h0.grown hg hg5 ?_
        have e := ctuL_up (c := c) (v := v) (by rw [HCL.out]; omega)
        rw [HCL.out, ← HCV.out] at e
        rw [← e]
        exact hd5
      have hS5 : (fun W : World => W.cell? ⟨w.heap.size, 0, none⟩ = some (.slice (some ⟨g, 0, none⟩) M M)) w5 := by
        show w5.cell? ⟨w.heap.size, 0, none⟩ = _
        rw [hI5.bD.cell]; rfl
      refine hK.out _ _ (by with_reducible exact hS5) (fun _ => ?_)
      clear hK K
      try simp only [Act.put, List.setIfInBounds_toArray, List.set_cons_zero, List.set_cons_succ]
      have HR5 := Lib.hid (show RndB W4.heap.size Y (w5.setCell ⟨w.heap.size + 1 + 1, 0, none⟩ (.bool true)) from
        ((RndB.of_below ((Below.refl _ _).drew) _).trans (rndB_grownC hg5 ⟨_, _, _, (Blk.below HI.out.d ((Below.refl _ _).drew) HI.out.d.lt)⟩)).trans (RndB.set (u := .bool false) (by rw [hI5.bR.cell]; rfl)))
      have HX5 := Lib.hid (hI5.say hg true)
      have hR : w5.cell? ⟨w.heap.size + 1 + 1, 0, none⟩ = some (.bool false) := by rw [hI5.bR.cell]; rfl
      have hRf := hI5.bR.frozen 0
      clear hI5 hS5 hd5 hg5
      refine wpAnyH_done (by kernel_rfl) ?_ _
      gi_wp2
      refine ⟨?_, rfl, v, hvM, ?_, ?_, ?_⟩
      · first | exact HR5.out | (have h := HR5.out; rw [hs4] at h; exact h)
      · rw [← HCV.out]; exact hlt
      · exact fun u h1 h2 => HH.out u (by omega) h2
      · exact HX5.out
    · have t1 : decide (cv < (n : Int) - (M : Int) + (v : Int)) = false := decide_eq_false hlt
      have HFIN := Lib.hid (show RndB W4.heap.size Y Y ∧ (t + 1 ≤ M ∧ NxtI w Y g M n c false ∧ ∀ u, M - (t + 1) ≤ u → u < M → c.getD u 0 = (n : Int) - (M : Int) + (u : Int)) from by
        refine ⟨RndB.refl _ _, by omega, HI.out, fun u hu1 hu2 => ?_⟩
        rw [HV2.out] at hu1
        by_cases e : u = v
        · rw [e, ← HCV.out]; omega
        · exact HH.out u (by omega) hu2)
      gi_wp2
      exact ⟨by have h := HFIN.out.1; rw [hs4] at h; exact h, HFIN.out.2.1, HFIN.out.2.2.1, fun u h1 h2 => HFIN.out.2.2.2 u (by omega) h2⟩
  case done =>
    rintro Z ⟨h1, h2, h3⟩ hD
    have hR : Z.cell? ⟨w.heap.size + 1 + 1, 0, none⟩ = some (.bool false) := by rw [h2.bR.cell]; rfl
    have hRf := h2.bR.frozen 0
    have HG := Lib.hid (grownBy_new (u := .bool false) (o := 0) h2.gr (show w.heap.size ≤ w.heap.size + 1 + 1 by omega))
    have HX := Lib.hid (show Blk (Z.setCell ⟨w.heap.size + 1 + 1, 0, none⟩ (.bool false)) (w.heap.size + 1 + 1) 4 #[.bool false] from h2.bR.set_ 0 (.bool false))
    have HD := Lib.hid (show (Z.setCell ⟨w.heap.size + 1 + 1, 0, none⟩ (.bool false)).heap[W4.heap.size]? = some (.deferred (some [])) from (Below.heap_setCell _ _ _ _ (by simp only; omega)).trans hD)
    have HH := Lib.hid (show ∀ u, u < M → c.getD u 0 = (n : Int) - (M : Int) + (u : Int) from fun u hu => h3 u (by omega) hu)
    clear h1 h2 h3 hD
    go_wp2
    refine mark_leaveB (B := w.heap.size + 3) (fun h => (by cases h)) (by omega) HD.out fun w' hw' => ?_
    have hx := hw'.block HX.out
    have hxc : w'.cell? ⟨w.heap.size + 1 + 1, 0, none⟩ = some (.bool false) := by rw [Blk.cell (g := w.heap.size + 1 + 1) hx]; rfl
    refine ⟨.bool false, by simp [results, Try.results87, go_sem, hxc], ?_⟩
    exact ⟨false, [], rfl, .inr ⟨rfl, HH.out⟩, fun h => (by cases h), grownBy_stq HG.out hw' (by omega)⟩
  case stop =>
    rintro k t Z ⟨rfl, v, h2, h3, h4, h5⟩ hD
    have HI := Lib.hid h5
    have HD := Lib.hid hD
    clear h5 hD
    gi_wp2
    refine mark_leaveB (B := w.heap.size + 4) (fun h => (by cases h)) (by omega) HD.out fun w' hw' => ?_
    have q := HI.out.stq hw' (by omega)
    have hxc : w'.cell? ⟨w.heap.size + 1 + 1, 0, none⟩ = some (.bool true) := by rw [q.bR.cell]; rfl
    refine ⟨.bool true, by simp [results, Try.results87, go_sem, hxc], ?_⟩
    exact ⟨true, _, rfl, .inl ⟨rfl, v, h2, h3, h4, rfl⟩, fun _ => q.d, q.gr⟩
end Go.Proofs.Ytdpojcgeblbfeaa
