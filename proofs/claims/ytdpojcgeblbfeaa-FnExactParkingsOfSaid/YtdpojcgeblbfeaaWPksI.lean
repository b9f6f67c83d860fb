/- ParkingsOf: the program's side. -/
import Derived.Test.YtdpojcgeblbfeaaWBack
import Derived.Test.YtdpojcgeblbfeaaWOutX
import Derived.Test.YtdpojcgeblbfeaaWRcpI
import Derived.Test.YtdpojcgeblbfeaaWParX
import Derived.Test.YtdpojcgeblbfeaaWPilFew
set_option linter.all false
namespace Go.Proofs.Ytdpojcgeblbfeaa
open Go.RowKit
attribute [local go_sem] Oper.semAt_some

theorem rndB_grown {n : Nat} {X Y : World} {r : Option Nat} (h : X.grownBy Y r) (hr : ∀ b, r = some b → ∃ cur t f, X.heap[b]? = some (.cells cur t f)) : RndB n X Y :=
  ⟨h.size, fun k o hk ho _ => (h.block k (Array.getElem?_eq_some_iff.1 hk).1 fun e => by
    obtain ⟨cur, t, f, hc⟩ := hr k e.symm
    rw [hk] at hc
    injection hc with hc
    rw [hc] at ho
    cases ho).trans hk⟩
theorem own_cellsO {B : Nat} {w : World} {v : Value} {L : List (List Int)} {us : List Value} (h : w.ownsRow B 28 1 v L.length us) : ∀ b, v.ownBlock = some b → ∃ cur t f, w.heap[b]? = some (.cells cur t f) := fun b hb => by
  rcases h.2 with ⟨e, e0⟩ | ⟨g, cap, cur, e, k1, k2, -⟩
  · rw [e] at hb; cases hb
  · rw [e] at hb
    injection hb with hb
    rw [← show g = b from hb]
    exact ⟨_, _, _, k2⟩
theorem wp_append_eq {P : Program} {ops : Array Oper} {Q : Exit → Act → World → Prop} {o : Oper} {a : Act} {w w' : World} {K : Act → World → Prop} {E : Prop} (hgd : o.guard = none) (s x : Operand) (t : TypeId) (ho : o.op = .call { callee := .builtin .append, args := #[s, x], argTypes := #[t, t] })
    (v1 v2 v : Value) (hs : a.eval s = v1) (hx : a.eval x = v2) (hr : (Builtin.append_ #[t, t] o.type #[v1, v2]).run P w = .ok v w') (h : K (a.put o.dst v) w') :
    if Region.wanted o (yielded ops a.tmps) = true then Oper.wp P o a w K Q else E := by
  rw [if_pos (by simp [Region.wanted, hgd])]
  unfold Oper.wp execOp
  simp only [ho, resolve, invoke, builtin, Sem.run_bind, Sem.run_pure, Result.andThen_ok, List.map_toArray, List.map_cons, List.map_nil, hs, hx, hr]
  exact h
theorem pk_read {w1 X : World} {base hi : Nat} {A : Option Addr} {P : List (List Int)} (HO : OwnSS w1 base hi A P) (hb : Below w1.heap.size w1 X) {j : Nat} {r : List Int} (hr : P[j]? = some r) :
    ∃ (g off : Nat) (Aj : Option Addr) (cj : Nat), A = some ⟨g, off, none⟩ ∧ X.cell? ⟨g, off + j, none⟩ = some (.slice Aj r.length cj) ∧ IntS X X.heap.size Aj r := by
  obtain ⟨g, off, Aj, cj, e, h1, h2, h3, h4, h5, -⟩ := HO.row hr
  exact ⟨g, off, Aj, cj, e, (hb.cell h2).trans h4, (h5.below hb).ints⟩
structure PkI (w1 Z : World) (b8 : Nat) (A : Option Addr) (m c : Nat) (L : List (List Int)) : Prop where
  old : Below w1.heap.size w1 Z
  bB : Blk Z (b8 + 1) 41 #[.slice A m c]
  box : ∃ v, Blk Z b8 41 #[v] ∧ OutX b8 w1.heap.size Z v L ∧ v.ownBlock ≠ some (b8 + 1)
theorem PkI.stq {w1 Z Z' : World} {b8 m c B : Nat} {A : Option Addr} {L : List (List Int)} (h : PkI w1 Z b8 A m c L) (hs : Stq B Z Z') (hB : w1.heap.size ≤ B) : PkI w1 Z' b8 A m c L := by
  obtain ⟨v, h1, h2, h3⟩ := h.box
  exact ⟨h.old.trans (hs.below hB h.old.size), hs.block h.bB, v, hs.block h1, h2.stq hs, h3⟩
set_option maxRecDepth 100000 in
set_option maxHeartbeats 1000000 in
theorem implPks (N : Int) (A : Option Addr) (c : Nat) (es : List (Int × Int)) (q : Int) (w : World) (hn : es.length ≤ 1048576) (hE : EdgeS w w.heap.size A es) :
    Calls Try.prog 46 #[.agg #[.int .i64 N, .slice A es.length c], .int .i64 q] w (GivesSSP w (parksC N es q) (pilesOk N es q)) := by
  obtain ⟨i1, hj, hy0, hy1, hy2⟩ := info_parts rowsInfo
  have HE := Lib.hid hE
  have HR := fun w h1 => Lib.hid (implRcp N A c es q w hn h1)
  cases h0 : pilesOk N es q with
  | false =>
    rw [pilesC_f h0, h0] at HR
    rw [parksC_f h0]
    clear h0 hE
    have hb0 : Below w.heap.size w ((w.alloc (.cells #[.int .i64 N, .slice A es.length c] 25)).alloc (.cells #[.int .i64 q] 3)) := ((Below.refl _ _).alloc (Nat.le_refl _) _).alloc (by simp) _
    go_enter Try.func46, Try.ntmps46
    go_wp2_with fail
    refine (HR _ (HE.out.up_ hb0)).out.mono ?_
    rintro e w1 ⟨A1, c1, rfl, ho1, hb1⟩
    have HB1 := Lib.hid (hb0.trans (hb1.mono (by simp; omega)))
    clear hb0 hb1 ho1
    go_wp2
    go_ret2
    exact ⟨none, 0, rfl, fun hn => absurd hn (by simp), HB1.out⟩
  | true =>
    obtain ⟨M, k, rfl, rfl, hP⟩ := piles_parts h0
    rw [pilesC_t h0, h0] at HR
    rw [parksC_t h0]
    obtain ⟨P, hPd⟩ : ∃ P, P = pilesL M k es := ⟨_, rfl⟩
    have hfew : P.length ≤ 400 := by
      have := (pilesC_few (M : Int) es (k : Int) w).1
      rw [pilesC_t h0, ← hPd] at this
      exact this
    have HIS := Lib.hid (show P.reverse.map (fun p => (dualL M k es p).set k (-1)) = parksL M k es from by rw [hPd]; exact parks_is hP.km)
    have HPL := Lib.hid (show ∀ p ∈ P, p.length = M ∧ ∀ u, u < M → u ≠ k → -1000000 ≤ p.getD u 0 ∧ p.getD u 0 ≤ 1000000 from fun p hp => by
      rw [hPd] at hp
      obtain ⟨s, hs, rfl⟩ := piles_mem.1 hp
      refine ⟨dual_len _ _ _ _, fun u hu hne => ?_⟩
      have h1 := ((box_dual (vals_pos hP) (fun u hu => fullTo_get hu) (fullTo_len es k M) hP.km).2 ⟨s, hs, rfl⟩).1.2 u (by rw [fullTo_len]; exact hu)
      rw [fullTo_get hu, if_neg hne] at h1
      have h2 := valP_lim u es fun e he => (hP.ed e he).2.1
      have := hP.n12
      omega)
    rw [← hPd] at HR
    have HP := Lib.hid hP
    clear h0 hE hPd hP
    obtain ⟨wb, hwb⟩ : ∃ W : World, W = (w.alloc (.cells #[.int .i64 (M : Int), .slice A es.length c] 25)).alloc (.cells #[.int .i64 (k : Int)] 3) := ⟨_, rfl⟩
    have hb0 : Below w.heap.size w wb := by rw [hwb]; exact ((Below.refl _ _).alloc (Nat.le_refl _) _).alloc (by simp) _
    have hbG : Blk wb w.heap.size 25 #[.int .i64 (M : Int), .slice A es.length c] := by rw [hwb]; exact (Blk.new w _ _).alloc _
    have hbQ : Blk wb (w.heap.size + 1) 3 #[.int .i64 (k : Int)] := by
      have h := Blk.new (w.alloc (.cells #[.int .i64 (M : Int), .slice A es.length c] 25)) 3 #[.int .i64 (k : Int)]
      rw [World.size_alloc, ← hwb] at h
      exact h
    have g0 : wb.cell? ⟨w.heap.size, 0, none⟩ = some (.int .i64 (M : Int)) := by rw [hbG.cell]; rfl
    have g1 : wb.cell? ⟨w.heap.size, 1, none⟩ = some (.slice A es.length c) := by rw [hbG.cell]; rfl
    have g2 : wb.cell? ⟨w.heap.size + 1, 0, none⟩ = some (.int .i64 (k : Int)) := by rw [hbQ.cell]; rfl
    have HB0 := Lib.hid hb0
    have HBG := Lib.hid hbG
    have HBQ := Lib.hid hbQ
    have HWB := Lib.hid hwb
    clear hb0 hbG hbQ hwb
    refine callsIn_wide.1 (callsIn_of_wp_marks (n := 9) Try.func46 rfl trivial (wpIn_wide.2 ?_) rfl)
    simp only [Try.ntmps46, List.size_toArray, List.length_cons, List.length_nil, Nat.reduceAdd, Nat.reduceSub, Array.replicate_succ, Array.replicate_zero, List.push_toArray, List.append_toArray, List.nil_append, List.cons_append]
    go_wp2_with fail
    rw [← HWB.out]
    refine (HR _ (HE.out.up_ HB0.out)).out.mono ?_
    rintro e w1 ⟨A1, c1, rfl, ho1, hb1⟩
    have HO1 := Lib.hid ho1
    have HB1 := Lib.hid hb1
    have hs1 := hb1.size
    have hsb := HBQ.out.lt
    have hbm : i1.bytes * P.length ≤ 281474976710656 := by rw [hy2]; omega
    clear ho1 hb1 g0 g1 g2
    go_wp2_with (at_make; refine wpList_make_own _ rfl _ _ 41 rfl w1.heap.size 28 i1 (.slice none 0 0) 1 Try.underlying41 hj hy0 hy1 .i64 .i64 _ P.length rfl rfl rfl hbm (by unfold maxLen; omega) (Nat.le_refl _) ?_)
    intro w2 hown2 hgrow2
    obtain ⟨W3, hW3⟩ : ∃ W : World, W = w2.alloc (.cells #[.slice (some ⟨w1.heap.size, 0, none⟩) 0 P.length] 41) := ⟨_, rfl⟩
    obtain ⟨W4, hW4⟩ : ∃ W : World, W = W3.alloc (.cells #[.slice A1 P.length c1] 41) := ⟨_, rfl⟩
    have hgs2 := hgrow2.size
    have hlt2 : w1.heap.size < w2.heap.size := (hown2.lt _ rfl).2
    have hs3 : W3.heap.size = w2.heap.size + 1 := by rw [hW3]; simp
    have hs4 : W4.heap.size = w2.heap.size + 2 := by rw [hW4]; simp; omega
    have hbe2 : Below w1.heap.size w1 w2 := (Below.refl _ _).grown hgrow2 (Nat.le_refl _) (fun b e => by cases e)
    have hb34 : Below w2.heap.size w2 W4 := by rw [hW4, hW3]; exact ((Below.refl _ _).alloc (Nat.le_refl _) _).alloc (by simp) _
    have hI4 : PkI w1 W4 w2.heap.size A1 P.length c1 [] := by
      refine ⟨hbe2.trans (hb34.mono (by omega)), ?_, .slice (some ⟨w1.heap.size, 0, none⟩) 0 P.length, ?_, ?_, fun e => by injection e with e; simp only at e; omega⟩
      · have h := Blk.new W3 41 #[.slice A1 P.length c1]
        rw [hs3, ← hW4] at h
        exact h
      · rw [hW4, hW3]; exact (Blk.new w2 _ _).alloc _
      · exact (OutX.new hown2 (fun e => by injection e with e; simp only at e; omega)).stq (Stq.of_below hb34 0)
    have HI4 := Lib.hid hI4
    have HLB := Lib.hid (show W4.cell? ⟨w2.heap.size + 1, 0, none⟩ = some (.slice A1 P.length c1) from by rw [hI4.bB.cell]; rfl)
    have HW3 := Lib.hid hW3
    have HW4 := Lib.hid hW4
    clear hown2 hgrow2 HWB hW3 hW4 hbe2 hb34 hI4
    go_wp2_with fail
    rw [← HW3.out]
    refine (back_rows _ _ _ _).mono ?_
    rintro e w4 ⟨rfl, rfl⟩
    rw [← HW4.out, hs3]
    go_wp2
    refine wpIn_wide.1 (range_back (n := 9) (m := P.length) (lb := w2.heap.size + 1) (c := c1) (A := A1) rfl back_enters_rows (back_it_rows _ _ _ _ (by omega)) HLB.out
      (fun t Z => t ≤ P.length ∧ PkI w1 Z w2.heap.size A1 P.length c1 ((P.drop (P.length - t)).reverse.map fun p => (dualL M k es p).set k (-1)))
      (fun _ _ _ => False)
      ?abd ?abdx ?hrd ⟨Nat.zero_le _, by simpa using HI4.out⟩
      (fun v1 v2 => { tmps := #[.agg #[.int .i64 (M : Int), .slice A es.length c], .int .i64 (k : Int), .pointer (some ⟨w.heap.size, 0, none⟩), .pointer (some ⟨w.heap.size + 1, 0, none⟩), .slice none 0 0, .bool false, .slice A1 P.length c1, .bool true, .pointer (some ⟨w2.heap.size, 0, none⟩), undef, v2, .tuple #[.slice A1 P.length c1, .bool true], .agg #[.int .i64 (M : Int), .slice A es.length c], .int .i64 (k : Int), .tuple #[.slice A1 P.length c1, .bool true], .slice A1 P.length c1, .bool true, .bool true, .bool false, .slice A1 P.length c1, .int .i64 (P.length : Int), .slice (some ⟨w1.heap.size, 0, none⟩) 0 P.length, .slice A1 P.length c1, .func (.func 150) #[] #[.pointer (some ⟨w2.heap.size + 1, 0, none⟩)], v1, v2, undef, undef, undef, undef, undef, undef, undef, undef], defers := [] }) ?assign ?body ?done ?stop)
    case abd => exact fun t X Y ⟨h1, h2⟩ hs => ⟨h1, h2.stq hs (by omega)⟩
    case abdx => exact fun k t X Y h hs => h.elim
    case hrd =>
      rintro t X ⟨h1, h2⟩ ht
      obtain ⟨g, off, Aj, cj, e, h3, -⟩ := pk_read HO1.out h2.old (List.getElem?_eq_getElem (show P.length - 1 - t < P.length by omega))
      exact ⟨_, by rw [h2.bB.cell]; rfl, g, off, e, h3⟩
    case assign =>
      intro l v1 v2 Wz K hK
      gi_wp2
      exact hK
    case body =>
      rintro l t u Y hl ⟨h1, h2⟩ ht ⟨-, b, off, hA, hu⟩
      obtain ⟨j, hjd⟩ : ∃ j, j = P.length - 1 - t := ⟨_, rfl⟩
      have hjl : j < P.length := by omega
      obtain ⟨r, hr⟩ : ∃ r, P[j]? = some r := ⟨_, List.getElem?_eq_getElem hjl⟩
      obtain ⟨g, off', Aj, cj, hA', h3, hIr⟩ := pk_read HO1.out h2.old hr
      rw [hA'] at hA
      injection hA with hA
      injection hA with e1 e2 _
      subst e1
      subst e2
      rw [← hjd, h3] at hu
      injection hu with hu
      subst hu
      rw [← hjd]
      obtain ⟨v, hv, hox, hvb⟩ := h2.box
      obtain ⟨hrl, hrb⟩ := HPL.out r (List.mem_of_getElem? hr)
      rw [hrl]
      obtain ⟨L, hL⟩ : ∃ L, L = (P.drop (P.length - t)).reverse.map fun p => (dualL M k es p).set k (-1) := ⟨_, rfl⟩
      have hL2 : ((P.drop (P.length - (t + 1))).reverse.map fun p => (dualL M k es p).set k (-1)) = L ++ [(dualL M k es r).set k (-1)] := by
        have e1 : P.length - (t + 1) = j := by omega
        have e2 : P.length - t = j + 1 := by omega
        have e3 : r = P[j] := by rw [List.getElem?_eq_getElem hjl] at hr; injection hr with hr; exact hr.symm
        rw [hL, e1, e2, List.drop_eq_getElem_cons hjl, List.reverse_cons, List.map_append, e3]
        rfl
      have hLl : L.length = t := by rw [hL]; simp; omega
      rw [← hL] at hox
      have hod := h2.old
      have q0 : Y.cell? ⟨w.heap.size, 0, none⟩ = some (.int .i64 (M : Int)) := by rw [((HBG.out.below HB1.out HBG.out.lt).below hod (by omega)).cell]; rfl
      have q1 : Y.cell? ⟨w.heap.size, 1, none⟩ = some (.slice A es.length c) := by rw [((HBG.out.below HB1.out HBG.out.lt).below hod (by omega)).cell]; rfl
      have q2 : Y.cell? ⟨w.heap.size + 1, 0, none⟩ = some (.int .i64 (k : Int)) := by rw [((HBQ.out.below HB1.out HBQ.out.lt).below hod (by omega)).cell]; rfl
      have q3 : Y.cell? ⟨w2.heap.size, 0, none⟩ = some v := by rw [hv.cell]; rfl
      have HEY := Lib.hid (HE.out.up_ (HB0.out.trans ((HB1.out.trans (hod.mono hs1)).mono HB0.out.size)))
      have HIR := Lib.hid hIr
      have HOX := Lib.hid hox
      have HV := Lib.hid hv
      have HH2 := Lib.hid h2
      have HL2 := Lib.hid hL2
      have hvl := hv.lt
      have mixed : Try.prog.follows .mixedOrders = true := by kernel_rfl
      have HS0 := Lib.hid (show (fun W : World => W.cell? ⟨w.heap.size, 0, none⟩ = some (.int .i64 (M : Int)) ∧ W.cell? ⟨w.heap.size, 1, none⟩ = some (.slice A es.length c) ∧ W.cell? ⟨w.heap.size + 1, 0, none⟩ = some (.int .i64 (k : Int))) Y.drew from ⟨q0, q1, q2⟩)
      have HQ3 := Lib.hid (show Y.drew.cell? ⟨w2.heap.size, 0, none⟩ = some v from q3)
      clear hod h2 hv hox hIr hL hL2 q0 q1 q2 q3 hr h3
      gi_wp2_with fail
      refine region_round_held (S := fun W : World => W.cell? ⟨w.heap.size, 0, none⟩ = some (.int .i64 (M : Int)) ∧ W.cell? ⟨w.heap.size, 1, none⟩ = some (.slice A es.length c) ∧ W.cell? ⟨w.heap.size + 1, 0, none⟩ = some (.int .i64 (k : Int))) mixed (by kernel_rfl) (fun ⟨_, _, h⟩ => h) ?_
      refine wpAnyH_on 1 (some 27) (.agg #[.int .i64 (M : Int), .slice A es.length c]) rfl (by kernel_rfl) (by kernel_rfl) (by kernel_rfl) (fun _ _ _ h => h) rfl HS0.out (by rfl) ?_ ?_
      · intro W hSw
        obtain ⟨s1, s2, s3⟩ := hSw
        go_simp
      try simp only [Act.put, List.setIfInBounds_toArray, List.set_cons_zero, List.set_cons_succ]
      refine wpAnyH_on 2 (some 28) (.slice Aj M cj) rfl (by kernel_rfl) (by kernel_rfl) (by kernel_rfl) (fun _ _ _ h => h) rfl HS0.out (by rfl) ?_ ?_
      · intro W hSw
        obtain ⟨s1, s2, s3⟩ := hSw
        go_simp
      try simp only [Act.put, List.setIfInBounds_toArray, List.set_cons_zero, List.set_cons_succ]
      refine wpAnyH_on 3 (some 29) (.int .i64 (k : Int)) rfl (by kernel_rfl) (by kernel_rfl) (by kernel_rfl) (fun _ _ _ h => h) rfl HS0.out (by rfl) ?_ ?_
      · intro W hSw
        obtain ⟨s1, s2, s3⟩ := hSw
        go_simp
      try simp only [Act.put, List.setIfInBounds_toArray, List.set_cons_zero, List.set_cons_succ]
      refine wpAnyH_ready (rs := [0, 4]) (by kernel_rfl) (by simp) ?_
      refine AllReadyH.cons rfl (fun K hK => ?_) ?_
      · skip
        have qv := HQ3.out
        go_simp
        refine hK.out _ _ (by with_reducible exact HS0.out) (fun _ => ?_)
        clear hK K qv
        try simp only [Act.put, List.setIfInBounds_toArray, List.set_cons_zero, List.set_cons_succ]
        refine wpAnyH_ready (rs := [4]) (by kernel_rfl) (by simp) ?_
        refine AllReadyH.cons rfl (fun K hK => ?_) AllReadyH.nil
        go_simp
        refine (missing_any _ _ _ _ M k (-1) es r _ HP.out.g HP.out.km HP.out.m6 HP.out.n12 HP.out.ed hrl hrb (HEY.out.up_ ((Below.refl _ _).drew)) (HIR.out.up_ ((Below.refl _ _).drew))).mono ?_
        rintro e w5 ⟨F, cf, rfl, ho5, hb5⟩
        have hS5 : (fun W : World => W.cell? ⟨w.heap.size, 0, none⟩ = some (.int .i64 (M : Int)) ∧ W.cell? ⟨w.heap.size, 1, none⟩ = some (.slice A es.length c) ∧ W.cell? ⟨w.heap.size + 1, 0, none⟩ = some (.int .i64 (k : Int))) w5 := ⟨(hb5.cell (World.block_lt_of_cell? _ _ HS0.out.1)).trans HS0.out.1, (hb5.cell (World.block_lt_of_cell? _ _ HS0.out.2.1)).trans HS0.out.2.1, (hb5.cell (World.block_lt_of_cell? _ _ HS0.out.2.2)).trans HS0.out.2.2⟩
        refine hK.out _ _ (by with_reducible exact hS5) (fun _ => ?_)
        clear hK K
        try simp only [Act.put, List.setIfInBounds_toArray, List.set_cons_zero, List.set_cons_succ]
        have HS5 := Lib.hid hS5
        have HB5 := Lib.hid hb5
        have HO5 := Lib.hid ho5
        have Q5 := (hb5.cell (World.block_lt_of_cell? _ _ HQ3.out)).trans HQ3.out
        have HQ5 := Lib.hid Q5
        clear hS5 hb5 ho5 Q5
        refine wpAnyH_ready (rs := [5]) (by kernel_rfl) (by simp) ?_
        refine AllReadyH.cons rfl (fun K hK => ?_) AllReadyH.nil
        go_simp
        have hba : Below w5.heap.size w5 (w5.alloc (.cells #[.slice F M cf] 28)) := (Below.refl _ _).alloc (Nat.le_refl _) _
        have hS6 : (fun W : World => W.cell? ⟨w.heap.size, 0, none⟩ = some (.int .i64 (M : Int)) ∧ W.cell? ⟨w.heap.size, 1, none⟩ = some (.slice A es.length c) ∧ W.cell? ⟨w.heap.size + 1, 0, none⟩ = some (.int .i64 (k : Int))) (w5.alloc (.cells #[.slice F M cf] 28)) := ⟨(hba.cell (World.block_lt_of_cell? _ _ HS5.out.1)).trans HS5.out.1, (hba.cell (World.block_lt_of_cell? _ _ HS5.out.2.1)).trans HS5.out.2.1, (hba.cell (World.block_lt_of_cell? _ _ HS5.out.2.2)).trans HS5.out.2.2⟩
        have HQ6 := Lib.hid ((hba.cell (World.block_lt_of_cell? _ _ HQ5.out)).trans HQ5.out)
        refine hK.out _ _ (by with_reducible exact hS6) (fun _ => ?_)
        clear hK K
        try simp only [Act.put, List.setIfInBounds_toArray, List.set_cons_zero, List.set_cons_succ]
        have HS6 := Lib.hid hS6
        clear hS6 hba
        refine wpAnyH_ready (rs := [6]) (by kernel_rfl) (by simp) ?_
        refine AllReadyH.cons rfl (fun K hK => ?_) AllReadyH.nil
        obtain ⟨us, ow, push⟩ := (HOX.out.stq (Stq.of_below ((Below.refl Y.heap.size Y).drew) 0)).push (show w2.heap.size < Y.drew.heap.size from hvl)
        have hs5 : Y.heap.size ≤ w5.heap.size := HB5.out.size
        have hsd : Y.drew.heap.size = Y.heap.size := rfl
        have hown6 : (w5.alloc (.cells #[.slice F M cf] 28)).ownsRow w1.heap.size 28 1 v L.length us := own_keep2 ow fun q _ hq => (Below.heap_alloc _ _ q (Nat.lt_of_lt_of_le hq hs5)).trans (HB5.out.block q hq)
        have hvn : ∀ b, b < w1.heap.size ∨ b = w2.heap.size → v.ownBlock ≠ some b := fun b hb e => by
          rcases hb with hb | hb
          · have := (ow.lt _ e).1
            omega
          · obtain ⟨us', G', -, h9, -⟩ := HOX.out
            exact h9 (by rw [e, hb])
        have hwb1 : w.heap.size < w1.heap.size := by omega
        obtain ⟨v', w7, hrun, hown7, hgrow7, -, hat7⟩ := run_append_own_at (P := Try.prog) (w5.alloc (.cells #[.slice F M cf] 28)) w1.heap.size 41 41 28 i1 (.slice none 0 0) 1 24 Try.underlying41 hj hy0 hy1 hy2 rfl (by decide) v L.length us hown6 ⟨w5.heap.size, 0, none⟩ 1 1 [.slice F M cf] rfl (cell_one_new _ _ _) (fun u hu => by rw [List.mem_singleton] at hu; rw [hu]; rfl) (by unfold maxLen; omega) (by omega) (by rw [World.size_alloc]; have := HH2.out.old.size; omega)
        refine wp_append_eq rfl (.tmp 26) (.tmp 31) 41 rfl v (.slice (some ⟨w5.heap.size, 0, none⟩) 1 1) v' rfl rfl hrun ?_
        have hkc : ∀ (p : Addr) (u : Value), p.block < w1.heap.size ∨ p.block = w2.heap.size → (w5.alloc (.cells #[.slice F M cf] 28)).cell? p = some u → w7.cell? p = some u := fun p u hp hu => (World.cell?_of_block (hgrow7.block p.block (World.block_lt_of_cell? _ _ hu) (fun e => hvn _ hp e.symm))).trans hu
        have hS7 : (fun W : World => W.cell? ⟨w.heap.size, 0, none⟩ = some (.int .i64 (M : Int)) ∧ W.cell? ⟨w.heap.size, 1, none⟩ = some (.slice A es.length c) ∧ W.cell? ⟨w.heap.size + 1, 0, none⟩ = some (.int .i64 (k : Int))) w7 := ⟨hkc _ _ (.inl hwb1) HS6.out.1, hkc _ _ (.inl hwb1) HS6.out.2.1, hkc _ _ (.inl (by show w.heap.size + 1 < w1.heap.size; omega)) HS6.out.2.2⟩
        refine hK.out _ _ (by with_reducible exact hS7) (fun _ => ?_)
        clear hK K
        try simp only [Act.put, List.setIfInBounds_toArray, List.set_cons_zero, List.set_cons_succ]
        have hat8 : v'.ownBlock = v.ownBlock ∨ v'.ownBlock = some (w5.heap.size + 1) := hat7.imp id fun h => h.trans (by rw [World.size_alloc])
        obtain ⟨gv, cpv, hve⟩ : ∃ gv cpv, v' = .slice (some ⟨gv, 0, none⟩) (t + 1) cpv := by
          rcases hown7.2 with ⟨e, e0⟩ | ⟨gq, cap, cur, e, _⟩
          · exact absurd e0 (by omega)
          · exact ⟨_, _, by rw [e, hLl]⟩
        have hv7 : Blk w7 w2.heap.size 41 #[v] := by
          have h1 := (HV.out.below (w' := Y.drew) ((Below.refl _ _).drew) hvl).below HB5.out hvl
          have h2 := h1.below (w' := w5.alloc (.cells #[.slice F M cf] 28)) ((Below.refl _ _).alloc (Nat.le_refl _) _) h1.lt
          exact Blk.grown h2 hgrow7 (fun e => hvn _ (.inr rfl) e)
        have hox7 := push w5 w7 v' F cf ((dualL M k es r).set k (-1)) M w5.heap.size (by rw [List.length_set, dual_len]) HB5.out (by rw [hsd]; have := HH2.out.old.size; omega) HO5.out hown7 rfl hgrow7 hat8
        have q7 : w7.cell? ⟨w2.heap.size, 0, none⟩ = some v := by rw [hv7.cell]; rfl
        have f7 := hv7.frozen 0
        have hb8 : Below w1.heap.size w1 w7 := by
          have h1 := (HH2.out.old.trans (((Below.refl Y.heap.size Y).drew.mono HH2.out.old.size))).trans (HB5.out.mono (by rw [hsd]; exact HH2.out.old.size))
          have h2 := h1.trans (((Below.refl w5.heap.size w5).alloc (Nat.le_refl _) (.cells #[.slice F M cf] 28)).mono h1.size)
          exact h2.grown hgrow7 h2.size (fun b e => (ow.lt b e).1)
        have hbB7 : Blk w7 (w2.heap.size + 1) 41 #[.slice A1 P.length c1] := by
          have h1 := (HH2.out.bB.below (w' := Y.drew) ((Below.refl _ _).drew) HH2.out.bB.lt).below HB5.out HH2.out.bB.lt
          have h2 := h1.below (w' := w5.alloc (.cells #[.slice F M cf] 28)) ((Below.refl _ _).alloc (Nat.le_refl _) _) h1.lt
          exact Blk.grown h2 hgrow7 (fun e => hvb e)
        have hvb' : v'.ownBlock ≠ some (w2.heap.size + 1) := fun e => by
          rcases hat8 with h | h
          · exact hvb (h.symm.trans e)
          · rw [h] at e
            injection e with e
            have := HH2.out.bB.lt
            omega
        have HFIN := Lib.hid (show RndB W4.heap.size Y (w7.setCell ⟨w2.heap.size, 0, none⟩ v') ∧ PkI w1 (w7.setCell ⟨w2.heap.size, 0, none⟩ v') w2.heap.size A1 P.length c1 (L ++ [(dualL M k es r).set k (-1)]) from by
          refine ⟨?_, (hb8.setCell (p := ⟨w2.heap.size, 0, none⟩) (by show w1.heap.size ≤ w2.heap.size; omega) _), hbB7.far (by simp only; omega) _, v', hv7.set_ 0 v', hox7.far, hvb'⟩
          have r1 : RndB W4.heap.size Y Y.drew := RndB.of_below ((Below.refl _ _).drew) _
          have r2 : RndB W4.heap.size Y.drew w5 := RndB.of_below HB5.out _
          have r3 : RndB W4.heap.size w5 (w5.alloc (.cells #[.slice F M cf] 28)) := RndB.of_below ((Below.refl _ _).alloc (Nat.le_refl _) _) _
          have r4 : RndB W4.heap.size (w5.alloc (.cells #[.slice F M cf] 28)) w7 := rndB_grown hgrow7 (own_cellsO hown6)
          exact (((r1.trans r2).trans r3).trans r4).trans (RndB.set q7))
        have HS8 := Lib.hid (show (fun W : World => W.cell? ⟨w.heap.size, 0, none⟩ = some (.int .i64 (M : Int)) ∧ W.cell? ⟨w.heap.size, 1, none⟩ = some (.slice A es.length c) ∧ W.cell? ⟨w.heap.size + 1, 0, none⟩ = some (.int .i64 (k : Int))) (w7.setCell ⟨w2.heap.size, 0, none⟩ v') from ⟨(World.cell?_of_block (Below.heap_setCell _ _ _ _ (by show w.heap.size ≠ w2.heap.size; omega))).trans hS7.1, (World.cell?_of_block (Below.heap_setCell _ _ _ _ (by show w.heap.size ≠ w2.heap.size; omega))).trans hS7.2.1, (World.cell?_of_block (Below.heap_setCell _ _ _ _ (by show w.heap.size + 1 ≠ w2.heap.size; omega))).trans hS7.2.2⟩)
        clear hv7 hox7 hb8 hbB7 hS7 hkc hown7 hgrow7 hat7 hat8 hvb' hrun hown6 push ow
        refine wpAnyH_ready (rs := [7]) (by kernel_rfl) (by simp) ?_
        refine AllReadyH.cons rfl (fun K hK => ?_) AllReadyH.nil
        rw [hve]
        go_simp
        rw [← hve]
        refine hK.out _ _ (by with_reducible exact HS8.out) (fun _ => ?_)
        clear hK K
        try simp only [Act.put, List.setIfInBounds_toArray, List.set_cons_zero, List.set_cons_succ]
        refine wpAnyH_done (by kernel_rfl) ?_ _
        gi_wp2
        have hf := HFIN.out
        rw [hve, hs4, hA'] at hf
        refine ⟨hf.1, by omega, ?_⟩
        rw [← List.map_drop, ← List.map_reverse, HL2.out]
        exact hf.2
      · refine AllReadyH.cons rfl (fun K hK => ?_) AllReadyH.nil
        go_simp
        refine (missing_any _ _ _ _ M k (-1) es r _ HP.out.g HP.out.km HP.out.m6 HP.out.n12 HP.out.ed hrl hrb (HEY.out.up_ ((Below.refl _ _).drew)) (HIR.out.up_ ((Below.refl _ _).drew))).mono ?_
        rintro e w5 ⟨F, cf, rfl, ho5, hb5⟩
        have hS5 : (fun W : World => W.cell? ⟨w.heap.size, 0, none⟩ = some (.int .i64 (M : Int)) ∧ W.cell? ⟨w.heap.size, 1, none⟩ = some (.slice A es.length c) ∧ W.cell? ⟨w.heap.size + 1, 0, none⟩ = some (.int .i64 (k : Int))) w5 := ⟨(hb5.cell (World.block_lt_of_cell? _ _ HS0.out.1)).trans HS0.out.1, (hb5.cell (World.block_lt_of_cell? _ _ HS0.out.2.1)).trans HS0.out.2.1, (hb5.cell (World.block_lt_of_cell? _ _ HS0.out.2.2)).trans HS0.out.2.2⟩
        refine hK.out _ _ (by with_reducible exact hS5) (fun _ => ?_)
        clear hK K
        try simp only [Act.put, List.setIfInBounds_toArray, List.set_cons_zero, List.set_cons_succ]
        have HS5 := Lib.hid hS5
        have HB5 := Lib.hid hb5
        have HO5 := Lib.hid ho5
        have Q5 := (hb5.cell (World.block_lt_of_cell? _ _ HQ3.out)).trans HQ3.out
        have HQ5 := Lib.hid Q5
        clear hS5 hb5 ho5 Q5
        refine wpAnyH_ready (rs := [0, 5]) (by kernel_rfl) (by simp) ?_
        refine AllReadyH.cons rfl (fun K hK => ?_) ?_
        · skip
          have qv := HQ5.out
          go_simp
          refine hK.out _ _ (by with_reducible exact HS5.out) (fun _ => ?_)
          clear hK K qv
          try simp only [Act.put, List.setIfInBounds_toArray, List.set_cons_zero, List.set_cons_succ]
          refine wpAnyH_ready (rs := [5]) (by kernel_rfl) (by simp) ?_
          refine AllReadyH.cons rfl (fun K hK => ?_) AllReadyH.nil
          go_simp
          have hba : Below w5.heap.size w5 (w5.alloc (.cells #[.slice F M cf] 28)) := (Below.refl _ _).alloc (Nat.le_refl _) _
          have hS6 : (fun W : World => W.cell? ⟨w.heap.size, 0, none⟩ = some (.int .i64 (M : Int)) ∧ W.cell? ⟨w.heap.size, 1, none⟩ = some (.slice A es.length c) ∧ W.cell? ⟨w.heap.size + 1, 0, none⟩ = some (.int .i64 (k : Int))) (w5.alloc (.cells #[.slice F M cf] 28)) := ⟨(hba.cell (World.block_lt_of_cell? _ _ HS5.out.1)).trans HS5.out.1, (hba.cell (World.block_lt_of_cell? _ _ HS5.out.2.1)).trans HS5.out.2.1, (hba.cell (World.block_lt_of_cell? _ _ HS5.out.2.2)).trans HS5.out.2.2⟩
          have HQ6 := Lib.hid ((hba.cell (World.block_lt_of_cell? _ _ HQ5.out)).trans HQ5.out)
          refine hK.out _ _ (by with_reducible exact hS6) (fun _ => ?_)
          clear hK K
          try simp only [Act.put, List.setIfInBounds_toArray, List.set_cons_zero, List.set_cons_succ]
          have HS6 := Lib.hid hS6
          clear hS6 hba
          refine wpAnyH_ready (rs := [6]) (by kernel_rfl) (by simp) ?_
          refine AllReadyH.cons rfl (fun K hK => ?_) AllReadyH.nil
          obtain ⟨us, ow, push⟩ := (HOX.out.stq (Stq.of_below ((Below.refl Y.heap.size Y).drew) 0)).push (show w2.heap.size < Y.drew.heap.size from hvl)
          have hs5 : Y.heap.size ≤ w5.heap.size := HB5.out.size
          have hsd : Y.drew.heap.size = Y.heap.size := rfl
          have hown6 : (w5.alloc (.cells #[.slice F M cf] 28)).ownsRow w1.heap.size 28 1 v L.length us := own_keep2 ow fun q _ hq => (Below.heap_alloc _ _ q (Nat.lt_of_lt_of_le hq hs5)).trans (HB5.out.block q hq)
          have hvn : ∀ b, b < w1.heap.size ∨ b = w2.heap.size → v.ownBlock ≠ some b := fun b hb e => by
            rcases hb with hb | hb
            · have := (ow.lt _ e).1
              omega
            · obtain ⟨us', G', -, h9, -⟩ := HOX.out
              exact h9 (by rw [e, hb])
          have hwb1 : w.heap.size < w1.heap.size := by omega
          obtain ⟨v', w7, hrun, hown7, hgrow7, -, hat7⟩ := run_append_own_at (P := Try.prog) (w5.alloc (.cells #[.slice F M cf] 28)) w1.heap.size 41 41 28 i1 (.slice none 0 0) 1 24 Try.underlying41 hj hy0 hy1 hy2 rfl (by decide) v L.length us hown6 ⟨w5.heap.size, 0, none⟩ 1 1 [.slice F M cf] rfl (cell_one_new _ _ _) (fun u hu => by rw [List.mem_singleton] at hu; rw [hu]; rfl) (by unfold maxLen; omega) (by omega) (by rw [World.size_alloc]; have := HH2.out.old.size; omega)
          refine wp_append_eq rfl (.tmp 26) (.tmp 31) 41 rfl v (.slice (some ⟨w5.heap.size, 0, none⟩) 1 1) v' rfl rfl hrun ?_
          have hkc : ∀ (p : Addr) (u : Value), p.block < w1.heap.size ∨ p.block = w2.heap.size → (w5.alloc (.cells #[.slice F M cf] 28)).cell? p = some u → w7.cell? p = some u := fun p u hp hu => (World.cell?_of_block (hgrow7.block p.block (World.block_lt_of_cell? _ _ hu) (fun e => hvn _ hp e.symm))).trans hu
          have hS7 : (fun W : World => W.cell? ⟨w.heap.size, 0, none⟩ = some (.int .i64 (M : Int)) ∧ W.cell? ⟨w.heap.size, 1, none⟩ = some (.slice A es.length c) ∧ W.cell? ⟨w.heap.size + 1, 0, none⟩ = some (.int .i64 (k : Int))) w7 := ⟨hkc _ _ (.inl hwb1) HS6.out.1, hkc _ _ (.inl hwb1) HS6.out.2.1, hkc _ _ (.inl (by show w.heap.size + 1 < w1.heap.size; omega)) HS6.out.2.2⟩
          refine hK.out _ _ (by with_reducible exact hS7) (fun _ => ?_)
          clear hK K
          try simp only [Act.put, List.setIfInBounds_toArray, List.set_cons_zero, List.set_cons_succ]
          have hat8 : v'.ownBlock = v.ownBlock ∨ v'.ownBlock = some (w5.heap.size + 1) := hat7.imp id fun h => h.trans (by rw [World.size_alloc])
          obtain ⟨gv, cpv, hve⟩ : ∃ gv cpv, v' = .slice (some ⟨gv, 0, none⟩) (t + 1) cpv := by
            rcases hown7.2 with ⟨e, e0⟩ | ⟨gq, cap, cur, e, _⟩
            · exact absurd e0 (by omega)
            · exact ⟨_, _, by rw [e, hLl]⟩
          have hv7 : Blk w7 w2.heap.size 41 #[v] := by
            have h1 := (HV.out.below (w' := Y.drew) ((Below.refl _ _).drew) hvl).below HB5.out hvl
            have h2 := h1.below (w' := w5.alloc (.cells #[.slice F M cf] 28)) ((Below.refl _ _).alloc (Nat.le_refl _) _) h1.lt
            exact Blk.grown h2 hgrow7 (fun e => hvn _ (.inr rfl) e)
          have hox7 := push w5 w7 v' F cf ((dualL M k es r).set k (-1)) M w5.heap.size (by rw [List.length_set, dual_len]) HB5.out (by rw [hsd]; have := HH2.out.old.size; omega) HO5.out hown7 rfl hgrow7 hat8
          have q7 : w7.cell? ⟨w2.heap.size, 0, none⟩ = some v := by rw [hv7.cell]; rfl
          have f7 := hv7.frozen 0
          have hb8 : Below w1.heap.size w1 w7 := by
            have h1 := (HH2.out.old.trans (((Below.refl Y.heap.size Y).drew.mono HH2.out.old.size))).trans (HB5.out.mono (by rw [hsd]; exact HH2.out.old.size))
            have h2 := h1.trans (((Below.refl w5.heap.size w5).alloc (Nat.le_refl _) (.cells #[.slice F M cf] 28)).mono h1.size)
            exact h2.grown hgrow7 h2.size (fun b e => (ow.lt b e).1)
          have hbB7 : Blk w7 (w2.heap.size + 1) 41 #[.slice A1 P.length c1] := by
            have h1 := (HH2.out.bB.below (w' := Y.drew) ((Below.refl _ _).drew) HH2.out.bB.lt).below HB5.out HH2.out.bB.lt
            have h2 := h1.below (w' := w5.alloc (.cells #[.slice F M cf] 28)) ((Below.refl _ _).alloc (Nat.le_refl _) _) h1.lt
            exact Blk.grown h2 hgrow7 (fun e => hvb e)
          have hvb' : v'.ownBlock ≠ some (w2.heap.size + 1) := fun e => by
            rcases hat8 with h | h
            · exact hvb (h.symm.trans e)
            · rw [h] at e
              injection e with e
              have := HH2.out.bB.lt
              omega
          have HFIN := Lib.hid (show RndB W4.heap.size Y (w7.setCell ⟨w2.heap.size, 0, none⟩ v') ∧ PkI w1 (w7.setCell ⟨w2.heap.size, 0, none⟩ v') w2.heap.size A1 P.length c1 (L ++ [(dualL M k es r).set k (-1)]) from by
            refine ⟨?_, (hb8.setCell (p := ⟨w2.heap.size, 0, none⟩) (by show w1.heap.size ≤ w2.heap.size; omega) _), hbB7.far (by simp only; omega) _, v', hv7.set_ 0 v', hox7.far, hvb'⟩
            have r1 : RndB W4.heap.size Y Y.drew := RndB.of_below ((Below.refl _ _).drew) _
            have r2 : RndB W4.heap.size Y.drew w5 := RndB.of_below HB5.out _
            have r3 : RndB W4.heap.size w5 (w5.alloc (.cells #[.slice F M cf] 28)) := RndB.of_below ((Below.refl _ _).alloc (Nat.le_refl _) _) _
            have r4 : RndB W4.heap.size (w5.alloc (.cells #[.slice F M cf] 28)) w7 := rndB_grown hgrow7 (own_cellsO hown6)
            exact (((r1.trans r2).trans r3).trans r4).trans (RndB.set q7))
          have HS8 := Lib.hid (show (fun W : World => W.cell? ⟨w.heap.size, 0, none⟩ = some (.int .i64 (M : Int)) ∧ W.cell? ⟨w.heap.size, 1, none⟩ = some (.slice A es.length c) ∧ W.cell? ⟨w.heap.size + 1, 0, none⟩ = some (.int .i64 (k : Int))) (w7.setCell ⟨w2.heap.size, 0, none⟩ v') from ⟨(World.cell?_of_block (Below.heap_setCell _ _ _ _ (by show w.heap.size ≠ w2.heap.size; omega))).trans hS7.1, (World.cell?_of_block (Below.heap_setCell _ _ _ _ (by show w.heap.size ≠ w2.heap.size; omega))).trans hS7.2.1, (World.cell?_of_block (Below.heap_setCell _ _ _ _ (by show w.heap.size + 1 ≠ w2.heap.size; omega))).trans hS7.2.2⟩)
          clear hv7 hox7 hb8 hbB7 hS7 hkc hown7 hgrow7 hat7 hat8 hvb' hrun hown6 push ow
          refine wpAnyH_ready (rs := [7]) (by kernel_rfl) (by simp) ?_
          refine AllReadyH.cons rfl (fun K hK => ?_) AllReadyH.nil
          rw [hve]
          go_simp
          rw [← hve]
          refine hK.out _ _ (by with_reducible exact HS8.out) (fun _ => ?_)
          clear hK K
          try simp only [Act.put, List.setIfInBounds_toArray, List.set_cons_zero, List.set_cons_succ]
          refine wpAnyH_done (by kernel_rfl) ?_ _
          gi_wp2
          have hf := HFIN.out
          rw [hve, hs4, hA'] at hf
          refine ⟨hf.1, by omega, ?_⟩
          rw [← List.map_drop, ← List.map_reverse, HL2.out]
          exact hf.2
        · refine AllReadyH.cons rfl (fun K hK => ?_) AllReadyH.nil
          go_simp
          have hba : Below w5.heap.size w5 (w5.alloc (.cells #[.slice F M cf] 28)) := (Below.refl _ _).alloc (Nat.le_refl _) _
          have hS6 : (fun W : World => W.cell? ⟨w.heap.size, 0, none⟩ = some (.int .i64 (M : Int)) ∧ W.cell? ⟨w.heap.size, 1, none⟩ = some (.slice A es.length c) ∧ W.cell? ⟨w.heap.size + 1, 0, none⟩ = some (.int .i64 (k : Int))) (w5.alloc (.cells #[.slice F M cf] 28)) := ⟨(hba.cell (World.block_lt_of_cell? _ _ HS5.out.1)).trans HS5.out.1, (hba.cell (World.block_lt_of_cell? _ _ HS5.out.2.1)).trans HS5.out.2.1, (hba.cell (World.block_lt_of_cell? _ _ HS5.out.2.2)).trans HS5.out.2.2⟩
          have HQ6 := Lib.hid ((hba.cell (World.block_lt_of_cell? _ _ HQ5.out)).trans HQ5.out)
          refine hK.out _ _ (by with_reducible exact hS6) (fun _ => ?_)
          clear hK K
          try simp only [Act.put, List.setIfInBounds_toArray, List.set_cons_zero, List.set_cons_succ]
          have HS6 := Lib.hid hS6
          clear hS6 hba
          refine wpAnyH_ready (rs := [0]) (by kernel_rfl) (by simp) ?_
          refine AllReadyH.cons rfl (fun K hK => ?_) AllReadyH.nil
          have qv := HQ6.out
          go_simp
          refine hK.out _ _ (by with_reducible exact HS6.out) (fun _ => ?_)
          clear hK K qv
          try simp only [Act.put, List.setIfInBounds_toArray, List.set_cons_zero, List.set_cons_succ]
          refine wpAnyH_ready (rs := [6]) (by kernel_rfl) (by simp) ?_
          refine AllReadyH.cons rfl (fun K hK => ?_) AllReadyH.nil
          obtain ⟨us, ow, push⟩ := (HOX.out.stq (Stq.of_below ((Below.refl Y.heap.size Y).drew) 0)).push (show w2.heap.size < Y.drew.heap.size from hvl)
          have hs5 : Y.heap.size ≤ w5.heap.size := HB5.out.size
          have hsd : Y.drew.heap.size = Y.heap.size := rfl
          have hown6 : (w5.alloc (.cells #[.slice F M cf] 28)).ownsRow w1.heap.size 28 1 v L.length us := own_keep2 ow fun q _ hq => (Below.heap_alloc _ _ q (Nat.lt_of_lt_of_le hq hs5)).trans (HB5.out.block q hq)
          have hvn : ∀ b, b < w1.heap.size ∨ b = w2.heap.size → v.ownBlock ≠ some b := fun b hb e => by
            rcases hb with hb | hb
            · have := (ow.lt _ e).1
              omega
            · obtain ⟨us', G', -, h9, -⟩ := HOX.out
              exact h9 (by rw [e, hb])
          have hwb1 : w.heap.size < w1.heap.size := by omega
          obtain ⟨v', w7, hrun, hown7, hgrow7, -, hat7⟩ := run_append_own_at (P := Try.prog) (w5.alloc (.cells #[.slice F M cf] 28)) w1.heap.size 41 41 28 i1 (.slice none 0 0) 1 24 Try.underlying41 hj hy0 hy1 hy2 rfl (by decide) v L.length us hown6 ⟨w5.heap.size, 0, none⟩ 1 1 [.slice F M cf] rfl (cell_one_new _ _ _) (fun u hu => by rw [List.mem_singleton] at hu; rw [hu]; rfl) (by unfold maxLen; omega) (by omega) (by rw [World.size_alloc]; have := HH2.out.old.size; omega)
          refine wp_append_eq rfl (.tmp 26) (.tmp 31) 41 rfl v (.slice (some ⟨w5.heap.size, 0, none⟩) 1 1) v' rfl rfl hrun ?_
          have hkc : ∀ (p : Addr) (u : Value), p.block < w1.heap.size ∨ p.block = w2.heap.size → (w5.alloc (.cells #[.slice F M cf] 28)).cell? p = some u → w7.cell? p = some u := fun p u hp hu => (World.cell?_of_block (hgrow7.block p.block (World.block_lt_of_cell? _ _ hu) (fun e => hvn _ hp e.symm))).trans hu
          have hS7 : (fun W : World => W.cell? ⟨w.heap.size, 0, none⟩ = some (.int .i64 (M : Int)) ∧ W.cell? ⟨w.heap.size, 1, none⟩ = some (.slice A es.length c) ∧ W.cell? ⟨w.heap.size + 1, 0, none⟩ = some (.int .i64 (k : Int))) w7 := ⟨hkc _ _ (.inl hwb1) HS6.out.1, hkc _ _ (.inl hwb1) HS6.out.2.1, hkc _ _ (.inl (by show w.heap.size + 1 < w1.heap.size; omega)) HS6.out.2.2⟩
          refine hK.out _ _ (by with_reducible exact hS7) (fun _ => ?_)
          clear hK K
          try simp only [Act.put, List.setIfInBounds_toArray, List.set_cons_zero, List.set_cons_succ]
          have hat8 : v'.ownBlock = v.ownBlock ∨ v'.ownBlock = some (w5.heap.size + 1) := hat7.imp id fun h => h.trans (by rw [World.size_alloc])
          obtain ⟨gv, cpv, hve⟩ : ∃ gv cpv, v' = .slice (some ⟨gv, 0, none⟩) (t + 1) cpv := by
            rcases hown7.2 with ⟨e, e0⟩ | ⟨gq, cap, cur, e, _⟩
            · exact absurd e0 (by omega)
            · exact ⟨_, _, by rw [e, hLl]⟩
          have hv7 : Blk w7 w2.heap.size 41 #[v] := by
            have h1 := (HV.out.below (w' := Y.drew) ((Below.refl _ _).drew) hvl).below HB5.out hvl
            have h2 := h1.below (w' := w5.alloc (.cells #[.slice F M cf] 28)) ((Below.refl _ _).alloc (Nat.le_refl _) _) h1.lt
            exact Blk.grown h2 hgrow7 (fun e => hvn _ (.inr rfl) e)
          have hox7 := push w5 w7 v' F cf ((dualL M k es r).set k (-1)) M w5.heap.size (by rw [List.length_set, dual_len]) HB5.out (by rw [hsd]; have := HH2.out.old.size; omega) HO5.out hown7 rfl hgrow7 hat8
          have q7 : w7.cell? ⟨w2.heap.size, 0, none⟩ = some v := by rw [hv7.cell]; rfl
          have f7 := hv7.frozen 0
          have hb8 : Below w1.heap.size w1 w7 := by
            have h1 := (HH2.out.old.trans (((Below.refl Y.heap.size Y).drew.mono HH2.out.old.size))).trans (HB5.out.mono (by rw [hsd]; exact HH2.out.old.size))
            have h2 := h1.trans (((Below.refl w5.heap.size w5).alloc (Nat.le_refl _) (.cells #[.slice F M cf] 28)).mono h1.size)
            exact h2.grown hgrow7 h2.size (fun b e => (ow.lt b e).1)
          have hbB7 : Blk w7 (w2.heap.size + 1) 41 #[.slice A1 P.length c1] := by
            have h1 := (HH2.out.bB.below (w' := Y.drew) ((Below.refl _ _).drew) HH2.out.bB.lt).below HB5.out HH2.out.bB.lt
            have h2 := h1.below (w' := w5.alloc (.cells #[.slice F M cf] 28)) ((Below.refl _ _).alloc (Nat.le_refl _) _) h1.lt
            exact Blk.grown h2 hgrow7 (fun e => hvb e)
          have hvb' : v'.ownBlock ≠ some (w2.heap.size + 1) := fun e => by
            rcases hat8 with h | h
            · exact hvb (h.symm.trans e)
            · rw [h] at e
              injection e with e
              have := HH2.out.bB.lt
              omega
          have HFIN := Lib.hid (show RndB W4.heap.size Y (w7.setCell ⟨w2.heap.size, 0, none⟩ v') ∧ PkI w1 (w7.setCell ⟨w2.heap.size, 0, none⟩ v') w2.heap.size A1 P.length c1 (L ++ [(dualL M k es r).set k (-1)]) from by
            refine ⟨?_, (hb8.setCell (p := ⟨w2.heap.size, 0, none⟩) (by show w1.heap.size ≤ w2.heap.size; omega) _), hbB7.far (by simp only; omega) _, v', hv7.set_ 0 v', hox7.far, hvb'⟩
            have r1 : RndB W4.heap.size Y Y.drew := RndB.of_below ((Below.refl _ _).drew) _
            have r2 : RndB W4.heap.size Y.drew w5 := RndB.of_below HB5.out _
            have r3 : RndB W4.heap.size w5 (w5.alloc (.cells #[.slice F M cf] 28)) := RndB.of_below ((Below.refl _ _).alloc (Nat.le_refl _) _) _
            have r4 : RndB W4.heap.size (w5.alloc (.cells #[.slice F M cf] 28)) w7 := rndB_grown hgrow7 (own_cellsO hown6)
            exact (((r1.trans r2).trans r3).trans r4).trans (RndB.set q7))
          have HS8 := Lib.hid (show (fun W : World => W.cell? ⟨w.heap.size, 0, none⟩ = some (.int .i64 (M : Int)) ∧ W.cell? ⟨w.heap.size, 1, none⟩ = some (.slice A es.length c) ∧ W.cell? ⟨w.heap.size + 1, 0, none⟩ = some (.int .i64 (k : Int))) (w7.setCell ⟨w2.heap.size, 0, none⟩ v') from ⟨(World.cell?_of_block (Below.heap_setCell _ _ _ _ (by show w.heap.size ≠ w2.heap.size; omega))).trans hS7.1, (World.cell?_of_block (Below.heap_setCell _ _ _ _ (by show w.heap.size ≠ w2.heap.size; omega))).trans hS7.2.1, (World.cell?_of_block (Below.heap_setCell _ _ _ _ (by show w.heap.size + 1 ≠ w2.heap.size; omega))).trans hS7.2.2⟩)
          clear hv7 hox7 hb8 hbB7 hS7 hkc hown7 hgrow7 hat7 hat8 hvb' hrun hown6 push ow
          refine wpAnyH_ready (rs := [7]) (by kernel_rfl) (by simp) ?_
          refine AllReadyH.cons rfl (fun K hK => ?_) AllReadyH.nil
          rw [hve]
          go_simp
          rw [← hve]
          refine hK.out _ _ (by with_reducible exact HS8.out) (fun _ => ?_)
          clear hK K
          try simp only [Act.put, List.setIfInBounds_toArray, List.set_cons_zero, List.set_cons_succ]
          refine wpAnyH_done (by kernel_rfl) ?_ _
          gi_wp2
          have hf := HFIN.out
          rw [hve, hs4, hA'] at hf
          refine ⟨hf.1, by omega, ?_⟩
          rw [← List.map_drop, ← List.map_reverse, HL2.out]
          exact hf.2
    case done =>
      rintro Z ⟨h1, h2⟩ hD
      obtain ⟨v, hv, hox, -⟩ := h2.box
      rw [Nat.sub_self, List.drop_zero, HIS.out] at hox
      obtain ⟨A9, c9, e9, hss⟩ := hox.out.fin
      have qv : Z.cell? ⟨w2.heap.size, 0, none⟩ = some v := by rw [hv.cell]; rfl
      have HOX := Lib.hid hox
      have HD := Lib.hid hD
      have HH2 := Lib.hid h2
      subst e9
      clear hox hD h2 hv hss
      go_wp2
      refine mark_leaveB (B := w2.heap.size + 2) (fun h => (by cases h)) (by omega) HD.out fun w' hw' => ?_
      refine ⟨.tuple #[.slice A9 (parksL M k es).length c9, .bool true], by simp [results, Try.results46, go_sem], ?_⟩
      obtain ⟨A8, c8, e8, hss⟩ := (HOX.out.stq hw').out.fin
      injection e8 with e8 _ e9
      rw [← e8] at hss
      have hol := HH2.out.old.trans (hw'.below (by omega) HH2.out.old.size)
      exact ⟨A9, c9, rfl, hss.mono (by omega), HB0.out.trans ((HB1.out.trans (hol.mono hs1)).mono HB0.out.size)⟩
    case stop => exact fun k t Z h => h.elim
end Go.Proofs.Ytdpojcgeblbfeaa
