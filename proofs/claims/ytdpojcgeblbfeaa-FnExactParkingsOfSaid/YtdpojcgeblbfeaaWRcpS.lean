/- RecurrentPiles and ParkingsOf: the specification's side. -/
import Derived.Test.YtdpojcgeblbfeaaWPilS
import Derived.Test.YtdpojcgeblbfeaaWAllS
import Derived.Test.YtdpojcgeblbfeaaWOutR
import Derived.Test.YtdpojcgeblbfeaaWRcoS
set_option linter.all false
namespace Go.Proofs.Ytdpojcgeblbfeaa
open Go.RowKit

def GivesRowsP (w : World) (rs : List (List Int)) (b : Bool) (e : Ending) (w' : World) : Prop :=
  ∃ (A : Option Addr) (c : Nat), e = .returned (.tuple #[.slice A rs.length c, .bool b]) ∧ IntSS w' w'.heap.size A rs ∧ Below w.heap.size w w'
theorem sort_rowsP {w w' : World} {v : Value} {us : List Value} {L : List (List Int)} (h1 : w'.ownsRow w.heap.size 28 1 v L.length us) (h2 : RowsV w us L) (hb : Below w.heap.size w w') : ∃ (A : Option Addr) (c : Nat), v = .slice A L.length c ∧ IntSS w' w'.heap.size A L := by
  rcases h1.2 with ⟨e, e0⟩ | ⟨g, cap, cur, e, _, hg, _⟩
  · exact ⟨none, 0, by rw [e, e0], fun hn => by omega⟩
  · subst e
    refine ⟨some ⟨g, 0, none⟩, cap, rfl, fun hn => ⟨g, 0, rfl, (h1.lt g rfl).2, fun i r hr => ?_⟩⟩
    obtain ⟨Ai, ci, hu, hi⟩ := h2.2 i r hr
    have hil := (List.getElem?_eq_some_iff.1 hr).1
    refine ⟨Ai, ci, ?_, hi.up_ hb⟩
    rw [Nat.zero_add, h1.cellAt i (by omega), hu]
theorem box_rows {w : World} {B : Nat} {v : Value} {rs : List (List Int)} (h : SSOwn w B v rs) : ∃ (A : Option Addr) (c : Nat), v = .slice A rs.length c ∧ IntSS w w.heap.size A rs := by
  obtain ⟨A, c, e, hs⟩ := h.rows
  exact ⟨A, c, e, hs⟩
theorem map_take {f : List Int → List Int} {R : List (List Int)} {j : Nat} {r : List Int} (h : R[j]? = some r) : (R.take (j + 1)).map f = (R.take j).map f ++ [f r] := by
  rw [List.take_add_one, h, List.map_append]
  rfl
set_option maxRecDepth 100000 in
set_option maxHeartbeats 4000000 in
theorem specPks (N : Int) (A : Option Addr) (c : Nat) (es : List (Int × Int)) (q : Int) (w : World) (hn : es.length ≤ 1048576) (hE : EdgeS w w.heap.size A es) :
    Calls Try.prog 45 #[.agg #[.int .i64 N, .slice A es.length c], .int .i64 q] w (GivesRowsP w (parksC N es q) (pilesOk N es q)) := by
  obtain ⟨i1, hj, hy0, hy1, hy2⟩ := info_parts rowsInfo
  obtain ⟨i0, hi, hz0, hz1, hz2⟩ := info_parts intInfo
  have HE := Lib.hid hE
  have G0 := GB.start w N A c es
  have HD := fun w h1 => Lib.hid (specGraphOk N A c es w (by omega) h1)
  have HO := fun w h1 => Lib.hid (specOrdG N A c es w hn h1)
  have HIN := Lib.hid (fun W => l01In_any q 0 (N - 1) W)
  cases h1 : graphB N es with
  | false =>
    rw [h1] at HD
    have h0 : pilesOk N es q = false := by rw [pilesOk, h1]; rfl
    rw [parksC_f h0, h0]
    clear h1 h0 hE HO HIN
    go_enter Try.func45, Try.ntmps45
    go_wp2_with fail
    refine (HD _ (HE.out.up_ G0.old)).out.mono ?_
    rintro e w1 ⟨rfl, hb1⟩
    have G1 := Lib.hid (G0.next hb1)
    clear G0 hb1
    go_wp2
    go_ret2
    exact ⟨none, 0, rfl, fun hn => absurd hn (by simp), G1.out.old⟩
  | true =>
    rw [h1] at HD
    obtain ⟨h4, h5⟩ := graphB_all h1
    obtain ⟨h6, h7, h8⟩ := edgesB_lims h4
    have z1 : IntKind.i64.wrap (N - 1) = N - 1 := by rw [IntKind.wrap_i64]; omega
    clear h4 h5
    cases h2 : vB q N with
    | false =>
      have h0 : pilesOk N es q = false := by rw [pilesOk, h1, h2]; rfl
      have hin : inB q 0 (N - 1) = false := by
        have := h2
        simp only [vB, inB, Bool.and_eq_false_iff, decide_eq_false_iff_not] at this ⊢
        omega
      rw [hin] at HIN
      rw [parksC_f h0, h0]
      clear h1 h0 hE HO h2 hin
      go_enter Try.func45, Try.ntmps45
      go_wp2_with fail
      refine (HD _ (HE.out.up_ G0.old)).out.mono ?_
      rintro e w1 ⟨rfl, hb1⟩
      have G1 := Lib.hid (G0.next hb1)
      have c0 := G1.out.c0
      clear G0 hb1
      go_wp2_with (go_at_call 68; refine (HIN.out _).mono ?_; rintro e w2 ⟨rfl, rfl⟩)
      go_ret2
      exact ⟨none, 0, rfl, fun hn => absurd hn (by simp), G1.out.old⟩
    | true =>
      have hin : inB q 0 (N - 1) = true := by
        have := vB_iff h2
        simp [inB]
        omega
      rw [hin] at HIN
      obtain ⟨TT, hT⟩ : ∃ TT, TT = treesB N es := ⟨_, rfl⟩
      by_cases h3 : TT ≤ 400
      · have h0 : pilesOk N es q = true := by rw [pilesOk, h1, h2, decide_eq_true (by rw [← hT]; exact h3)]; rfl
        obtain ⟨M, k, rfl, rfl, hP⟩ := piles_parts h0
        rw [parksC_t h0, h0]
        rw [← hT] at HO
        have t2 : ¬ (400 : Int) < TT := by omega
        have hfew := redL_few hP.g hP.km (red_has hP.g A w hE 0 hP.m0) hP.few
        have hM6 := hP.m6
        have hM0 := hP.m0
        have hkM := hP.km
        have hki : (k : Int) < (M : Int) := by omega
        have hk0 : (0 : Int) ≤ (k : Int) := Int.natCast_nonneg _
        have HBX := Lib.hid (fun (P : Option Addr) (cp : Nat) (W : World) (B0 : Nat) (hp : ∃ b o, P = some ⟨b, o, none⟩) (h : BoxI W B0 B0 P cp [] A es (.slice none 0 0) []) => l11All_any hP.m0 hP.m6 hP.km hP.n12 hP.ed A c B0 M P cp [] (.slice none 0 0) [] W (by simp) (by
          have h3 : 12 ^ M ≤ 12 ^ 6 := Nat.pow_le_pow_right (by omega) hP.m6
          have h4 : 12 ^ 6 = 2985984 := by decide
          simp only [List.length_nil]
          omega) hp h)
        simp only [List.nil_append, List.length_nil] at HBX
        have hrm : ∀ r ∈ redL M k es, r.length = M ∧ ∀ u, u < M → u ≠ k → -1000000 ≤ r.getD u 0 ∧ r.getD u 0 ≤ 1000000 := fun r hr => by
          obtain ⟨a1, a2, a3⟩ := red_mem.1 hr
          refine ⟨a1, fun u hu _ => ?_⟩
          have := a3 u hu
          have := lim_le (k := k) (fun e he => (hP.ed e he).2.1) hP.n12 u
          omega
        have HRM := Lib.hid hrm
        have HST := Lib.hid (fun (X : Option Addr) (cx : Nat) (W : World) (h : IntSS W W.heap.size X ((redL M k es).map (fun r => r.set k (-1)))) => l09Sort_any X cx M ((redL M k es).map (fun r => r.set k (-1))) W (by rw [List.length_map]; omega) (by omega) (fun r hr => by
          obtain ⟨s, hs, rfl⟩ := List.mem_map.1 hr
          rw [List.length_set]; exact (hrm s hs).1) h)
        rw [List.length_map] at HST
        have HSL := Lib.hid (show sortL ((redL M k es).map (fun r => r.set k (-1))) = parksL M k es from rfl)
        rw [HSL.out] at HST
        have HLL := Lib.hid (show (parksL M k es).length = (redL M k es).length from by rw [← HSL.out, sortL_len, List.length_map])
        have HFR := Lib.hid (show ∀ (v : Value) (W : World), SSOwn W W.heap.size v (redL M k es) → True from fun _ _ _ => trivial)
        obtain ⟨R, hR⟩ : ∃ R, R = redL M k es := ⟨_, rfl⟩
        have HRA := Lib.hid (show allG (limV k es) (burnsB M k es) M [] = R from by rw [hR]; rfl)
        rw [HRA.out] at HBX
        rw [← hR] at HRM HST HLL hfew 
        have HMT := Lib.hid (fun (j : Nat) (r : List Int) (h : R[j]? = some r) => map_take (f := (fun r => r.set k (-1))) h)
        clear h1 h2 h0 hE hT hR hrm HFR hin HSL
        go_enter Try.func45, Try.ntmps45
        go_wp2_with fail
        refine (HD _ (HE.out.up_ G0.old)).out.mono ?_
        rintro e w1 ⟨rfl, hb1⟩
        have G1 := Lib.hid (G0.next hb1)
        have c0 := G1.out.c0
        have c1 := G1.out.c1
        clear G0 hb1
        go_wp2_with (go_at_call 68; refine (HIN.out _).mono ?_; rintro e w2 ⟨rfl, rfl⟩)
        refine (HO _ (HE.out.up_ G1.out.old)).out.mono ?_
        rintro e w2 ⟨rfl, hb2⟩
        have G2 := Lib.hid (G1.out.next hb2)
        clear hb2 c0 c1 HO HIN
        have hba : Below w2.heap.size w2 ((w2.alloc (.cells #[] 28)).alloc (.cells #[] 3)) := ((Below.refl _ _).alloc (Nat.le_refl _) _).alloc (by simp) _
        have hsz2 := G2.out.lt
        obtain ⟨W4, hW4⟩ : ∃ X : World, X = (w2.alloc (.cells #[] 28)).alloc (.cells #[] 3) := ⟨_, rfl⟩
        have hs4 : W4.heap.size = w2.heap.size + 2 := by rw [hW4]; simp
        have HO4 := Lib.hid (show Out (w.heap.size + 1) W4 (.slice (some ⟨w2.heap.size, 0, none⟩) 0 0) [] from by
          rw [hW4]
          exact (Out.some_ (w := w2) hsz2).below ((Below.refl _ _).alloc (Nat.le_refl _) _))
        have hq4 : QOwn W4 (w2.heap.size + 1) (.slice (some ⟨w2.heap.size + 1, 0, none⟩) ([] : List Int).length 0) [] := by
          have h := own_emptyD (w2.alloc (.cells #[] 28)) (w2.heap.size + 1) (by simp) 3
          rw [World.size_alloc, ← hW4] at h
          exact h
        rw [← hW4] at hba
        have G4 := Lib.hid (G2.out.next hba)
        have HI := Lib.hid (show BoxI W4 (w2.heap.size + 1) (w2.heap.size + 1) (some ⟨w2.heap.size + 1, 0, none⟩) 0 [] A es (.slice none 0 0) [] from
          ⟨Nat.le_refl _, ⟨[], ⟨rfl, .inl ⟨rfl, rfl⟩⟩, fun i r h => by simp at h⟩, hq4, (HE.out.below G4.out.old).keep (fun _ _ => rfl) (by omega), by omega⟩)
        have c0 := G2.out.c0
        have c1 := G2.out.c1
        have d0 : (w2.alloc (.cells #[] 28)).cell? ⟨w.heap.size, 0, none⟩ = some (.int .i64 (M : Int)) := (((Below.refl w2.heap.size w2).alloc (Nat.le_refl _) _).cell (p := ⟨w.heap.size, 0, none⟩) hsz2).trans c0
        have d1 : (w2.alloc (.cells #[] 28)).cell? ⟨w.heap.size, 1, none⟩ = some (.slice A es.length c) := (((Below.refl w2.heap.size w2).alloc (Nat.le_refl _) _).cell (p := ⟨w.heap.size, 1, none⟩) hsz2).trans c1
        clear hba hq4
        go_wp2_with fail
        rw [← hW4]
        clear hW4 d0 d1 c0 c1
        refine (HBX.out _ 0 W4 (w2.heap.size + 1) ⟨_, _, rfl⟩ HI.out).mono ?_
        rintro e w4 ⟨v4, rfl, hso, hfr⟩
        have hb4 : Below W4.heap.size W4 w4 := grown_below hfr.gr (Nat.le_refl _) (fun k hk => by cases hk)
        have G5 := Lib.hid (G4.out.next hb4)
        have HO5 := Lib.hid (HO4.out.below hb4)
        have HSO := Lib.hid hso
        obtain ⟨A4, c4, rfl, hs5⟩ := box_rows hso
        have hw4s := hb4.size
        clear hb4 hso hfr hs5 HI HO4 G4 HBX G2 G1
        go_wp2_with fail
        go_loopw [6, 32] (fun v i wr => ∃ j : Nat, j ≤ R.length ∧ i = .int .i64 (j : Int) ∧ Out (w.heap.size + 1) wr v ((R.take j).map (fun r => r.set k (-1))) ∧ GB w wr (M : Int) A c es ∧ (∀ g, v.ownBlock = some g → g < w2.heap.size + 1 ∨ w4.heap.size ≤ g) ∧ (∀ k, w2.heap.size + 1 ≤ k → k < w4.heap.size → wr.heap[k]? = w4.heap[k]?) ∧ w4.heap.size ≤ wr.heap.size) (fun _ i _ => R.length - (intOf i).toNat)
        case atStart => exact ⟨0, Nat.zero_le _, rfl, HO5.out, G5.out, fun g hg => by have hg : some w2.heap.size = some g := hg; injection hg with hg; left; omega, fun _ _ _ => rfl, Nat.le_refl _⟩
        case round =>
          clear HO5 G5
          obtain ⟨j, hjl, rfl, ho, hg, hvb, hkp, hws⟩ := hrel
          have HG := Lib.hid hg
          have HOU := Lib.hid ho
          have HVB := Lib.hid hvb
          have HKP := Lib.hid hkp
          have HSR := Lib.hid (show SSOwn wr (w2.heap.size + 1) (.slice A4 R.length c4) R from by
            obtain ⟨vs, q1, q2⟩ := HSO.out
            refine ⟨vs, own_keep2 q1 hkp, fun i r hr => ?_⟩
            obtain ⟨u, hu, hq⟩ := q2 i r hr
            exact ⟨u, hu, own_keep2 hq hkp⟩)
          clear ho hg hvb hkp
          by_cases hlt : j < R.length
          · obtain ⟨A5, c5, e5, hs5⟩ := box_rows HSR.out
            injection e5 with e5 _ e6
            subst e5
            subst e6
            obtain ⟨b5, o5, r, A6', c6', rfl, hb5, hr5, hc5, hi5⟩ := hs5.at_ hlt
            have hrl := (HRM.out r (List.mem_of_getElem? hr5)).1
            rw [hrl] at hc5
            obtain ⟨A6, hA6⟩ : ∃ A6, A6 = A6' := ⟨_, rfl⟩
            obtain ⟨c6, hc6⟩ : ∃ c6, c6 = c6' := ⟨_, rfl⟩
            rw [← hA6] at hc5 hi5
            rw [← hc6] at hc5
            have HR5 := Lib.hid hr5
            have HI5 := Lib.hid hi5
            have hj0 : (0 : Int) ≤ (j : Int) := Int.natCast_nonneg _
            have hj1 : (j : Int) < (R.length : Int) := by omega
            have c0 := HG.out.c0
            have c1 := HG.out.c1
            have hlg := HG.out.lt
            clear hr5 hi5 hA6 hc6 hs5 hrl
            have hOa := own_emptyD wr wr.heap.size (Nat.le_refl _) 3
            obtain ⟨b6, o6, hA6, hb6, hcc6⟩ := HI5.out (by rw [(HRM.out r (List.mem_of_getElem? HR5.out)).1]; exact hM0)
            subst hA6
            have HRLN := Lib.hid (show (intCells r).length = M * 1 by rw [intCells, List.length_map, (HRM.out r (List.mem_of_getElem? HR5.out)).1, Nat.mul_one])
            have HNN := Lib.hid (show ∀ (i : Nat) (u : Value), (intCells r)[i]? = some u → (wr.alloc (.cells #[] 3)).cell? ((⟨b6, o6, none⟩ : Addr).add i) = some u from fun i u hu => by
              simp only [intCells, List.getElem?_map, Option.map_eq_some_iff] at hu
              obtain ⟨z, hz, rfl⟩ := hu
              rw [Addr.add_lit]
              exact (((Below.refl _ _).alloc (Nat.le_refl _) _).cell (p := ⟨b6, o6 + i, none⟩) hb6).trans (hcc6 i z hz))
            have HUU := Lib.hid (show ∀ u ∈ intCells r, u.oneCell' = true from fun u hu => by
              simp only [intCells, List.mem_map] at hu
              obtain ⟨z, _, rfl⟩ := hu
              rfl)
            have m3 : 0 + M ≤ maxLen := by unfold maxLen; omega
            have m4 : (0 + M) * 8 ≤ 140737488355328 := by omega
            have m5 : wr.heap.size ≤ (wr.alloc (.cells #[] 3)).heap.size := by simp
            have HOa := Lib.hid hOa
            clear hOa hcc6
            go_wp2_with (at_builtin; refine wpList_append_own _ rfl _ _ 28 rfl wr.heap.size 3 i0 (.int .i64 0) 1 8 Try.underlying28 hi hz0 hz1 hz2 rfl (by decide) _ _ _ rfl HOa.out ⟨b6, o6, none⟩ M c6 (intCells r) rfl HRLN.out HNN.out HUU.out m3 m4 m5 ?_)
            intro v5 w5 hown5 hgrow5 _
            obtain ⟨g5, cap5, rfl, hle5⟩ : ∃ g5 cap5, v5 = .slice (some ⟨g5, 0, none⟩) M cap5 ∧ M ≤ cap5 := by
              rcases hown5.2 with ⟨e, e0⟩ | ⟨g, cap, cur, e, _, _, h, _⟩
              · omega
              · exact ⟨g, cap, e, h⟩
            have hown5 : w5.ownsRow wr.heap.size 3 1 (.slice (some ⟨g5, 0, none⟩) M cap5) M (intCells r) := by
              have h := hown5
              simpa using h
            have hb5a : Below wr.heap.size wr w5 := ((Below.refl _ _).alloc (Nat.le_refl _) _).grown hgrow5 (by simp) (fun q hq => by have := (HOa.out.lt q hq).1; omega)
            have hg5lt := hown5.lt g5 rfl
            obtain ⟨p5, hp5⟩ : ∃ z, r[k]? = some z := ⟨_, List.getElem?_eq_getElem (by rw [(HRM.out r (List.mem_of_getElem? HR5.out)).1]; exact hkM)⟩
            have hcw : w5.cell? ⟨g5, k, none⟩ = some (.int .i64 p5) := by
              rw [hown5.cellAt k (by omega)]
              simp [intCells, hp5]
            have hfw := hown5.frozenAt k
            have hst := (hown5.stored k (.int .i64 (-1))).1
            have hb5' : Below wr.heap.size wr (w5.setCell ⟨g5, k, none⟩ (.int .i64 (-1))) := hb5a.setCell (p := ⟨g5, k, none⟩) hg5lt.1 _
            have hof : OwnI (w5.setCell ⟨g5, k, none⟩ (.int .i64 (-1))) wr.heap.size (some ⟨g5, 0, none⟩) (r.set k (-1)) := by
              have e1 : (intCells r).set k (.int .i64 (-1)) = intCells (r.set k (-1)) := by simp [intCells, List.map_set]
              rw [e1] at hst
              exact OwnI.of_own hst
            have hki2 : (k : Int).toNat = k := Int.toNat_natCast k
            clear hown5 hgrow5 hb5a hst HOa HNN HUU HRLN hp5
            obtain ⟨us, ow, push⟩ := HOU.out.outer
            have htl : ((R.take j).map (fun r => r.set k (-1))).length = j := by rw [List.length_map, List.length_take]; omega
            rw [htl] at ow push
            have HOW := Lib.hid (show ((w5.setCell ⟨g5, k, none⟩ (.int .i64 (-1))).alloc (.cells #[.slice (some ⟨g5, 0, none⟩) M cap5] 28)).ownsRow (w.heap.size + 1) 28 1 u6 j us from own_keep2 ow (fun g _ hg => (Below.heap_alloc _ _ g (Nat.lt_of_lt_of_le hg hb5'.size)).trans (hb5'.block g hg)))
            have HLT := Lib.hid ow.lt
            have HPU := Lib.hid (fun (w6 : World) (v' : Value) => push (w5.setCell ⟨g5, k, none⟩ (.int .i64 (-1))) w6 v' (some ⟨g5, 0, none⟩) cap5 ((fun r => r.set k (-1)) r) M w5.heap.size (by show (r.set k (-1)).length = M; rw [List.length_set]; exact (HRM.out r (List.mem_of_getElem? HR5.out)).1) hb5' (Nat.succ_le_of_lt hlg) hof)
            have HG5 := Lib.hid (HG.out.next hb5')
            have HB5 := Lib.hid hb5'
            have hs5' := hb5'.size
            have n3 : j + 1 ≤ maxLen := by unfold maxLen; omega
            have n4 : (j + 1) * 24 ≤ 140737488355328 := by omega
            have n5 : w.heap.size + 1 ≤ ((w5.setCell ⟨g5, k, none⟩ (.int .i64 (-1))).alloc (.cells #[.slice (some ⟨g5, 0, none⟩) M cap5] 28)).heap.size := by simp; omega
            clear ow push htl hof hb5' c0 c1
            go_wp2_with (at_builtin; refine wpList_append_own_at _ rfl _ _ 41 rfl (w.heap.size + 1) 28 i1 (.slice none 0 0) 1 24 Try.underlying41 hj hy0 hy1 hy2 rfl (by decide) _ _ _ rfl HOW.out ⟨w5.heap.size, 0, none⟩ 1 1 [.slice (some ⟨g5, 0, none⟩) M cap5] rfl rfl (one_cell _ _ (by simp [World.setCell]) _ _) (fun u hu => by rw [List.mem_singleton] at hu; rw [hu]; rfl) n3 n4 n5 ?_)
            intro v' w6 hown6 hgrow6 _ hat6
            have hat7 : v'.ownBlock = u6.ownBlock ∨ v'.ownBlock = some (w5.heap.size + 1) := by
              rcases hat6 with h | h
              · exact .inl h
              · exact .inr (h.trans (by simp))
            have hba : Below (w5.setCell ⟨g5, k, none⟩ (.int .i64 (-1))).heap.size (w5.setCell ⟨g5, k, none⟩ (.int .i64 (-1))) ((w5.setCell ⟨g5, k, none⟩ (.int .i64 (-1))).alloc (.cells #[.slice (some ⟨g5, 0, none⟩) M cap5] 28)) := (Below.refl _ _).alloc (Nat.le_refl _) _
            have hgs := hgrow6.size
            have hasz : ((w5.setCell ⟨g5, k, none⟩ (.int .i64 (-1))).alloc (.cells #[.slice (some ⟨g5, 0, none⟩) M cap5] 28)).heap.size = w5.heap.size + 1 := by simp
            have ho6 := HPU.out w6 v' hown6 (by first | rfl | trivial | simp [World.setCell]) hgrow6 hat7
            have hg6 : GB w w6 (M : Int) A c es := by
              have hg5 := HG5.out.next hba
              have hlo : ∀ g, u6.ownBlock = some g → w.heap.size + 1 ≤ g := fun g hg => (HLT.out g hg).1
              exact ⟨Blk.grown hg5.box hgrow6 fun e => by have := hlo _ e; omega, hg5.old.grown hgrow6 (by omega) fun g hg => by have := hlo g hg; omega⟩
            have hvb6 : ∀ g, v'.ownBlock = some g → g < w2.heap.size + 1 ∨ w4.heap.size ≤ g := fun g hg => by
              rcases hat7 with h | h
              · exact HVB.out g (h.symm.trans hg)
              · rw [h] at hg
                injection hg with hg
                right
                omega
            have hkp6 : ∀ k, w2.heap.size + 1 ≤ k → k < w4.heap.size → w6.heap[k]? = w4.heap[k]? := fun k h1 h2 => by
              have h3 : some k ≠ u6.ownBlock := fun e => by
                rcases HVB.out k e.symm with h | h <;> omega
              exact (hgrow6.block k (by omega) h3).trans ((hba.block k (by omega)).trans ((HB5.out.block k (by omega)).trans (HKP.out k h1 h2)))
            have HO6 := Lib.hid (show Out (w.heap.size + 1) w6 v' ((R.take (j + 1)).map (fun r => r.set k (-1))) from by rw [HMT.out j r HR5.out]; exact ho6)
            have HG6 := Lib.hid hg6
            have HVB6 := Lib.hid hvb6
            have HKP6 := Lib.hid hkp6
            have hw6 : w4.heap.size ≤ w6.heap.size := by omega
            clear hown6 hgrow6 hat6 hat7 hba ho6 hg6 hvb6 hkp6 HPU HOW HLT
            go_wp2
            exact ⟨⟨j + 1, by omega, by go_num, HO6.out, HG6.out, HVB6.out, HKP6.out, hw6⟩, by simp [intOf]; omega⟩
          · have HF := Lib.hid (show Out (w.heap.size + 1) wr u6 (R.map (fun r => r.set k (-1))) from by
              have h := HOU.out
              rwa [show j = R.length by omega, List.take_length] at h)
            obtain ⟨A7, c7, rfl, hss⟩ := HF.out.fin
            have HSS := Lib.hid hss.ints
            have hjl2 : ¬ ((j : Int) < (R.length : Int)) := by omega
            rw [List.length_map]
            clear hss HOU HVB HKP HSR
            go_wp2_with fail
            refine (HST.out A7 c7 wr HSS.out).mono ?_
            rintro e w7 ⟨v7, us7, rfl, ho7, hr7, hb7⟩
            obtain ⟨A8, c8, rfl, hs8⟩ := sort_rowsP ho7 hr7 hb7
            have G8 := Lib.hid (HG.out.next hb7)
            have HS8 := Lib.hid hs8
            clear hb7 ho7 hr7 hs8
            go_wp2
            go_ret2
            exact ⟨A8, c8, rfl, HS8.out, G8.out.old⟩
      · have h0 : pilesOk N es q = false := by rw [pilesOk, decide_eq_false (by rw [← hT]; exact h3), Bool.and_false, Bool.and_false]
        rw [parksC_f h0, h0]
        rw [← hT] at HO
        have t2 : (400 : Int) < TT := by omega
        clear h1 h2 h0 hE hT h3 hin
        go_enter Try.func45, Try.ntmps45
        go_wp2_with fail
        refine (HD _ (HE.out.up_ G0.old)).out.mono ?_
        rintro e w1 ⟨rfl, hb1⟩
        have G1 := Lib.hid (G0.next hb1)
        have c0 := G1.out.c0
        have c1 := G1.out.c1
        clear G0 hb1
        go_wp2_with (first
          | (go_at_call 68; refine (HIN.out _).mono ?_; rintro e w2 ⟨rfl, rfl⟩)
          | (go_at_call 69; refine (HO _ (HE.out.up_ G1.out.old)).out.mono ?_; rintro e w2 ⟨rfl, hb2⟩; have G2 := Lib.hid (G1.out.next hb2); clear hb2 c0 c1))
        go_ret2
        exact ⟨none, 0, rfl, fun hn => absurd hn (by simp), G2.out.old⟩
end Go.Proofs.Ytdpojcgeblbfeaa
