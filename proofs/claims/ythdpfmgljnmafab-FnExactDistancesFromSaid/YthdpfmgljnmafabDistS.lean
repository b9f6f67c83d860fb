/- The specification's DistancesFrom. -/
import Derived.Test.YthdpfmgljnmafabBfs
import Derived.Test.YthdpfmgljnmafabMultS
namespace Go.Proofs.Ythdpfmgljnmafab
open Go.RowKit

/-- the distances from v in a valid graph, else nothing -/
noncomputable def distB (N : Int) (es : List (Int × Int)) (v : Int) : List Int := if graphB N es = true ∧ vB v N = true then dists N.toNat es v else []
theorem distB_t {N : Int} {es : List (Int × Int)} {v : Int} (h : graphB N es = true) (h2 : vB v N = true) : distB N es v = dists N.toNat es v := by rw [distB, if_pos ⟨h, h2⟩]
theorem distB_f {N : Int} {es : List (Int × Int)} {v : Int} (h : graphB N es = false ∨ vB v N = false) : distB N es v = [] := by
  rw [distB, if_neg]
  rintro ⟨h1, h2⟩
  rcases h with h | h
  · rw [h] at h1; cases h1
  · rw [h] at h2; cases h2
theorem graphB_all {N : Int} {es : List (Int × Int)} (h : graphB N es = true) : edgesB N es = true ∧ Conn N es := by
  simp only [graphB, Bool.and_eq_true] at h
  refine ⟨h.1.1, ?_⟩
  have := h.2
  unfold connB at this
  simpa using this
theorem inB_vB (v N : Int) : inB v 0 (N - 1) = vB v N := by
  rw [Bool.eq_iff_iff]
  simp only [inB, vB, Bool.and_eq_true, decide_eq_true_eq]
  omega
theorem touch_mult {N : Int} {es : List (Int × Int)} (hE : edgesB N es = true) {x y : Int} (hx : 0 ≤ x ∧ x < N) (hy : 0 ≤ y ∧ y < N) : Touch es x y ↔ 0 < multB N es x y := by
  by_cases h : x = y
  · subst h
    rw [multB_no (.inr (.inr rfl))]
    constructor
    · rintro (g | g)
      · have := all_edge hE g; simp only at this; omega
      · have := all_edge hE g; simp only at this; omega
    · intro g; omega
  · rw [multB_yes (vB_t hx) (vB_t hy) h]
    constructor
    · rintro (g | g)
      · have h1 := all_edge hE g
        simp only at h1
        rw [show min x y = x by omega, show max x y = y by omega]
        have := List.count_pos_iff.2 g
        omega
      · have h1 := all_edge hE g
        simp only at h1
        rw [show min x y = y by omega, show max x y = x by omega]
        have := List.count_pos_iff.2 g
        omega
    · intro g
      have h1 : 0 < es.count (min x y, max x y) := by omega
      have h2 := List.count_pos_iff.1 h1
      rcases Int.lt_or_lt_of_ne h with l | l
      · rw [show min x y = x by omega, show max x y = y by omega] at h2
        exact .inl h2
      · rw [show min x y = y by omega, show max x y = x by omega] at h2
        exact .inr h2
/-- the distances found so far -/
def OutOk (es : List (Int × Int)) (v : Int) (M : Nat) (outs q : List Int) : Prop := outs.length = M ∧ (∀ u ∈ q, outs[u.toNat]? = some (dist es v u : Int)) ∧ ∀ (i : Nat) (z : Int), q[i]? = some z → dist es v z ≤ i
theorem OutOk.push {es : List (Int × Int)} {v : Int} {M : Nat} {outs q : List Int} (h : OutOk es v M outs q) {y : Nat} (hy : y < M) (hb : ∀ u ∈ q, 0 ≤ u) (hn : (y : Int) ∉ q) {d : Nat} (hd : dist es v y = d) (hdl : d ≤ q.length) : OutOk es v M (outs.set y (d : Int)) (q ++ [(y : Int)]) := by
  refine ⟨by rw [List.length_set]; exact h.1, fun u hu => ?_, fun i z hz => ?_⟩
  rotate_left
  · rcases Nat.lt_or_ge i q.length with l | l
    · rw [List.getElem?_append_left l] at hz
      exact h.2.2 i z hz
    · rw [List.getElem?_append_right l] at hz
      have := List.mem_of_getElem? hz
      rw [List.mem_singleton] at this
      rw [this, hd]
      omega
  rw [List.mem_append, List.mem_singleton] at hu
  rcases hu with hu | hu
  · have hne : y ≠ u.toNat := by
      rintro rfl
      exact hn (by rw [show ((u.toNat : Nat) : Int) = u from Int.toNat_of_nonneg (hb u hu)]; exact hu)
    rw [List.getElem?_set_ne hne]
    exact h.2.1 u hu
  · subst hu
    rw [Int.toNat_natCast, List.getElem?_set_self (by rw [h.1]; exact hy), hd]
theorem OutOk.all {es : List (Int × Int)} {v : Int} {M : Nat} {outs q : List Int} (h : OutOk es v M outs q) (hq : ∀ u : Int, 0 ≤ u ∧ u < M → u ∈ q) : outs = dists M es v :=
  dists_of h.1 fun u hu => by
    have := h.2.1 u (hq u ⟨by omega, by omega⟩)
    rwa [Int.toNat_natCast] at this

set_option maxRecDepth 100000 in
set_option maxHeartbeats 2000000 in
theorem specDist_no (N : Int) (A : Option Addr) (c : Nat) (es : List (Int × Int)) (v : Int) (w : World) (hn : es.length ≤ 1048576) (h : graphB N es = false ∨ (graphB N es = true ∧ vB v N = false)) (hE : EdgeS w w.heap.size A es) :
    Calls Try.prog 20 #[.agg #[.int .i64 N, .slice A es.length c], .int .i64 v] w (GivesInts w []) := by
  have HE := Lib.hid hE
  clear hE
  have hb0 : Below w.heap.size w (w.alloc (Obj.cells #[.int .i64 N, .slice A es.length c] 29)) := (Below.refl _ _).alloc (Nat.le_refl _) _
  rcases h with hB | ⟨hB, hv⟩
  · go_enter Try.func20, Try.ntmps20
    go_wp2_with fail
    refine (specGraphOk _ _ _ _ _ (by omega) (HE.out.up_ hb0)).mono ?_
    rintro e w1 ⟨rfl, hb1⟩
    have hbb : Below w.heap.size w w1 := hb0.trans (hb1.mono hb0.size)
    clear hb0 hb1
    go_wp2
    go_ret
    exact ⟨none, 0, rfl, OwnI.nil _ _ _, hbb⟩
  · obtain ⟨hN1, hN6, hn12⟩ := edgesB_lims (graphB_all hB).1
    have hin : inB v 0 (N - 1) = false := by rw [inB_vB]; exact hv
    go_enter Try.func20, Try.ntmps20
    go_wp2_with fail
    refine (specGraphOk _ _ _ _ _ (by omega) (HE.out.up_ hb0)).mono ?_
    rintro e w1 ⟨rfl, hb1⟩
    have hbb : Below w.heap.size w w1 := hb0.trans (hb1.mono hb0.size)
    have hx1 := (Blk.new w 29 #[.int .i64 N, .slice A es.length c]).below hb1 (by simp)
    have c0 : w1.cell? ⟨w.heap.size, 0, none⟩ = some (.int .i64 N) := by rw [hx1.cell]; rfl
    have c1 : w1.cell? ⟨w.heap.size, 1, none⟩ = some (.slice A es.length c) := by rw [hx1.cell]; rfl
    clear hb0 hb1 hx1
    go_wp2_with fail
    refine (l01In_any _ _ _ _).mono ?_
    rintro e w2 ⟨rfl, rfl⟩
    go_wp2
    go_ret
    exact ⟨none, 0, rfl, OwnI.nil _ _ _, hbb⟩

theorem QOwn.below {w w' : World} {base : Nat} {v : Value} {q : List Int} (h : QOwn w base v q) (hb : Below w.heap.size w w') : QOwn w' base v q :=
  World.ownsRow.kept h (row := none) ⟨hb.os, hb.tape, hb.output, hb.size, fun i hi _ => hb.block i hi⟩ (Classical.em _)
theorem QOwn.set {w : World} {base b o n c g i : Nat} {q : List Int} {u : Value} (h : QOwn w base (.slice (some ⟨b, o, none⟩) n c) q) (hg : g < base) : QOwn (w.setCell ⟨g, i, none⟩ u) base (.slice (some ⟨b, o, none⟩) n c) q :=
  World.ownsRow.kept h (setCell_grown w g i u) (.inr (by have := h.block; simp only [Value.ownBlock, ne_eq, Option.some.injEq]; omega))

set_option maxRecDepth 100000 in
set_option maxHeartbeats 4000000 in
theorem specDist_yes (M v : Nat) (A : Option Addr) (c : Nat) (es : List (Int × Int)) (w : World) (hB : graphB M es = true) (hv : v < M) (hE : EdgeS w w.heap.size A es) :
    Calls Try.prog 20 #[.agg #[.int .i64 (M : Int), .slice A es.length c], .int .i64 (v : Int)] w (GivesInts w (dists M es v)) := by
  obtain ⟨i0, hi, hz0, hz1, hz2⟩ := info_parts intInfo
  obtain ⟨hEB, hCN⟩ := graphB_all hB
  obtain ⟨hN1, hN6, hn12⟩ := edgesB_lims hEB
  have hmk := make_ints M (by omega)
  have hin : inB (v : Int) 0 ((M : Int) - 1) = true := inB_t (by omega)
  have hvr : 0 ≤ (v : Int) ∧ (v : Int) < (M : Int) := by omega
  have HVR := Lib.hid hvr
  have HEB := Lib.hid hEB
  have HCN := Lib.hid hCN
  have HE := Lib.hid hE
  clear hE hEB hCN hvr
  have hb0 : Below w.heap.size w (w.alloc (Obj.cells #[.int .i64 (M : Int), .slice A es.length c] 29)) := (Below.refl _ _).alloc (Nat.le_refl _) _
  go_enter Try.func20, Try.ntmps20
  go_wp2_with fail
  refine (specGraphOk _ _ _ _ _ (by omega) (HE.out.up_ hb0)).mono ?_
  rintro e w1 ⟨rfl, hb1⟩
  have hbb : Below w.heap.size w w1 := hb0.trans (hb1.mono hb0.size)
  have hx1 := (Blk.new w 29 #[.int .i64 (M : Int), .slice A es.length c]).below hb1 (by simp)
  have c0 : w1.cell? ⟨w.heap.size, 0, none⟩ = some (.int .i64 (M : Int)) := by rw [hx1.cell]; rfl
  have c1 : w1.cell? ⟨w.heap.size, 1, none⟩ = some (.slice A es.length c) := by rw [hx1.cell]; rfl
  have hlx := hx1.lt
  have HX1 := Lib.hid hx1
  clear hb0 hb1 hx1
  go_wp2_with fail
  refine (l01In_any _ _ _ _).mono ?_
  rintro e w2 ⟨rfl, rfl⟩
  go_wp2_with fail
  go_loopw [6, 7] (fun s i wr => ∃ (k : Nat) (q outs : List Int), k ≤ q.length ∧ i = .int .i64 k ∧ QOwn wr (w1.heap.size + 1) s q ∧ BQ M es v q k ∧ OutOk es v M outs q ∧ Blk wr w1.heap.size 3 (intCells outs).toArray ∧ Blk wr w.heap.size 29 #[.int .i64 (M : Int), .slice A es.length c] ∧ Below w.heap.size w wr) (fun _ i _ => 7 - (intOf i).toNat)
  case atStart =>
    have hq := World.ownsRow_lit (base := w1.heap.size + 1) (e := 3) (size := 1) (w1.alloc (Obj.cells (intCells (List.replicate M 0)).toArray 3)) #[.int .i64 (v : Int)] 1 (by simp) (by unfold maxLen; omega) rfl
    rw [World.size_alloc] at hq
    refine ⟨0, [(v : Int)], List.replicate M 0, Nat.zero_le _, rfl, hq, BQ.start HVR.out, ⟨by simp, fun u hu => ?_, fun i z hz => ?_⟩, (Blk.new w1 _ _).alloc _, (HX1.out.alloc _).alloc _, (hbb.alloc hbb.size _).alloc (by simp; omega) _⟩
    · rw [List.mem_singleton] at hu
      subst hu
      rw [Int.toNat_natCast, List.getElem?_replicate, if_pos hv, dist_self]
      rfl
    · have := List.mem_of_getElem? hz
      rw [List.mem_singleton] at this
      rw [this, dist_self]
      omega
  case round =>
    obtain ⟨k, q, outs, hk, rfl, hown, hbq, hout, hko, hkx, hb⟩ := hrel
    have hqn := hbq.len
    have HO := Lib.hid hown
    have HQ := Lib.hid hbq
    have HU := Lib.hid hout
    have HKO := Lib.hid hko
    have HKX := Lib.hid hkx
    obtain ⟨Ar, cr, rfl⟩ := hown.slice
    have hI := hown.ints
    clear hown hbq hout hko hkx hmk
    by_cases hlt : k < q.length
    · obtain ⟨b1, o1, x0, rfl, hb1, hx, hc0⟩ := hI.at_ hlt
      obtain ⟨hx0, hx1⟩ := HQ.out.bound x0 (List.mem_of_getElem? hx)
      obtain ⟨x, rfl⟩ : ∃ x : Nat, x0 = (x : Int) := ⟨x0.toNat, by omega⟩
      have HX := Lib.hid hx
      have hk0 : (0 : Int) ≤ (k : Int) := Int.natCast_nonneg _
      have hk1 : (k : Int) < (q.length : Int) := by omega
      have hk6 : k < 6 := by omega
      clear hx hI
      obtain ⟨wo, rfl⟩ : ∃ wo : World, wo = wr := ⟨_, rfl⟩
      go_wp2
      go_loopw [6, 9] (fun s i wr => ∃ (m : Nat) (p outs : List Int), m ≤ M ∧ i = .int .i64 m ∧ QOwn wr (w1.heap.size + 1) s p ∧ BQ M es v p k ∧ (k < p.length ∧ p[k]? = some (x : Int)) ∧ (∀ y : Nat, y < m → Touch es x y → (y : Int) ∈ p) ∧ OutOk es v M outs p ∧ Blk wr w1.heap.size 3 (intCells outs).toArray ∧ Blk wr w.heap.size 29 #[.int .i64 (M : Int), .slice A es.length c] ∧ Below w.heap.size w wr) (fun _ i _ => M - (intOf i).toNat)
      case atStart => exact ⟨0, q, outs, Nat.zero_le _, rfl, HO.out, HQ.out, ⟨hlt, HX.out⟩, fun y h => absurd h (by omega), HU.out, HKO.out, HKX.out, hb⟩
      case round =>
        obtain ⟨m, p, outp, hm, rfl, hown, hbq, ⟨hkp, hpx⟩, hseen, hout, hko, hkx, hb2⟩ := hrel
        have hpn := hbq.len
        have HO2 := Lib.hid hown
        have HQ2 := Lib.hid hbq
        have HU2 := Lib.hid hout
        have HS2 := Lib.hid hseen
        have HKO2 := Lib.hid hko
        have HKX2 := Lib.hid hkx
        have HPX := Lib.hid hpx
        obtain ⟨Ap, cp, rfl⟩ := hown.slice
        have g0 : wr.cell? ⟨w.heap.size, 0, none⟩ = some (.int .i64 (M : Int)) := by rw [hkx.cell]; rfl
        have g1 : wr.cell? ⟨w.heap.size, 1, none⟩ = some (.slice A es.length c) := by rw [hkx.cell]; rfl
        clear hown hbq hout hseen hko hkx hpx
        by_cases hlt2 : m < M
        · have hm0 : (0 : Int) ≤ (m : Int) := Int.natCast_nonneg _
          have hm1 : (m : Int) < (M : Int) := by omega
          go_wp2_with fail
          refine (specMultU _ _ _ _ _ _ _ (by omega) (HE.out.up_ hb2)).mono ?_
          rintro e w3 ⟨rfl, hb3⟩
          have hB3 : Below w.heap.size w w3 := hb2.trans (hb3.mono hb2.size)
          have HO3 := Lib.hid (HO2.out.below hb3)
          have HKO3 := Lib.hid (HKO2.out.below hb3 HKO2.out.lt)
          have HKX3 := Lib.hid (HKX2.out.below hb3 HKX2.out.lt)
          have hlo3 := HKO3.out.lt
          have hsz3 := hb3.size
          have hmr : 0 ≤ (m : Int) ∧ (m : Int) < (M : Int) := ⟨hm0, hm1⟩
          have HTM := Lib.hid (touch_mult HEB.out ⟨hx0, hx1⟩ hmr)
          clear g0 g1 hb3 hmr
          by_cases ht : Touch es (x : Int) (m : Int)
          · have hmt : 0 < multB (M : Int) es (x : Int) (m : Int) := HTM.out.1 ht
            have HT := Lib.hid ht
            clear ht
            go_wp2_with fail
            refine (l02Has_any _ _ _ _ _ (by omega) HO3.out.ints).mono ?_
            rintro e w4 ⟨rfl, rfl⟩
            by_cases hmem : (m : Int) ∈ p
            · have HS3 : Hid (∀ y : Nat, y < m + 1 → Touch es x y → (y : Int) ∈ p) := Lib.hid fun y hy hty => by
                rcases Nat.lt_or_ge y m with l | l
                · exact HS2.out y l hty
                · have : y = m := by omega
                  rw [this]; exact hmem
              go_wp2
              exact ⟨⟨m + 1, p, outp, by omega, by go_num, HO3.out, HQ2.out, ⟨hkp, HPX.out⟩, HS3.out, HU2.out, HKO3.out, HKX3.out, hB3⟩, by simp [intOf]; omega⟩
            · have hdm := HQ2.out.new HEB.out HCN.out HVR.out HPX.out HT.out hmem
              obtain ⟨d, hd⟩ : ∃ d, d = dist es v x := ⟨_, rfl⟩
              rw [← hd] at hdm
              have hdx : outp[x]? = some (d : Int) := by
                have := HU2.out.2.1 x (List.mem_of_getElem? HPX.out)
                rwa [Int.toNat_natCast, ← hd] at this
              have hdk : d ≤ k := by rw [hd]; exact HU2.out.2.2 k x HPX.out
              have hol := HU2.out.1
              obtain ⟨z, hz⟩ : ∃ z, outp[m]? = some z := ⟨_, List.getElem?_eq_getElem (by omega)⟩
              have cx := blk_get HKO3.out hdx
              have cm := blk_get HKO3.out hz
              have fm := HKO3.out.frozen m
              have hd0 : (0 : Int) ≤ (d : Int) := Int.natCast_nonneg _
              have hd6 : (d : Int) ≤ 6 := by omega
              obtain ⟨b2, o2, x', rfl, _, _, _⟩ := HO3.out.ints.at_ hkp
              have hblkb := HO3.out.block
              have HDM := Lib.hid hdm
              clear hd hdm hdx hz
              go_wp2_with (at_builtin; refine wpList_append_own _ rfl _ _ 33 rfl (w1.heap.size + 1) 3 i0 (.int .i64 0) 1 8 Try.underlying33 hi hz0 hz1 hz2 rfl (by decide) _ _ _ rfl (World.ownsRow.alloc (HO3.out.set (g := w1.heap.size) (i := m) (u := .int .i64 ((d : Int) + 1)) (by omega)) _) ⟨w4.heap.size, 0, none⟩ 1 1 [.int .i64 (m : Int)] rfl rfl ?c1 ?c2 ?c3 ?c4 ?c5 ?_)
              case c1 => exact one_cell _ _ (by simp) _ _
              case c2 => simp [Value.oneCell']
              case c3 => unfold maxLen; omega
              case c4 => omega
              case c5 => simp; omega
              intro v' w5 hown' hgrow _
              have hO5 : QOwn w5 (w1.heap.size + 1) v' (p ++ [(m : Int)]) := by
                unfold QOwn
                rw [← cells_snoc]
                simpa using hown'
              have hko5 := ((blk_set1 HKO3.out m ((d : Int) + 1)).alloc (Obj.cells #[.int .i64 (m : Int)] 3)).grown hgrow (by simp only [Value.ownBlock, ne_eq, Option.some.injEq]; omega)
              have hkx5 := ((HKX3.out.far (p := ⟨w1.heap.size, m, none⟩) (by simp only; omega) (.int .i64 ((d : Int) + 1))).alloc (Obj.cells #[.int .i64 (m : Int)] 3)).grown hgrow (by simp only [Value.ownBlock, ne_eq, Option.some.injEq]; omega)
              have hB5 : Below w.heap.size w w5 := ((hB3.setCell (p := ⟨w1.heap.size, m, none⟩) hbb.size (.int .i64 ((d : Int) + 1))).alloc (by simp; omega) (Obj.cells #[.int .i64 (m : Int)] 3)).grown hgrow (by simp; omega) (fun q hq => by simp only [Value.ownBlock, Option.some.injEq] at hq; have := hbb.size; omega)
              have HO5 := Lib.hid hO5
              have HQ5 := Lib.hid (HQ2.out.push HEB.out HCN.out HVR.out HPX.out HT.out hmem)
              have HU5 := Lib.hid (HU2.out.push hlt2 (fun u hu => (HQ2.out.bound u hu).1) hmem HDM.out (by omega))
              have HS5 : Hid (∀ y : Nat, y < m + 1 → Touch es x y → (y : Int) ∈ p ++ [(m : Int)]) := Lib.hid fun y hy hty => by
                rcases Nat.lt_or_ge y m with l | l
                · simp [HS2.out y l hty]
                · have : y = m := by omega
                  simp [this]
              have HK5 : Hid (k < (p ++ [(m : Int)]).length ∧ (p ++ [(m : Int)])[k]? = some (x : Int)) := Lib.hid ⟨by simp; omega, by rw [List.getElem?_append_left hkp]; exact HPX.out⟩
              have HKO5 := Lib.hid hko5
              have HKX5 := Lib.hid hkx5
              clear hown' hgrow hO5 hko5 hkx5 cx cm fm
              obtain ⟨p2, hp2⟩ : ∃ p2, p2 = p ++ [(m : Int)] := ⟨_, rfl⟩
              rw [← hp2] at HO5 HQ5 HU5 HS5 HK5
              clear hp2
              obtain ⟨A5, c5, rfl⟩ := HO5.out.slice
              go_wp2
              exact ⟨⟨m + 1, p2, _, by omega, by go_num, HO5.out, HQ5.out, HK5.out, HS5.out, HU5.out, HKO5.out, HKX5.out, hB5⟩, by simp [intOf]; omega⟩
          · have hmt : ¬ 0 < multB (M : Int) es (x : Int) (m : Int) := fun g => ht (HTM.out.2 g)
            have HS3 : Hid (∀ y : Nat, y < m + 1 → Touch es x y → (y : Int) ∈ p) := Lib.hid fun y hy hty => by
              rcases Nat.lt_or_ge y m with l | l
              · exact HS2.out y l hty
              · have : y = m := by omega
                rw [this] at hty; exact absurd hty ht
            clear ht
            go_wp2
            exact ⟨⟨m + 1, p, outp, by omega, by go_num, HO3.out, HQ2.out, ⟨hkp, HPX.out⟩, HS3.out, HU2.out, HKO3.out, HKX3.out, hB3⟩, by simp [intOf]; omega⟩
        · have HF := Lib.hid (HQ2.out.next HEB.out HCN.out HVR.out HPX.out (fun b hb => by
            have := touch_in HEB.out hb
            have h := HS2.out b.toNat (by omega) (by rw [Int.toNat_of_nonneg this.1]; exact hb)
            rwa [Int.toNat_of_nonneg this.1] at h))
          go_wp2
          exact ⟨⟨k + 1, p, outp, by omega, by go_num, HO2.out, HF.out, HU2.out, HKO2.out, HKX2.out, hb2⟩, by simp [intOf]; omega⟩
    · have hfin : BQ M es v q q.length := by
        have h := HQ.out
        rw [show k = q.length by omega] at h
        exact h
      have HF := Lib.hid (HU.out.all (fun u hu => hfin.full HCN.out HVR.out hu))
      clear hfin
      have hul := HU.out.1
      have HD := Lib.hid (dists_len M es v)
      go_wp2
      go_ret
      exact ⟨some ⟨w1.heap.size, 0, none⟩, M, by rw [HD.out]; rfl, OwnI.of_blk (by rw [← HF.out]; exact HKO.out) hbb.size, hb⟩
end Go.Proofs.Ythdpfmgljnmafab
