/- l06Effective: the specification's rows. -/
import Derived.Test.YtcfhkaefjhcglaaEffM
import Derived.Test.YtcfhkaefjhcglaaEffR
import Derived.Test.YtcfhkaefjhcglaaLift
namespace Go.Proofs.Ytcfhkaefjhcglaa
open Go.RowKit

theorem own_single (w : World) (u : Value) (t : TypeId) : (w.alloc (.cells #[u] t)).ownsRow w.heap.size t 1 (.slice (some ⟨w.heap.size, 0, none⟩) 1 1) 1 [u] :=
  ⟨rfl, .inr ⟨w.heap.size, 1, #[u], rfl, Nat.le_refl _, heap_alloc_new w _, Nat.le_refl _, by decide, rfl, rfl⟩⟩
theorem own_single2 (w : World) (u v : Value) (t s : TypeId) : ((w.alloc (.cells #[u] s)).alloc (.cells #[v] t)).ownsRow w.heap.size t 1 (.slice (some ⟨w.heap.size + 1, 0, none⟩) 1 1) 1 [v] := by
  have h := own_single (w.alloc (.cells #[u] s)) v t
  have hs : (w.alloc (.cells #[u] s)).heap.size = w.heap.size + 1 := by simp
  rw [hs] at h
  exact ownsRow_mono h (by omega)
theorem effTo_mem {n : Nat} {k : Int} {j : Nat} {r : List Int} (h : r ∈ effTo n k j) : 0 < r.length := by
  unfold effTo at h
  rw [List.mem_flatMap] at h
  obtain ⟨x, _, h⟩ := h
  rw [List.mem_map] at h
  obtain ⟨p, _, rfl⟩ := h
  simp
/-- the rows made so far in a round -/
def effIn (n : Nat) (k : Int) (j t : Nat) : List (List Int) := effTo n k j ++ ((effB (n + 1) (k - (j : Int))).take t).map fun r => (j : Int) :: r
theorem effIn_zero (n : Nat) (k : Int) (j : Nat) : effIn n k j 0 = effTo n k j := by simp [effIn]
theorem effIn_step {n : Nat} {k : Int} {j t : Nat} {r : List Int} (h : (effB (n + 1) (k - (j : Int)))[t]? = some r) : effIn n k j (t + 1) = effIn n k j t ++ [(j : Int) :: r] := by
  rw [effIn, effIn, List.take_add_one, h]
  simp
theorem effIn_all {n : Nat} {k : Int} {j t : Nat} (h : (effB (n + 1) (k - (j : Int))).length ≤ t) : effIn n k j t = effTo n k (j + 1) := by rw [effIn, List.take_of_length_le h, effTo_step]
theorem effIn_len {n : Nat} {k : Int} {j : Nat} (t : Nat) (hn : n + 2 ≤ 6) (hk : k ≤ 7) (hj : j + 1 ≤ 8) : (effIn n k j t).length ≤ 262144 := by
  have h1 := effTo_small (k := k) hn hk hj
  rw [effTo_step, List.length_append, List.length_map] at h1
  have h2 : ((effB (n + 1) (k - (j : Int))).take t).length ≤ (effB (n + 1) (k - (j : Int))).length := by rw [List.length_take]; omega
  rw [effIn, List.length_append, List.length_map]
  omega
/-- what a round of the inner loop holds -/
structure EffI (w wq : World) (lo hi gL x0 n0 c0 : Nat) (vL v : Value) (vsL : List Value) (L rs : List (List Int)) : Prop where
  old : Below w.heap.size w wq
  out : ∃ vs, wq.ownsRow w.heap.size 27 1 v rs.length vs ∧ (∀ (i : Nat) (r : List Int), rs[i]? = some r → ∃ u, vs[i]? = some u ∧ QOwn wq w.heap.size u r) ∧ FarV vs lo hi
  ne : v.ownBlock ≠ some gL
  L : SSOwnV wq lo vL vsL L
  cell : wq.cell? ⟨gL, 0, none⟩ = some (.slice (some ⟨x0, 0, none⟩) n0 c0)
  hi : hi ≤ wq.heap.size
theorem EffI.start {w wo w1 : World} {v v1 : Value} {L : List (List Int)} {n j kk : Nat} (ho : SSOwn wo w.heap.size v (effTo n (kk : Int) j)) (hb : Below w.heap.size w wo) (hL : SSOwn w1 wo.heap.size v1 L) (hb1 : Below wo.heap.size wo w1) (hp : 0 < L.length) (hr : ∀ r ∈ L, 0 < r.length) :
    ∃ (gL cL x0 n0 c0 : Nat) (vsL : List Value), v1 = .slice (some ⟨gL, 0, none⟩) L.length cL ∧ wo.heap.size ≤ x0 ∧ x0 < w1.heap.size ∧ EffI w w1 wo.heap.size w1.heap.size gL x0 n0 c0 v1 v vsL L (effTo n (kk : Int) j) := by
  obtain ⟨vsL, hL1, hL2⟩ := hL
  obtain ⟨gL, capL, x0, cx0, e, hgL1, hgL2, hcL, hcc, hx1, hx2, _⟩ := SSOwn.at_ ⟨vsL, hL1, hL2⟩ (List.getElem?_eq_getElem hp) (hr _ (List.getElem_mem hp))
  have ho2 := ho.kept hb1
  obtain ⟨vs, hs1, hs2⟩ := ho
  obtain ⟨vs', hs1', hs2'⟩ := ho2
  refine ⟨gL, capL, x0, _, cx0, vsL, e, hx1, hx2, hb.trans (hb1.mono hb.size), ?_, fun e => ?_, ⟨hL1, hL2⟩, hcL, Nat.le_refl _⟩
  · have k1 := hs1.kept (row := none) ⟨hb1.os, hb1.tape, hb1.output, hb1.size, fun i hi _ => hb1.block i hi⟩ (Classical.em _)
    refine ⟨vs, k1, fun i r h => ?_, fun u hu => ?_⟩
    · obtain ⟨u, hu, hq⟩ := hs2 i r h
      exact ⟨u, hu, hq.below hb1⟩
    · have hl : vs.length = (effTo n (kk : Int) j).length := by have := hs1.1; omega
      have hlt := (List.getElem?_eq_some_iff.1 hu).1
      have hp := List.getElem?_eq_getElem (l := effTo n (kk : Int) j) (i := 0) (by omega)
      obtain ⟨u', hu', hq⟩ := hs2 0 _ hp
      rw [hu] at hu'
      injection hu' with hu'
      subst hu'
      obtain ⟨y, c, e, h1, h2⟩ := hq.far (effTo_mem (List.mem_of_getElem? hp))
      exact ⟨y, 0, _, c, e, .inl h2⟩
  · have := (hs1.lt gL e).2
    omega
set_option maxRecDepth 100000 in
set_option maxHeartbeats 4000000 in
theorem specEffl : ∀ (m : Nat) (k : Int) (w : World), m ≤ 6 → -1000 ≤ k → k ≤ 7 →
    Calls Try.prog 90 #[.int .i64 (m : Int), .int .i64 k] w (GivesOwn w (effB m k)) := by
  obtain ⟨i0, hi, hz0, hz1, hz2⟩ := info_parts intInfo
  obtain ⟨i1, hj, hy0, hy1, hy2⟩ := info_parts rowsInfo
  intro m
  induction m with
  | zero =>
    intro k w hm hk0 hk1
    by_cases hk : k < 0
    · go_enter Try.func90, Try.ntmps90
      go_wp2
      go_ret
      exact ⟨_, rfl, ⟨[], ⟨rfl, .inl ⟨rfl, rfl⟩⟩, fun i r h => by simp [effB] at h⟩, Below.refl _ _⟩
    · go_enter Try.func90, Try.ntmps90
      go_wp2
      go_ret
      exact ⟨_, rfl, ⟨[], ⟨rfl, .inl ⟨rfl, rfl⟩⟩, fun i r h => by simp [effB] at h⟩, Below.refl _ _⟩
  | succ m ih =>
    intro k w hm hk0 hk1
    obtain ⟨M, hM⟩ : ∃ M : Nat, M = m + 1 := ⟨_, rfl⟩
    rw [← hM]
    have hM0 : ¬ ((M : Int) = 0) := by omega
    have hM6 : (M : Int) ≤ 6 := by omega
    by_cases hk : k < 0
    · rw [effB_neg hk]
      clear ih hM
      go_enter Try.func90, Try.ntmps90
      go_wp2
      go_ret
      exact ⟨_, rfl, ⟨[], ⟨rfl, .inl ⟨rfl, rfl⟩⟩, fun i r h => by simp at h⟩, Below.refl _ _⟩
    · obtain ⟨kk, rfl⟩ : ∃ kk : Nat, k = (kk : Int) := ⟨k.toNat, by omega⟩
      cases m with
      | zero =>
        rw [hM, effB_one (by omega)]
        clear ih
        subst hM
        go_enter Try.func90, Try.ntmps90
        go_wp2
        go_ret
        have hb1 : Below w.heap.size w (w.alloc (.cells #[.int .i64 (kk : Int)] 3)) := (Below.refl _ _).alloc (Nat.le_refl _) _
        exact ⟨_, rfl, ⟨[.slice (some ⟨w.heap.size, 0, none⟩) 1 1], own_single2 w _ _ _ _, fun i r h => by
          have hi : i = 0 := by
            have := (List.getElem?_eq_some_iff.1 h).1
            simp at this
            omega
          subst hi
          simp only [List.getElem?_cons_zero, Option.some.injEq] at h
          subst h
          exact ⟨_, rfl, World.ownsRow.alloc (own_single w _ _) _⟩⟩, hb1.alloc hb1.size _⟩
      | succ n =>
        have hM1 : ¬ ((M : Int) = 1) := by omega
        have hM2 : (2 : Int) ≤ (M : Int) := by omega
        have hn6 : n + 2 ≤ 6 := by omega
        have IH := fun (j : Nat) (hj : j ≤ kk) (W : World) => Lib.hid (show Calls Try.prog 90 #[.int .i64 ((M : Int) - 1), .int .i64 ((kk : Int) - (j : Int))] W (GivesOwn W (effB (n + 1) ((kk : Int) - (j : Int)))) by
          have h9 := ih ((kk : Int) - (j : Int)) W (by omega) (by omega) (by omega)
          rw [show ((M : Int) - 1) = ((n + 1 : Nat) : Int) by omega]
          exact h9)
        rw [show effB M (kk : Int) = effTo n (kk : Int) (kk + 1) by rw [hM]; exact effB_two]
        clear ih hM
        go_enter Try.func90, Try.ntmps90
        go_wp2
        go_loopw [5, 6] (fun v i wr => ∃ j : Nat, j ≤ kk + 1 ∧ i = .int .i64 j ∧ SSOwn wr w.heap.size v (effTo n (kk : Int) j) ∧ Below w.heap.size w wr) (fun _ i _ => kk + 1 - (intOf i).toNat)
        case atStart =>
          exact ⟨0, Nat.zero_le _, rfl, ⟨[], own_emptyD w _ (Nat.le_refl _) _, fun i r h => by simp [effTo_zero] at h⟩, (Below.refl _ _).alloc (Nat.le_refl _) _⟩
        case round =>
          obtain ⟨j, hjk, rfl, hso, hb⟩ := hrel
          have HSO := Lib.hid hso
          have HB := Lib.hid hb
          clear hso hb
          have hj0 : (0 : Int) ≤ (j : Int) := Int.natCast_nonneg _
          by_cases hlt : j ≤ kk
          · have hj1 : (j : Int) ≤ (kk : Int) := by omega
            have hj2 : (kk : Int) ≤ 7 := by omega
            have HC := IH j hlt wr
            obtain ⟨wo, rfl⟩ : ∃ x : World, x = wr := ⟨_, rfl⟩
            go_wp2_with fail
            refine HC.out.mono ?_
            rintro e w1 ⟨v1, rfl, hL, hb1⟩
            have HM := Lib.hid (fun (r : List Int) (h : r ∈ effB (n + 1) ((kk : Int) - (j : Int))) => (effB_mem _ _ r h).1)
            have hLs := effB_small (n := n + 1) (k := (kk : Int) - (j : Int)) (by omega) (by omega)
            have HST := fun t => Lib.hid (fun (r : List Int) (h : (effB (n + 1) ((kk : Int) - (j : Int)))[t]? = some r) => effIn_step h)
            have HAL := Lib.hid (fun t (h : (effB (n + 1) ((kk : Int) - (j : Int))).length ≤ t) => effIn_all (n := n) (k := (kk : Int)) (j := j) h)
            have hIL := fun t => effIn_len (k := (kk : Int)) (j := j) t hn6 hj2 (by omega)
            obtain ⟨gL, cL, x0, n0, c0, vsL, rfl, hx0, hx1, hI⟩ := EffI.start HSO.out HB.out hL hb1 (effB_pos n _ (by omega)) (fun r h => by rw [HM.out r h]; omega)
            rw [← effIn_zero] at hI
            obtain ⟨L, hLe⟩ : ∃ L, L = effB (n + 1) ((kk : Int) - (j : Int)) := ⟨_, rfl⟩
            rw [← hLe] at hI hLs HM HST HAL ⊢
            obtain ⟨R, hR⟩ : ∃ R : Nat → List (List Int), R = effIn n (kk : Int) j := ⟨_, rfl⟩
            rw [← hR] at hI HST HAL hIL
            obtain ⟨lo, hlo⟩ : ∃ lo, lo = wo.heap.size := ⟨_, rfl⟩
            obtain ⟨hh, hhh⟩ : ∃ hh, hh = w1.heap.size := ⟨_, rfl⟩
            rw [← hlo, ← hhh] at hI
            rw [← hlo] at hx0
            rw [← hhh] at hx1
            have HI := Lib.hid hI
            clear HSO HB hL hb1 hLe hR hlo hhh IH hI HC
            go_wp2
            go_loopw [5, 8, 33] (fun v _ i wq => ∃ t : Nat, t ≤ L.length ∧ i = .int .i64 t ∧ EffI w wq lo hh gL x0 n0 c0 (.slice (some ⟨gL, 0, none⟩) L.length cL) v vsL L (R t)) (fun _ _ i _ => L.length - (intOf i).toNat)
            case atStart => exact ⟨0, Nat.zero_le _, rfl, HI.out⟩
            case round =>
              clear HI
              obtain ⟨t, htL, rfl, hI⟩ := hrel
              have HI := Lib.hid hI
              clear hI
              have ht0 : (0 : Int) ≤ (t : Int) := Int.natCast_nonneg _
              by_cases htl : t < L.length
              · have ht1 : (t : Int) < (L.length : Int) := by omega
                obtain ⟨r, hr⟩ : ∃ r, L[t]? = some r := ⟨_, List.getElem?_eq_getElem htl⟩
                have hrl : r.length = n + 1 := HM.out r (List.mem_of_getElem? hr)
                obtain ⟨g', cap', b, cb, hv, h94, hgl, hcell, hcap, h95, hbl, hcells⟩ := HI.out.L.one.at_ hr (by omega)
                injection hv with hv1 _ hv3
                injection hv1 with hv1
                injection hv1 with hv1
                subst hv1
                have hc2 := (HST t).out r hr
                have hbA : Below wr.heap.size wr (wr.alloc (Obj.cells #[.int .i64 (j : Int)] 3)) := (Below.refl _ _).alloc (Nat.le_refl _) _
                have HN1 := Lib.hid (show ∀ (i : Nat) (u : Value), (intCells r)[i]? = some u → (wr.alloc (Obj.cells #[.int .i64 (j : Int)] 3)).cell? ((⟨b, 0, none⟩ : Addr).add i) = some u from fun i u hu => by
                  simp only [intCells, List.getElem?_map, Option.map_eq_some_iff] at hu
                  obtain ⟨z, hz, rfl⟩ := hu
                  rw [Addr.add_lit, Nat.zero_add]
                  exact (hbA.cell (p := ⟨b, i, none⟩) (by simp only; omega)).trans (hcells i z hz))
                have HG1 := Lib.hid (show (intCells r).length = r.length * 1 by simp [intCells])
                have HG2 := Lib.hid (show ∀ u ∈ intCells r, u.oneCell' = true from fun u hu => by
                  simp only [intCells, List.mem_map] at hu
                  obtain ⟨z, _, rfl⟩ := hu
                  rfl)
                have g3 : 1 + r.length ≤ maxLen := by unfold maxLen; omega
                have g4 : (1 + r.length) * 8 ≤ 140737488355328 := by omega
                have g5 : wr.heap.size ≤ (wr.alloc (Obj.cells #[.int .i64 (j : Int)] 3)).heap.size := hbA.size
                have hRl := hIL t
                have n3 : (R t).length + 1 ≤ maxLen := by unfold maxLen; omega
                have n4 : ((R t).length + 1) * 24 ≤ 140737488355328 := by omega
                have HR := Lib.hid hc2
                have HRL := Lib.hid hrl
                clear hv3 hcells h94 h95 hc2 hr hrl
                go_wp2_with (at_builtin; refine wpList_append_own _ rfl _ _ 27 rfl wr.heap.size 3 i0 (.int .i64 0) 1 8 Try.underlying27 hi hz0 hz1 hz2 rfl (by decide) _ _ _ rfl (own_single wr _ _) ⟨b, 0, none⟩ _ _ (intCells r) rfl HG1.out HN1.out HG2.out g3 g4 g5 ?_)
                intro v2 w2 hown2 hgrow2 _
                have bC : Below wr.heap.size wr w2 := hbA.grown hgrow2 g5 (fun q hq => ((own_single wr (.int .i64 (j : Int)) 3).lt q hq).1)
                have kq2 : QOwn w2 wr.heap.size v2 ((j : Int) :: r) := by
                  rw [Nat.add_comm] at hown2
                  exact hown2
                obtain ⟨A2, m2, c2, rfl⟩ := own_sl hown2
                obtain ⟨vs, hs1, hs2, hfar⟩ := HI.out.out
                obtain ⟨k1, k2, k3⟩ := eff_step HI.out.old hs1 hs2 HI.out.ne HI.out.L rfl hfar HI.out.cell hx0 hx1 HI.out.hi bC kq2 (by simp)
                have K1 := Lib.hid k1
                have K3 := Lib.hid k3
                clear k1 k3 hs1 hs2 hfar kq2 hown2 hgrow2 bC HN1 HG1 HG2 hcell
                go_wp2_with (at_builtin; refine wpList_append_own _ rfl _ _ 34 rfl w.heap.size 27 i1 (.slice none 0 0) 1 24 Try.underlying34 hj hy0 hy1 hy2 rfl (by decide) _ _ _ rfl K1.out ⟨w2.heap.size, 0, none⟩ 1 1 [_] rfl rfl (one_cell _ _ rfl _ _) (fun u hu => by rw [List.mem_singleton] at hu; rw [hu]; rfl) n3 n4 k2 ?_)
                intro v3 w4 hown3 hgrow3 _
                obtain ⟨⟨e1, e2⟩, e3, e4, e5, e6, e7, e8⟩ := K3.out w4 v3 hown3 hgrow3
                rw [← HR.out] at e1 e2
                have HF := Lib.hid (show EffI w w4 lo hh gL x0 n0 c0 (.slice (some ⟨gL, 0, none⟩) L.length cL) v3 vsL L (R (t + 1)) from ⟨e5, ⟨_, e1, e2, e8⟩, e3, e4, e7, e6⟩)
                clear e1 e2 e3 e4 e5 e6 e7 e8 hown3 hgrow3 K1 K3 HR
                go_wp2
                exact ⟨⟨t + 1, by omega, by go_num, HF.out⟩, by simp [intOf]; omega⟩
              · have ht1 : ¬ ((t : Int) < (L.length : Int)) := by omega
                have HE := Lib.hid (show SSOwn wr w.heap.size u5 (effTo n (kk : Int) (j + 1)) by
                  obtain ⟨vs, hs1, hs2, _⟩ := HI.out.out
                  rw [HAL.out t (by omega)] at hs1 hs2
                  exact ⟨vs, hs1, hs2⟩)
                have HB := Lib.hid HI.out.old
                clear HI HM HST HAL
                go_wp2
                exact ⟨⟨j + 1, by omega, by go_num, HE.out, HB.out⟩, by simp [intOf]; omega⟩
          · have hj1 : ¬ ((j : Int) ≤ (kk : Int)) := by omega
            have HE := Lib.hid (show SSOwn wr w.heap.size u5 (effTo n (kk : Int) (kk + 1)) by rw [show kk + 1 = j by omega]; exact HSO.out)
            clear HSO
            go_wp2
            go_ret
            exact ⟨_, rfl, HE.out, HB.out⟩
end Go.Proofs.Ytcfhkaefjhcglaa
