/- TreesOf: the specification's side. -/
import Derived.Test.YtdpojcgeblbfeaaVTrsM
import Derived.Test.YtdpojcgeblbfeaaVRcpS
import Derived.Test.YtdpojcgeblbfeaaVPartS
import Derived.Test.YtdpojcgeblbfeaaVBT
set_option linter.all false
namespace Go.Proofs.Ytdpojcgeblbfeaa
open Go.RowKit

theorem filter_take {p : List Int → Bool} {R : List (List Int)} {j : Nat} {r : List Int} (h : R[j]? = some r) : (R.take (j + 1)).filter p = (R.take j).filter p ++ if p r = true then [r] else [] := by
  rw [List.take_add_one, h, List.filter_append]
  cases hp : p r <;> simp [hp]
def KeptT (w4 wr : World) (B1 B2 : Nat) (v : Value) (L : List (List Int)) : Prop := ∃ us, wr.ownsRow B1 28 1 v L.length us ∧ ∀ (i : Nat) (r : List Int), L[i]? = some r → ∃ u, us[i]? = some u ∧ QOwn w4 B2 u r
theorem KeptT.own {w4 wr : World} {B1 B2 : Nat} {v : Value} {L : List (List Int)} (h : KeptT w4 wr B1 B2 v L) (hB : B1 ≤ B2) (hkp : ∀ k, B2 ≤ k → k < w4.heap.size → wr.heap[k]? = w4.heap[k]?) : SSOwn wr B1 v L := by
  obtain ⟨us, h1, h2⟩ := h
  refine ⟨us, h1, fun i r hr => ?_⟩
  obtain ⟨u, hu, hq⟩ := h2 i r hr
  exact ⟨u, hu, ownsRow_mono (own_keep2 hq hkp) hB⟩
theorem KeptT.push {w4 w6 : World} {B1 B2 : Nat} {v' u : Value} {L : List (List Int)} {r : List Int} {us : List Value} (h1 : us.length = L.length) (h2 : ∀ (i : Nat) (r : List Int), L[i]? = some r → ∃ u, us[i]? = some u ∧ QOwn w4 B2 u r) (h3 : w6.ownsRow B1 28 1 v' (L.length + 1) (us ++ [u])) (h4 : QOwn w4 B2 u r) : KeptT w4 w6 B1 B2 v' (L ++ [r]) := by
  refine ⟨us ++ [u], by rw [List.length_append]; exact h3, fun i s hs => ?_⟩
  rcases Nat.lt_or_ge i L.length with l | l
  · rw [List.getElem?_append_left l] at hs
    rw [List.getElem?_append_left (by omega)]
    exact h2 i s hs
  · have e : i = L.length := by
      have := (List.getElem?_eq_some_iff.1 hs).1
      simp at this
      omega
    subst e
    rw [List.getElem?_append_right (Nat.le_refl _), Nat.sub_self] at hs
    have hs : r = s := by simpa using hs
    subst hs
    exact ⟨u, by rw [List.getElem?_append_right (by omega), h1, Nat.sub_self]; rfl, h4⟩
set_option maxRecDepth 100000 in
set_option maxHeartbeats 4000000 in
theorem specTrs (N : Int) (A : Option Addr) (c : Nat) (es : List (Int × Int)) (w : World) (hn : es.length ≤ 1048576) (hE : EdgeS w w.heap.size A es) :
    Calls Try.prog 35 #[.agg #[.int .i64 N, .slice A es.length c]] w (GivesRowsP w (treesC N es) (treesOk N es)) := by
  obtain ⟨i1, hj, hy0, hy1, hy2⟩ := info_parts rowsInfo
  have HE := Lib.hid hE
  have G0 := GB.start w N A c es
  have HD := fun w h1 => Lib.hid (specGraphOk N A c es w (by omega) h1)
  have HO := fun w h1 => Lib.hid (specTrees N A c es w hn h1)
  cases h1 : graphB N es with
  | false =>
    rw [h1] at HD
    have h0 : treesOk N es = false := by rw [treesOk, h1]; rfl
    rw [treesC_f h0, h0]
    clear h1 h0 hE HO
    go_enter Try.func35, Try.ntmps35
    go_wp2_with fail
    refine (HD _ (HE.out.up_ G0.old)).out.mono ?_
    rintro e w1 ⟨rfl, hb1⟩
    have G1 := Lib.hid (G0.next hb1)
    clear G0 hb1
    go_wp2
    go_ret2
    exact ⟨none, 0, rfl, fun hn => absurd hn (by simp), G1.out.old⟩
  | true =>
    rw [h1] at HD
    obtain ⟨TT, hT⟩ : ∃ TT, TT = treesB N es := ⟨_, rfl⟩
    by_cases h3 : TT ≤ 400
    · have h0 : treesOk N es = true := by rw [treesOk, h1, decide_eq_true (by rw [← hT]; exact h3)]; rfl
      obtain ⟨M, rfl, hP⟩ := trees_parts w h0
      rw [treesC_t h0, h0]
      rw [← hT] at HO
      have t2 : ¬ (400 : Int) < TT := by omega
      have hM6 := hP.m6
      have hM0 := hP.m0
      have hge := hP.ge
      have hn12 := hP.n12
      obtain ⟨k, hk⟩ : ∃ k, k = M - 1 := ⟨_, rfl⟩
      have z1 : IntKind.i64.wrap ((M : Int) - 1) = (k : Int) := by rw [IntKind.wrap_i64]; omega
      have HSW := Lib.hid (fun W => setsW_any es.length hn12 k (by omega) (by omega) W)
      obtain ⟨R, hR⟩ : ∃ R, R = (setsB es.length k).map natI := ⟨_, rfl⟩
      have hRl : R.length ≤ 792 := by rw [hR, List.length_map]; exact (sets_size12 es.length hn12 k (by omega)).1
      have HRA := Lib.hid (show ∀ r ∈ R, AscP es.length k r from fun r hr => by
        rw [hR] at hr
        obtain ⟨s, hs, rfl⟩ := List.mem_map.1 hr
        exact (sets_asc es.length k).1 s hs)
      have HTL := Lib.hid (show R.filter (fun s => connB (M : Int) (partL es s)) = treesL M es from by rw [hR, hk]; rfl)
      rw [← hR] at HSW
      have HJ := Lib.hid (fun (D : Option Addr) (cd : Nat) (r : List Int) (W : World) (hr : r ∈ R) (h1 : EdgeS W W.heap.size A es) (h2 : IntS W W.heap.size D r) => joins_any A D c cd M es r W hP.e (by have := (HRA.out r hr).1; omega) (fun i hi => by
        obtain ⟨u, hu⟩ := List.getElem?_of_mem hi
        have h3 := HRA.out r hr
        have hul := (List.getElem?_eq_some_iff.1 hu).1
        have h4 := h3.2.1 u (by rw [← h3.1]; exact hul)
        rw [List.getD, hu] at h4
        exact h4) h1 h2)
      have HLK := Lib.hid (show ∀ r ∈ R, r.length = k from fun r hr => (HRA.out r hr).1)
      have HMT := Lib.hid (fun (j : Nat) (r : List Int) (h : R[j]? = some r) => filter_take (p := fun s => connB (M : Int) (partL es s)) h)
      clear h1 h0 hE hT hR hP hge HRA hk
      go_enter Try.func35, Try.ntmps35
      go_wp2_with fail
      refine (HD _ (HE.out.up_ G0.old)).out.mono ?_
      rintro e w1 ⟨rfl, hb1⟩
      have G1 := Lib.hid (G0.next hb1)
      have c0 := G1.out.c0
      have c1 := G1.out.c1
      clear G0 hb1
      go_wp2_with fail
      refine (HO _ (HE.out.up_ G1.out.old)).out.mono ?_
      rintro e w2 ⟨rfl, hb2⟩
      have G2 := Lib.hid (G1.out.next hb2)
      clear hb2 c0 c1 HO G1
      have c0 := G2.out.c0
      have c1 := G2.out.c1
      have hsz2 := G2.out.lt
      have hba : Below w2.heap.size w2 (w2.alloc (.cells #[] 28)) := (Below.refl _ _).alloc (Nat.le_refl _) _
      have hlo : (w2.alloc (.cells #[] 28)).ownsRow (w.heap.size + 1) 28 1 (.slice (some ⟨w2.heap.size, 0, none⟩) 0 0) 0 [] :=
        ⟨rfl, .inr ⟨w2.heap.size, 0, #[], rfl, hsz2, heap_alloc_new w2 _, Nat.le_refl _, Nat.zero_le _, rfl, rfl⟩⟩
      have HLO := Lib.hid hlo
      have G3 := Lib.hid (G2.out.next hba)
      clear hlo hba
      obtain ⟨W3, hW3⟩ : ∃ W : World, W = w2.alloc (.cells #[] 28) := ⟨_, rfl⟩
      have hs3 : W3.heap.size = w2.heap.size + 1 := by rw [hW3]; simp
      rw [← hW3] at HLO G3
      have HW3 := Lib.hid hW3
      clear hW3
      go_wp2_with fail
      rw [← HW3.out]
      refine (HSW.out W3).mono ?_
      rintro e w4 ⟨v4, vs, rfl, hso, hpt, hb4⟩
      have G5 := Lib.hid (G3.out.next hb4)
      have hw4s := hb4.size
      have HK5 := Lib.hid (show KeptT w4 w4 (w.heap.size + 1) (w2.heap.size + 1) (.slice (some ⟨w2.heap.size, 0, none⟩) 0 0) [] from ⟨[], own_keep2 HLO.out fun q _ hq => hb4.block q hq, fun i r h => by simp at h⟩)
      rw [hs3] at hso
      have HSO := Lib.hid hso
      have HPT := Lib.hid hpt
      obtain ⟨A4, c4, e4⟩ : ∃ (A : Option Addr) (c : Nat), v4 = .slice A R.length c := by
        rcases hso.1.2 with ⟨e, e0⟩ | ⟨g, cap, cur, e, _⟩
        · exact ⟨none, 0, by rw [e, e0]⟩
        · exact ⟨_, _, e⟩
      subst e4
      clear hso hpt hb4 G3 HLO G2 c0 c1
      go_wp2_with fail
      go_loopw [4, 6, 24] (fun v _ i wr => ∃ j : Nat, j ≤ R.length ∧ i = .int .i64 (j : Int) ∧ KeptT w4 wr (w.heap.size + 1) (w2.heap.size + 1) v ((R.take j).filter fun s => connB (M : Int) (partL es s)) ∧ GB w wr (M : Int) A c es ∧ (∀ g, v.ownBlock = some g → g < w2.heap.size + 1 ∨ w4.heap.size ≤ g) ∧ (∀ k, w2.heap.size + 1 ≤ k → k < w4.heap.size → wr.heap[k]? = w4.heap[k]?) ∧ w4.heap.size ≤ wr.heap.size) (fun _ _ i _ => R.length - (intOf i).toNat)
      case atStart => exact ⟨0, Nat.zero_le _, rfl, HK5.out, G5.out, fun g hg => by have hg : some w2.heap.size = some g := hg; injection hg with hg; left; omega, fun _ _ _ => rfl, Nat.le_refl _⟩
      case round =>
        clear HK5 G5
        obtain ⟨j, hjl, rfl, ho, hg, hvb, hkp, hws⟩ := hrel
        have HG := Lib.hid hg
        have HOU := Lib.hid ho
        have HVB := Lib.hid hvb
        have HKP := Lib.hid hkp
        have HSR := Lib.hid (show SSOwnV wr (w2.heap.size + 1) (.slice A4 R.length c4) vs R from by
          obtain ⟨q1, q2⟩ := HSO.out
          refine ⟨own_keep2 q1 hkp, fun i r hr => ?_⟩
          obtain ⟨u, hu, hq⟩ := q2 i r hr
          exact ⟨u, hu, own_keep2 hq hkp⟩)
        clear ho hg hvb hkp
        by_cases hlt : j < R.length
        · obtain ⟨r, hr5⟩ : ∃ r, R[j]? = some r := ⟨_, List.getElem?_eq_getElem hlt⟩
          obtain ⟨u, hu, b6, c6, e6, hc6⟩ := HPT.out j r hr5
          obtain ⟨g4, cap4, e4, hg4, hcu⟩ := HSR.out.cell hu
          injection e4 with e4 _ e5
          subst e4
          subst e5
          have hrl := HLK.out r (List.mem_of_getElem? hr5)
          have hq4 : QOwn w4 (w2.heap.size + 1) u r := by
            obtain ⟨u', hu', hq⟩ := HSO.out.2 j r hr5
            rw [hu] at hu'
            injection hu' with hu'
            subst hu'
            exact hq
          have hqr : QOwn wr (w2.heap.size + 1) u r := own_keep2 hq4 HKP.out
          rw [e6] at hqr hcu hq4
          rw [hrl] at hcu
          have HI5 := Lib.hid (QOwn.ints hqr)
          have HQ4 := Lib.hid hq4
          have HR5 := Lib.hid hr5
          have hj0 : (0 : Int) ≤ (j : Int) := Int.natCast_nonneg _
          have hj1 : (j : Int) < (R.length : Int) := by omega
          have c0 := HG.out.c0
          have c1 := HG.out.c1
          have hlg := HG.out.lt
          have HJR := Lib.hid (HJ.out (some ⟨b6, 0, none⟩) c6 r wr (List.mem_of_getElem? hr5) (HE.out.up_ HG.out.old) HI5.out)
          rw [hrl] at HJR
          have HRL := Lib.hid hrl
          clear hr5 hq4 hqr e6 hu hrl hc6
          go_wp2_with fail
          refine HJR.out.mono ?_
          rintro e w5 ⟨rfl, hb5⟩
          have HB5 := Lib.hid hb5
          have hs5' := hb5.size
          have HG5 := Lib.hid (HG.out.next hb5)
          have HMR := HMT.out j r HR5.out
          clear hb5 c0 c1 HJR
          cases hcc : connB (M : Int) (partL es r) with
          | true =>
            rw [hcc, if_pos rfl] at HMR
            obtain ⟨us, ow, hrows⟩ := HOU.out
            have hLl : ((R.take j).filter fun s => connB (M : Int) (partL es s)).length ≤ j := Nat.le_trans (List.length_filter_le _ _) (by rw [List.length_take]; omega)
            obtain ⟨L, hL⟩ : ∃ L, L = (R.take j).filter fun s => connB (M : Int) (partL es s) := ⟨_, rfl⟩
            rw [← hL] at HMR ow hrows hLl
            have HLT := Lib.hid ow.lt
            have HOW := Lib.hid (show (w5.alloc (.cells #[.slice (some ⟨b6, 0, none⟩) k c6] 28)).ownsRow (w.heap.size + 1) 28 1 u4 L.length us from own_keep2 ow (fun g _ hg => (Below.heap_alloc _ _ g (Nat.lt_of_lt_of_le hg hs5')).trans (HB5.out.block g hg)))
            have HUL := Lib.hid (show us.length = L.length from by have := ow.1; omega)
            have HRW := Lib.hid hrows
            have HMR2 := Lib.hid HMR
            have n3 : L.length + 1 ≤ maxLen := by unfold maxLen; omega
            have n4 : (L.length + 1) * 24 ≤ 140737488355328 := by omega
            have n5 : w.heap.size + 1 ≤ (w5.alloc (.cells #[.slice (some ⟨b6, 0, none⟩) k c6] 28)).heap.size := by simp; omega
            clear ow hrows HMR hL hLl HOU hcc
            go_wp2_with (at_builtin; refine wpList_append_own_at _ rfl _ _ 41 rfl (w.heap.size + 1) 28 i1 (.slice none 0 0) 1 24 Try.underlying41 hj hy0 hy1 hy2 rfl (by decide) _ _ _ rfl HOW.out ⟨w5.heap.size, 0, none⟩ 1 1 [.slice (some ⟨b6, 0, none⟩) k c6] rfl rfl (one_cell _ _ rfl _ _) (fun u hu => by rw [List.mem_singleton] at hu; rw [hu]; rfl) n3 n4 n5 ?_)
            intro v' w6 hown6 hgrow6 _ hat6
            have hat7 : v'.ownBlock = u4.ownBlock ∨ v'.ownBlock = some (w5.heap.size + 1) := by
              rcases hat6 with h | h
              · exact .inl h
              · exact .inr (h.trans (by simp))
            have hba : Below w5.heap.size w5 (w5.alloc (.cells #[.slice (some ⟨b6, 0, none⟩) k c6] 28)) := (Below.refl _ _).alloc (Nat.le_refl _) _
            have hgs := hgrow6.size
            have hasz : (w5.alloc (.cells #[.slice (some ⟨b6, 0, none⟩) k c6] 28)).heap.size = w5.heap.size + 1 := by simp
            have hqq := HQ4.out
            rw [HRL.out] at hqq
            have ho6 : KeptT w4 w6 (w.heap.size + 1) (w2.heap.size + 1) v' (L ++ [r]) := KeptT.push HUL.out HRW.out hown6 hqq
            have hg6 : GB w w6 (M : Int) A c es := by
              have hg5 := HG5.out.next hba
              have hlo : ∀ g, u4.ownBlock = some g → w.heap.size + 1 ≤ g := fun g hg => (HLT.out g hg).1
              exact ⟨Blk.grown hg5.box hgrow6 fun e => by have := hlo _ e; omega, hg5.old.grown hgrow6 (by omega) fun g hg => by have := hlo g hg; omega⟩
            have hvb6 : ∀ g, v'.ownBlock = some g → g < w2.heap.size + 1 ∨ w4.heap.size ≤ g := fun g hg => by
              rcases hat7 with h | h
              · exact HVB.out g (h.symm.trans hg)
              · rw [h] at hg
                injection hg with hg
                right
                omega
            have hkp6 : ∀ k, w2.heap.size + 1 ≤ k → k < w4.heap.size → w6.heap[k]? = w4.heap[k]? := fun k h1 h2 => by
              have h3 : some k ≠ u4.ownBlock := fun e => by
                rcases HVB.out k e.symm with h | h <;> omega
              exact (hgrow6.block k (by omega) h3).trans ((hba.block k (by omega)).trans ((HB5.out.block k (by omega)).trans (HKP.out k h1 h2)))
            rw [← HMR2.out] at ho6
            have HO6 := Lib.hid ho6
            have HG6 := Lib.hid hg6
            have HVB6 := Lib.hid hvb6
            have HKP6 := Lib.hid hkp6
            have hw6 : w4.heap.size ≤ w6.heap.size := by omega
            clear hown6 hgrow6 hat6 hat7 hba ho6 hg6 hvb6 hkp6 HOW HLT HRW HMR2 hqq
            go_wp2
            exact ⟨⟨j + 1, by omega, by go_num, HO6.out, HG6.out, HVB6.out, HKP6.out, hw6⟩, by simp [intOf]; omega⟩
          | false =>
            rw [hcc, if_neg (by decide), List.append_nil] at HMR
            have HO6 := Lib.hid (show KeptT w4 w5 (w.heap.size + 1) (w2.heap.size + 1) u4 ((R.take (j + 1)).filter fun s => connB (M : Int) (partL es s)) from by
              rw [HMR]
              obtain ⟨us, ow, hrows⟩ := HOU.out
              exact ⟨us, own_keep2 ow fun q _ hq => HB5.out.block q hq, hrows⟩)
            have HKP6 := Lib.hid (show ∀ k, w2.heap.size + 1 ≤ k → k < w4.heap.size → w5.heap[k]? = w4.heap[k]? from fun k h1 h2 => (HB5.out.block k (by omega)).trans (HKP.out k h1 h2))
            have hw6 : w4.heap.size ≤ w5.heap.size := by omega
            clear HMR HOU
            go_wp2
            exact ⟨⟨j + 1, by omega, by go_num, HO6.out, HG5.out, HVB.out, HKP6.out, hw6⟩, by simp [intOf]; omega⟩
        · have HF := HOU.out
          rw [show j = R.length by omega, List.take_length, HTL.out] at HF
          obtain ⟨A7, c7, rfl, hss⟩ := box_rows (HF.own (by omega) HKP.out)
          have HSS := Lib.hid hss
          have hjl2 : ¬ ((j : Int) < (R.length : Int)) := by omega
          clear hss HOU HVB HKP HSR HF
          go_wp2
          go_ret2
          exact ⟨A7, c7, rfl, HSS.out, HG.out.old⟩
    · have h0 : treesOk N es = false := by rw [treesOk, decide_eq_false (by rw [← hT]; exact h3), Bool.and_false]
      rw [treesC_f h0, h0]
      rw [← hT] at HO
      have t2 : (400 : Int) < TT := by omega
      clear h1 h0 hE hT h3
      go_enter Try.func35, Try.ntmps35
      go_wp2_with fail
      refine (HD _ (HE.out.up_ G0.old)).out.mono ?_
      rintro e w1 ⟨rfl, hb1⟩
      have G1 := Lib.hid (G0.next hb1)
      have c0 := G1.out.c0
      have c1 := G1.out.c1
      clear G0 hb1
      go_wp2_with fail
      refine (HO _ (HE.out.up_ G1.out.old)).out.mono ?_
      rintro e w2 ⟨rfl, hb2⟩
      have G2 := Lib.hid (G1.out.next hb2)
      clear hb2
      go_wp2
      go_ret2
      exact ⟨none, 0, rfl, fun hn => absurd hn (by simp), G2.out.old⟩
end Go.Proofs.Ytdpojcgeblbfeaa
