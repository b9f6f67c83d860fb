/- DropEdge: the specification's side. -/
import Derived.Test.YtbmihbbpdmpmpaaDrop
import Derived.Test.YtbmihbbpdmpmpaaBF
namespace Go.Proofs.Ytbmihbbpdmpmpaa
open Go.RowKit

theorem own_set {w : World} {base X o n size : Nat} {e : TypeId} {v u : Value} {xs : List Value} (h : w.ownsRow base e size v n xs) (hX : X < base) : (w.setCell ⟨X, o, none⟩ u).ownsRow base e size v n xs := by
  refine ⟨h.1, h.2.imp id ?_⟩
  rintro ⟨g, cap, cur, h1, h2, h3, h4⟩
  exact ⟨g, cap, cur, h1, h2, (Below.heap_setCell _ _ _ _ (by show g ≠ X; omega)).trans h3, h4⟩
theorem ownE_of {w : World} {base n : Nat} {v : Value} {l : List (Int × Int)} (h : w.ownsRow base 62 2 v n (flat l)) : ∃ (A : Option Addr) (c : Nat), v = .slice A l.length c ∧ OwnE w base A l ∧ ∀ g off, A = some ⟨g, off, none⟩ → base ≤ g ∧ g < w.heap.size := by
  obtain ⟨hl, h⟩ := h
  rw [flat_length] at hl
  have hln : l.length = n := by omega
  rcases h with ⟨h1, h2⟩ | ⟨g, cap, cur, hv, hb, hh, hnc, _, hcs, htk⟩
  · exact ⟨none, 0, by rw [h1, hln, h2], fun hn => absurd hn (by omega), fun _ _ h => by cases h⟩
  · have hblk : Blk w g 62 cur := hh
    have hc : ∀ k u, (flat l)[k]? = some u → w.cell? ⟨g, 0 + k, none⟩ = some u := fun k u hu => by
      have hk : k < n * 2 := by
        have := (List.getElem?_eq_some_iff.1 hu).1
        rw [flat_length] at this
        omega
      rw [Nat.zero_add, hblk.cell, ← hu, ← htk, List.getElem?_take_of_lt hk, Array.getElem?_toList]
    refine ⟨some ⟨g, 0, none⟩, cap, by rw [hln]; exact hv, fun _ => ⟨g, 0, rfl, hb, hblk.lt, fun i e he => ?_⟩, fun g' off e => by
      injection e with e
      injection e with e1 _ _
      subst e1
      exact ⟨hb, hblk.lt⟩⟩
    have hf := flat_at l i e he
    exact ⟨hc _ _ hf.1, hc _ _ hf.2, hblk.frozen _, hblk.frozen _⟩
theorem ownE_far {w : World} {b X : Nat} {A : Option Addr} {es : List (Int × Int)} (h : OwnE w b A es) (hx : X < b) (u v : Value) : OwnE ((w.setCell ⟨X, 0, none⟩ u).setCell ⟨X, 1, none⟩ v) b A es := fun hn => by
  obtain ⟨g, off, rfl, h1, hg, hc⟩ := h hn
  have hbl : ((w.setCell ⟨X, 0, none⟩ u).setCell ⟨X, 1, none⟩ v).heap[g]? = w.heap[g]? := (Below.heap_setCell _ _ _ _ (by show g ≠ X; omega)).trans (Below.heap_setCell _ _ _ _ (by show g ≠ X; omega))
  have hcl : ∀ o : Nat, ((w.setCell ⟨X, 0, none⟩ u).setCell ⟨X, 1, none⟩ v).cell? ⟨g, o, none⟩ = w.cell? ⟨g, o, none⟩ := fun o => World.cell?_of_block (a := ⟨g, o, none⟩) hbl
  have hfr : ∀ o : Nat, ((w.setCell ⟨X, 0, none⟩ u).setCell ⟨X, 1, none⟩ v).frozen? ⟨g, o, none⟩ = w.frozen? ⟨g, o, none⟩ := fun o => World.frozen?_of_block (a := ⟨g, o, none⟩) hbl
  refine ⟨g, off, rfl, h1, by simpa [World.setCell] using hg, fun i z hz => ?_⟩
  rw [hcl, hcl, hfr, hfr]
  exact hc i z hz
theorem two_cells (W : World) (g : Nat) (hg : g = W.heap.size) (t : TypeId) (u v : Value) (j : Nat) (x : Value) (h : [u, v][j]? = some x) : (W.alloc (.cells #[u, v] t)).cell? ((⟨g, 0, none⟩ : Addr).add j) = some x := by
  subst hg
  rw [Addr.add_lit, Nat.zero_add, (Blk.new W t #[u, v]).cell]
  simpa using h
theorem flat_app (a b : List (Int × Int)) : flat (a ++ b) = flat a ++ flat b := by
  induction a with
  | nil => rfl
  | cons x l ih => simp only [List.cons_append, flat, ih]
def keptL (es : List (Int × Int)) (i j : Nat) : List (Int × Int) := (es.take j).eraseIdx i
theorem kept_skip (es : List (Int × Int)) (i : Nat) (h : i < es.length) : keptL es i (i + 1) = keptL es i i := by
  unfold keptL
  rw [List.take_add_one, List.getElem?_eq_getElem h, List.eraseIdx_append_of_length_le (by rw [List.length_take]; omega), List.eraseIdx_of_length_le (l := es.take i) (by rw [List.length_take]; omega)]
  have : (es.take i).length = i := by rw [List.length_take]; omega
  rw [this, Nat.sub_self]
  simp
theorem kept_push (es : List (Int × Int)) (i j : Nat) (h : j < es.length) (hne : j ≠ i) : keptL es i (j + 1) = keptL es i j ++ [es[j]] := by
  unfold keptL
  rw [List.take_add_one, List.getElem?_eq_getElem h]
  by_cases hji : j < i
  · rw [List.eraseIdx_of_length_le (by simp; omega), List.eraseIdx_of_length_le (by rw [List.length_take]; omega)]
    rfl
  · rw [List.eraseIdx_append_of_lt_length (by rw [List.length_take]; omega)]
    rfl
theorem kept_all (es : List (Int × Int)) (i : Nat) : keptL es i es.length = es.eraseIdx i := by
  unfold keptL
  rw [List.take_of_length_le (Nat.le_refl _)]
theorem kept_len (es : List (Int × Int)) (i j : Nat) : (keptL es i j).length ≤ es.length := by
  unfold keptL
  have h1 := List.length_eraseIdx_le (es.take j) i
  rw [List.length_take] at h1
  omega
set_option maxRecDepth 100000 in
set_option maxHeartbeats 2000000 in
theorem specDrop (N : Int) (A : Option Addr) (c : Nat) (es : List (Int × Int)) (k : Int) (w : World) (hn : es.length ≤ 1048576) (h0 : -9223372036854775808 ≤ k) (h1 : k ≤ 9223372036854775807) (hE : EdgeS w w.heap.size A es) :
    Calls Try.prog 25 #[.agg #[.int .i64 N, .slice A es.length c], .int .i64 k] w (GivesG w (dropN N es k) (dropL N es k) (dropK N es k)) := by
  have HE := Lib.hid hE
  obtain ⟨wa, hwa⟩ : ∃ wa, wa = ((w.alloc (Obj.cells #[.int .i64 N, .slice A es.length c] 30)).alloc (Obj.cells #[.int .i64 0, .slice none 0 0] 30)) := ⟨_, rfl⟩
  have hba : Below w.heap.size w wa := by rw [hwa]; exact ((Below.refl _ w).alloc (Nat.le_refl _) _).alloc (by simp) _
  have hk1 : Blk wa w.heap.size 30 #[.int .i64 N, .slice A es.length c] := by rw [hwa]; exact (Blk.new w _ _).alloc _
  have hk2 : Blk wa (w.heap.size + 1) 30 #[.int .i64 0, .slice none 0 0] := by
    rw [hwa]
    have h := Blk.new (w.alloc (Obj.cells #[.int .i64 N, .slice A es.length c] 30)) 30 #[.int .i64 0, .slice none 0 0]
    rw [World.size_alloc] at h
    exact h
  have hsa : wa.heap.size = w.heap.size + 2 := by rw [hwa]; simp
  have HWA := Lib.hid hwa
  have HG := Lib.hid (specGraphOk N A c es wa (by omega) ((hE.below hba).keep (fun _ _ => rfl) hba.size))
  clear hwa
  by_cases hg : graphB N es = true
  · rw [hg] at HG
    by_cases hz0 : 0 ≤ k
    · by_cases hz1 : k < (es.length : Int)
      · obtain ⟨i, rfl⟩ : ∃ i : Nat, k = (i : Int) := ⟨k.toNat, by omega⟩
        have hi : i < es.length := by omega
        have hpos : 0 < es.length := by omega
        have hz3 : (i : Int) ≤ (es.length : Int) - 1 := by omega
        obtain ⟨i0, hI, hzz0, hzz1, hzz2⟩ := info_parts edgeInfo
        have hwr : IntKind.i64.wrap ((es.length : Int) - 1) = (es.length : Int) - 1 := by rw [IntKind.wrap_i64]; omega
        go_enter Try.func25, Try.ntmps25
        go_wp2_with fail
        rw [← HWA.out]
        refine HG.out.mono ?_
        rintro e w1 ⟨rfl, hb⟩
        have HB1 := Lib.hid (hk1.below hb (by omega))
        have HB2 := Lib.hid (hk2.below hb (by omega))
        have hb1 := hba.trans (hb.mono hba.size)
        obtain ⟨hc0, hc1, hf0, hf1, hl1⟩ := box_facts HB1.out
        obtain ⟨hd0, hd1, hg0, hg1, hl2⟩ := box_facts HB2.out
        clear hb hk1 hk2 HG
        have HIN := Lib.hid (show Calls Try.prog 50 #[.int .i64 i, .int .i64 0, .int .i64 ((es.length : Int) - 1)] w1 fun e w' => e = .returned (.bool true) ∧ w1 = w' by
          have h := l01In_any (i : Int) 0 ((es.length : Int) - 1) w1
          rwa [show inB (i : Int) 0 ((es.length : Int) - 1) = true by simp [inB]; omega] at h)
        go_wp2_with fail
        refine HIN.out.mono ?_
        rintro e w2 ⟨rfl, rfl⟩
        clear HIN
        go_wp2_with fail
        go_loopw [28] (fun cnt wr => ∃ (j : Nat) (v : Value), j ≤ es.length ∧ cnt = .int .i64 j ∧ Blk wr w1.heap.size 30 #[.int .i64 N, v] ∧ wr.ownsRow (w1.heap.size + 1) 62 2 v (keptL es i j).length (flat (keptL es i j)) ∧ Below w1.heap.size w1 wr) (fun cnt _ => es.length - (intOf cnt).toNat)
        case atStart =>
          refine ⟨0, _, Nat.zero_le _, rfl, Blk.new w1 _ _, ⟨by simp [keptL, flat], .inl ⟨rfl, by simp [keptL]⟩⟩, (Below.refl _ _).alloc (Nat.le_refl _) _⟩
        case round =>
          obtain ⟨j, v, hj, rfl, hblk, hown, hbw⟩ := hrel
          have HBX := Lib.hid hblk
          have HO := Lib.hid hown
          have HBW := Lib.hid hbw
          obtain ⟨x0, x1, x2, x3, x4⟩ := box_facts hblk
          clear hblk hown hbw
          by_cases hlt : j < es.length
          · have hj0 : (0 : Int) ≤ (j : Int) := Int.natCast_nonneg _
            have hj1 : (j : Int) < (es.length : Int) := by omega
            obtain ⟨b1, o1, e, rfl, hbb, he, he0, he1⟩ := (HE.out.below (hb1.trans (HBW.out.mono hb1.size))).at_ hlt
            by_cases hji : j = i
            · have t0 : ((j : Int) != (i : Int)) = false := by rw [hji]; simp
              have HK1 := Lib.hid (show keptL es i (j + 1) = keptL es i j by rw [hji]; exact kept_skip es i hi)
              have HJ := Lib.hid hji
              clear hji he
              go_wp2
              exact ⟨⟨j + 1, v, by omega, by go_num, HBX.out.alloc _, by rw [HK1.out]; exact HO.out.alloc _, HBW.out.alloc HBW.out.size _⟩, by simp [intOf]; omega⟩
            · have t0 : ((j : Int) != (i : Int)) = true := by simp; omega
              have HK1 := Lib.hid (show keptL es i (j + 1) = keptL es i j ++ [e] by
                rw [kept_push es i j hlt hji]
                rw [List.getElem?_eq_getElem hlt] at he
                injection he with he
                rw [he])
              have hkl := kept_len es i j
              have HJ := Lib.hid hji
              clear hji he
              obtain ⟨l, hl⟩ : ∃ l, l = keptL es i j := ⟨_, rfl⟩
              rw [← hl] at HK1 hkl HO
              clear hl
              go_wp2_with (at_builtin; refine wpList_append_own _ rfl _ _ 28 rfl (w1.heap.size + 1) 62 i0 (.agg #[.int .i64 0, .int .i64 0]) 2 16 Try.underlying28 hI hzz0 hzz1 hzz2 rfl (by decide) _ _ _ rfl ((HO.out.alloc _).alloc _) ⟨wr.heap.size + 1, 0, none⟩ 1 1 [.int .i64 e.1, .int .i64 e.2] rfl rfl ?c1 ?c2 ?c3 ?c4 ?c5 ?_)
              case c1 => exact two_cells _ _ (by simp) _ _ _
              case c2 =>
                intro u hu
                simp only [List.mem_cons, List.not_mem_nil, or_false] at hu
                rcases hu with rfl | rfl <;> rfl
              case c3 => unfold maxLen; omega
              case c4 => omega
              case c5 => simp; omega
              intro v' w2 hown' hgrow _
              have hsz := HBW.out.size
              have HO2 : Hid (w2.ownsRow (w1.heap.size + 1) 62 2 v' (l ++ [e]).length (flat (l ++ [e]))) := Lib.hid (by
                rw [flat_app]
                have h3 := hown'
                simpa [flat] using h3)
              obtain ⟨A2, c2, hv2, -, -⟩ := ownE_of HO2.out
              subst hv2
              have HO3 : Hid (w2.ownsRow (w1.heap.size + 1) 62 2 (.slice A2 (l.length + 1) c2) (l ++ [e]).length (flat (l ++ [e]))) := Lib.hid (by
                have h5 := HO2.out
                rwa [show (Value.slice A2 (l ++ [e]).length c2) = .slice A2 (l.length + 1) c2 by simp] at h5)
              have hne : v.ownBlock ≠ some w1.heap.size := fun h => by have := (HO.out.lt _ h).1; omega
              have HBX2 : Hid (Blk w2 w1.heap.size 30 #[.int .i64 N, v]) := Lib.hid (Blk.grown ((HBX.out.alloc _).alloc _) hgrow hne)
              have hb4 : Below w1.heap.size w1 w2 := ((HBW.out.alloc hsz _).alloc (by simp; omega) _).grown hgrow (by simp; omega) (fun q hq => by have := (HO.out.lt q hq).1; omega)
              obtain ⟨s0, s1, s2, s3, s4⟩ := box_facts HBX2.out
              have HB4 := Lib.hid hb4
              clear hown' hgrow hne hb4 x0 x1 x2 x3 x4
              go_wp2
              exact ⟨⟨j + 1, _, by omega, by go_num, HBX2.out.set_ 1 _, by rw [HK1.out]; exact own_set HO3.out (Nat.lt_succ_self _), Below.setCell (B := w1.heap.size) HB4.out (p := ⟨w1.heap.size, 1, none⟩) (Nat.le_refl _) _⟩, by simp [intOf]; omega⟩
          · have hjn : j = es.length := by omega
            have hO2 := HO.out
            rw [hjn, kept_all] at hO2
            obtain ⟨A2, c2, hv2, hOE, hrg⟩ := ownE_of hO2
            have HRG := Lib.hid hrg
            have HOE := Lib.hid hOE
            have hv3 := Lib.hid hv2
            have hle : (es.eraseIdx i).length = es.length - 1 := by rw [List.length_eraseIdx, if_pos hi]
            have HR := Lib.hid (HB2.out.below HBW.out hl2)
            have hbz := hb1.trans (HBW.out.mono hb1.size)
            have HGO := Lib.hid (specGraphOk N A2 c2 (es.eraseIdx i) wr (by omega) hOE.edges)
            have HK := Lib.hid (show dropK N es (i : Int) = graphB N (es.eraseIdx i) by
              unfold dropK
              rw [hg, decide_eq_true hz0, decide_eq_true hz1]
              simp)
            subst hv2
            clear hO2 hOE hjn hle hrg
            go_wp2_with fail
            refine HGO.out.mono ?_
            rintro e w5 ⟨rfl, hb6⟩
            have HR5 := Lib.hid (HR.out.below hb6 (Nat.lt_of_lt_of_le hl2 HBW.out.size))
            have HB5 := Lib.hid (HBX.out.below hb6 x4)
            have HO5 := Lib.hid (HOE.out.below hb6)
            have hsz5 := hb6.size
            have hb7 := hbz.trans (hb6.mono hbz.size)
            have hgl : w.heap.size + 1 < w1.heap.size := hl2
            clear x0 x1 x2 x3 x4
            obtain ⟨y0, y1, y2, y3, y4⟩ := box_facts HB5.out
            obtain ⟨r0, r1, r2, r3, r4⟩ := box_facts HR5.out
            clear hb6 HR
            cases hg2 : graphB N (es.eraseIdx i) with
            | false =>
              rw [hg2] at HK
              have E0 := drop_no HK.out
              have E1 := Lib.hid E0.1
              have E2 := Lib.hid E0.2
              clear E0 hg2
              go_wp2
              obtain ⟨W6, hW6⟩ : ∃ W6 : World, W6 = ((w5.setCell ⟨w.heap.size + 1, 0, none⟩ (.int .i64 0)).setCell ⟨w.heap.size + 1, 1, none⟩ (.slice none 0 0)) := ⟨_, rfl⟩
              rw [← hW6]
              have hb9 : Blk W6 (w.heap.size + 1) 30 #[.int .i64 0, .slice none 0 0] := by rw [hW6]; exact (HR5.out.set_ 0 _).set_ 1 _
              have hbA : Below w.heap.size w W6 := by rw [hW6]; exact hb7.trans (below_two (by omega) _ _)
              obtain ⟨z0, z1, z2, z3, z4⟩ := box_facts hb9
              refine bodyPost_ret (v := .tuple #[.agg #[.int .i64 0, .slice none 0 0], .bool false]) (by simp [results, Try.results25, go_sem, z0, z1]) rfl ⟨none, 0, by rw [E1.out, E2.out, HK.out]; rfl, by rw [E2.out]; exact own_nil _ _ _, (fun _ _ h => by cases h), hbA⟩
            | true =>
              rw [hg2] at HK
              have E0 := drop_yes HK.out
              have E1 := Lib.hid E0.1
              have E2 := Lib.hid E0.2
              clear E0 hg2
              go_wp2
              obtain ⟨W6, hW6⟩ : ∃ W6 : World, W6 = ((w5.setCell ⟨w.heap.size + 1, 0, none⟩ (.int .i64 N)).setCell ⟨w.heap.size + 1, 1, none⟩ (.slice A2 (es.eraseIdx i).length c2)) := ⟨_, rfl⟩
              rw [← hW6]
              have hb9 : Blk W6 (w.heap.size + 1) 30 #[.int .i64 N, .slice A2 (es.eraseIdx i).length c2] := by rw [hW6]; exact (HR5.out.set_ 0 _).set_ 1 _
              have hbA : Below w.heap.size w W6 := by rw [hW6]; exact hb7.trans (below_two (by omega) _ _)
              have hsz6 : wr.heap.size ≤ W6.heap.size := by rw [hW6]; exact Nat.le_trans hsz5 (by simp [World.setCell])
              have hoA : OwnE W6 (w1.heap.size + 1) A2 (es.eraseIdx i) := by rw [hW6]; exact ownE_far HO5.out (by omega) _ _
              obtain ⟨z0, z1, z2, z3, z4⟩ := box_facts hb9
              refine bodyPost_ret (v := .tuple #[.agg #[.int .i64 N, .slice A2 (es.eraseIdx i).length c2], .bool true]) (by simp [results, Try.results25, go_sem, z0, z1]) rfl ⟨A2, c2, by rw [E1.out, E2.out, HK.out]; rfl, by rw [E2.out]; exact hoA.mono (by omega), (fun g off e => ⟨by have := (HRG.out g off e).1; omega, by have := (HRG.out g off e).2; have := hsz6; omega⟩), hbA⟩
      · skip
        have HK := Lib.hid (show dropK N es k = false by unfold dropK; rw [decide_eq_false hz1]; simp)
        have E0 := drop_no HK.out
        have E1 := Lib.hid E0.1
        have E2 := Lib.hid E0.2
        clear E0
        have hwr : IntKind.i64.wrap ((es.length : Int) - 1) = (es.length : Int) - 1 := by rw [IntKind.wrap_i64]; omega
        have hz2 : (es.length : Int) ≤ k := by omega
        clear hz1 hg
        go_enter Try.func25, Try.ntmps25
        go_wp2_with fail
        rw [← HWA.out]
        refine HG.out.mono ?_
        rintro e w1 ⟨rfl, hb⟩
        have HB1 := Lib.hid (hk1.below hb (by omega))
        have HB2 := Lib.hid (hk2.below hb (by omega))
        have hb1 := hba.trans (hb.mono hba.size)
        obtain ⟨hc0, hc1, hf0, hf1, hl1⟩ := box_facts HB1.out
        obtain ⟨hd0, hd1, hg0, hg1, hl2⟩ := box_facts HB2.out
        clear hb hk1 hk2 HG
        have HIN := Lib.hid (show Calls Try.prog 50 #[.int .i64 k, .int .i64 0, .int .i64 ((es.length : Int) - 1)] w1 fun e w' => e = .returned (.bool false) ∧ w1 = w' by
          have h := l01In_any k 0 ((es.length : Int) - 1) w1
          rwa [inB_f (a := k) (lo := 0) (hi := (es.length : Int) - 1) (by omega)] at h)
        go_wp2_with fail
        refine HIN.out.mono ?_
        rintro e w2 ⟨rfl, rfl⟩
        clear HIN
        go_wp2
        obtain ⟨W6, hW6⟩ : ∃ W6 : World, W6 = ((w1.setCell ⟨w.heap.size + 1, 0, none⟩ (.int .i64 0)).setCell ⟨w.heap.size + 1, 1, none⟩ (.slice none 0 0)) := ⟨_, rfl⟩
        rw [← hW6]
        have hb9 : Blk W6 (w.heap.size + 1) 30 #[.int .i64 0, .slice none 0 0] := by rw [hW6]; exact (HB2.out.set_ 0 _).set_ 1 _
        have hbA : Below w.heap.size w W6 := by rw [hW6]; exact hb1.trans (below_two (by omega) _ _)
        obtain ⟨z0, z1, z2, z3, z4⟩ := box_facts hb9
        refine bodyPost_ret (v := .tuple #[.agg #[.int .i64 0, .slice none 0 0], .bool false]) (by simp [results, Try.results25, go_sem, z0, z1]) rfl ⟨none, 0, by rw [E1.out, E2.out, HK.out]; rfl, by rw [E2.out]; exact own_nil _ _ _, (fun _ _ h => by cases h), hbA⟩
    · skip
      have HK := Lib.hid (show dropK N es k = false by unfold dropK; rw [decide_eq_false hz0]; simp)
      have E0 := drop_no HK.out
      have E1 := Lib.hid E0.1
      have E2 := Lib.hid E0.2
      clear E0
      have hwr : IntKind.i64.wrap ((es.length : Int) - 1) = (es.length : Int) - 1 := by rw [IntKind.wrap_i64]; omega
      have hz2 : k < 0 := by omega
      clear hz0 hg
      go_enter Try.func25, Try.ntmps25
      go_wp2_with fail
      rw [← HWA.out]
      refine HG.out.mono ?_
      rintro e w1 ⟨rfl, hb⟩
      have HB1 := Lib.hid (hk1.below hb (by omega))
      have HB2 := Lib.hid (hk2.below hb (by omega))
      have hb1 := hba.trans (hb.mono hba.size)
      obtain ⟨hc0, hc1, hf0, hf1, hl1⟩ := box_facts HB1.out
      obtain ⟨hd0, hd1, hg0, hg1, hl2⟩ := box_facts HB2.out
      clear hb hk1 hk2 HG
      have HIN := Lib.hid (show Calls Try.prog 50 #[.int .i64 k, .int .i64 0, .int .i64 ((es.length : Int) - 1)] w1 fun e w' => e = .returned (.bool false) ∧ w1 = w' by
        have h := l01In_any k 0 ((es.length : Int) - 1) w1
        rwa [inB_f (a := k) (lo := 0) (hi := (es.length : Int) - 1) (by omega)] at h)
      go_wp2_with fail
      refine HIN.out.mono ?_
      rintro e w2 ⟨rfl, rfl⟩
      clear HIN
      go_wp2
      obtain ⟨W6, hW6⟩ : ∃ W6 : World, W6 = ((w1.setCell ⟨w.heap.size + 1, 0, none⟩ (.int .i64 0)).setCell ⟨w.heap.size + 1, 1, none⟩ (.slice none 0 0)) := ⟨_, rfl⟩
      rw [← hW6]
      have hb9 : Blk W6 (w.heap.size + 1) 30 #[.int .i64 0, .slice none 0 0] := by rw [hW6]; exact (HB2.out.set_ 0 _).set_ 1 _
      have hbA : Below w.heap.size w W6 := by rw [hW6]; exact hb1.trans (below_two (by omega) _ _)
      obtain ⟨z0, z1, z2, z3, z4⟩ := box_facts hb9
      refine bodyPost_ret (v := .tuple #[.agg #[.int .i64 0, .slice none 0 0], .bool false]) (by simp [results, Try.results25, go_sem, z0, z1]) rfl ⟨none, 0, by rw [E1.out, E2.out, HK.out]; rfl, by rw [E2.out]; exact own_nil _ _ _, (fun _ _ h => by cases h), hbA⟩
  · skip
    have hg0 : graphB N es = false := by simpa using hg
    rw [hg0] at HG
    have HK := Lib.hid (show dropK N es k = false by unfold dropK; rw [hg0]; simp)
    have E0 := drop_no HK.out
    have E1 := Lib.hid E0.1
    have E2 := Lib.hid E0.2
    clear E0
    have hwr : IntKind.i64.wrap ((es.length : Int) - 1) = (es.length : Int) - 1 := by rw [IntKind.wrap_i64]; omega
    clear hg0 hg
    go_enter Try.func25, Try.ntmps25
    go_wp2_with fail
    rw [← HWA.out]
    refine HG.out.mono ?_
    rintro e w1 ⟨rfl, hb⟩
    have HB1 := Lib.hid (hk1.below hb (by omega))
    have HB2 := Lib.hid (hk2.below hb (by omega))
    have hb1 := hba.trans (hb.mono hba.size)
    obtain ⟨hc0, hc1, hf0, hf1, hl1⟩ := box_facts HB1.out
    obtain ⟨hd0, hd1, hg0, hg1, hl2⟩ := box_facts HB2.out
    clear hb hk1 hk2 HG
    go_wp2_with fail
    obtain ⟨W6, hW6⟩ : ∃ W6 : World, W6 = ((w1.setCell ⟨w.heap.size + 1, 0, none⟩ (.int .i64 0)).setCell ⟨w.heap.size + 1, 1, none⟩ (.slice none 0 0)) := ⟨_, rfl⟩
    rw [← hW6]
    have hb9 : Blk W6 (w.heap.size + 1) 30 #[.int .i64 0, .slice none 0 0] := by rw [hW6]; exact (HB2.out.set_ 0 _).set_ 1 _
    have hbA : Below w.heap.size w W6 := by rw [hW6]; exact hb1.trans (below_two (by omega) _ _)
    obtain ⟨z0, z1, z2, z3, z4⟩ := box_facts hb9
    refine bodyPost_ret (v := .tuple #[.agg #[.int .i64 0, .slice none 0 0], .bool false]) (by simp [results, Try.results25, go_sem, z0, z1]) rfl ⟨none, 0, by rw [E1.out, E2.out, HK.out]; rfl, by rw [E2.out]; exact own_nil _ _ _, (fun _ _ h => by cases h), hbA⟩
theorem drop_len {N k : Int} {es : List (Int × Int)} (h : es.length ≤ 1048576) : (dropL N es k).length ≤ 1048576 := by
  unfold dropL
  split
  · have := List.length_eraseIdx_le es k.toNat
    omega
  · simp
end Go.Proofs.Ytbmihbbpdmpmpaa
