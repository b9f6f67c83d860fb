/- AddEdge: the plain function; the specification's side. -/
import Derived.Test.YtbojbifpaecbcaaGEdge
import Derived.Test.YtbojbifpaecbcaaBB
import Derived.Test.YtbojbifpaecbcaaBF
namespace Go.Proofs.Ytbojbifpaecbcaa
open Go.RowKit

noncomputable def addK (N : Int) (es : List (Int × Int)) (a b : Int) : Bool := graphB N es && (vB a N && (vB b N && (!decide (a = b) && !decide (es.length = 12))))
/-- the edge between a and b -/
def edgeOf (a b : Int) : Int × Int := (min a b, max a b)
/-- the place of an edge: ahead of the first that lies behind it -/
def placeE (es : List (Int × Int)) (e : Int × Int) : Nat := es.findIdx fun x => ltE e x
def insE (es : List (Int × Int)) (e : Int × Int) : List (Int × Int) := es.take (placeE es e) ++ e :: es.drop (placeE es e)
noncomputable def addN (N : Int) (es : List (Int × Int)) (a b : Int) : Int := if addK N es a b = true then N else 0
noncomputable def addL (N : Int) (es : List (Int × Int)) (a b : Int) : List (Int × Int) := if addK N es a b = true then insE es (edgeOf a b) else []
theorem add_no {N : Int} {es : List (Int × Int)} {a b : Int} (h : addK N es a b = false) : addN N es a b = 0 ∧ addL N es a b = [] := by
  unfold addN addL
  rw [h]
  exact ⟨rfl, rfl⟩
theorem add_yes {N : Int} {es : List (Int × Int)} {a b : Int} (h : addK N es a b = true) : addN N es a b = N ∧ addL N es a b = insE es (edgeOf a b) := by
  unfold addN addL
  rw [if_pos h, if_pos h]
  exact ⟨rfl, rfl⟩
theorem placeE_le (es : List (Int × Int)) (e : Int × Int) : placeE es e ≤ es.length := List.findIdx_le_length
theorem insE_len (es : List (Int × Int)) (e : Int × Int) : (insE es e).length = es.length + 1 := by
  unfold insE
  have := placeE_le es e
  simp
  omega
theorem add_len {N a b : Int} {es : List (Int × Int)} (h : es.length ≤ 1048000) : (addL N es a b).length ≤ 1048576 := by
  cases hk : addK N es a b with
  | false => rw [(add_no hk).2]; simp
  | true => rw [(add_yes hk).2, insE_len]; omega
/-- what has been gathered after k edges -/
def gathE (es : List (Int × Int)) (e : Int × Int) (k : Nat) : List (Int × Int) := if k ≤ placeE es e then es.take k else es.take (placeE es e) ++ e :: (es.take k).drop (placeE es e)
theorem gathE_zero (es : List (Int × Int)) (e : Int × Int) : gathE es e 0 = [] := by rw [gathE, if_pos (Nat.zero_le _)]; rfl
theorem gathE_len (es : List (Int × Int)) (e : Int × Int) (k : Nat) (hk : k ≤ es.length) : (gathE es e k).length ≤ es.length + 1 := by
  unfold gathE
  split
  · simp; omega
  · have := placeE_le es e
    simp
    omega
theorem place_before {es : List (Int × Int)} {e x : Int × Int} {k : Nat} (hx : es[k]? = some x) (h : k < placeE es e) : ltE e x = false := by
  have hk := (List.getElem?_eq_some_iff.1 hx).1
  have h1 := List.not_of_lt_findIdx h
  rw [List.getElem?_eq_getElem hk] at hx
  injection hx with hx
  rw [hx] at h1
  simpa using h1
theorem place_at {es : List (Int × Int)} {e x : Int × Int} (hx : es[placeE es e]? = some x) : ltE e x = true := by
  have hk := (List.getElem?_eq_some_iff.1 hx).1
  have h1 := List.findIdx_getElem (w := hk)
  rw [List.getElem?_eq_getElem hk] at hx
  injection hx with hx
  unfold placeE at hx
  rw [hx] at h1
  exact h1
theorem gathE_before {es : List (Int × Int)} {e x : Int × Int} {k : Nat} (hx : es[k]? = some x) (h : k < placeE es e) : gathE es e (k + 1) = gathE es e k ++ [x] := by
  rw [gathE, if_pos (by omega), gathE, if_pos (by omega), List.take_add_one, hx]
  rfl
theorem gathE_at {es : List (Int × Int)} {e x : Int × Int} (hx : es[placeE es e]? = some x) : gathE es e (placeE es e + 1) = gathE es e (placeE es e) ++ [e] ++ [x] := by
  have hk := (List.getElem?_eq_some_iff.1 hx).1
  rw [gathE, if_neg (by omega), gathE, if_pos (Nat.le_refl _), List.take_add_one, hx, List.drop_append_of_le_length (by simp; omega)]
  simp
theorem gathE_after {es : List (Int × Int)} {e x : Int × Int} {k : Nat} (hx : es[k]? = some x) (h : placeE es e < k) : gathE es e (k + 1) = gathE es e k ++ [x] := by
  have hk := (List.getElem?_eq_some_iff.1 hx).1
  rw [gathE, if_neg (by omega), gathE, if_neg (by omega), List.take_add_one, hx, List.drop_append_of_le_length (by simp; omega)]
  simp
theorem gathE_end1 {es : List (Int × Int)} {e : Int × Int} (h : placeE es e < es.length) : gathE es e es.length = insE es e := by
  rw [gathE, if_neg (by omega), insE, List.take_of_length_le (Nat.le_refl es.length)]
theorem gathE_end2 {es : List (Int × Int)} {e : Int × Int} (h : placeE es e = es.length) : gathE es e es.length ++ [e] = insE es e := by
  rw [gathE, if_pos (by omega), insE, h]
  simp

theorem ownE_far1 {w : World} {b X : Nat} {A : Option Addr} {es : List (Int × Int)} (h : OwnE w b A es) (hx : X < b) (o : Nat) (u : Value) : OwnE (w.setCell ⟨X, o, none⟩ u) b A es := fun hn => by
  obtain ⟨g, off, rfl, h1, hg, hc⟩ := h hn
  have hbl : (w.setCell ⟨X, o, none⟩ u).heap[g]? = w.heap[g]? := Below.heap_setCell _ _ _ _ (by show g ≠ X; omega)
  have hcl : ∀ o' : Nat, (w.setCell ⟨X, o, none⟩ u).cell? ⟨g, o', none⟩ = w.cell? ⟨g, o', none⟩ := fun o' => World.cell?_of_block (a := ⟨g, o', none⟩) hbl
  have hfr : ∀ o' : Nat, (w.setCell ⟨X, o, none⟩ u).frozen? ⟨g, o', none⟩ = w.frozen? ⟨g, o', none⟩ := fun o' => World.frozen?_of_block (a := ⟨g, o', none⟩) hbl
  refine ⟨g, off, rfl, h1, by simpa [World.setCell] using hg, fun i z hz => ?_⟩
  rw [hcl, hcl, hfr, hfr]
  exact hc i z hz
set_option maxRecDepth 100000 in
set_option maxHeartbeats 8000000 in
theorem specAdd (N : Int) (A : Option Addr) (c : Nat) (es : List (Int × Int)) (a b : Int) (w : World) (hn : es.length ≤ 1048576) (hE : EdgeS w w.heap.size A es) :
    Calls Try.prog 37 #[.agg #[.int .i64 N, .slice A es.length c], .int .i64 a, .int .i64 b] w (GivesG w (addN N es a b) (addL N es a b) (addK N es a b)) := by
  have HE := Lib.hid hE
  obtain ⟨wa, hwa⟩ : ∃ wa, wa = ((w.alloc (Obj.cells #[.int .i64 N, .slice A es.length c] 25)).alloc (Obj.cells #[.int .i64 0, .slice none 0 0] 25)) := ⟨_, rfl⟩
  have hba : Below w.heap.size w wa := by rw [hwa]; exact ((Below.refl _ w).alloc (Nat.le_refl _) _).alloc (by simp) _
  have hk1 : Blk wa w.heap.size 25 #[.int .i64 N, .slice A es.length c] := by rw [hwa]; exact (Blk.new w _ _).alloc _
  have hk2 : Blk wa (w.heap.size + 1) 25 #[.int .i64 0, .slice none 0 0] := by
    rw [hwa]
    have h := Blk.new (w.alloc (Obj.cells #[.int .i64 N, .slice A es.length c] 25)) 25 #[.int .i64 0, .slice none 0 0]
    rw [World.size_alloc] at h
    exact h
  have hsa : wa.heap.size = w.heap.size + 2 := by rw [hwa]; simp
  have HWA := Lib.hid hwa
  have HG := Lib.hid (specGraphOk N A c es wa (by omega) ((hE.below hba).keep (fun _ _ => rfl) hba.size))
  clear hwa
  cases hg : graphB N es with
  | false =>
    rw [hg] at HG
    have HK := Lib.hid (show addK N es a b = false by simp [addK, hg])
    have E0 := add_no HK.out
    have E1 := Lib.hid E0.1
    have E2 := Lib.hid E0.2
    clear E0
    clear hg
    go_enter Try.func37, Try.ntmps37
    go_wp2_with fail
    rw [← HWA.out]
    refine HG.out.mono ?_
    rintro e w1 ⟨rfl, hb⟩
    have HB1 := Lib.hid (hk1.below hb (by omega))
    have HB2 := Lib.hid (hk2.below hb (by omega))
    have hb1 := hba.trans (hb.mono hba.size)
    obtain ⟨hc0, hc1, hf0, hf1, hl1⟩ := box_facts HB1.out
    obtain ⟨hd0, hd1, hg0, hg1, hl2⟩ := box_facts HB2.out
    clear hb hk1 hk2 HG
    go_wp2
    obtain ⟨W6, hW6⟩ : ∃ W6 : World, W6 = ((w1.setCell ⟨w.heap.size + 1, 0, none⟩ (.int .i64 0)).setCell ⟨w.heap.size + 1, 1, none⟩ (.slice none 0 0)) := ⟨_, rfl⟩
    rw [← hW6]
    have hb9 : Blk W6 (w.heap.size + 1) 25 #[.int .i64 0, .slice none 0 0] := by rw [hW6]; exact (HB2.out.set_ 0 _).set_ 1 _
    have hbA : Below w.heap.size w W6 := by rw [hW6]; exact hb1.trans (below_two (by omega) _ _)
    obtain ⟨z0, z1, z2, z3, z4⟩ := box_facts hb9
    refine bodyPost_ret (v := .tuple #[.agg #[.int .i64 0, .slice none 0 0], .bool false]) (by simp [results, Try.results37, go_sem, z0, z1]) rfl ⟨none, 0, by rw [E1.out, E2.out, HK.out]; rfl, by rw [E2.out]; exact own_nil _ _ _, (fun _ _ h => by cases h), hbA⟩
  | true =>
    rw [hg] at HG
    have hlims : 1 ≤ N ∧ N ≤ 6 ∧ es.length ≤ 12 := by
      simp only [graphB, Bool.and_eq_true] at hg
      exact edgesB_lims hg.1.1
    obtain ⟨hN1, hN6, hn12⟩ := hlims
    have HIA := fun w => Lib.hid (l01In_any a 0 (N - 1) w)
    have HIB := fun w => Lib.hid (l01In_any b 0 (N - 1) w)
    simp only [inB_vB] at HIA HIB
    cases ha : vB a N with
    | false =>
      rw [ha] at HIA
      have HK := Lib.hid (show addK N es a b = false by simp [addK, ha])
      have E0 := add_no HK.out
      have E1 := Lib.hid E0.1
      have E2 := Lib.hid E0.2
      clear E0
      clear ha hg
      go_enter Try.func37, Try.ntmps37
      go_wp2_with fail
      rw [← HWA.out]
      refine HG.out.mono ?_
      rintro e w1 ⟨rfl, hb⟩
      have HB1 := Lib.hid (hk1.below hb (by omega))
      have HB2 := Lib.hid (hk2.below hb (by omega))
      have hb1 := hba.trans (hb.mono hba.size)
      obtain ⟨hc0, hc1, hf0, hf1, hl1⟩ := box_facts HB1.out
      obtain ⟨hd0, hd1, hg0, hg1, hl2⟩ := box_facts HB2.out
      clear hb hk1 hk2 HG
      go_wp2_with fail
      refine (HIA w1).out.mono ?_
      rintro e w2 ⟨rfl, rfl⟩
      go_wp2
      obtain ⟨W6, hW6⟩ : ∃ W6 : World, W6 = ((w1.setCell ⟨w.heap.size + 1, 0, none⟩ (.int .i64 0)).setCell ⟨w.heap.size + 1, 1, none⟩ (.slice none 0 0)) := ⟨_, rfl⟩
      rw [← hW6]
      have hb9 : Blk W6 (w.heap.size + 1) 25 #[.int .i64 0, .slice none 0 0] := by rw [hW6]; exact (HB2.out.set_ 0 _).set_ 1 _
      have hbA : Below w.heap.size w W6 := by rw [hW6]; exact hb1.trans (below_two (by omega) _ _)
      obtain ⟨z0, z1, z2, z3, z4⟩ := box_facts hb9
      refine bodyPost_ret (v := .tuple #[.agg #[.int .i64 0, .slice none 0 0], .bool false]) (by simp [results, Try.results37, go_sem, z0, z1]) rfl ⟨none, 0, by rw [E1.out, E2.out, HK.out]; rfl, by rw [E2.out]; exact own_nil _ _ _, (fun _ _ h => by cases h), hbA⟩
    | true =>
      rw [ha] at HIA
      cases hb' : vB b N with
      | false =>
        rw [hb'] at HIB
        have HK := Lib.hid (show addK N es a b = false by simp [addK, hb'])
        have E0 := add_no HK.out
        have E1 := Lib.hid E0.1
        have E2 := Lib.hid E0.2
        clear E0
        clear ha hg hb'
        go_enter Try.func37, Try.ntmps37
        go_wp2_with fail
        rw [← HWA.out]
        refine HG.out.mono ?_
        rintro e w1 ⟨rfl, hb⟩
        have HB1 := Lib.hid (hk1.below hb (by omega))
        have HB2 := Lib.hid (hk2.below hb (by omega))
        have hb1 := hba.trans (hb.mono hba.size)
        obtain ⟨hc0, hc1, hf0, hf1, hl1⟩ := box_facts HB1.out
        obtain ⟨hd0, hd1, hg0, hg1, hl2⟩ := box_facts HB2.out
        clear hb hk1 hk2 HG
        go_wp2_with fail
        refine (HIA w1).out.mono ?_
        rintro e w2 ⟨rfl, rfl⟩
        go_wp2_with fail
        refine (HIB w1).out.mono ?_
        rintro e w2 ⟨rfl, rfl⟩
        go_wp2
        obtain ⟨W6, hW6⟩ : ∃ W6 : World, W6 = ((w1.setCell ⟨w.heap.size + 1, 0, none⟩ (.int .i64 0)).setCell ⟨w.heap.size + 1, 1, none⟩ (.slice none 0 0)) := ⟨_, rfl⟩
        rw [← hW6]
        have hb9 : Blk W6 (w.heap.size + 1) 25 #[.int .i64 0, .slice none 0 0] := by rw [hW6]; exact (HB2.out.set_ 0 _).set_ 1 _
        have hbA : Below w.heap.size w W6 := by rw [hW6]; exact hb1.trans (below_two (by omega) _ _)
        obtain ⟨z0, z1, z2, z3, z4⟩ := box_facts hb9
        refine bodyPost_ret (v := .tuple #[.agg #[.int .i64 0, .slice none 0 0], .bool false]) (by simp [results, Try.results37, go_sem, z0, z1]) rfl ⟨none, 0, by rw [E1.out, E2.out, HK.out]; rfl, by rw [E2.out]; exact own_nil _ _ _, (fun _ _ h => by cases h), hbA⟩
      | true =>
        rw [hb'] at HIB
        by_cases hab : a = b
        · have t0 : (a == b) = true := by simp [hab]
          have HK := Lib.hid (show addK N es a b = false by simp [addK, hab])
          have E0 := add_no HK.out
          have E1 := Lib.hid E0.1
          have E2 := Lib.hid E0.2
          clear E0
          clear ha hg hb' hab
          go_enter Try.func37, Try.ntmps37
          go_wp2_with fail
          rw [← HWA.out]
          refine HG.out.mono ?_
          rintro e w1 ⟨rfl, hb⟩
          have HB1 := Lib.hid (hk1.below hb (by omega))
          have HB2 := Lib.hid (hk2.below hb (by omega))
          have hb1 := hba.trans (hb.mono hba.size)
          obtain ⟨hc0, hc1, hf0, hf1, hl1⟩ := box_facts HB1.out
          obtain ⟨hd0, hd1, hg0, hg1, hl2⟩ := box_facts HB2.out
          clear hb hk1 hk2 HG
          go_wp2_with fail
          refine (HIA w1).out.mono ?_
          rintro e w2 ⟨rfl, rfl⟩
          go_wp2_with fail
          refine (HIB w1).out.mono ?_
          rintro e w2 ⟨rfl, rfl⟩
          go_wp2
          obtain ⟨W6, hW6⟩ : ∃ W6 : World, W6 = ((w1.setCell ⟨w.heap.size + 1, 0, none⟩ (.int .i64 0)).setCell ⟨w.heap.size + 1, 1, none⟩ (.slice none 0 0)) := ⟨_, rfl⟩
          rw [← hW6]
          have hb9 : Blk W6 (w.heap.size + 1) 25 #[.int .i64 0, .slice none 0 0] := by rw [hW6]; exact (HB2.out.set_ 0 _).set_ 1 _
          have hbA : Below w.heap.size w W6 := by rw [hW6]; exact hb1.trans (below_two (by omega) _ _)
          obtain ⟨z0, z1, z2, z3, z4⟩ := box_facts hb9
          refine bodyPost_ret (v := .tuple #[.agg #[.int .i64 0, .slice none 0 0], .bool false]) (by simp [results, Try.results37, go_sem, z0, z1]) rfl ⟨none, 0, by rw [E1.out, E2.out, HK.out]; rfl, by rw [E2.out]; exact own_nil _ _ _, (fun _ _ h => by cases h), hbA⟩
        · have t0 : (a == b) = false := by simp [hab]
          by_cases hfull : es.length = 12
          · have t9 : ((es.length : Int) == 12) = true := by simp; omega
            have HK := Lib.hid (show addK N es a b = false by simp [addK, hfull])
            have E0 := add_no HK.out
            have E1 := Lib.hid E0.1
            have E2 := Lib.hid E0.2
            clear E0
            clear ha hg hb' hab hfull
            go_enter Try.func37, Try.ntmps37
            go_wp2_with fail
            rw [← HWA.out]
            refine HG.out.mono ?_
            rintro e w1 ⟨rfl, hb⟩
            have HB1 := Lib.hid (hk1.below hb (by omega))
            have HB2 := Lib.hid (hk2.below hb (by omega))
            have hb1 := hba.trans (hb.mono hba.size)
            obtain ⟨hc0, hc1, hf0, hf1, hl1⟩ := box_facts HB1.out
            obtain ⟨hd0, hd1, hg0, hg1, hl2⟩ := box_facts HB2.out
            clear hb hk1 hk2 HG
            go_wp2_with fail
            refine (HIA w1).out.mono ?_
            rintro e w2 ⟨rfl, rfl⟩
            go_wp2_with fail
            refine (HIB w1).out.mono ?_
            rintro e w2 ⟨rfl, rfl⟩
            go_wp2
            obtain ⟨W6, hW6⟩ : ∃ W6 : World, W6 = ((w1.setCell ⟨w.heap.size + 1, 0, none⟩ (.int .i64 0)).setCell ⟨w.heap.size + 1, 1, none⟩ (.slice none 0 0)) := ⟨_, rfl⟩
            rw [← hW6]
            have hb9 : Blk W6 (w.heap.size + 1) 25 #[.int .i64 0, .slice none 0 0] := by rw [hW6]; exact (HB2.out.set_ 0 _).set_ 1 _
            have hbA : Below w.heap.size w W6 := by rw [hW6]; exact hb1.trans (below_two (by omega) _ _)
            obtain ⟨z0, z1, z2, z3, z4⟩ := box_facts hb9
            refine bodyPost_ret (v := .tuple #[.agg #[.int .i64 0, .slice none 0 0], .bool false]) (by simp [results, Try.results37, go_sem, z0, z1]) rfl ⟨none, 0, by rw [E1.out, E2.out, HK.out]; rfl, by rw [E2.out]; exact own_nil _ _ _, (fun _ _ h => by cases h), hbA⟩
          · have t9 : ((es.length : Int) == 12) = false := by simp; omega
            have HK := Lib.hid (show addK N es a b = true by simp [addK, hg, ha, hb', hab, hfull])
            have E0 := add_yes HK.out
            have E1 := Lib.hid E0.1
            have E2 := Lib.hid (show addL N es a b = insE es (min a b, max a b) from E0.2)
            have hal := vB_iff ha
            have hbl := vB_iff hb'
            obtain ⟨i0, hI, hzz0, hzz1, hzz2⟩ := info_parts edgeInfo
            have hm1 : 0 ≤ min a b ∧ min a b ≤ 6 := by omega
            have hm2 : 0 ≤ max a b ∧ max a b ≤ 6 := by omega
            clear E0 ha hg hb' hab hfull
            obtain ⟨e1, hmn⟩ : ∃ e1, min a b = e1 := ⟨_, rfl⟩
            obtain ⟨e2, hmx⟩ : ∃ e2, max a b = e2 := ⟨_, rfl⟩
            rw [hmn, hmx] at E2
            rw [hmn] at hm1
            rw [hmx] at hm2
            go_enter Try.func37, Try.ntmps37
            go_wp2_with fail
            rw [← HWA.out]
            refine HG.out.mono ?_
            rintro e w1 ⟨rfl, hb⟩
            have HB1 := Lib.hid (hk1.below hb (by omega))
            have HB2 := Lib.hid (hk2.below hb (by omega))
            have hb1 := hba.trans (hb.mono hba.size)
            obtain ⟨hc0, hc1, hf0, hf1, hl1⟩ := box_facts HB1.out
            obtain ⟨hd0, hd1, hg0, hg1, hl2⟩ := box_facts HB2.out
            clear hb hk1 hk2 HG
            go_wp2_with fail
            refine (HIA w1).out.mono ?_
            rintro e w2 ⟨rfl, rfl⟩
            go_wp2_with fail
            refine (HIB w1).out.mono ?_
            rintro e w2 ⟨rfl, rfl⟩
            have hmin : (0 : Int) = 0 := rfl
            clear hmin
            go_wp2
            clear hmn hmx
            obtain ⟨W3, hW3⟩ : ∃ W3 : World, W3 = (w1.alloc (Obj.cells #[.int .i64 e1, .int .i64 e2] 36)).alloc (Obj.cells #[.int .i64 N, .slice none 0 0] 25) := ⟨_, rfl⟩
            have hEB : Blk W3 w1.heap.size 36 #[.int .i64 e1, .int .i64 e2] := by rw [hW3]; exact (Blk.new w1 _ _).alloc _
            have hOB : Blk W3 (w1.heap.size + 1) 25 #[.int .i64 N, .slice none 0 0] := by
              have h := Blk.new (w1.alloc (Obj.cells #[.int .i64 e1, .int .i64 e2] 36)) 25 #[.int .i64 N, .slice none 0 0]
              rw [World.size_alloc, ← hW3] at h
              exact h
            have hb3 : Below w1.heap.size w1 W3 := by rw [hW3]; exact ((Below.refl _ _).alloc (Nat.le_refl _) _).alloc (by simp) _
            have HW3 := Lib.hid hW3
            clear hW3
            go_loopw [57, 10] (fun cnt dn wr => ∃ (j : Nat) (v : Value), j ≤ es.length ∧ cnt = .int .i64 j ∧ dn = .bool (decide (placeE es (e1, e2) < j)) ∧ Blk wr w1.heap.size 36 #[.int .i64 e1, .int .i64 e2] ∧ Blk wr (w1.heap.size + 1) 25 #[.int .i64 N, v] ∧ wr.ownsRow (w1.heap.size + 2) 36 2 v (gathE es (e1, e2) j).length (flat (gathE es (e1, e2) j)) ∧ Below w1.heap.size w1 wr) (fun cnt _ _ => es.length - (intOf cnt).toNat)
            case atStart =>
              rw [← HW3.out]
              exact ⟨0, _, Nat.zero_le _, rfl, by simp, hEB, hOB, ⟨by rw [gathE_zero]; rfl, .inl ⟨rfl, by rw [gathE_zero]; rfl⟩⟩, hb3⟩
            case round =>
              clear hEB hOB hb3 HW3
              obtain ⟨j, v, hj, rfl, rfl, heb, hob, hown, hbw⟩ := hrel
              have HEB := Lib.hid heb
              have HBX := Lib.hid hob
              have HO := Lib.hid hown
              have HBW := Lib.hid hbw
              have hsz := hbw.size
              have hgl := gathE_len es (e1, e2) j hj
              have hxl := hob.lt
              obtain ⟨x0, x1, x2, x3, x4⟩ := box_facts hob
              have y0 : wr.cell? ⟨w1.heap.size, 0, none⟩ = some (.int .i64 e1) := by rw [heb.cell]; rfl
              have y1 : wr.cell? ⟨w1.heap.size, 1, none⟩ = some (.int .i64 e2) := by rw [heb.cell]; rfl
              have y4 : w1.heap.size < wr.heap.size := heb.lt
              clear heb hob hown hbw
              by_cases hlt : j < es.length
              · have hj0 : (0 : Int) ≤ (j : Int) := Int.natCast_nonneg _
                have hj1 : (j : Int) < (es.length : Int) := by omega
                obtain ⟨b1, o1, x, rfl, hbb, he, he0, he1⟩ := (HE.out.below (hb1.trans (HBW.out.mono hb1.size))).at_ hlt
                have HX := Lib.hid he
                obtain ⟨p1, p2⟩ := x
                simp only at he0 he1
                have HXA := Lib.hid (Blk.new wr 36 #[.int .i64 p1, .int .i64 p2])
                clear he
                rcases Nat.lt_trichotomy j (placeE es (e1, e2)) with hjp | hjp | hjp
                · have hng := place_before (e := (e1, e2)) HX.out hjp
                  simp only [ltE, Bool.or_eq_false_iff, Bool.and_eq_false_iff, decide_eq_false_iff_not] at hng
                  by_cases heq : p1 = e1
                  · have t1 : decide (e1 < p1) = false := decide_eq_false (by omega)
                    have t2 : (p1 == e1) = true := by simp; omega
                    have t3 : decide (e2 < p2) = false := decide_eq_false (by omega)
                    clear hng heq
                    have HN := Lib.hid (gathE_before (e := (e1, e2)) HX.out hjp)
                    have HD := Lib.hid (show decide (placeE es (e1, e2) < j + 1) = false from by simp; omega)
                    have hdn : decide (placeE es (e1, e2) < j) = false := by simp; omega
                    rw [hdn]
                    obtain ⟨l, hl⟩ : ∃ l, l = gathE es (e1, e2) j := ⟨_, rfl⟩
                    rw [← hl] at HO hgl HN
                    clear hl
                    clear hdn
                    have OW := Lib.hid ((HO.out.alloc (.cells #[.int .i64 p1, .int .i64 p2] 36)).alloc (.cells #[.int .i64 p1, .int .i64 p2] 36))
                    go_wp2_with (at_builtin; refine wpList_append_own _ rfl _ _ 23 rfl (w1.heap.size + 2) 36 i0 (.agg #[.int .i64 0, .int .i64 0]) 2 16 Try.underlying23 hI hzz0 hzz1 hzz2 rfl (by decide) _ _ _ rfl OW.out ⟨_, 0, none⟩ 1 1 [.int .i64 p1, .int .i64 p2] rfl rfl ?p1 ?p2 ?p3 ?p4 ?p5 ?_)
                    case p1 => exact two_cells _ _ (by simp) _ _ _
                    case p2 =>
                      intro u hu
                      simp only [List.mem_cons, List.not_mem_nil, or_false] at hu
                      rcases hu with rfl | rfl <;> rfl
                    case p3 => unfold maxLen; omega
                    case p4 => omega
                    case p5 => first | omega | (simp; omega) | (simp [World.setCell]; omega)
                    intro v' w3 hown' hgrow _
                    have HQw3 : Hid (w3.ownsRow (w1.heap.size + 2) 36 2 v' (l ++ [(p1, p2)]).length (flat (l ++ [(p1, p2)]))) := Lib.hid (by
                      rw [flat_app]
                      have h3 := hown'
                      simpa [flat] using h3)
                    have hlt' := (OW.out).lt
                    have HEBw3 := Lib.hid (Blk.grown ((HEB.out.alloc (.cells #[.int .i64 p1, .int .i64 p2] 36)).alloc (.cells #[.int .i64 p1, .int .i64 p2] 36)) hgrow (fun h => by have := (hlt' _ h).1; omega))
                    have HBXw3 := Lib.hid (Blk.grown ((HBX.out.alloc (.cells #[.int .i64 p1, .int .i64 p2] 36)).alloc (.cells #[.int .i64 p1, .int .i64 p2] 36)) hgrow (fun h => by have := (hlt' _ h).1; omega))
                    have HBWw3 := Lib.hid (show Below w1.heap.size w1 w3 from ((HBW.out.alloc hsz (.cells #[.int .i64 p1, .int .i64 p2] 36)).alloc (by simp; omega) (.cells #[.int .i64 p1, .int .i64 p2] 36)).grown hgrow (by first | omega | (simp; omega) | (simp [World.setCell]; omega)) (fun q hq => by have := (hlt' q hq).1; omega))
                    have hszw3 := HBWw3.out.size
                    obtain ⟨A9, c9, hv9, -, -⟩ := ownE_of HQw3.out
                    rw [← HN.out] at HQw3 hv9
                    obtain ⟨n9, hn9⟩ : ∃ n9, n9 = (gathE es (e1, e2) (j + 1)).length := ⟨_, rfl⟩
                    rw [← hn9] at hv9
                    subst hv9
                    have HQ9 := Lib.hid (own_set (X := w1.heap.size + 1) (o := 1) (u := .slice A9 n9 c9) HQw3.out (by omega))
                    have HE9 := Lib.hid (HEBw3.out.far (p := ⟨w1.heap.size + 1, 1, none⟩) (by simp only; omega) (.slice A9 n9 c9))
                    have HB9 := Lib.hid (HBXw3.out.set_ 1 (.slice A9 n9 c9))
                    have HW9 := Lib.hid (Below.setCell (B := w1.heap.size) HBWw3.out (p := ⟨w1.heap.size + 1, 1, none⟩) (by simp only; omega) (.slice A9 n9 c9))
                    obtain ⟨s0, s1, s2, s3, s4⟩ := box_facts HBXw3.out
                    clear hown' hgrow hlt' hn9
                    go_wp2
                    exact ⟨⟨j + 1, .slice A9 n9 c9, by omega, by go_num, by rw [HD.out], HE9.out, HB9.out, HQ9.out, HW9.out⟩, by simp [intOf]; omega⟩
                  · have t1 : decide (e1 < p1) = false := decide_eq_false (by omega)
                    have t2 : (p1 == e1) = false := by simp; omega
                    clear hng heq
                    have HN := Lib.hid (gathE_before (e := (e1, e2)) HX.out hjp)
                    have HD := Lib.hid (show decide (placeE es (e1, e2) < j + 1) = false from by simp; omega)
                    have hdn : decide (placeE es (e1, e2) < j) = false := by simp; omega
                    rw [hdn]
                    obtain ⟨l, hl⟩ : ∃ l, l = gathE es (e1, e2) j := ⟨_, rfl⟩
                    rw [← hl] at HO hgl HN
                    clear hl
                    clear hdn
                    have OW := Lib.hid ((HO.out.alloc (.cells #[.int .i64 p1, .int .i64 p2] 36)).alloc (.cells #[.int .i64 p1, .int .i64 p2] 36))
                    go_wp2_with (at_builtin; refine wpList_append_own _ rfl _ _ 23 rfl (w1.heap.size + 2) 36 i0 (.agg #[.int .i64 0, .int .i64 0]) 2 16 Try.underlying23 hI hzz0 hzz1 hzz2 rfl (by decide) _ _ _ rfl OW.out ⟨_, 0, none⟩ 1 1 [.int .i64 p1, .int .i64 p2] rfl rfl ?p1 ?p2 ?p3 ?p4 ?p5 ?_)
                    case p1 => exact two_cells _ _ (by simp) _ _ _
                    case p2 =>
                      intro u hu
                      simp only [List.mem_cons, List.not_mem_nil, or_false] at hu
                      rcases hu with rfl | rfl <;> rfl
                    case p3 => unfold maxLen; omega
                    case p4 => omega
                    case p5 => first | omega | (simp; omega) | (simp [World.setCell]; omega)
                    intro v' w3 hown' hgrow _
                    have HQw3 : Hid (w3.ownsRow (w1.heap.size + 2) 36 2 v' (l ++ [(p1, p2)]).length (flat (l ++ [(p1, p2)]))) := Lib.hid (by
                      rw [flat_app]
                      have h3 := hown'
                      simpa [flat] using h3)
                    have hlt' := (OW.out).lt
                    have HEBw3 := Lib.hid (Blk.grown ((HEB.out.alloc (.cells #[.int .i64 p1, .int .i64 p2] 36)).alloc (.cells #[.int .i64 p1, .int .i64 p2] 36)) hgrow (fun h => by have := (hlt' _ h).1; omega))
                    have HBXw3 := Lib.hid (Blk.grown ((HBX.out.alloc (.cells #[.int .i64 p1, .int .i64 p2] 36)).alloc (.cells #[.int .i64 p1, .int .i64 p2] 36)) hgrow (fun h => by have := (hlt' _ h).1; omega))
                    have HBWw3 := Lib.hid (show Below w1.heap.size w1 w3 from ((HBW.out.alloc hsz (.cells #[.int .i64 p1, .int .i64 p2] 36)).alloc (by simp; omega) (.cells #[.int .i64 p1, .int .i64 p2] 36)).grown hgrow (by first | omega | (simp; omega) | (simp [World.setCell]; omega)) (fun q hq => by have := (hlt' q hq).1; omega))
                    have hszw3 := HBWw3.out.size
                    obtain ⟨A9, c9, hv9, -, -⟩ := ownE_of HQw3.out
                    rw [← HN.out] at HQw3 hv9
                    obtain ⟨n9, hn9⟩ : ∃ n9, n9 = (gathE es (e1, e2) (j + 1)).length := ⟨_, rfl⟩
                    rw [← hn9] at hv9
                    subst hv9
                    have HQ9 := Lib.hid (own_set (X := w1.heap.size + 1) (o := 1) (u := .slice A9 n9 c9) HQw3.out (by omega))
                    have HE9 := Lib.hid (HEBw3.out.far (p := ⟨w1.heap.size + 1, 1, none⟩) (by simp only; omega) (.slice A9 n9 c9))
                    have HB9 := Lib.hid (HBXw3.out.set_ 1 (.slice A9 n9 c9))
                    have HW9 := Lib.hid (Below.setCell (B := w1.heap.size) HBWw3.out (p := ⟨w1.heap.size + 1, 1, none⟩) (by simp only; omega) (.slice A9 n9 c9))
                    obtain ⟨s0, s1, s2, s3, s4⟩ := box_facts HBXw3.out
                    clear hown' hgrow hlt' hn9
                    go_wp2
                    exact ⟨⟨j + 1, .slice A9 n9 c9, by omega, by go_num, by rw [HD.out], HE9.out, HB9.out, HQ9.out, HW9.out⟩, by simp [intOf]; omega⟩
                · have hps := place_at (e := (e1, e2)) (hjp ▸ HX.out)
                  simp only [ltE, Bool.or_eq_true, Bool.and_eq_true, decide_eq_true_eq] at hps
                  by_cases heq : p1 = e1
                  · have t1 : decide (e1 < p1) = false := decide_eq_false (by omega)
                    have t2 : (p1 == e1) = true := by simp; omega
                    have t3 : decide (e2 < p2) = true := decide_eq_true (by omega)
                    clear hps heq
                    have HN := Lib.hid (hjp ▸ gathE_at (e := (e1, e2)) (hjp ▸ HX.out))
                    have HD := Lib.hid (show decide (placeE es (e1, e2) < j + 1) = true from by simp; omega)
                    have hdn : decide (placeE es (e1, e2) < j) = false := by simp; omega
                    rw [hdn]
                    obtain ⟨l, hl⟩ : ∃ l, l = gathE es (e1, e2) j := ⟨_, rfl⟩
                    rw [← hl] at HO hgl HN
                    clear hl
                    clear hdn hjp
                    have OW := Lib.hid ((HO.out.alloc (.cells #[.int .i64 p1, .int .i64 p2] 36)).alloc (.cells #[.int .i64 e1, .int .i64 e2] 36))
                    go_wp2_with (at_builtin; refine wpList_append_own _ rfl _ _ 23 rfl (w1.heap.size + 2) 36 i0 (.agg #[.int .i64 0, .int .i64 0]) 2 16 Try.underlying23 hI hzz0 hzz1 hzz2 rfl (by decide) _ _ _ rfl OW.out ⟨_, 0, none⟩ 1 1 [.int .i64 e1, .int .i64 e2] rfl rfl ?p1 ?p2 ?p3 ?p4 ?p5 ?_)
                    case p1 => exact two_cells _ _ (by simp) _ _ _
                    case p2 =>
                      intro u hu
                      simp only [List.mem_cons, List.not_mem_nil, or_false] at hu
                      rcases hu with rfl | rfl <;> rfl
                    case p3 => unfold maxLen; omega
                    case p4 => omega
                    case p5 => first | omega | (simp; omega) | (simp [World.setCell]; omega)
                    intro v' w3 hown' hgrow _
                    have HQw3 : Hid (w3.ownsRow (w1.heap.size + 2) 36 2 v' (l ++ [(e1, e2)]).length (flat (l ++ [(e1, e2)]))) := Lib.hid (by
                      rw [flat_app]
                      have h3 := hown'
                      simpa [flat] using h3)
                    have hlt' := (OW.out).lt
                    have HEBw3 := Lib.hid (Blk.grown ((HEB.out.alloc (.cells #[.int .i64 p1, .int .i64 p2] 36)).alloc (.cells #[.int .i64 e1, .int .i64 e2] 36)) hgrow (fun h => by have := (hlt' _ h).1; omega))
                    have HBXw3 := Lib.hid (Blk.grown ((HBX.out.alloc (.cells #[.int .i64 p1, .int .i64 p2] 36)).alloc (.cells #[.int .i64 e1, .int .i64 e2] 36)) hgrow (fun h => by have := (hlt' _ h).1; omega))
                    have HXAw3 := Lib.hid (Blk.grown (HXA.out.alloc (.cells #[.int .i64 e1, .int .i64 e2] 36)) hgrow (fun h => by have := (HO.out.lt _ h).2; omega))
                    have HBWw3 := Lib.hid (show Below w1.heap.size w1 w3 from ((HBW.out.alloc hsz (.cells #[.int .i64 p1, .int .i64 p2] 36)).alloc (by simp; omega) (.cells #[.int .i64 e1, .int .i64 e2] 36)).grown hgrow (by first | omega | (simp; omega) | (simp [World.setCell]; omega)) (fun q hq => by have := (hlt' q hq).1; omega))
                    have hszw3 := HBWw3.out.size
                    obtain ⟨A4, c4, hv4, -, -⟩ := ownE_of HQw3.out
                    obtain ⟨n4, hn4⟩ : ∃ n4, n4 = (l ++ [(e1, e2)]).length := ⟨_, rfl⟩
                    rw [← hn4] at hv4
                    have hn5 : n4 ≤ es.length + 2 := by rw [hn4]; simp; omega
                    subst hv4
                    have HQ4 := Lib.hid (own_set (X := w1.heap.size + 1) (o := 1) (u := .slice A4 n4 c4) HQw3.out (by omega))
                    have HE4 := Lib.hid (HEBw3.out.far (p := ⟨w1.heap.size + 1, 1, none⟩) (by simp only; omega) (.slice A4 n4 c4))
                    have HB4 := Lib.hid (HBXw3.out.set_ 1 (.slice A4 n4 c4))
                    have HX4 := Lib.hid (HXAw3.out.far (p := ⟨w1.heap.size + 1, 1, none⟩) (by simp only; omega) (.slice A4 n4 c4))
                    have HW4 := Lib.hid (Below.setCell (B := w1.heap.size) HBWw3.out (p := ⟨w1.heap.size + 1, 1, none⟩) (by simp only; omega) (.slice A4 n4 c4))
                    obtain ⟨s0, s1, s2, s3, s4⟩ := box_facts HBXw3.out
                    have q1 : (w3.setCell ⟨w1.heap.size + 1, 1, none⟩ (.slice A4 n4 c4)).cell? ⟨w1.heap.size + 1, 1, none⟩ = some (.slice A4 n4 c4) := by rw [HB4.out.cell]; rfl
                    have q2 : (w3.setCell ⟨w1.heap.size + 1, 1, none⟩ (.slice A4 n4 c4)).cell? ⟨wr.heap.size, 0, none⟩ = some (.int .i64 p1) := by rw [HX4.out.cell]; rfl
                    have q3 : (w3.setCell ⟨w1.heap.size + 1, 1, none⟩ (.slice A4 n4 c4)).cell? ⟨wr.heap.size, 1, none⟩ = some (.int .i64 p2) := by rw [HX4.out.cell]; rfl
                    have hs4 : (w3.setCell ⟨w1.heap.size + 1, 1, none⟩ (.slice A4 n4 c4)).heap.size = w3.heap.size := by simp [World.setCell]
                    rw [← hn4] at HQ4
                    have HNN := Lib.hid hn4
                    have OW4 := Lib.hid (HQ4.out.alloc (.cells #[.int .i64 p1, .int .i64 p2] 36))
                    clear hown' hgrow hlt' hn4
                    go_wp2_with (at_builtin; refine wpList_append_own _ rfl _ _ 23 rfl (w1.heap.size + 2) 36 i0 (.agg #[.int .i64 0, .int .i64 0]) 2 16 Try.underlying23 hI hzz0 hzz1 hzz2 rfl (by decide) _ _ _ rfl OW4.out ⟨_, 0, none⟩ 1 1 [.int .i64 p1, .int .i64 p2] rfl rfl ?p1 ?p2 ?p3 ?p4 ?p5 ?_)
                    case p1 => exact two_cells _ _ (by simp) _ _ _
                    case p2 =>
                      intro u hu
                      simp only [List.mem_cons, List.not_mem_nil, or_false] at hu
                      rcases hu with rfl | rfl <;> rfl
                    case p3 => unfold maxLen; omega
                    case p4 => omega
                    case p5 => first | omega | (simp; omega) | (simp [World.setCell]; omega)
                    intro v' w5 hown' hgrow _
                    have HQw5 : Hid (w5.ownsRow (w1.heap.size + 2) 36 2 v' ((l ++ [(e1, e2)]) ++ [(p1, p2)]).length (flat ((l ++ [(e1, e2)]) ++ [(p1, p2)]))) := Lib.hid (by
                      rw [flat_app]
                      have h3 := hown'
                      rw [HNN.out] at h3
                      simpa [flat] using h3)
                    have hlt' := (OW4.out).lt
                    have HEBw5 := Lib.hid (Blk.grown (HE4.out.alloc (.cells #[.int .i64 p1, .int .i64 p2] 36)) hgrow (fun h => by have := (hlt' _ h).1; omega))
                    have HBXw5 := Lib.hid (Blk.grown (HB4.out.alloc (.cells #[.int .i64 p1, .int .i64 p2] 36)) hgrow (fun h => by have := (hlt' _ h).1; omega))
                    have HBWw5 := Lib.hid (show Below w1.heap.size w1 w5 from (HW4.out.alloc (by rw [hs4]; omega) (.cells #[.int .i64 p1, .int .i64 p2] 36)).grown hgrow (by first | omega | (simp; omega) | (simp [World.setCell]; omega)) (fun q hq => by have := (hlt' q hq).1; omega))
                    have hszw5 := HBWw5.out.size
                    obtain ⟨A9, c9, hv9, -, -⟩ := ownE_of HQw5.out
                    rw [← HN.out] at HQw5 hv9
                    obtain ⟨n9, hn9⟩ : ∃ n9, n9 = (gathE es (e1, e2) (j + 1)).length := ⟨_, rfl⟩
                    rw [← hn9] at hv9
                    subst hv9
                    have HQ9 := Lib.hid (own_set (X := w1.heap.size + 1) (o := 1) (u := .slice A9 n9 c9) HQw5.out (by omega))
                    have HE9 := Lib.hid (HEBw5.out.far (p := ⟨w1.heap.size + 1, 1, none⟩) (by simp only; omega) (.slice A9 n9 c9))
                    have HB9 := Lib.hid (HBXw5.out.set_ 1 (.slice A9 n9 c9))
                    have HW9 := Lib.hid (Below.setCell (B := w1.heap.size) HBWw5.out (p := ⟨w1.heap.size + 1, 1, none⟩) (by simp only; omega) (.slice A9 n9 c9))
                    clear s0 s1 s2 s3 s4 q1 q2 q3 hs4
                    obtain ⟨s0, s1, s2, s3, s4⟩ := box_facts HBXw5.out
                    clear hown' hgrow hlt' hn9
                    go_wp2
                    exact ⟨⟨j + 1, .slice A9 n9 c9, by omega, by go_num, by rw [HD.out], HE9.out, HB9.out, HQ9.out, HW9.out⟩, by simp [intOf]; omega⟩
                  · have t1 : decide (e1 < p1) = true := decide_eq_true (by omega)
                    clear hps heq
                    have HN := Lib.hid (hjp ▸ gathE_at (e := (e1, e2)) (hjp ▸ HX.out))
                    have HD := Lib.hid (show decide (placeE es (e1, e2) < j + 1) = true from by simp; omega)
                    have hdn : decide (placeE es (e1, e2) < j) = false := by simp; omega
                    rw [hdn]
                    obtain ⟨l, hl⟩ : ∃ l, l = gathE es (e1, e2) j := ⟨_, rfl⟩
                    rw [← hl] at HO hgl HN
                    clear hl
                    clear hdn hjp
                    have OW := Lib.hid ((HO.out.alloc (.cells #[.int .i64 p1, .int .i64 p2] 36)).alloc (.cells #[.int .i64 e1, .int .i64 e2] 36))
                    go_wp2_with (at_builtin; refine wpList_append_own _ rfl _ _ 23 rfl (w1.heap.size + 2) 36 i0 (.agg #[.int .i64 0, .int .i64 0]) 2 16 Try.underlying23 hI hzz0 hzz1 hzz2 rfl (by decide) _ _ _ rfl OW.out ⟨_, 0, none⟩ 1 1 [.int .i64 e1, .int .i64 e2] rfl rfl ?p1 ?p2 ?p3 ?p4 ?p5 ?_)
                    case p1 => exact two_cells _ _ (by simp) _ _ _
                    case p2 =>
                      intro u hu
                      simp only [List.mem_cons, List.not_mem_nil, or_false] at hu
                      rcases hu with rfl | rfl <;> rfl
                    case p3 => unfold maxLen; omega
                    case p4 => omega
                    case p5 => first | omega | (simp; omega) | (simp [World.setCell]; omega)
                    intro v' w3 hown' hgrow _
                    have HQw3 : Hid (w3.ownsRow (w1.heap.size + 2) 36 2 v' (l ++ [(e1, e2)]).length (flat (l ++ [(e1, e2)]))) := Lib.hid (by
                      rw [flat_app]
                      have h3 := hown'
                      simpa [flat] using h3)
                    have hlt' := (OW.out).lt
                    have HEBw3 := Lib.hid (Blk.grown ((HEB.out.alloc (.cells #[.int .i64 p1, .int .i64 p2] 36)).alloc (.cells #[.int .i64 e1, .int .i64 e2] 36)) hgrow (fun h => by have := (hlt' _ h).1; omega))
                    have HBXw3 := Lib.hid (Blk.grown ((HBX.out.alloc (.cells #[.int .i64 p1, .int .i64 p2] 36)).alloc (.cells #[.int .i64 e1, .int .i64 e2] 36)) hgrow (fun h => by have := (hlt' _ h).1; omega))
                    have HXAw3 := Lib.hid (Blk.grown (HXA.out.alloc (.cells #[.int .i64 e1, .int .i64 e2] 36)) hgrow (fun h => by have := (HO.out.lt _ h).2; omega))
                    have HBWw3 := Lib.hid (show Below w1.heap.size w1 w3 from ((HBW.out.alloc hsz (.cells #[.int .i64 p1, .int .i64 p2] 36)).alloc (by simp; omega) (.cells #[.int .i64 e1, .int .i64 e2] 36)).grown hgrow (by first | omega | (simp; omega) | (simp [World.setCell]; omega)) (fun q hq => by have := (hlt' q hq).1; omega))
                    have hszw3 := HBWw3.out.size
                    obtain ⟨A4, c4, hv4, -, -⟩ := ownE_of HQw3.out
                    obtain ⟨n4, hn4⟩ : ∃ n4, n4 = (l ++ [(e1, e2)]).length := ⟨_, rfl⟩
                    rw [← hn4] at hv4
                    have hn5 : n4 ≤ es.length + 2 := by rw [hn4]; simp; omega
                    subst hv4
                    have HQ4 := Lib.hid (own_set (X := w1.heap.size + 1) (o := 1) (u := .slice A4 n4 c4) HQw3.out (by omega))
                    have HE4 := Lib.hid (HEBw3.out.far (p := ⟨w1.heap.size + 1, 1, none⟩) (by simp only; omega) (.slice A4 n4 c4))
                    have HB4 := Lib.hid (HBXw3.out.set_ 1 (.slice A4 n4 c4))
                    have HX4 := Lib.hid (HXAw3.out.far (p := ⟨w1.heap.size + 1, 1, none⟩) (by simp only; omega) (.slice A4 n4 c4))
                    have HW4 := Lib.hid (Below.setCell (B := w1.heap.size) HBWw3.out (p := ⟨w1.heap.size + 1, 1, none⟩) (by simp only; omega) (.slice A4 n4 c4))
                    obtain ⟨s0, s1, s2, s3, s4⟩ := box_facts HBXw3.out
                    have q1 : (w3.setCell ⟨w1.heap.size + 1, 1, none⟩ (.slice A4 n4 c4)).cell? ⟨w1.heap.size + 1, 1, none⟩ = some (.slice A4 n4 c4) := by rw [HB4.out.cell]; rfl
                    have q2 : (w3.setCell ⟨w1.heap.size + 1, 1, none⟩ (.slice A4 n4 c4)).cell? ⟨wr.heap.size, 0, none⟩ = some (.int .i64 p1) := by rw [HX4.out.cell]; rfl
                    have q3 : (w3.setCell ⟨w1.heap.size + 1, 1, none⟩ (.slice A4 n4 c4)).cell? ⟨wr.heap.size, 1, none⟩ = some (.int .i64 p2) := by rw [HX4.out.cell]; rfl
                    have hs4 : (w3.setCell ⟨w1.heap.size + 1, 1, none⟩ (.slice A4 n4 c4)).heap.size = w3.heap.size := by simp [World.setCell]
                    rw [← hn4] at HQ4
                    have HNN := Lib.hid hn4
                    have OW4 := Lib.hid (HQ4.out.alloc (.cells #[.int .i64 p1, .int .i64 p2] 36))
                    clear hown' hgrow hlt' hn4
                    go_wp2_with (at_builtin; refine wpList_append_own _ rfl _ _ 23 rfl (w1.heap.size + 2) 36 i0 (.agg #[.int .i64 0, .int .i64 0]) 2 16 Try.underlying23 hI hzz0 hzz1 hzz2 rfl (by decide) _ _ _ rfl OW4.out ⟨_, 0, none⟩ 1 1 [.int .i64 p1, .int .i64 p2] rfl rfl ?p1 ?p2 ?p3 ?p4 ?p5 ?_)
                    case p1 => exact two_cells _ _ (by simp) _ _ _
                    case p2 =>
                      intro u hu
                      simp only [List.mem_cons, List.not_mem_nil, or_false] at hu
                      rcases hu with rfl | rfl <;> rfl
                    case p3 => unfold maxLen; omega
                    case p4 => omega
                    case p5 => first | omega | (simp; omega) | (simp [World.setCell]; omega)
                    intro v' w5 hown' hgrow _
                    have HQw5 : Hid (w5.ownsRow (w1.heap.size + 2) 36 2 v' ((l ++ [(e1, e2)]) ++ [(p1, p2)]).length (flat ((l ++ [(e1, e2)]) ++ [(p1, p2)]))) := Lib.hid (by
                      rw [flat_app]
                      have h3 := hown'
                      rw [HNN.out] at h3
                      simpa [flat] using h3)
                    have hlt' := (OW4.out).lt
                    have HEBw5 := Lib.hid (Blk.grown (HE4.out.alloc (.cells #[.int .i64 p1, .int .i64 p2] 36)) hgrow (fun h => by have := (hlt' _ h).1; omega))
                    have HBXw5 := Lib.hid (Blk.grown (HB4.out.alloc (.cells #[.int .i64 p1, .int .i64 p2] 36)) hgrow (fun h => by have := (hlt' _ h).1; omega))
                    have HBWw5 := Lib.hid (show Below w1.heap.size w1 w5 from (HW4.out.alloc (by rw [hs4]; omega) (.cells #[.int .i64 p1, .int .i64 p2] 36)).grown hgrow (by first | omega | (simp; omega) | (simp [World.setCell]; omega)) (fun q hq => by have := (hlt' q hq).1; omega))
                    have hszw5 := HBWw5.out.size
                    obtain ⟨A9, c9, hv9, -, -⟩ := ownE_of HQw5.out
                    rw [← HN.out] at HQw5 hv9
                    obtain ⟨n9, hn9⟩ : ∃ n9, n9 = (gathE es (e1, e2) (j + 1)).length := ⟨_, rfl⟩
                    rw [← hn9] at hv9
                    subst hv9
                    have HQ9 := Lib.hid (own_set (X := w1.heap.size + 1) (o := 1) (u := .slice A9 n9 c9) HQw5.out (by omega))
                    have HE9 := Lib.hid (HEBw5.out.far (p := ⟨w1.heap.size + 1, 1, none⟩) (by simp only; omega) (.slice A9 n9 c9))
                    have HB9 := Lib.hid (HBXw5.out.set_ 1 (.slice A9 n9 c9))
                    have HW9 := Lib.hid (Below.setCell (B := w1.heap.size) HBWw5.out (p := ⟨w1.heap.size + 1, 1, none⟩) (by simp only; omega) (.slice A9 n9 c9))
                    clear s0 s1 s2 s3 s4 q1 q2 q3 hs4
                    obtain ⟨s0, s1, s2, s3, s4⟩ := box_facts HBXw5.out
                    clear hown' hgrow hlt' hn9
                    go_wp2
                    exact ⟨⟨j + 1, .slice A9 n9 c9, by omega, by go_num, by rw [HD.out], HE9.out, HB9.out, HQ9.out, HW9.out⟩, by simp [intOf]; omega⟩
                · have HN := Lib.hid (gathE_after (e := (e1, e2)) HX.out hjp)
                  have HD := Lib.hid (show decide (placeE es (e1, e2) < j + 1) = true from by simp; omega)
                  have hdn : decide (placeE es (e1, e2) < j) = true := by simp; omega
                  rw [hdn]
                  obtain ⟨l, hl⟩ : ∃ l, l = gathE es (e1, e2) j := ⟨_, rfl⟩
                  rw [← hl] at HO hgl HN
                  clear hl
                  clear hdn
                  have OW := Lib.hid ((HO.out.alloc (.cells #[.int .i64 p1, .int .i64 p2] 36)).alloc (.cells #[.int .i64 p1, .int .i64 p2] 36))
                  go_wp2_with (at_builtin; refine wpList_append_own _ rfl _ _ 23 rfl (w1.heap.size + 2) 36 i0 (.agg #[.int .i64 0, .int .i64 0]) 2 16 Try.underlying23 hI hzz0 hzz1 hzz2 rfl (by decide) _ _ _ rfl OW.out ⟨_, 0, none⟩ 1 1 [.int .i64 p1, .int .i64 p2] rfl rfl ?p1 ?p2 ?p3 ?p4 ?p5 ?_)
                  case p1 => exact two_cells _ _ (by simp) _ _ _
                  case p2 =>
                    intro u hu
                    simp only [List.mem_cons, List.not_mem_nil, or_false] at hu
                    rcases hu with rfl | rfl <;> rfl
                  case p3 => unfold maxLen; omega
                  case p4 => omega
                  case p5 => first | omega | (simp; omega) | (simp [World.setCell]; omega)
                  intro v' w3 hown' hgrow _
                  have HQw3 : Hid (w3.ownsRow (w1.heap.size + 2) 36 2 v' (l ++ [(p1, p2)]).length (flat (l ++ [(p1, p2)]))) := Lib.hid (by
                    rw [flat_app]
                    have h3 := hown'
                    simpa [flat] using h3)
                  have hlt' := (OW.out).lt
                  have HEBw3 := Lib.hid (Blk.grown ((HEB.out.alloc (.cells #[.int .i64 p1, .int .i64 p2] 36)).alloc (.cells #[.int .i64 p1, .int .i64 p2] 36)) hgrow (fun h => by have := (hlt' _ h).1; omega))
                  have HBXw3 := Lib.hid (Blk.grown ((HBX.out.alloc (.cells #[.int .i64 p1, .int .i64 p2] 36)).alloc (.cells #[.int .i64 p1, .int .i64 p2] 36)) hgrow (fun h => by have := (hlt' _ h).1; omega))
                  have HBWw3 := Lib.hid (show Below w1.heap.size w1 w3 from ((HBW.out.alloc hsz (.cells #[.int .i64 p1, .int .i64 p2] 36)).alloc (by simp; omega) (.cells #[.int .i64 p1, .int .i64 p2] 36)).grown hgrow (by first | omega | (simp; omega) | (simp [World.setCell]; omega)) (fun q hq => by have := (hlt' q hq).1; omega))
                  have hszw3 := HBWw3.out.size
                  obtain ⟨A9, c9, hv9, -, -⟩ := ownE_of HQw3.out
                  rw [← HN.out] at HQw3 hv9
                  obtain ⟨n9, hn9⟩ : ∃ n9, n9 = (gathE es (e1, e2) (j + 1)).length := ⟨_, rfl⟩
                  rw [← hn9] at hv9
                  subst hv9
                  have HQ9 := Lib.hid (own_set (X := w1.heap.size + 1) (o := 1) (u := .slice A9 n9 c9) HQw3.out (by omega))
                  have HE9 := Lib.hid (HEBw3.out.far (p := ⟨w1.heap.size + 1, 1, none⟩) (by simp only; omega) (.slice A9 n9 c9))
                  have HB9 := Lib.hid (HBXw3.out.set_ 1 (.slice A9 n9 c9))
                  have HW9 := Lib.hid (Below.setCell (B := w1.heap.size) HBWw3.out (p := ⟨w1.heap.size + 1, 1, none⟩) (by simp only; omega) (.slice A9 n9 c9))
                  obtain ⟨s0, s1, s2, s3, s4⟩ := box_facts HBXw3.out
                  clear hown' hgrow hlt' hn9
                  go_wp2
                  exact ⟨⟨j + 1, .slice A9 n9 c9, by omega, by go_num, by rw [HD.out], HE9.out, HB9.out, HQ9.out, HW9.out⟩, by simp [intOf]; omega⟩
              · have hjn : j = es.length := by omega
                subst hjn
                have hple := placeE_le es (e1, e2)
                have HR := Lib.hid (HB2.out.below HBW.out hl2)
                have hbz := hb1.trans (HBW.out.mono hb1.size)
                obtain ⟨r0, r1, r2, r3, r4⟩ := box_facts HR.out
                by_cases hpl : placeE es (e1, e2) < es.length
                · have hdn : decide (placeE es (e1, e2) < es.length) = true := decide_eq_true hpl
                  rw [hdn]
                  have hO2 := HO.out
                  rw [gathE_end1 hpl] at hO2
                  obtain ⟨A9, c9, hv9, hOE, hrg⟩ := ownE_of hO2
                  have HRG := Lib.hid hrg
                  have HOE := Lib.hid hOE
                  have HLN := Lib.hid (insE_len es (e1, e2))
                  subst hv9
                  obtain ⟨n9, hn9⟩ : ∃ n9, n9 = (insE es (e1, e2)).length := ⟨_, rfl⟩
                  rw [← hn9] at x1
                  have HN9 := Lib.hid hn9
                  clear hO2 hOE hrg hdn hpl HO HBX hn9
                  go_wp2
                  obtain ⟨W6, hW6⟩ : ∃ W6 : World, W6 = ((wr.setCell ⟨w.heap.size + 1, 0, none⟩ (.int .i64 N)).setCell ⟨w.heap.size + 1, 1, none⟩ (.slice A9 n9 c9)) := ⟨_, rfl⟩
                  rw [← hW6]
                  have hb9 : Blk W6 (w.heap.size + 1) 25 #[.int .i64 N, .slice A9 n9 c9] := by rw [hW6]; exact (HR.out.set_ 0 _).set_ 1 _
                  have hbA : Below w.heap.size w W6 := by rw [hW6]; exact hbz.trans (below_two (by omega) _ _)
                  have hsz6 : wr.heap.size ≤ W6.heap.size := by rw [hW6]; simp [World.setCell]
                  have hoA : OwnE W6 (w1.heap.size + 2) A9 (insE es (e1, e2)) := by rw [hW6]; exact ownE_far HOE.out (by omega) _ _
                  obtain ⟨z0, z1, z2, z3, z4⟩ := box_facts hb9
                  refine bodyPost_ret (v := .tuple #[.agg #[.int .i64 N, .slice A9 n9 c9], .bool true]) (by simp [results, Try.results37, go_sem, z0, z1]) rfl ⟨A9, c9, by rw [E1.out, E2.out, HK.out, HN9.out], by rw [E2.out]; exact hoA.mono (by omega), (fun g off e => ⟨by have := (HRG.out g off e).1; omega, by have := (HRG.out g off e).2; have := hsz6; omega⟩), hbA⟩
                · have hpq : placeE es (e1, e2) = es.length := by omega
                  have hdn : decide (placeE es (e1, e2) < es.length) = false := decide_eq_false hpl
                  rw [hdn]
                  have HN := Lib.hid (gathE_end2 hpq)
                  obtain ⟨l, hl⟩ : ∃ l, l = gathE es (e1, e2) es.length := ⟨_, rfl⟩
                  rw [← hl] at HO hgl HN
                  have HLN := Lib.hid (insE_len es (e1, e2))
                  clear hl hdn hpl
                  have OW := Lib.hid (HO.out.alloc (.cells #[.int .i64 e1, .int .i64 e2] 36))
                  go_wp2_with (at_builtin; refine wpList_append_own _ rfl _ _ 23 rfl (w1.heap.size + 2) 36 i0 (.agg #[.int .i64 0, .int .i64 0]) 2 16 Try.underlying23 hI hzz0 hzz1 hzz2 rfl (by decide) _ _ _ rfl OW.out ⟨_, 0, none⟩ 1 1 [.int .i64 e1, .int .i64 e2] rfl rfl ?p1 ?p2 ?p3 ?p4 ?p5 ?_)
                  case p1 => exact two_cells _ _ (by simp) _ _ _
                  case p2 =>
                    intro u hu
                    simp only [List.mem_cons, List.not_mem_nil, or_false] at hu
                    rcases hu with rfl | rfl <;> rfl
                  case p3 => unfold maxLen; omega
                  case p4 => omega
                  case p5 => first | omega | (simp; omega) | (simp [World.setCell]; omega)
                  intro v' w3 hown' hgrow _
                  have HQw3 : Hid (w3.ownsRow (w1.heap.size + 2) 36 2 v' (l ++ [(e1, e2)]).length (flat (l ++ [(e1, e2)]))) := Lib.hid (by
                    rw [flat_app]
                    have h3 := hown'
                    simpa [flat] using h3)
                  have hlt' := (OW.out).lt
                  have HBXw3 := Lib.hid (Blk.grown (HBX.out.alloc (.cells #[.int .i64 e1, .int .i64 e2] 36)) hgrow (fun h => by have := (hlt' _ h).1; omega))
                  have HRRw3 := Lib.hid (Blk.grown (HR.out.alloc (.cells #[.int .i64 e1, .int .i64 e2] 36)) hgrow (fun h => by have := (hlt' _ h).1; omega))
                  have HBWw3 := Lib.hid (show Below w1.heap.size w1 w3 from (HBW.out.alloc hsz (.cells #[.int .i64 e1, .int .i64 e2] 36)).grown hgrow (by first | omega | (simp; omega) | (simp [World.setCell]; omega)) (fun q hq => by have := (hlt' q hq).1; omega))
                  have hszw3 := HBWw3.out.size
                  rw [HN.out] at HQw3
                  obtain ⟨A9, c9, hv9, hOE, hrg⟩ := ownE_of HQw3.out
                  obtain ⟨n9, hn9⟩ : ∃ n9, n9 = (insE es (e1, e2)).length := ⟨_, rfl⟩
                  rw [← hn9] at hv9
                  have HN9 := Lib.hid hn9
                  subst hv9
                  have HRG := Lib.hid hrg
                  have HOE := Lib.hid (ownE_far1 hOE (X := w1.heap.size + 1) (by omega) 1 (.slice A9 n9 c9))
                  have HB4 := Lib.hid (HBXw3.out.set_ 1 (.slice A9 n9 c9))
                  have HR4 := Lib.hid (HRRw3.out.far (p := ⟨w1.heap.size + 1, 1, none⟩) (by simp only; omega) (.slice A9 n9 c9))
                  have HW4 := Lib.hid (Below.setCell (B := w1.heap.size) HBWw3.out (p := ⟨w1.heap.size + 1, 1, none⟩) (by simp only; omega) (.slice A9 n9 c9))
                  obtain ⟨s0, s1, s2, s3, s4⟩ := box_facts HBXw3.out
                  have q0 : (w3.setCell ⟨w1.heap.size + 1, 1, none⟩ (.slice A9 n9 c9)).cell? ⟨w1.heap.size + 1, 0, none⟩ = some (.int .i64 N) := by rw [HB4.out.cell]; rfl
                  have q1 : (w3.setCell ⟨w1.heap.size + 1, 1, none⟩ (.slice A9 n9 c9)).cell? ⟨w1.heap.size + 1, 1, none⟩ = some (.slice A9 n9 c9) := by rw [HB4.out.cell]; rfl
                  obtain ⟨u0, u1, u2, u3, u4⟩ := box_facts HR4.out
                  have hbz2 := hb1.trans (HW4.out.mono hb1.size)
                  clear hown' hgrow hlt' hOE hrg hn9 r0 r1 r2 r3 x0 x1 x2 x3
                  go_wp2
                  obtain ⟨W6, hW6⟩ : ∃ W6 : World, W6 = (((w3.setCell ⟨w1.heap.size + 1, 1, none⟩ (.slice A9 n9 c9)).setCell ⟨w.heap.size + 1, 0, none⟩ (.int .i64 N)).setCell ⟨w.heap.size + 1, 1, none⟩ (.slice A9 n9 c9)) := ⟨_, rfl⟩
                  rw [← hW6]
                  have hb9 : Blk W6 (w.heap.size + 1) 25 #[.int .i64 N, .slice A9 n9 c9] := by rw [hW6]; exact (HR4.out.set_ 0 _).set_ 1 _
                  have hbA : Below w.heap.size w W6 := by rw [hW6]; exact hbz2.trans (below_two (by omega) _ _)
                  have hsz6 : w3.heap.size ≤ W6.heap.size := by rw [hW6]; simp [World.setCell]
                  have hoA : OwnE W6 (w1.heap.size + 2) A9 (insE es (e1, e2)) := by rw [hW6]; exact ownE_far HOE.out (by omega) _ _
                  obtain ⟨z0, z1, z2, z3, z4⟩ := box_facts hb9
                  refine bodyPost_ret (v := .tuple #[.agg #[.int .i64 N, .slice A9 n9 c9], .bool true]) (by simp [results, Try.results37, go_sem, z0, z1]) rfl ⟨A9, c9, by rw [E1.out, E2.out, HK.out, HN9.out], by rw [E2.out]; exact hoA.mono (by omega), (fun g off e => ⟨by have := (HRG.out g off e).1; omega, by have := (HRG.out g off e).2; have := hsz6; omega⟩), hbA⟩
end Go.Proofs.Ytbojbifpaecbcaa
