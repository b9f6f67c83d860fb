/- Drawn graphs once more: the edges' block holds ints as far as they go. Written by gen_ownk.py. -/
import Derived.Test.YtndncmjhpbjcoaaGBM
import Derived.Test.YtndncmjhpbjcoaaGCrs
set_option linter.all false
namespace Go.Proofs.Ytndncmjhpbjcoaa.K
open Go Go.Proofs.Ytndncmjhpbjcoaa Go.RowKit

def OwnEK (w : World) (base : Nat) (A : Option Addr) (es : List (Int × Int)) : Prop :=
  OwnE w base A es ∧ ∀ a, A = some a → base ≤ a.block ∧ ∃ cs t, w.heap[a.block]? = some (.cells cs t (0, 0)) ∧ ∀ i v, i < a.off + 2 * es.length → cs[i]? = some v → ∃ x, v = .int .i64 x
theorem OwnEK.edgeK {w : World} {base : Nat} {A : Option Addr} {es : List (Int × Int)} (h : OwnEK w base A es) : EdgeK w A es := fun a e => (h.2 a e).2
theorem OwnEK.edges {w : World} {base : Nat} {A : Option Addr} {es : List (Int × Int)} (h : OwnEK w base A es) : EdgeS w w.heap.size A es := h.1.edges
theorem OwnEK.keep2 {w w' : World} {base : Nat} {A : Option Addr} {es : List (Int × Int)} (h : OwnEK w base A es) (hs : w.heap.size ≤ w'.heap.size) (hk : ∀ g, base ≤ g → g < w.heap.size → w'.heap[g]? = w.heap[g]?) : OwnEK w' base A es :=
  ⟨h.1.keep2 hs hk, fun a e => by
    obtain ⟨h1, cs, t, h2, h3⟩ := h.2 a e
    exact ⟨h1, cs, t, (hk _ h1 (Array.getElem?_eq_some_iff.1 h2).1).trans h2, h3⟩⟩
theorem OwnEK.below {w w' : World} {base : Nat} {A : Option Addr} {es : List (Int × Int)} (h : OwnEK w base A es) (hb : Below w.heap.size w w') : OwnEK w' base A es := h.keep2 hb.size fun _ _ h => hb.block _ h
theorem OwnEK.mono {w : World} {base base' : Nat} {A : Option Addr} {es : List (Int × Int)} (h : OwnEK w base A es) (hb : base' ≤ base) : OwnEK w base' A es := ⟨h.1.mono hb, fun a e => ⟨Nat.le_trans hb (h.2 a e).1, (h.2 a e).2⟩⟩
theorem own_nil (w : World) (b : Nat) (A : Option Addr) (h : A = none := by rfl) : OwnEK w b A [] := ⟨Go.Proofs.Ytndncmjhpbjcoaa.own_nil w b A, fun a e => by rw [h] at e; cases e⟩
theorem flat_ints : ∀ (l : List (Int × Int)), ∀ v ∈ flat l, ∃ x, v = Value.int .i64 x
  | [], v, hv => by simp [flat] at hv
  | e :: l, v, hv => by
    simp only [flat, List.mem_cons] at hv
    rcases hv with rfl | rfl | hv
    · exact ⟨_, rfl⟩
    · exact ⟨_, rfl⟩
    · exact flat_ints l v hv
theorem ownE_of {w : World} {base n : Nat} {v : Value} {l : List (Int × Int)} (h : w.ownsRow base 122 2 v n (flat l)) : ∃ (A : Option Addr) (c : Nat), v = .slice A l.length c ∧ OwnEK w base A l ∧ ∀ g off, A = some ⟨g, off, none⟩ → base ≤ g ∧ g < w.heap.size := by
  obtain ⟨A, c, hv, ho, hr⟩ := Go.Proofs.Ytndncmjhpbjcoaa.ownE_of h
  refine ⟨A, c, hv, ⟨ho, fun a e => ?_⟩, hr⟩
  obtain ⟨hl, h⟩ := h
  rw [flat_length] at hl
  rcases h with ⟨h1, h2⟩ | ⟨g, cap, cur, h1, hb, hh, hnc, _, hcs, htk⟩
  · rw [h1, e] at hv
    cases hv
  · rw [h1, e] at hv
    injection hv with hv1 hv2 hv3
    injection hv1 with hv1
    subst hv1
    refine ⟨hb, cur, _, hh, fun i v hi hv => flat_ints l v ?_⟩
    have hi2 : i < n * 2 := by simp only at hi; omega
    rw [← htk]
    refine List.mem_of_getElem? (i := i) ?_
    rw [List.getElem?_take_of_lt hi2, Array.getElem?_toList]
    exact hv
theorem ownE_far1 {w : World} {b X : Nat} {A : Option Addr} {es : List (Int × Int)} (h : OwnEK w b A es) (hx : X < b) (o : Nat) (u : Value) : OwnEK (w.setCell ⟨X, o, none⟩ u) b A es :=
  h.keep2 (by simp [World.setCell]) fun g h1 _ => Below.heap_setCell _ _ _ _ (by show g ≠ X; omega)
theorem ownE_far {w : World} {b X : Nat} {A : Option Addr} {es : List (Int × Int)} (h : OwnEK w b A es) (hx : X < b) (u v : Value) : OwnEK ((w.setCell ⟨X, 0, none⟩ u).setCell ⟨X, 1, none⟩ v) b A es := ownE_far1 (ownE_far1 h hx 0 u) hx 1 v
def GivesG (w : World) (N : Int) (es : List (Int × Int)) (b : Bool) (e : Ending) (w' : World) : Prop :=
  ∃ (A : Option Addr) (c : Nat), e = .returned (.tuple #[.agg #[.int .i64 N, .slice A es.length c], .bool b]) ∧ OwnEK w' w.heap.size A es ∧ (∀ g off, A = some ⟨g, off, none⟩ → w.heap.size ≤ g ∧ g < w'.heap.size) ∧ Below w.heap.size w w'
set_option maxRecDepth 100000 in
set_option maxHeartbeats 8000000 in
theorem specAdd (N : Int) (A : Option Addr) (c : Nat) (es : List (Int × Int)) (a b : Int) (w : World) (hn : es.length ≤ 1048576) (hE : EdgeS w w.heap.size A es) :
    Calls Try.prog 132 #[.agg #[.int .i64 N, .slice A es.length c], .int .i64 a, .int .i64 b] w (GivesG w (addN N es a b) (addL N es a b) (addK N es a b)) := by
  have HE := Lib.hid hE
  obtain ⟨wa, hwa⟩ : ∃ wa, wa = ((w.alloc (Obj.cells #[.int .i64 N, .slice A es.length c] 25)).alloc (Obj.cells #[.int .i64 0, .slice none 0 0] 25)) := ⟨_, rfl⟩
  have hba : Below w.heap.size w wa := by rw [hwa]; exact ((Below.refl _ w).alloc (Nat.le_refl _) _).alloc (by simp) _
  have hk1 : Blk wa w.heap.size 25 #[.int .i64 N, .slice A es.length c] := by rw [hwa]; exact (Blk.new w _ _).alloc _
  have hk2 : Blk wa (w.heap.size + 1) 25 #[.int .i64 0, .slice none 0 0] := by
    rw [hwa]
    have h := Blk.new (w.alloc (Obj.cells #[.int .i64 N, .slice A es.length c] 25)) 25 #[.int .i64 0, .slice none 0 0]
    rw [World.size_alloc] at h
    exact h
  have hsa : wa.heap.size = w.heap.size + 2 := by rw [hwa]; simp
  have HWA := Lib.hid hwa
  have HG := Lib.hid (specGraphOk N A c es wa (by omega) ((hE.below hba).keep (fun _ _ => rfl) hba.size))
  clear hwa
  cases hg : graphB N es with
  | false =>
    rw [hg] at HG
    have HK := Lib.hid (show addK N es a b = false by simp [addK, hg])
    have E0 := add_no HK.out
    have E1 := Lib.hid E0.1
    have E2 := Lib.hid E0.2
    clear E0
    clear hg
    go_enter Try.func132, Try.ntmps132
    go_wp2_with fail
    rw [← HWA.out]
    refine HG.out.mono ?_
    rintro e w1 ⟨rfl, hb⟩
    have HB1 := Lib.hid (hk1.below hb (by omega))
    have HB2 := Lib.hid (hk2.below hb (by omega))
    have hb1 := hba.trans (hb.mono hba.size)
    obtain ⟨hc0, hc1, hf0, hf1, hl1⟩ := box_facts HB1.out
    obtain ⟨hd0, hd1, hg0, hg1, hl2⟩ := box_facts HB2.out
    clear hb hk1 hk2 HG
    go_wp2
    obtain ⟨W6, hW6⟩ : ∃ W6 : World, W6 = ((w1.setCell ⟨w.heap.size + 1, 0, none⟩ (.int .i64 0)).setCell ⟨w.heap.size + 1, 1, none⟩ (.slice none 0 0)) := ⟨_, rfl⟩
    rw [← hW6]
    have hb9 : Blk W6 (w.heap.size + 1) 25 #[.int .i64 0, .slice none 0 0] := by rw [hW6]; exact (HB2.out.set_ 0 _).set_ 1 _
    have hbA : Below w.heap.size w W6 := by rw [hW6]; exact hb1.trans (below_two (by omega) _ _)
    obtain ⟨z0, z1, z2, z3, z4⟩ := box_facts hb9
    refine bodyPost_ret (v := .tuple #[.agg #[.int .i64 0, .slice none 0 0], .bool false]) (by simp [results, Try.results132, go_sem, z0, z1]) rfl ⟨none, 0, by rw [E1.out, E2.out, HK.out]; rfl, by rw [E2.out]; exact own_nil _ _ _, (fun _ _ h => by cases h), hbA⟩
  | true =>
    rw [hg] at HG
    have hlims : 1 ≤ N ∧ N ≤ 6 ∧ es.length ≤ 12 := by
      simp only [graphB, Bool.and_eq_true] at hg
      exact edgesB_lims hg.1.1
    obtain ⟨hN1, hN6, hn12⟩ := hlims
    have HIA := fun w => Lib.hid (l01In_any a 0 (N - 1) w)
    have HIB := fun w => Lib.hid (l01In_any b 0 (N - 1) w)
    simp only [inB_vB] at HIA HIB
    cases ha : vB a N with
    | false =>
      rw [ha] at HIA
      have HK := Lib.hid (show addK N es a b = false by simp [addK, ha])
      have E0 := add_no HK.out
      have E1 := Lib.hid E0.1
      have E2 := Lib.hid E0.2
      clear E0
      clear ha hg
      go_enter Try.func132, Try.ntmps132
      go_wp2_with fail
      rw [← HWA.out]
      refine HG.out.mono ?_
      rintro e w1 ⟨rfl, hb⟩
      have HB1 := Lib.hid (hk1.below hb (by omega))
      have HB2 := Lib.hid (hk2.below hb (by omega))
      have hb1 := hba.trans (hb.mono hba.size)
      obtain ⟨hc0, hc1, hf0, hf1, hl1⟩ := box_facts HB1.out
      obtain ⟨hd0, hd1, hg0, hg1, hl2⟩ := box_facts HB2.out
      clear hb hk1 hk2 HG
      go_wp2_with fail
      refine (HIA w1).out.mono ?_
      rintro e w2 ⟨rfl, rfl⟩
      go_wp2
      obtain ⟨W6, hW6⟩ : ∃ W6 : World, W6 = ((w1.setCell ⟨w.heap.size + 1, 0, none⟩ (.int .i64 0)).setCell ⟨w.heap.size + 1, 1, none⟩ (.slice none 0 0)) := ⟨_, rfl⟩
      rw [← hW6]
      have hb9 : Blk W6 (w.heap.size + 1) 25 #[.int .i64 0, .slice none 0 0] := by rw [hW6]; exact (HB2.out.set_ 0 _).set_ 1 _
      have hbA : Below w.heap.size w W6 := by rw [hW6]; exact hb1.trans (below_two (by omega) _ _)
      obtain ⟨z0, z1, z2, z3, z4⟩ := box_facts hb9
      refine bodyPost_ret (v := .tuple #[.agg #[.int .i64 0, .slice none 0 0], .bool false]) (by simp [results, Try.results132, go_sem, z0, z1]) rfl ⟨none, 0, by rw [E1.out, E2.out, HK.out]; rfl, by rw [E2.out]; exact own_nil _ _ _, (fun _ _ h => by cases h), hbA⟩
    | true =>
      rw [ha] at HIA
      cases hb' : vB b N with
      | false =>
        rw [hb'] at HIB
        have HK := Lib.hid (show addK N es a b = false by simp [addK, hb'])
        have E0 := add_no HK.out
        have E1 := Lib.hid E0.1
        have E2 := Lib.hid E0.2
        clear E0
        clear ha hg hb'
        go_enter Try.func132, Try.ntmps132
        go_wp2_with fail
        rw [← HWA.out]
        refine HG.out.mono ?_
        rintro e w1 ⟨rfl, hb⟩
        have HB1 := Lib.hid (hk1.below hb (by omega))
        have HB2 := Lib.hid (hk2.below hb (by omega))
        have hb1 := hba.trans (hb.mono hba.size)
        obtain ⟨hc0, hc1, hf0, hf1, hl1⟩ := box_facts HB1.out
        obtain ⟨hd0, hd1, hg0, hg1, hl2⟩ := box_facts HB2.out
        clear hb hk1 hk2 HG
        go_wp2_with fail
        refine (HIA w1).out.mono ?_
        rintro e w2 ⟨rfl, rfl⟩
        go_wp2_with fail
        refine (HIB w1).out.mono ?_
        rintro e w2 ⟨rfl, rfl⟩
        go_wp2
        obtain ⟨W6, hW6⟩ : ∃ W6 : World, W6 = ((w1.setCell ⟨w.heap.size + 1, 0, none⟩ (.int .i64 0)).setCell ⟨w.heap.size + 1, 1, none⟩ (.slice none 0 0)) := ⟨_, rfl⟩
        rw [← hW6]
        have hb9 : Blk W6 (w.heap.size + 1) 25 #[.int .i64 0, .slice none 0 0] := by rw [hW6]; exact (HB2.out.set_ 0 _).set_ 1 _
        have hbA : Below w.heap.size w W6 := by rw [hW6]; exact hb1.trans (below_two (by omega) _ _)
        obtain ⟨z0, z1, z2, z3, z4⟩ := box_facts hb9
        refine bodyPost_ret (v := .tuple #[.agg #[.int .i64 0, .slice none 0 0], .bool false]) (by simp [results, Try.results132, go_sem, z0, z1]) rfl ⟨none, 0, by rw [E1.out, E2.out, HK.out]; rfl, by rw [E2.out]; exact own_nil _ _ _, (fun _ _ h => by cases h), hbA⟩
      | true =>
        rw [hb'] at HIB
        by_cases hab : a = b
        · have t0 : (a == b) = true := by simp [hab]
          have HK := Lib.hid (show addK N es a b = false by simp [addK, hab])
          have E0 := add_no HK.out
          have E1 := Lib.hid E0.1
          have E2 := Lib.hid E0.2
          clear E0
          clear ha hg hb' hab
          go_enter Try.func132, Try.ntmps132
          go_wp2_with fail
          rw [← HWA.out]
          refine HG.out.mono ?_
          rintro e w1 ⟨rfl, hb⟩
          have HB1 := Lib.hid (hk1.below hb (by omega))
          have HB2 := Lib.hid (hk2.below hb (by omega))
          have hb1 := hba.trans (hb.mono hba.size)
          obtain ⟨hc0, hc1, hf0, hf1, hl1⟩ := box_facts HB1.out
          obtain ⟨hd0, hd1, hg0, hg1, hl2⟩ := box_facts HB2.out
          clear hb hk1 hk2 HG
          go_wp2_with fail
          refine (HIA w1).out.mono ?_
          rintro e w2 ⟨rfl, rfl⟩
          go_wp2_with fail
          refine (HIB w1).out.mono ?_
          rintro e w2 ⟨rfl, rfl⟩
          go_wp2
          obtain ⟨W6, hW6⟩ : ∃ W6 : World, W6 = ((w1.setCell ⟨w.heap.size + 1, 0, none⟩ (.int .i64 0)).setCell ⟨w.heap.size + 1, 1, none⟩ (.slice none 0 0)) := ⟨_, rfl⟩
          rw [← hW6]
          have hb9 : Blk W6 (w.heap.size + 1) 25 #[.int .i64 0, .slice none 0 0] := by rw [hW6]; exact (HB2.out.set_ 0 _).set_ 1 _
          have hbA : Below w.heap.size w W6 := by rw [hW6]; exact hb1.trans (below_two (by omega) _ _)
          obtain ⟨z0, z1, z2, z3, z4⟩ := box_facts hb9
          refine bodyPost_ret (v := .tuple #[.agg #[.int .i64 0, .slice none 0 0], .bool false]) (by simp [results, Try.results132, go_sem, z0, z1]) rfl ⟨none, 0, by rw [E1.out, E2.out, HK.out]; rfl, by rw [E2.out]; exact own_nil _ _ _, (fun _ _ h => by cases h), hbA⟩
        · have t0 : (a == b) = false := by simp [hab]
          by_cases hfull : es.length = 12
          · have t9 : ((es.length : Int) == 12) = true := by simp; omega
            have HK := Lib.hid (show addK N es a b = false by simp [addK, hfull])
            have E0 := add_no HK.out
            have E1 := Lib.hid E0.1
            have E2 := Lib.hid E0.2
            clear E0
            clear ha hg hb' hab hfull
            go_enter Try.func132, Try.ntmps132
            go_wp2_with fail
            rw [← HWA.out]
            refine HG.out.mono ?_
            rintro e w1 ⟨rfl, hb⟩
            have HB1 := Lib.hid (hk1.below hb (by omega))
            have HB2 := Lib.hid (hk2.below hb (by omega))
            have hb1 := hba.trans (hb.mono hba.size)
            obtain ⟨hc0, hc1, hf0, hf1, hl1⟩ := box_facts HB1.out
            obtain ⟨hd0, hd1, hg0, hg1, hl2⟩ := box_facts HB2.out
            clear hb hk1 hk2 HG
            go_wp2_with fail
            refine (HIA w1).out.mono ?_
            rintro e w2 ⟨rfl, rfl⟩
            go_wp2_with fail
            refine (HIB w1).out.mono ?_
            rintro e w2 ⟨rfl, rfl⟩
            go_wp2
            obtain ⟨W6, hW6⟩ : ∃ W6 : World, W6 = ((w1.setCell ⟨w.heap.size + 1, 0, none⟩ (.int .i64 0)).setCell ⟨w.heap.size + 1, 1, none⟩ (.slice none 0 0)) := ⟨_, rfl⟩
            rw [← hW6]
            have hb9 : Blk W6 (w.heap.size + 1) 25 #[.int .i64 0, .slice none 0 0] := by rw [hW6]; exact (HB2.out.set_ 0 _).set_ 1 _
            have hbA : Below w.heap.size w W6 := by rw [hW6]; exact hb1.trans (below_two (by omega) _ _)
            obtain ⟨z0, z1, z2, z3, z4⟩ := box_facts hb9
            refine bodyPost_ret (v := .tuple #[.agg #[.int .i64 0, .slice none 0 0], .bool false]) (by simp [results, Try.results132, go_sem, z0, z1]) rfl ⟨none, 0, by rw [E1.out, E2.out, HK.out]; rfl, by rw [E2.out]; exact own_nil _ _ _, (fun _ _ h => by cases h), hbA⟩
          · have t9 : ((es.length : Int) == 12) = false := by simp; omega
            have HK := Lib.hid (show addK N es a b = true by simp [addK, hg, ha, hb', hab, hfull])
            have E0 := add_yes HK.out
            have E1 := Lib.hid E0.1
            have E2 := Lib.hid (show addL N es a b = insE es (min a b, max a b) from E0.2)
            have hal := vB_iff ha
            have hbl := vB_iff hb'
            obtain ⟨i0, hI, hzz0, hzz1, hzz2⟩ := info_parts edgeInfo
            have hm1 : 0 ≤ min a b ∧ min a b ≤ 6 := by omega
            have hm2 : 0 ≤ max a b ∧ max a b ≤ 6 := by omega
            clear E0 ha hg hb' hab hfull
            obtain ⟨e1, hmn⟩ : ∃ e1, min a b = e1 := ⟨_, rfl⟩
            obtain ⟨e2, hmx⟩ : ∃ e2, max a b = e2 := ⟨_, rfl⟩
            rw [hmn, hmx] at E2
            rw [hmn] at hm1
            rw [hmx] at hm2
            go_enter Try.func132, Try.ntmps132
            go_wp2_with fail
            rw [← HWA.out]
            refine HG.out.mono ?_
            rintro e w1 ⟨rfl, hb⟩
            have HB1 := Lib.hid (hk1.below hb (by omega))
            have HB2 := Lib.hid (hk2.below hb (by omega))
            have hb1 := hba.trans (hb.mono hba.size)
            obtain ⟨hc0, hc1, hf0, hf1, hl1⟩ := box_facts HB1.out
            obtain ⟨hd0, hd1, hg0, hg1, hl2⟩ := box_facts HB2.out
            clear hb hk1 hk2 HG
            go_wp2_with fail
            refine (HIA w1).out.mono ?_
            rintro e w2 ⟨rfl, rfl⟩
            go_wp2_with fail
            refine (HIB w1).out.mono ?_
            rintro e w2 ⟨rfl, rfl⟩
            have hmin : (0 : Int) = 0 := rfl
            clear hmin
            go_wp2
            clear hmn hmx
            obtain ⟨W3, hW3⟩ : ∃ W3 : World, W3 = (w1.alloc (Obj.cells #[.int .i64 e1, .int .i64 e2] 122)).alloc (Obj.cells #[.int .i64 N, .slice none 0 0] 25) := ⟨_, rfl⟩
            have hEB : Blk W3 w1.heap.size 122 #[.int .i64 e1, .int .i64 e2] := by rw [hW3]; exact (Blk.new w1 _ _).alloc _
            have hOB : Blk W3 (w1.heap.size + 1) 25 #[.int .i64 N, .slice none 0 0] := by
              have h := Blk.new (w1.alloc (Obj.cells #[.int .i64 e1, .int .i64 e2] 122)) 25 #[.int .i64 N, .slice none 0 0]
              rw [World.size_alloc, ← hW3] at h
              exact h
            have hb3 : Below w1.heap.size w1 W3 := by rw [hW3]; exact ((Below.refl _ _).alloc (Nat.le_refl _) _).alloc (by simp) _
            have HW3 := Lib.hid hW3
            clear hW3
            go_loopw [57, 10] (fun cnt dn wr => ∃ (j : Nat) (v : Value), j ≤ es.length ∧ cnt = .int .i64 j ∧ dn = .bool (decide (placeE es (e1, e2) < j)) ∧ Blk wr w1.heap.size 122 #[.int .i64 e1, .int .i64 e2] ∧ Blk wr (w1.heap.size + 1) 25 #[.int .i64 N, v] ∧ wr.ownsRow (w1.heap.size + 2) 122 2 v (gathE es (e1, e2) j).length (flat (gathE es (e1, e2) j)) ∧ Below w1.heap.size w1 wr) (fun cnt _ _ => es.length - (intOf cnt).toNat)
            case atStart =>
              rw [← HW3.out]
              exact ⟨0, _, Nat.zero_le _, rfl, by simp, hEB, hOB, ⟨by rw [gathE_zero]; rfl, .inl ⟨rfl, by rw [gathE_zero]; rfl⟩⟩, hb3⟩
            case round =>
              clear hEB hOB hb3 HW3
              obtain ⟨j, v, hj, rfl, rfl, heb, hob, hown, hbw⟩ := hrel
              have HEB := Lib.hid heb
              have HBX := Lib.hid hob
              have HO := Lib.hid hown
              have HBW := Lib.hid hbw
              have hsz := hbw.size
              have hgl := gathE_len es (e1, e2) j hj
              have hxl := hob.lt
              obtain ⟨x0, x1, x2, x3, x4⟩ := box_facts hob
              have y0 : wr.cell? ⟨w1.heap.size, 0, none⟩ = some (.int .i64 e1) := by rw [heb.cell]; rfl
              have y1 : wr.cell? ⟨w1.heap.size, 1, none⟩ = some (.int .i64 e2) := by rw [heb.cell]; rfl
              have y4 : w1.heap.size < wr.heap.size := heb.lt
              clear heb hob hown hbw
              by_cases hlt : j < es.length
              · have hj0 : (0 : Int) ≤ (j : Int) := Int.natCast_nonneg _
                have hj1 : (j : Int) < (es.length : Int) := by omega
                obtain ⟨b1, o1, x, rfl, hbb, he, he0, he1⟩ := (HE.out.below (hb1.trans (HBW.out.mono hb1.size))).at_ hlt
                have HX := Lib.hid he
                obtain ⟨p1, p2⟩ := x
                simp only at he0 he1
                have HXA := Lib.hid (Blk.new wr 122 #[.int .i64 p1, .int .i64 p2])
                clear he
                rcases Nat.lt_trichotomy j (placeE es (e1, e2)) with hjp | hjp | hjp
                · have hng := place_before (e := (e1, e2)) HX.out hjp
                  simp only [ltE, Bool.or_eq_false_iff, Bool.and_eq_false_iff, decide_eq_false_iff_not] at hng
                  by_cases heq : p1 = e1
                  · have t1 : decide (e1 < p1) = false := decide_eq_false (by omega)
                    have t2 : (p1 == e1) = true := by simp; omega
                    have t3 : decide (e2 < p2) = false := decide_eq_false (by omega)
                    clear hng heq
                    have HN := Lib.hid (gathE_before (e := (e1, e2)) HX.out hjp)
                    have HD := Lib.hid (show decide (placeE es (e1, e2) < j + 1) = false from by simp; omega)
                    have hdn : decide (placeE es (e1, e2) < j) = false := by simp; omega
                    rw [hdn]
                    obtain ⟨l, hl⟩ : ∃ l, l = gathE es (e1, e2) j := ⟨_, rfl⟩
                    rw [← hl] at HO hgl HN
                    clear hl
                    clear hdn
                    have OW := Lib.hid ((HO.out.alloc (.cells #[.int .i64 p1, .int .i64 p2] 122)).alloc (.cells #[.int .i64 p1, .int .i64 p2] 122))
                    go_wp2_with (at_builtin; refine wpList_append_own _ rfl _ _ 23 rfl (w1.heap.size + 2) 122 i0 (.agg #[.int .i64 0, .int .i64 0]) 2 16 Try.underlying23 hI hzz0 hzz1 hzz2 rfl (by decide) _ _ _ rfl OW.out ⟨_, 0, none⟩ 1 1 [.int .i64 p1, .int .i64 p2] rfl rfl ?p1 ?p2 ?p3 ?p4 ?p5 ?_)
                    case p1 => exact two_cells _ _ (by simp) _ _ _
                    case p2 =>
                      intro u hu
                      simp only [List.mem_cons, List.not_mem_nil, or_false] at hu
                      rcases hu with rfl | rfl <;> rfl
                    case p3 => unfold maxLen; omega
                    case p4 => omega
                    case p5 => first | omega | (simp; omega) | (simp [World.setCell]; omega)
                    intro v' w3 hown' hgrow _
                    have HQw3 : Hid (w3.ownsRow (w1.heap.size + 2) 122 2 v' (l ++ [(p1, p2)]).length (flat (l ++ [(p1, p2)]))) := Lib.hid (by
                      rw [flat_app]
                      have h3 := hown'
                      simpa [flat] using h3)
                    have hlt' := (OW.out).lt
                    have HEBw3 := Lib.hid (Blk.grown ((HEB.out.alloc (.cells #[.int .i64 p1, .int .i64 p2] 122)).alloc (.cells #[.int .i64 p1, .int .i64 p2] 122)) hgrow (fun h => by have := (hlt' _ h).1; omega))
                    have HBXw3 := Lib.hid (Blk.grown ((HBX.out.alloc (.cells #[.int .i64 p1, .int .i64 p2] 122)).alloc (.cells #[.int .i64 p1, .int .i64 p2] 122)) hgrow (fun h => by have := (hlt' _ h).1; omega))
                    have HBWw3 := Lib.hid (show Below w1.heap.size w1 w3 from ((HBW.out.alloc hsz (.cells #[.int .i64 p1, .int .i64 p2] 122)).alloc (by simp; omega) (.cells #[.int .i64 p1, .int .i64 p2] 122)).grown hgrow (by first | omega | (simp; omega) | (simp [World.setCell]; omega)) (fun q hq => by have := (hlt' q hq).1; omega))
                    have hszw3 := HBWw3.out.size
                    obtain ⟨A9, c9, hv9, -, -⟩ := ownE_of HQw3.out
                    rw [← HN.out] at HQw3 hv9
                    obtain ⟨n9, hn9⟩ : ∃ n9, n9 = (gathE es (e1, e2) (j + 1)).length := ⟨_, rfl⟩
                    rw [← hn9] at hv9
                    subst hv9
                    have HQ9 := Lib.hid (own_set (X := w1.heap.size + 1) (o := 1) (u := .slice A9 n9 c9) HQw3.out (by omega))
                    have HE9 := Lib.hid (HEBw3.out.far (p := ⟨w1.heap.size + 1, 1, none⟩) (by simp only; omega) (.slice A9 n9 c9))
                    have HB9 := Lib.hid (HBXw3.out.set_ 1 (.slice A9 n9 c9))
                    have HW9 := Lib.hid (Below.setCell (B := w1.heap.size) HBWw3.out (p := ⟨w1.heap.size + 1, 1, none⟩) (by simp only; omega) (.slice A9 n9 c9))
                    obtain ⟨s0, s1, s2, s3, s4⟩ := box_facts HBXw3.out
                    clear hown' hgrow hlt' hn9
                    go_wp2
                    exact ⟨⟨j + 1, .slice A9 n9 c9, by omega, by go_num, by rw [HD.out], HE9.out, HB9.out, HQ9.out, HW9.out⟩, by simp [intOf]; omega⟩
                  · have t1 : decide (e1 < p1) = false := decide_eq_false (by omega)
                    have t2 : (p1 == e1) = false := by simp; omega
                    clear hng heq
                    have HN := Lib.hid (gathE_before (e := (e1, e2)) HX.out hjp)
                    have HD := Lib.hid (show decide (placeE es (e1, e2) < j + 1) = false from by simp; omega)
                    have hdn : decide (placeE es (e1, e2) < j) = false := by simp; omega
                    rw [hdn]
                    obtain ⟨l, hl⟩ : ∃ l, l = gathE es (e1, e2) j := ⟨_, rfl⟩
                    rw [← hl] at HO hgl HN
                    clear hl
                    clear hdn
                    have OW := Lib.hid ((HO.out.alloc (.cells #[.int .i64 p1, .int .i64 p2] 122)).alloc (.cells #[.int .i64 p1, .int .i64 p2] 122))
                    go_wp2_with (at_builtin; refine wpList_append_own _ rfl _ _ 23 rfl (w1.heap.size + 2) 122 i0 (.agg #[.int .i64 0, .int .i64 0]) 2 16 Try.underlying23 hI hzz0 hzz1 hzz2 rfl (by decide) _ _ _ rfl OW.out ⟨_, 0, none⟩ 1 1 [.int .i64 p1, .int .i64 p2] rfl rfl ?p1 ?p2 ?p3 ?p4 ?p5 ?_)
                    case p1 => exact two_cells _ _ (by simp) _ _ _
                    case p2 =>
                      intro u hu
                      simp only [List.mem_cons, List.not_mem_nil, or_false] at hu
                      rcases hu with rfl | rfl <;> rfl
                    case p3 => unfold maxLen; omega
                    case p4 => omega
                    case p5 => first | omega | (simp; omega) | (simp [World.setCell]; omega)
                    intro v' w3 hown' hgrow _
                    have HQw3 : Hid (w3.ownsRow (w1.heap.size + 2) 122 2 v' (l ++ [(p1, p2)]).length (flat (l ++ [(p1, p2)]))) := Lib.hid (by
                      rw [flat_app]
                      have h3 := hown'
                      simpa [flat] using h3)
                    have hlt' := (OW.out).lt
                    have HEBw3 := Lib.hid (Blk.grown ((HEB.out.alloc (.cells #[.int .i64 p1, .int .i64 p2] 122)).alloc (.cells #[.int .i64 p1, .int .i64 p2] 122)) hgrow (fun h => by have := (hlt' _ h).1; omega))
                    have HBXw3 := Lib.hid (Blk.grown ((HBX.out.alloc (.cells #[.int .i64 p1, .int .i64 p2] 122)).alloc (.cells #[.int .i64 p1, .int .i64 p2] 122)) hgrow (fun h => by have := (hlt' _ h).1; omega))
                    have HBWw3 := Lib.hid (show Below w1.heap.size w1 w3 from ((HBW.out.alloc hsz (.cells #[.int .i64 p1, .int .i64 p2] 122)).alloc (by simp; omega) (.cells #[.int .i64 p1, .int .i64 p2] 122)).grown hgrow (by first | omega | (simp; omega) | (simp [World.setCell]; omega)) (fun q hq => by have := (hlt' q hq).1; omega))
                    have hszw3 := HBWw3.out.size
                    obtain ⟨A9, c9, hv9, -, -⟩ := ownE_of HQw3.out
                    rw [← HN.out] at HQw3 hv9
                    obtain ⟨n9, hn9⟩ : ∃ n9, n9 = (gathE es (e1, e2) (j + 1)).length := ⟨_, rfl⟩
                    rw [← hn9] at hv9
                    subst hv9
                    have HQ9 := Lib.hid (own_set (X := w1.heap.size + 1) (o := 1) (u := .slice A9 n9 c9) HQw3.out (by omega))
                    have HE9 := Lib.hid (HEBw3.out.far (p := ⟨w1.heap.size + 1, 1, none⟩) (by simp only; omega) (.slice A9 n9 c9))
                    have HB9 := Lib.hid (HBXw3.out.set_ 1 (.slice A9 n9 c9))
                    have HW9 := Lib.hid (Below.setCell (B := w1.heap.size) HBWw3.out (p := ⟨w1.heap.size + 1, 1, none⟩) (by simp only; omega) (.slice A9 n9 c9))
                    obtain ⟨s0, s1, s2, s3, s4⟩ := box_facts HBXw3.out
                    clear hown' hgrow hlt' hn9
                    go_wp2
                    exact ⟨⟨j + 1, .slice A9 n9 c9, by omega, by go_num, by rw [HD.out], HE9.out, HB9.out, HQ9.out, HW9.out⟩, by simp [intOf]; omega⟩
                · have hps := place_at (e := (e1, e2)) (hjp ▸ HX.out)
                  simp only [ltE, Bool.or_eq_true, Bool.and_eq_true, decide_eq_true_eq] at hps
                  by_cases heq : p1 = e1
                  · have t1 : decide (e1 < p1) = false := decide_eq_false (by omega)
                    have t2 : (p1 == e1) = true := by simp; omega
                    have t3 : decide (e2 < p2) = true := decide_eq_true (by omega)
                    clear hps heq
                    have HN := Lib.hid (hjp ▸ gathE_at (e := (e1, e2)) (hjp ▸ HX.out))
                    have HD := Lib.hid (show decide (placeE es (e1, e2) < j + 1) = true from by simp; omega)
                    have hdn : decide (placeE es (e1, e2) < j) = false := by simp; omega
                    rw [hdn]
                    obtain ⟨l, hl⟩ : ∃ l, l = gathE es (e1, e2) j := ⟨_, rfl⟩
                    rw [← hl] at HO hgl HN
                    clear hl
                    clear hdn hjp
                    have OW := Lib.hid ((HO.out.alloc (.cells #[.int .i64 p1, .int .i64 p2] 122)).alloc (.cells #[.int .i64 e1, .int .i64 e2] 122))
                    go_wp2_with (at_builtin; refine wpList_append_own _ rfl _ _ 23 rfl (w1.heap.size + 2) 122 i0 (.agg #[.int .i64 0, .int .i64 0]) 2 16 Try.underlying23 hI hzz0 hzz1 hzz2 rfl (by decide) _ _ _ rfl OW.out ⟨_, 0, none⟩ 1 1 [.int .i64 e1, .int .i64 e2] rfl rfl ?p1 ?p2 ?p3 ?p4 ?p5 ?_)
                    case p1 => exact two_cells _ _ (by simp) _ _ _
                    case p2 =>
                      intro u hu
                      simp only [List.mem_cons, List.not_mem_nil, or_false] at hu
                      rcases hu with rfl | rfl <;> rfl
                    case p3 => unfold maxLen; omega
                    case p4 => omega
                    case p5 => first | omega | (simp; omega) | (simp [World.setCell]; omega)
                    intro v' w3 hown' hgrow _
                    have HQw3 : Hid (w3.ownsRow (w1.heap.size + 2) 122 2 v' (l ++ [(e1, e2)]).length (flat (l ++ [(e1, e2)]))) := Lib.hid (by
                      rw [flat_app]
                      have h3 := hown'
                      simpa [flat] using h3)
                    have hlt' := (OW.out).lt
                    have HEBw3 := Lib.hid (Blk.grown ((HEB.out.alloc (.cells #[.int .i64 p1, .int .i64 p2] 122)).alloc (.cells #[.int .i64 e1, .int .i64 e2] 122)) hgrow (fun h => by have := (hlt' _ h).1; omega))
                    have HBXw3 := Lib.hid (Blk.grown ((HBX.out.alloc (.cells #[.int .i64 p1, .int .i64 p2] 122)).alloc (.cells #[.int .i64 e1, .int .i64 e2] 122)) hgrow (fun h => by have := (hlt' _ h).1; omega))
                    have HXAw3 := Lib.hid (Blk.grown (HXA.out.alloc (.cells #[.int .i64 e1, .int .i64 e2] 122)) hgrow (fun h => by have := (HO.out.lt _ h).2; omega))
                    have HBWw3 := Lib.hid (show Below w1.heap.size w1 w3 from ((HBW.out.alloc hsz (.cells #[.int .i64 p1, .int .i64 p2] 122)).alloc (by simp; omega) (.cells #[.int .i64 e1, .int .i64 e2] 122)).grown hgrow (by first | omega | (simp; omega) | (simp [World.setCell]; omega)) (fun q hq => by have := (hlt' q hq).1; omega))
                    have hszw3 := HBWw3.out.size
                    obtain ⟨A4, c4, hv4, -, -⟩ := ownE_of HQw3.out
                    obtain ⟨n4, hn4⟩ : ∃ n4, n4 = (l ++ [(e1, e2)]).length := ⟨_, rfl⟩
                    rw [← hn4] at hv4
                    have hn5 : n4 ≤ es.length + 2 := by rw [hn4]; simp; omega
                    subst hv4
                    have HQ4 := Lib.hid (own_set (X := w1.heap.size + 1) (o := 1) (u := .slice A4 n4 c4) HQw3.out (by omega))
                    have HE4 := Lib.hid (HEBw3.out.far (p := ⟨w1.heap.size + 1, 1, none⟩) (by simp only; omega) (.slice A4 n4 c4))
                    have HB4 := Lib.hid (HBXw3.out.set_ 1 (.slice A4 n4 c4))
                    have HX4 := Lib.hid (HXAw3.out.far (p := ⟨w1.heap.size + 1, 1, none⟩) (by simp only; omega) (.slice A4 n4 c4))
                    have HW4 := Lib.hid (Below.setCell (B := w1.heap.size) HBWw3.out (p := ⟨w1.heap.size + 1, 1, none⟩) (by simp only; omega) (.slice A4 n4 c4))
                    obtain ⟨s0, s1, s2, s3, s4⟩ := box_facts HBXw3.out
                    have q1 : (w3.setCell ⟨w1.heap.size + 1, 1, none⟩ (.slice A4 n4 c4)).cell? ⟨w1.heap.size + 1, 1, none⟩ = some (.slice A4 n4 c4) := by rw [HB4.out.cell]; rfl
                    have q2 : (w3.setCell ⟨w1.heap.size + 1, 1, none⟩ (.slice A4 n4 c4)).cell? ⟨wr.heap.size, 0, none⟩ = some (.int .i64 p1) := by rw [HX4.out.cell]; rfl
                    have q3 : (w3.setCell ⟨w1.heap.size + 1, 1, none⟩ (.slice A4 n4 c4)).cell? ⟨wr.heap.size, 1, none⟩ = some (.int .i64 p2) := by rw [HX4.out.cell]; rfl
                    have hs4 : (w3.setCell ⟨w1.heap.size + 1, 1, none⟩ (.slice A4 n4 c4)).heap.size = w3.heap.size := by simp [World.setCell]
                    rw [← hn4] at HQ4
                    have HNN := Lib.hid hn4
                    have OW4 := Lib.hid (HQ4.out.alloc (.cells #[.int .i64 p1, .int .i64 p2] 122))
                    clear hown' hgrow hlt' hn4
                    go_wp2_with (at_builtin; refine wpList_append_own _ rfl _ _ 23 rfl (w1.heap.size + 2) 122 i0 (.agg #[.int .i64 0, .int .i64 0]) 2 16 Try.underlying23 hI hzz0 hzz1 hzz2 rfl (by decide) _ _ _ rfl OW4.out ⟨_, 0, none⟩ 1 1 [.int .i64 p1, .int .i64 p2] rfl rfl ?p1 ?p2 ?p3 ?p4 ?p5 ?_)
                    case p1 => exact two_cells _ _ (by simp) _ _ _
                    case p2 =>
                      intro u hu
                      simp only [List.mem_cons, List.not_mem_nil, or_false] at hu
                      rcases hu with rfl | rfl <;> rfl
                    case p3 => unfold maxLen; omega
                    case p4 => omega
                    case p5 => first | omega | (simp; omega) | (simp [World.setCell]; omega)
                    intro v' w5 hown' hgrow _
                    have HQw5 : Hid (w5.ownsRow (w1.heap.size + 2) 122 2 v' ((l ++ [(e1, e2)]) ++ [(p1, p2)]).length (flat ((l ++ [(e1, e2)]) ++ [(p1, p2)]))) := Lib.hid (by
                      rw [flat_app]
                      have h3 := hown'
                      rw [HNN.out] at h3
                      simpa [flat] using h3)
                    have hlt' := (OW4.out).lt
                    have HEBw5 := Lib.hid (Blk.grown (HE4.out.alloc (.cells #[.int .i64 p1, .int .i64 p2] 122)) hgrow (fun h => by have := (hlt' _ h).1; omega))
                    have HBXw5 := Lib.hid (Blk.grown (HB4.out.alloc (.cells #[.int .i64 p1, .int .i64 p2] 122)) hgrow (fun h => by have := (hlt' _ h).1; omega))
                    have HBWw5 := Lib.hid (show Below w1.heap.size w1 w5 from (HW4.out.alloc (by rw [hs4]; omega) (.cells #[.int .i64 p1, .int .i64 p2] 122)).grown hgrow (by first | omega | (simp; omega) | (simp [World.setCell]; omega)) (fun q hq => by have := (hlt' q hq).1; omega))
                    have hszw5 := HBWw5.out.size
                    obtain ⟨A9, c9, hv9, -, -⟩ := ownE_of HQw5.out
                    rw [← HN.out] at HQw5 hv9
                    obtain ⟨n9, hn9⟩ : ∃ n9, n9 = (gathE es (e1, e2) (j + 1)).length := ⟨_, rfl⟩
                    rw [← hn9] at hv9
                    subst hv9
                    have HQ9 := Lib.hid (own_set (X := w1.heap.size + 1) (o := 1) (u := .slice A9 n9 c9) HQw5.out (by omega))
                    have HE9 := Lib.hid (HEBw5.out.far (p := ⟨w1.heap.size + 1, 1, none⟩) (by simp only; omega) (.slice A9 n9 c9))
                    have HB9 := Lib.hid (HBXw5.out.set_ 1 (.slice A9 n9 c9))
                    have HW9 := Lib.hid (Below.setCell (B := w1.heap.size) HBWw5.out (p := ⟨w1.heap.size + 1, 1, none⟩) (by simp only; omega) (.slice A9 n9 c9))
                    clear s0 s1 s2 s3 s4 q1 q2 q3 hs4
                    obtain ⟨s0, s1, s2, s3, s4⟩ := box_facts HBXw5.out
                    clear hown' hgrow hlt' hn9
                    go_wp2
                    exact ⟨⟨j + 1, .slice A9 n9 c9, by omega, by go_num, by rw [HD.out], HE9.out, HB9.out, HQ9.out, HW9.out⟩, by simp [intOf]; omega⟩
                  · have t1 : decide (e1 < p1) = true := decide_eq_true (by omega)
                    clear hps heq
                    have HN := Lib.hid (hjp ▸ gathE_at (e := (e1, e2)) (hjp ▸ HX.out))
                    have HD := Lib.hid (show decide (placeE es (e1, e2) < j + 1) = true from by simp; omega)
                    have hdn : decide (placeE es (e1, e2) < j) = false := by simp; omega
                    rw [hdn]
                    obtain ⟨l, hl⟩ : ∃ l, l = gathE es (e1, e2) j := ⟨_, rfl⟩
                    rw [← hl] at HO hgl HN
                    clear hl
                    clear hdn hjp
                    have OW := Lib.hid ((HO.out.alloc (.cells #[.int .i64 p1, .int .i64 p2] 122)).alloc (.cells #[.int .i64 e1, .int .i64 e2] 122))
                    go_wp2_with (at_builtin; refine wpList_append_own _ rfl _ _ 23 rfl (w1.heap.size + 2) 122 i0 (.agg #[.int .i64 0, .int .i64 0]) 2 16 Try.underlying23 hI hzz0 hzz1 hzz2 rfl (by decide) _ _ _ rfl OW.out ⟨_, 0, none⟩ 1 1 [.int .i64 e1, .int .i64 e2] rfl rfl ?p1 ?p2 ?p3 ?p4 ?p5 ?_)
                    case p1 => exact two_cells _ _ (by simp) _ _ _
                    case p2 =>
                      intro u hu
                      simp only [List.mem_cons, List.not_mem_nil, or_false] at hu
                      rcases hu with rfl | rfl <;> rfl
                    case p3 => unfold maxLen; omega
                    case p4 => omega
                    case p5 => first | omega | (simp; omega) | (simp [World.setCell]; omega)
                    intro v' w3 hown' hgrow _
                    have HQw3 : Hid (w3.ownsRow (w1.heap.size + 2) 122 2 v' (l ++ [(e1, e2)]).length (flat (l ++ [(e1, e2)]))) := Lib.hid (by
                      rw [flat_app]
                      have h3 := hown'
                      simpa [flat] using h3)
                    have hlt' := (OW.out).lt
                    have HEBw3 := Lib.hid (Blk.grown ((HEB.out.alloc (.cells #[.int .i64 p1, .int .i64 p2] 122)).alloc (.cells #[.int .i64 e1, .int .i64 e2] 122)) hgrow (fun h => by have := (hlt' _ h).1; omega))
                    have HBXw3 := Lib.hid (Blk.grown ((HBX.out.alloc (.cells #[.int .i64 p1, .int .i64 p2] 122)).alloc (.cells #[.int .i64 e1, .int .i64 e2] 122)) hgrow (fun h => by have := (hlt' _ h).1; omega))
                    have HXAw3 := Lib.hid (Blk.grown (HXA.out.alloc (.cells #[.int .i64 e1, .int .i64 e2] 122)) hgrow (fun h => by have := (HO.out.lt _ h).2; omega))
                    have HBWw3 := Lib.hid (show Below w1.heap.size w1 w3 from ((HBW.out.alloc hsz (.cells #[.int .i64 p1, .int .i64 p2] 122)).alloc (by simp; omega) (.cells #[.int .i64 e1, .int .i64 e2] 122)).grown hgrow (by first | omega | (simp; omega) | (simp [World.setCell]; omega)) (fun q hq => by have := (hlt' q hq).1; omega))
                    have hszw3 := HBWw3.out.size
                    obtain ⟨A4, c4, hv4, -, -⟩ := ownE_of HQw3.out
                    obtain ⟨n4, hn4⟩ : ∃ n4, n4 = (l ++ [(e1, e2)]).length := ⟨_, rfl⟩
                    rw [← hn4] at hv4
                    have hn5 : n4 ≤ es.length + 2 := by rw [hn4]; simp; omega
                    subst hv4
                    have HQ4 := Lib.hid (own_set (X := w1.heap.size + 1) (o := 1) (u := .slice A4 n4 c4) HQw3.out (by omega))
                    have HE4 := Lib.hid (HEBw3.out.far (p := ⟨w1.heap.size + 1, 1, none⟩) (by simp only; omega) (.slice A4 n4 c4))
                    have HB4 := Lib.hid (HBXw3.out.set_ 1 (.slice A4 n4 c4))
                    have HX4 := Lib.hid (HXAw3.out.far (p := ⟨w1.heap.size + 1, 1, none⟩) (by simp only; omega) (.slice A4 n4 c4))
                    have HW4 := Lib.hid (Below.setCell (B := w1.heap.size) HBWw3.out (p := ⟨w1.heap.size + 1, 1, none⟩) (by simp only; omega) (.slice A4 n4 c4))
                    obtain ⟨s0, s1, s2, s3, s4⟩ := box_facts HBXw3.out
                    have q1 : (w3.setCell ⟨w1.heap.size + 1, 1, none⟩ (.slice A4 n4 c4)).cell? ⟨w1.heap.size + 1, 1, none⟩ = some (.slice A4 n4 c4) := by rw [HB4.out.cell]; rfl
                    have q2 : (w3.setCell ⟨w1.heap.size + 1, 1, none⟩ (.slice A4 n4 c4)).cell? ⟨wr.heap.size, 0, none⟩ = some (.int .i64 p1) := by rw [HX4.out.cell]; rfl
                    have q3 : (w3.setCell ⟨w1.heap.size + 1, 1, none⟩ (.slice A4 n4 c4)).cell? ⟨wr.heap.size, 1, none⟩ = some (.int .i64 p2) := by rw [HX4.out.cell]; rfl
                    have hs4 : (w3.setCell ⟨w1.heap.size + 1, 1, none⟩ (.slice A4 n4 c4)).heap.size = w3.heap.size := by simp [World.setCell]
                    rw [← hn4] at HQ4
                    have HNN := Lib.hid hn4
                    have OW4 := Lib.hid (HQ4.out.alloc (.cells #[.int .i64 p1, .int .i64 p2] 122))
                    clear hown' hgrow hlt' hn4
                    go_wp2_with (at_builtin; refine wpList_append_own _ rfl _ _ 23 rfl (w1.heap.size + 2) 122 i0 (.agg #[.int .i64 0, .int .i64 0]) 2 16 Try.underlying23 hI hzz0 hzz1 hzz2 rfl (by decide) _ _ _ rfl OW4.out ⟨_, 0, none⟩ 1 1 [.int .i64 p1, .int .i64 p2] rfl rfl ?p1 ?p2 ?p3 ?p4 ?p5 ?_)
                    case p1 => exact two_cells _ _ (by simp) _ _ _
                    case p2 =>
                      intro u hu
                      simp only [List.mem_cons, List.not_mem_nil, or_false] at hu
                      rcases hu with rfl | rfl <;> rfl
                    case p3 => unfold maxLen; omega
                    case p4 => omega
                    case p5 => first | omega | (simp; omega) | (simp [World.setCell]; omega)
                    intro v' w5 hown' hgrow _
                    have HQw5 : Hid (w5.ownsRow (w1.heap.size + 2) 122 2 v' ((l ++ [(e1, e2)]) ++ [(p1, p2)]).length (flat ((l ++ [(e1, e2)]) ++ [(p1, p2)]))) := Lib.hid (by
                      rw [flat_app]
                      have h3 := hown'
                      rw [HNN.out] at h3
                      simpa [flat] using h3)
                    have hlt' := (OW4.out).lt
                    have HEBw5 := Lib.hid (Blk.grown (HE4.out.alloc (.cells #[.int .i64 p1, .int .i64 p2] 122)) hgrow (fun h => by have := (hlt' _ h).1; omega))
                    have HBXw5 := Lib.hid (Blk.grown (HB4.out.alloc (.cells #[.int .i64 p1, .int .i64 p2] 122)) hgrow (fun h => by have := (hlt' _ h).1; omega))
                    have HBWw5 := Lib.hid (show Below w1.heap.size w1 w5 from (HW4.out.alloc (by rw [hs4]; omega) (.cells #[.int .i64 p1, .int .i64 p2] 122)).grown hgrow (by first | omega | (simp; omega) | (simp [World.setCell]; omega)) (fun q hq => by have := (hlt' q hq).1; omega))
                    have hszw5 := HBWw5.out.size
                    obtain ⟨A9, c9, hv9, -, -⟩ := ownE_of HQw5.out
                    rw [← HN.out] at HQw5 hv9
                    obtain ⟨n9, hn9⟩ : ∃ n9, n9 = (gathE es (e1, e2) (j + 1)).length := ⟨_, rfl⟩
                    rw [← hn9] at hv9
                    subst hv9
                    have HQ9 := Lib.hid (own_set (X := w1.heap.size + 1) (o := 1) (u := .slice A9 n9 c9) HQw5.out (by omega))
                    have HE9 := Lib.hid (HEBw5.out.far (p := ⟨w1.heap.size + 1, 1, none⟩) (by simp only; omega) (.slice A9 n9 c9))
                    have HB9 := Lib.hid (HBXw5.out.set_ 1 (.slice A9 n9 c9))
                    have HW9 := Lib.hid (Below.setCell (B := w1.heap.size) HBWw5.out (p := ⟨w1.heap.size + 1, 1, none⟩) (by simp only; omega) (.slice A9 n9 c9))
                    clear s0 s1 s2 s3 s4 q1 q2 q3 hs4
                    obtain ⟨s0, s1, s2, s3, s4⟩ := box_facts HBXw5.out
                    clear hown' hgrow hlt' hn9
                    go_wp2
                    exact ⟨⟨j + 1, .slice A9 n9 c9, by omega, by go_num, by rw [HD.out], HE9.out, HB9.out, HQ9.out, HW9.out⟩, by simp [intOf]; omega⟩
                · have HN := Lib.hid (gathE_after (e := (e1, e2)) HX.out hjp)
                  have HD := Lib.hid (show decide (placeE es (e1, e2) < j + 1) = true from by simp; omega)
                  have hdn : decide (placeE es (e1, e2) < j) = true := by simp; omega
                  rw [hdn]
                  obtain ⟨l, hl⟩ : ∃ l, l = gathE es (e1, e2) j := ⟨_, rfl⟩
                  rw [← hl] at HO hgl HN
                  clear hl
                  clear hdn
                  have OW := Lib.hid ((HO.out.alloc (.cells #[.int .i64 p1, .int .i64 p2] 122)).alloc (.cells #[.int .i64 p1, .int .i64 p2] 122))
                  go_wp2_with (at_builtin; refine wpList_append_own _ rfl _ _ 23 rfl (w1.heap.size + 2) 122 i0 (.agg #[.int .i64 0, .int .i64 0]) 2 16 Try.underlying23 hI hzz0 hzz1 hzz2 rfl (by decide) _ _ _ rfl OW.out ⟨_, 0, none⟩ 1 1 [.int .i64 p1, .int .i64 p2] rfl rfl ?p1 ?p2 ?p3 ?p4 ?p5 ?_)
                  case p1 => exact two_cells _ _ (by simp) _ _ _
                  case p2 =>
                    intro u hu
                    simp only [List.mem_cons, List.not_mem_nil, or_false] at hu
                    rcases hu with rfl | rfl <;> rfl
                  case p3 => unfold maxLen; omega
                  case p4 => omega
                  case p5 => first | omega | (simp; omega) | (simp [World.setCell]; omega)
                  intro v' w3 hown' hgrow _
                  have HQw3 : Hid (w3.ownsRow (w1.heap.size + 2) 122 2 v' (l ++ [(p1, p2)]).length (flat (l ++ [(p1, p2)]))) := Lib.hid (by
                    rw [flat_app]
                    have h3 := hown'
                    simpa [flat] using h3)
                  have hlt' := (OW.out).lt
                  have HEBw3 := Lib.hid (Blk.grown ((HEB.out.alloc (.cells #[.int .i64 p1, .int .i64 p2] 122)).alloc (.cells #[.int .i64 p1, .int .i64 p2] 122)) hgrow (fun h => by have := (hlt' _ h).1; omega))
                  have HBXw3 := Lib.hid (Blk.grown ((HBX.out.alloc (.cells #[.int .i64 p1, .int .i64 p2] 122)).alloc (.cells #[.int .i64 p1, .int .i64 p2] 122)) hgrow (fun h => by have := (hlt' _ h).1; omega))
                  have HBWw3 := Lib.hid (show Below w1.heap.size w1 w3 from ((HBW.out.alloc hsz (.cells #[.int .i64 p1, .int .i64 p2] 122)).alloc (by simp; omega) (.cells #[.int .i64 p1, .int .i64 p2] 122)).grown hgrow (by first | omega | (simp; omega) | (simp [World.setCell]; omega)) (fun q hq => by have := (hlt' q hq).1; omega))
                  have hszw3 := HBWw3.out.size
                  obtain ⟨A9, c9, hv9, -, -⟩ := ownE_of HQw3.out
                  rw [← HN.out] at HQw3 hv9
                  obtain ⟨n9, hn9⟩ : ∃ n9, n9 = (gathE es (e1, e2) (j + 1)).length := ⟨_, rfl⟩
                  rw [← hn9] at hv9
                  subst hv9
                  have HQ9 := Lib.hid (own_set (X := w1.heap.size + 1) (o := 1) (u := .slice A9 n9 c9) HQw3.out (by omega))
                  have HE9 := Lib.hid (HEBw3.out.far (p := ⟨w1.heap.size + 1, 1, none⟩) (by simp only; omega) (.slice A9 n9 c9))
                  have HB9 := Lib.hid (HBXw3.out.set_ 1 (.slice A9 n9 c9))
                  have HW9 := Lib.hid (Below.setCell (B := w1.heap.size) HBWw3.out (p := ⟨w1.heap.size + 1, 1, none⟩) (by simp only; omega) (.slice A9 n9 c9))
                  obtain ⟨s0, s1, s2, s3, s4⟩ := box_facts HBXw3.out
                  clear hown' hgrow hlt' hn9
                  go_wp2
                  exact ⟨⟨j + 1, .slice A9 n9 c9, by omega, by go_num, by rw [HD.out], HE9.out, HB9.out, HQ9.out, HW9.out⟩, by simp [intOf]; omega⟩
              · have hjn : j = es.length := by omega
                subst hjn
                have hple := placeE_le es (e1, e2)
                have HR := Lib.hid (HB2.out.below HBW.out hl2)
                have hbz := hb1.trans (HBW.out.mono hb1.size)
                obtain ⟨r0, r1, r2, r3, r4⟩ := box_facts HR.out
                by_cases hpl : placeE es (e1, e2) < es.length
                · have hdn : decide (placeE es (e1, e2) < es.length) = true := decide_eq_true hpl
                  rw [hdn]
                  have hO2 := HO.out
                  rw [gathE_end1 hpl] at hO2
                  obtain ⟨A9, c9, hv9, hOE, hrg⟩ := ownE_of hO2
                  have HRG := Lib.hid hrg
                  have HOE := Lib.hid hOE
                  have HLN := Lib.hid (insE_len es (e1, e2))
                  subst hv9
                  obtain ⟨n9, hn9⟩ : ∃ n9, n9 = (insE es (e1, e2)).length := ⟨_, rfl⟩
                  rw [← hn9] at x1
                  have HN9 := Lib.hid hn9
                  clear hO2 hOE hrg hdn hpl HO HBX hn9
                  go_wp2
                  obtain ⟨W6, hW6⟩ : ∃ W6 : World, W6 = ((wr.setCell ⟨w.heap.size + 1, 0, none⟩ (.int .i64 N)).setCell ⟨w.heap.size + 1, 1, none⟩ (.slice A9 n9 c9)) := ⟨_, rfl⟩
                  rw [← hW6]
                  have hb9 : Blk W6 (w.heap.size + 1) 25 #[.int .i64 N, .slice A9 n9 c9] := by rw [hW6]; exact (HR.out.set_ 0 _).set_ 1 _
                  have hbA : Below w.heap.size w W6 := by rw [hW6]; exact hbz.trans (below_two (by omega) _ _)
                  have hsz6 : wr.heap.size ≤ W6.heap.size := by rw [hW6]; simp [World.setCell]
                  have hoA : OwnEK W6 (w1.heap.size + 2) A9 (insE es (e1, e2)) := by rw [hW6]; exact ownE_far HOE.out (by omega) _ _
                  obtain ⟨z0, z1, z2, z3, z4⟩ := box_facts hb9
                  refine bodyPost_ret (v := .tuple #[.agg #[.int .i64 N, .slice A9 n9 c9], .bool true]) (by simp [results, Try.results132, go_sem, z0, z1]) rfl ⟨A9, c9, by rw [E1.out, E2.out, HK.out, HN9.out], by rw [E2.out]; exact hoA.mono (by omega), (fun g off e => ⟨by have := (HRG.out g off e).1; omega, by have := (HRG.out g off e).2; have := hsz6; omega⟩), hbA⟩
                · have hpq : placeE es (e1, e2) = es.length := by omega
                  have hdn : decide (placeE es (e1, e2) < es.length) = false := decide_eq_false hpl
                  rw [hdn]
                  have HN := Lib.hid (gathE_end2 hpq)
                  obtain ⟨l, hl⟩ : ∃ l, l = gathE es (e1, e2) es.length := ⟨_, rfl⟩
                  rw [← hl] at HO hgl HN
                  have HLN := Lib.hid (insE_len es (e1, e2))
                  clear hl hdn hpl
                  have OW := Lib.hid (HO.out.alloc (.cells #[.int .i64 e1, .int .i64 e2] 122))
                  go_wp2_with (at_builtin; refine wpList_append_own _ rfl _ _ 23 rfl (w1.heap.size + 2) 122 i0 (.agg #[.int .i64 0, .int .i64 0]) 2 16 Try.underlying23 hI hzz0 hzz1 hzz2 rfl (by decide) _ _ _ rfl OW.out ⟨_, 0, none⟩ 1 1 [.int .i64 e1, .int .i64 e2] rfl rfl ?p1 ?p2 ?p3 ?p4 ?p5 ?_)
                  case p1 => exact two_cells _ _ (by simp) _ _ _
                  case p2 =>
                    intro u hu
                    simp only [List.mem_cons, List.not_mem_nil, or_false] at hu
                    rcases hu with rfl | rfl <;> rfl
                  case p3 => unfold maxLen; omega
                  case p4 => omega
                  case p5 => first | omega | (simp; omega) | (simp [World.setCell]; omega)
                  intro v' w3 hown' hgrow _
                  have HQw3 : Hid (w3.ownsRow (w1.heap.size + 2) 122 2 v' (l ++ [(e1, e2)]).length (flat (l ++ [(e1, e2)]))) := Lib.hid (by
                    rw [flat_app]
                    have h3 := hown'
                    simpa [flat] using h3)
                  have hlt' := (OW.out).lt
                  have HBXw3 := Lib.hid (Blk.grown (HBX.out.alloc (.cells #[.int .i64 e1, .int .i64 e2] 122)) hgrow (fun h => by have := (hlt' _ h).1; omega))
                  have HRRw3 := Lib.hid (Blk.grown (HR.out.alloc (.cells #[.int .i64 e1, .int .i64 e2] 122)) hgrow (fun h => by have := (hlt' _ h).1; omega))
                  have HBWw3 := Lib.hid (show Below w1.heap.size w1 w3 from (HBW.out.alloc hsz (.cells #[.int .i64 e1, .int .i64 e2] 122)).grown hgrow (by first | omega | (simp; omega) | (simp [World.setCell]; omega)) (fun q hq => by have := (hlt' q hq).1; omega))
                  have hszw3 := HBWw3.out.size
                  rw [HN.out] at HQw3
                  obtain ⟨A9, c9, hv9, hOE, hrg⟩ := ownE_of HQw3.out
                  obtain ⟨n9, hn9⟩ : ∃ n9, n9 = (insE es (e1, e2)).length := ⟨_, rfl⟩
                  rw [← hn9] at hv9
                  have HN9 := Lib.hid hn9
                  subst hv9
                  have HRG := Lib.hid hrg
                  have HOE := Lib.hid (ownE_far1 hOE (X := w1.heap.size + 1) (by omega) 1 (.slice A9 n9 c9))
                  have HB4 := Lib.hid (HBXw3.out.set_ 1 (.slice A9 n9 c9))
                  have HR4 := Lib.hid (HRRw3.out.far (p := ⟨w1.heap.size + 1, 1, none⟩) (by simp only; omega) (.slice A9 n9 c9))
                  have HW4 := Lib.hid (Below.setCell (B := w1.heap.size) HBWw3.out (p := ⟨w1.heap.size + 1, 1, none⟩) (by simp only; omega) (.slice A9 n9 c9))
                  obtain ⟨s0, s1, s2, s3, s4⟩ := box_facts HBXw3.out
                  have q0 : (w3.setCell ⟨w1.heap.size + 1, 1, none⟩ (.slice A9 n9 c9)).cell? ⟨w1.heap.size + 1, 0, none⟩ = some (.int .i64 N) := by rw [HB4.out.cell]; rfl
                  have q1 : (w3.setCell ⟨w1.heap.size + 1, 1, none⟩ (.slice A9 n9 c9)).cell? ⟨w1.heap.size + 1, 1, none⟩ = some (.slice A9 n9 c9) := by rw [HB4.out.cell]; rfl
                  obtain ⟨u0, u1, u2, u3, u4⟩ := box_facts HR4.out
                  have hbz2 := hb1.trans (HW4.out.mono hb1.size)
                  clear hown' hgrow hlt' hOE hrg hn9 r0 r1 r2 r3 x0 x1 x2 x3
                  go_wp2
                  obtain ⟨W6, hW6⟩ : ∃ W6 : World, W6 = (((w3.setCell ⟨w1.heap.size + 1, 1, none⟩ (.slice A9 n9 c9)).setCell ⟨w.heap.size + 1, 0, none⟩ (.int .i64 N)).setCell ⟨w.heap.size + 1, 1, none⟩ (.slice A9 n9 c9)) := ⟨_, rfl⟩
                  rw [← hW6]
                  have hb9 : Blk W6 (w.heap.size + 1) 25 #[.int .i64 N, .slice A9 n9 c9] := by rw [hW6]; exact (HR4.out.set_ 0 _).set_ 1 _
                  have hbA : Below w.heap.size w W6 := by rw [hW6]; exact hbz2.trans (below_two (by omega) _ _)
                  have hsz6 : w3.heap.size ≤ W6.heap.size := by rw [hW6]; simp [World.setCell]
                  have hoA : OwnEK W6 (w1.heap.size + 2) A9 (insE es (e1, e2)) := by rw [hW6]; exact ownE_far HOE.out (by omega) _ _
                  obtain ⟨z0, z1, z2, z3, z4⟩ := box_facts hb9
                  refine bodyPost_ret (v := .tuple #[.agg #[.int .i64 N, .slice A9 n9 c9], .bool true]) (by simp [results, Try.results132, go_sem, z0, z1]) rfl ⟨A9, c9, by rw [E1.out, E2.out, HK.out, HN9.out], by rw [E2.out]; exact hoA.mono (by omega), (fun g off e => ⟨by have := (HRG.out g off e).1; omega, by have := (HRG.out g off e).2; have := hsz6; omega⟩), hbA⟩
structure DrZ (w wz : World) (gc : Nat) (A : Option Addr) (n c X P B : Nat) (NI : Int) (V : Value) (A8 : Option Addr) (c8 : Nat) (L : List (Int × Int)) : Prop where
  dr : DrW w wz gc A n c
  hx : Blk wz X 25 #[.int .i64 NI, V]
  bx : Blk wz P 25 #[.int .i64 NI, .slice A8 L.length c8]
  ow : OwnEK wz B A8 L
  lt : X < B
theorem DrZ.box {w w8 : World} {gc n c X P B : Nat} {A A8 : Option Addr} {NI : Int} {V u v : Value} {c8 : Nat} {L : List (Int × Int)} (hd : DrW w w8 gc A n c) (hx : Blk w8 X 25 #[.int .i64 NI, V]) (hb : Blk w8 P 25 #[u, v]) (ho : OwnEK w8 B A8 L)
    (hgc : gc < w.heap.size) (h1 : w.heap.size < P) (h2 : X < P) (h3 : P < B) : DrZ w ((w8.setCell ⟨P, 0, none⟩ (.int .i64 NI)).setCell ⟨P, 1, none⟩ (.slice A8 L.length c8)) gc A n c X P B NI V A8 c8 L :=
  ⟨(hd.store h1 hgc _).store h1 hgc _, (hx.far (p := ⟨P, 0, none⟩) (by simp only; omega) _).far (p := ⟨P, 1, none⟩) (by simp only; omega) _, (hb.set_ 0 _).set_ 1 _, ownE_far ho h3 _ _, by omega⟩
theorem DrZ.new {w w8 : World} {gc n c X B : Nat} {A A8 : Option Addr} {NI : Int} {V : Value} {c8 : Nat} {L : List (Int × Int)} (hd : DrW w w8 gc A n c) (hx : Blk w8 X 25 #[.int .i64 NI, V]) (ho : OwnEK w8 B A8 L) (h2 : X < B) :
    DrZ w (w8.alloc (.cells #[.int .i64 NI, .slice A8 L.length c8] 25)) gc A n c X w8.heap.size B NI V A8 c8 L :=
  ⟨hd.next ((Below.refl _ _).alloc (Nat.le_refl _) _), hx.alloc _, Blk.new w8 _ _, ho.below ((Below.refl _ _).alloc (Nat.le_refl _) _), h2⟩
def GivesGraph (w : World) (gc m : Nat) (A0 : Option Addr) (n0 c0 : Nat) (e : Ending) (w' : World) : Prop :=
  ∃ (M : Nat) (A : Option Addr) (c : Nat) (es : List (Int × Int)), e = .returned (.agg #[.int .i64 (M : Int), .slice A es.length c]) ∧ 2 ≤ M ∧ M ≤ m ∧ es.length ≤ m + 3 ∧ graphB (M : Int) es = true ∧ OwnEK w' (w.heap.size + 1) A es ∧ Cur w' gc A0 n0 c0 ∧ Below gc w w' ∧ ∀ k, k ≠ gc → k < w.heap.size → w'.heap[k]? = w.heap[k]?

set_option maxRecDepth 100000 in
set_option maxHeartbeats 8000000 in
theorem l02Draw_any (w : World) (gc m : Nat) (hm4 : 4 ≤ m) (hm5 : m ≤ 5) (A0 : Option Addr) (c0 : Nat) (xs : List Int) (hx : xs.length ≤ 1048576) (hC : Cur w gc A0 xs.length c0) (hS : CodeS w gc A0 xs) :
    Calls Try.prog 97 #[.pointer (some ⟨gc, 0, none⟩), .int .i64 (m : Int)] w (GivesGraph w gc m A0 xs.length c0) := by
  obtain ⟨i0, hI, hzz0, hzz1, hzz2⟩ := info_parts edgeInfo
  have hgc := hC.lt
  have HS := Lib.hid hS
  have LB := fun (m : Int) (h0 : 1 ≤ m) (h1 : m ≤ 256) (w' : World) (hd : Cur w' gc A0 xs.length c0) (ho : Below gc w w') => Lib.hid (l01Below_any m h0 h1 w' gc A0 c0 xs hx hd (hS.keep ho))
  obtain ⟨W0, hW0⟩ : ∃ X : World, X = (w.alloc (Obj.cells #[.int .i64 0, .slice none 0 0] 25)).alloc (Obj.cells #[.int .i64 1, .slice none 0 0] 25) := ⟨_, rfl⟩
  have hd0 : DrW w W0 gc A0 xs.length c0 := by
    have hb0 : Below w.heap.size w W0 := by rw [hW0]; exact ((Below.refl _ _).alloc (Nat.le_refl _) _).alloc (by simp) _
    exact ⟨hC.below hb0, hb0.mono (Nat.le_of_lt hgc), by rw [hW0]; exact (Blk.new w _ _).alloc _, fun k _ hk => hb0.block k hk⟩
  have hg0 : Blk W0 (w.heap.size + 1) 25 #[.int .i64 1, .slice none 0 0] := by
    have h := Blk.new (w.alloc (Obj.cells #[.int .i64 0, .slice none 0 0] 25)) 25 #[.int .i64 1, .slice none 0 0]
    rw [World.size_alloc, ← hW0] at h
    exact h
  have HD0 := Lib.hid hd0
  have HG0 := Lib.hid hg0
  have HW0 := Lib.hid hW0
  have HB0 := LB ((m : Int) - 1) (by omega) (by omega) W0 hd0.cur hd0.old
  have hmi4 : (4 : Int) ≤ (m : Int) := by omega
  have hmi5 : (m : Int) ≤ 5 := by omega
  clear hS hC hW0 hd0 hg0
  go_enter Try.func97, Try.ntmps97
  go_wp2_with fail
  rw [← HW0.out]
  refine HB0.out.mono ?_
  rintro e w1 ⟨x, rfl, hx0, hx1, hC1, hb1, hf1⟩
  obtain ⟨N, hN⟩ : ∃ N : Nat, (N : Int) = 2 + x := ⟨(2 + x).toNat, by omega⟩
  have HD1 := Lib.hid (HD0.out.drawn hgc hC1 hb1 hf1)
  have HG1 := Lib.hid (show Blk w1 (w.heap.size + 1) 25 #[.int .i64 1, .slice none 0 0] from (hf1 _ (by omega)).trans HG0.out)
  have hN2 : 2 ≤ N := by omega
  have hNm : N ≤ m := by omega
  have hN5 : N ≤ 5 := by omega
  clear hC1 hb1 hf1 HB0 HD0 HG0 HW0
  go_wp2
  rw [← hN]
  clear hN hx0 hx1
  go_loopw [7, 8] (fun v _ wr => ∃ (k : Nat) (l : List (Int × Int)) (V : Value), v = .int .i64 k ∧ k ≤ N ∧ l.length + 1 = k ∧ TreeL l ∧ DrW w wr gc A0 xs.length c0 ∧ Blk wr (w.heap.size + 1) 25 #[.int .i64 k, V] ∧ wr.ownsRow (w.heap.size + 2) 122 2 V l.length (flat l)) (fun v _ _ => N - (intOf v).toNat)
  case atStart => exact ⟨1, [], _, rfl, by omega, rfl, TreeL.nil, HD1.out, HG1.out, ⟨rfl, .inl ⟨rfl, rfl⟩⟩⟩
  case round =>
    clear HD1 HG1
    obtain ⟨k, l, V, rfl, hk, hlk, htr, hdr, hgb, hown⟩ := hrel
    have HT := Lib.hid htr
    have HD := Lib.hid hdr
    have HG := Lib.hid hgb
    have HO := Lib.hid hown
    have hgl := hgb.lt
    have hf0 := hgb.frozen 0
    obtain ⟨x0, x1, x2, x3, x4⟩ := box_facts hgb
    clear htr hdr hgb hown
    by_cases hlt : k < N
    · have hk0 : (0 : Int) ≤ (k : Int) := Int.natCast_nonneg _
      have hk1 : (k : Int) < (N : Int) := by omega
      have hN6 : (N : Int) ≤ 5 := by omega
      have hlen : (k : Int) = (l.length : Int) + 1 := by omega
      have HLK := Lib.hid hlen
      have HLL := Lib.hid hlk
      have HD2 := Lib.hid (HD.out.store (X := w.heap.size + 1) (o := 0) (by omega) hgc (.int .i64 ((k : Int) + 1)))
      have HG2 := Lib.hid (HG.out.set_ 0 (.int .i64 ((k : Int) + 1)))
      have HO2 := Lib.hid (own_set (X := w.heap.size + 1) (o := 0) (u := .int .i64 ((k : Int) + 1)) HO.out (by omega))
      have HB := LB (k : Int) (by omega) (by omega) _ HD2.out.cur HD2.out.old
      have hkk : k ≤ 4 := by omega
      have hll : l.length ≤ 4 := by omega
      clear hlen hlk
      go_wp2_with fail
      refine HB.out.mono ?_
      rintro e w2 ⟨x, rfl, hx0, hx1, hC2, hb2, hf2⟩
      have HD3 := Lib.hid (HD2.out.drawn hgc hC2 hb2 hf2)
      have hg3 : Blk w2 (w.heap.size + 1) 25 #[.int .i64 ((k : Int) + 1), V] := (hf2 _ (by omega)).trans HG2.out
      have HO3 := Lib.hid (own_keep2 HO2.out (fun g hg _ => hf2 g (by omega)))
      obtain ⟨s0, s1, s2, s3, s4⟩ := box_facts hg3
      have HG3 := Lib.hid hg3
      clear hC2 hb2 hf2 hg3 HB HD2 HG2 HO2 x0 x1 x2 x3 x4 hf0
      have OW := Lib.hid ((HO3.out.alloc (.cells #[.int .i64 x, .int .i64 (k : Int)] 122)).alloc (.cells #[.int .i64 x, .int .i64 (k : Int)] 122))
      go_wp2_with (at_builtin; refine wpList_append_own _ rfl _ _ 23 rfl (w.heap.size + 2) 122 i0 (.agg #[.int .i64 0, .int .i64 0]) 2 16 Try.underlying23 hI hzz0 hzz1 hzz2 rfl (by decide) _ _ _ rfl OW.out ⟨_, 0, none⟩ 1 1 [.int .i64 x, .int .i64 (k : Int)] rfl rfl ?p1 ?p2 ?p3 ?p4 ?p5 ?_)
      case p1 => exact two_cells _ _ (by simp) _ _ _
      case p2 =>
        intro u hu
        simp only [List.mem_cons, List.not_mem_nil, or_false] at hu
        rcases hu with rfl | rfl <;> rfl
      case p3 => unfold maxLen; omega
      case p4 => omega
      case p5 => simp; omega
      intro v' w3 hown' hgrow _
      have HQ : Hid (w3.ownsRow (w.heap.size + 2) 122 2 v' (l ++ [(x, (k : Int))]).length (flat (l ++ [(x, (k : Int))]))) := Lib.hid (by
        rw [flat_app]
        have h3 := hown'
        simpa [flat] using h3)
      have hlt' := (OW.out).lt
      have hbg : Below w2.heap.size w2 ((w2.alloc (.cells #[.int .i64 x, .int .i64 (k : Int)] 122)).alloc (.cells #[.int .i64 x, .int .i64 (k : Int)] 122)) := ((Below.refl _ _).alloc (Nat.le_refl _) _).alloc (by simp) _
      have hd4 : DrW w w3 gc A0 xs.length c0 := by
        have h1 := HD3.out.next hbg
        have hsz := hgrow.size
        have hcl := h1.cur.lt
        have hrl := h1.res.lt
        refine ⟨h1.cur.keep (hgrow.block gc hcl (fun h => by have := (hlt' _ h.symm).1; omega)), h1.old.grown hgrow (by omega) (fun q hq => by have := (hlt' q hq).1; omega), ?_, ?_⟩
        · exact (hgrow.block _ hrl (fun h => by have := (hlt' _ h.symm).1; omega)).trans h1.res
        · exact fun k hk1 hk2 => (hgrow.block k (Nat.lt_of_lt_of_le hk2 h1.old.size) (fun h => by have := (hlt' _ h.symm).1; omega)).trans (h1.kep k hk1 hk2)
      have hg4 : Blk w3 (w.heap.size + 1) 25 #[.int .i64 ((k : Int) + 1), V] := Blk.grown (HG3.out.below hbg HG3.out.lt) hgrow (fun h => by have := (hlt' _ h).1; omega)
      obtain ⟨A9, c9, hv9, -, -⟩ := ownE_of HQ.out
      obtain ⟨n9, hn9⟩ : ∃ n9, n9 = (l ++ [(x, (k : Int))]).length := ⟨_, rfl⟩
      rw [← hn9] at hv9
      subst hv9
      have HT4 := Lib.hid (show TreeL (l ++ [(x, (k : Int))]) from by
        have h := HT.out.push hx0 (by have := HLK.out; omega)
        rwa [← HLK.out] at h)
      have HD4 := Lib.hid (hd4.store (X := w.heap.size + 1) (o := 1) (by omega) hgc (.slice A9 n9 c9))
      have HG4 := Lib.hid (hg4.set_ 1 (.slice A9 n9 c9))
      have HO4 := Lib.hid (own_set (X := w.heap.size + 1) (o := 1) (u := .slice A9 n9 c9) HQ.out (by omega))
      obtain ⟨z0, z1, z2, z3, z4⟩ := box_facts hg4
      clear hown' hgrow hlt' hbg hd4 hg4 hn9
      go_wp2
      exact ⟨⟨k + 1, l ++ [(x, (k : Int))], .slice A9 n9 c9, by go_num, by omega, by have := HLL.out; simp; omega, HT4.out, HD4.out, HG4.out, HO4.out⟩, by simp [intOf]; omega⟩
    · have hkN : k = N := by omega
      have hnl : ¬ ((k : Int) < (N : Int)) := by omega
      obtain ⟨Ag, cg, hV, hOE, -⟩ := ownE_of HO.out
      have hgN : Blk wr (w.heap.size + 1) 25 #[.int .i64 (N : Int), .slice Ag l.length cg] := by rw [← hkN, ← hV]; exact HG.out
      obtain ⟨w3, rfl⟩ : ∃ x : World, x = wr := ⟨_, rfl⟩
      have HGN := Lib.hid hgN
      have HOE := Lib.hid hOE
      have hlN : (l.length : Int) + 1 = (N : Int) := by omega
      have HLN := Lib.hid hlN
      have hl4 : l.length ≤ 4 := by omega
      have hlm : l.length + 1 ≤ m := by omega
      have hs3 : w.heap.size + 2 ≤ w3.heap.size := by omega
      have MU := fun (a b : Nat) (w' : World) (ha : a < b) (hb : b < N) (hbl : Below w3.heap.size w3 w') => Lib.hid (show Calls Try.prog 119 #[.agg #[.int .i64 (N : Int), .slice Ag l.length cg], .int .i64 (a : Int), .int .i64 (b : Int)] w' (fun e w'' => e = .returned (.int .i64 (if ((a : Int), (b : Int)) ∈ l then 1 else 0)) ∧ Below w'.heap.size w' w'') from by
        have h := specMultU (N : Int) Ag cg l (a : Int) (b : Int) w' (by omega) (((hOE.below hbl).edges))
        rw [multB_yes (vB_t (by omega)) (vB_t (by omega)) (by omega), Int.min_eq_left (by omega), Int.max_eq_right (by omega), nodup_count HT.out.nodup] at h
        refine h.mono ?_
        rintro e w'' ⟨rfl, hb2⟩
        refine ⟨?_, hb2⟩
        split <;> rfl)
      clear hOE hgN hV hkN hlk hlN HO HG x0 x1 x2 x3 x4 hf0 hk
      go_wp2
      obtain ⟨W3, hW3⟩ : ∃ X : World, X = w3.alloc (Obj.cells #[.int .i64 (N : Int), .slice none 0 0] 25) := ⟨_, rfl⟩
      have hb3 : Below w3.heap.size w3 W3 := by rw [hW3]; exact (Below.refl _ _).alloc (Nat.le_refl _) _
      have hh3 : Blk W3 w3.heap.size 25 #[.int .i64 (N : Int), .slice none 0 0] := by rw [hW3]; exact Blk.new w3 _ _
      have HW3 := Lib.hid hW3
      have HB3 := Lib.hid hb3
      have HH3 := Lib.hid hh3
      clear hW3 hb3 hh3
      go_loopw [10, 11, 12] (fun a _ _ wr => ∃ (k : Nat) (hs : List (Int × Int)) (V : Value), a = .int .i64 k ∧ k ≤ N ∧ Upto l hs (k : Int) ((k : Int) + 1) ∧ Blk wr w3.heap.size 25 #[.int .i64 (N : Int), V] ∧ wr.ownsRow (w3.heap.size + 1) 122 2 V hs.length (flat hs) ∧ Below w3.heap.size w3 wr) (fun a _ _ _ => N - (intOf a).toNat)
      case atStart =>
        rw [← HW3.out]
        exact ⟨0, [], _, rfl, Nat.zero_le _, Upto.start HT.out, HH3.out, ⟨rfl, .inl ⟨rfl, rfl⟩⟩, HB3.out⟩
      case round =>
        clear HW3 HB3 HH3
        obtain ⟨k2, hs, V2, rfl, hk2, hup, hhb, hown, hbw⟩ := hrel
        have HU := Lib.hid hup
        have HH := Lib.hid hhb
        have HO := Lib.hid hown
        have HB := Lib.hid hbw
        clear hup hhb hown hbw
        by_cases hlt2 : k2 < N
        · have hk0 : (0 : Int) ≤ (k2 : Int) := Int.natCast_nonneg _
          have hk1 : (k2 : Int) < (N : Int) := by omega
          have hN6 : (N : Int) ≤ 5 := by omega
          obtain ⟨wo, rfl⟩ : ∃ wo : World, wo = wr := ⟨_, rfl⟩
          go_wp2
          go_loopw [11, 12] (fun b _ wr => ∃ (j : Nat) (hs : List (Int × Int)) (V : Value), b = .int .i64 j ∧ k2 < j ∧ j ≤ N ∧ Upto l hs (k2 : Int) (j : Int) ∧ Blk wr w3.heap.size 25 #[.int .i64 (N : Int), V] ∧ wr.ownsRow (w3.heap.size + 1) 122 2 V hs.length (flat hs) ∧ Below w3.heap.size w3 wr) (fun b _ _ => N - (intOf b).toNat)
          case atStart => exact ⟨k2 + 1, hs, V2, by go_num, by omega, by omega, by have := HU.out; rwa [show ((k2 + 1 : Nat) : Int) = (k2 : Int) + 1 by omega], HH.out, HO.out, HB.out⟩
          case round =>
            clear HU HH HO HB
            obtain ⟨j, hs, V, rfl, hkj, hj, hup, hhb, hown, hbw⟩ := hrel
            have HU := Lib.hid hup
            have HH := Lib.hid hhb
            have HO := Lib.hid hown
            have HB := Lib.hid hbw
            have hg3 := HGN.out.below hbw HGN.out.lt
            obtain ⟨x0, x1, x2, x3, x4⟩ := box_facts hg3
            clear hup hhb hown hg3
            by_cases hlt3 : j < N
            · have hj0 : (0 : Int) ≤ (j : Int) := Int.natCast_nonneg _
              have hj1 : (j : Int) < (N : Int) := by omega
              have HM := MU k2 j wr hkj hlt3 hbw
              obtain ⟨wp, rfl⟩ : ∃ wp : World, wp = wr := ⟨_, rfl⟩
              clear hbw
              go_wp2_with fail
              refine HM.out.mono ?_
              rintro e w4 ⟨rfl, hb4⟩
              obtain ⟨z0, hz0⟩ : ∃ z0 : Int, z0 = if ((k2 : Int), (j : Int)) ∈ l then 1 else 0 := ⟨_, rfl⟩
              rw [← hz0]
              have HZ := Lib.hid (show (z0 = 1 ∧ ((k2 : Int), (j : Int)) ∈ l ∧ Upto l hs (k2 : Int) (j : Int)) ∨ (z0 = 0 ∧ Upto l hs (k2 : Int) ((j : Int) + 1)) from by
                by_cases hm : ((k2 : Int), (j : Int)) ∈ l
                · exact .inl ⟨by rw [hz0, if_pos hm], hm, HU.out⟩
                · exact .inr ⟨by rw [hz0, if_neg hm], HU.out.skip hm⟩)
              have HH4 := Lib.hid (HH.out.below hb4 HH.out.lt)
              have HO4 := Lib.hid (own_keep2 HO.out (fun g _ hg => hb4.block g hg))
              have HB4 := Lib.hid (HB.out.trans (hb4.mono HB.out.size))
              clear hb4 hz0 HM x0 x1 x2 x3 x4 HU HH HO HB
              go_wp2
              go_loopw [12] (fun c wr => ∃ (z : Int) (hs : List (Int × Int)) (V : Value), c = .int .i64 z ∧ ((z = 1 ∧ ((k2 : Int), (j : Int)) ∈ l ∧ Upto l hs (k2 : Int) (j : Int)) ∨ (z = 0 ∧ Upto l hs (k2 : Int) ((j : Int) + 1))) ∧ Blk wr w3.heap.size 25 #[.int .i64 (N : Int), V] ∧ wr.ownsRow (w3.heap.size + 1) 122 2 V hs.length (flat hs) ∧ Below w3.heap.size w3 wr) (fun c _ => (intOf c).toNat)
              case atStart => exact ⟨z0, hs, V, rfl, HZ.out, HH4.out, HO4.out, HB4.out⟩
              case round =>
                clear HZ HH4 HO4 HB4
                obtain ⟨z, hs, V, rfl, hzz, hhb, hown, hbw⟩ := hrel
                have HH := Lib.hid hhb
                have HO := Lib.hid hown
                have HB := Lib.hid hbw
                have hsz := hbw.size
                obtain ⟨x0, x1, x2, x3, x4⟩ := box_facts hhb
                clear hhb hown hbw
                rcases hzz with ⟨rfl, hm, hup⟩ | ⟨rfl, hup⟩
                · have HU := Lib.hid (hup.take hm)
                  have hhl := hup.len
                  have OW := Lib.hid (own_keep2 (w' := wr.alloc (.cells #[.int .i64 (k2 : Int), .int .i64 (j : Int)] 122)) HO.out (fun g _ hg => Below.heap_alloc _ _ g hg))
                  clear hm hup
                  go_wp2_with (at_builtin; refine wpList_append_own _ rfl _ _ 23 rfl (w3.heap.size + 1) 122 i0 (.agg #[.int .i64 0, .int .i64 0]) 2 16 Try.underlying23 hI hzz0 hzz1 hzz2 rfl (by decide) _ _ _ rfl OW.out ⟨_, 0, none⟩ 1 1 [.int .i64 (k2 : Int), .int .i64 (j : Int)] rfl rfl ?p1 ?p2 ?p3 ?p4 ?p5 ?_)
                  case p1 => exact two_cells _ _ (by simp) _ _ _
                  case p2 =>
                    intro u hu
                    simp only [List.mem_cons, List.not_mem_nil, or_false] at hu
                    rcases hu with rfl | rfl <;> rfl
                  case p3 => unfold maxLen; omega
                  case p4 => omega
                  case p5 => simp; omega
                  intro v' w5 hown' hgrow _
                  have HQ : Hid (w5.ownsRow (w3.heap.size + 1) 122 2 v' (hs ++ [((k2 : Int), (j : Int))]).length (flat (hs ++ [((k2 : Int), (j : Int))]))) := Lib.hid (by
                    rw [flat_app]
                    have h3 := hown'
                    simpa [flat] using h3)
                  have hlt' := (OW.out).lt
                  have hh5 : Blk w5 w3.heap.size 25 #[.int .i64 (N : Int), V] := Blk.grown (HH.out.alloc (.cells #[.int .i64 (k2 : Int), .int .i64 (j : Int)] 122)) hgrow (fun h => by have := (hlt' _ h).1; omega)
                  have hb5 : Below w3.heap.size w3 w5 := (HB.out.alloc hsz (.cells #[.int .i64 (k2 : Int), .int .i64 (j : Int)] 122)).grown hgrow (by simp; omega) (fun q hq => by have := (hlt' q hq).1; omega)
                  obtain ⟨A9, c9, hv9, -, -⟩ := ownE_of HQ.out
                  obtain ⟨n9, hn9⟩ : ∃ n9, n9 = (hs ++ [((k2 : Int), (j : Int))]).length := ⟨_, rfl⟩
                  rw [← hn9] at hv9
                  subst hv9
                  have HH6 := Lib.hid (hh5.set_ 1 (.slice A9 n9 c9))
                  have HO6 := Lib.hid (own_set (X := w3.heap.size) (o := 1) (u := .slice A9 n9 c9) HQ.out (by omega))
                  have HB6 := Lib.hid (Below.setCell (B := w3.heap.size) hb5 (p := ⟨w3.heap.size, 1, none⟩) (Nat.le_refl _) (.slice A9 n9 c9))
                  obtain ⟨s0, s1, s2, s3, s4⟩ := box_facts hh5
                  clear hown' hgrow hlt' hh5 hb5 hn9 x0 x1 x2 x3 x4
                  go_wp2
                  exact ⟨⟨0, _, .slice A9 n9 c9, rfl, .inr ⟨rfl, HU.out⟩, HH6.out, HO6.out, HB6.out⟩, by simp [intOf]⟩
                · have HU := Lib.hid hup
                  clear hup
                  go_wp2
                  exact ⟨⟨j + 1, hs, V, by go_num, by omega, by omega, by have := HU.out; rwa [show ((j + 1 : Nat) : Int) = (j : Int) + 1 by omega], HH.out, HO.out, HB.out⟩, by simp [intOf]; omega⟩
            · have hjN : j = N := by omega
              have HU2 := Lib.hid (show Upto l hs ((k2 : Int) + 1) ((k2 : Int) + 2) from by
                have h := HU.out
                rw [hjN] at h
                exact h.row HT.out HLN.out)
              clear hjN
              go_wp2
              exact ⟨⟨k2 + 1, hs, V, by go_num, by omega, by have := HU2.out; rwa [show ((k2 + 1 : Nat) : Int) = (k2 : Int) + 1 by omega, show (k2 : Int) + 1 + 1 = (k2 : Int) + 2 by omega], HH.out, HO.out, HB.out⟩, by simp [intOf]; omega⟩
        · have hkN : k2 = N := by omega
          have HGB := Lib.hid (show graphB (N : Int) hs = true from by
            have h := HU.out
            rw [hkN] at h
            exact h.done HT.out HLN.out (by omega) (by omega))
          have hhl := HU.out.len
          obtain ⟨Ah, ch, hVh, hOEh, -⟩ := ownE_of HO.out
          subst hVh
          have HOE5 := Lib.hid hOEh
          have HD5 := Lib.hid (HD.out.next HB.out)
          clear hkN hOEh HO HU HB
          go_wp2_with fail
          refine (LB 5 (by omega) (by omega) wr HD5.out.cur HD5.out.old).out.mono ?_
          rintro e w5 ⟨x, rfl, hx0, hx1, hC5, hb5, hf5⟩
          obtain ⟨j0, rfl⟩ : ∃ j : Nat, x = (j : Int) := ⟨x.toNat, by omega⟩
          have HD6 := Lib.hid (HD5.out.drawn hgc hC5 hb5 hf5)
          have HH6 := Lib.hid (show Blk w5 w3.heap.size 25 #[.int .i64 (N : Int), .slice Ah hs.length ch] from (hf5 _ (by omega)).trans HH.out)
          have HE6 := Lib.hid (HOE5.out.keep2 hb5.size (fun g hg _ => hf5 g (by omega)))
          clear hC5 hb5 hf5 HD5 HOE5 HH MU
          go_wp2
          have hgb3 : gc < w3.heap.size + 1 := by omega
          go_loopw [13, 14, 15, 16] (fun k _ _ _ wr => ∃ (j : Nat) (es : List (Int × Int)) (A : Option Addr) (c : Nat), k = .int .i64 j ∧ es.length + j ≤ m + 3 ∧ graphB (N : Int) es = true ∧ DrW w wr gc A0 xs.length c0 ∧ Blk wr w3.heap.size 25 #[.int .i64 (N : Int), .slice A es.length c] ∧ OwnEK wr (w3.heap.size + 1) A es) (fun k _ _ _ _ => (intOf k).toNat)
          case atStart => exact ⟨j0, hs, Ah, ch, rfl, by omega, HGB.out, HD6.out, HH6.out, HE6.out⟩
          case round =>
            clear HD6 HH6 HE6 HGB
            obtain ⟨j, es, A, c, rfl, hej, hgb, hdr, hhb, hoe⟩ := hrel
            have HGB := Lib.hid hgb
            have HD := Lib.hid hdr
            have HH := Lib.hid hhb
            have HE := Lib.hid hoe
            obtain ⟨x0, x1, x2, x3, x4⟩ := box_facts hhb
            clear hgb hdr hhb hoe
            by_cases hj : 0 < j
            · obtain ⟨i, rfl⟩ : ∃ i, j = i + 1 := ⟨j - 1, by omega⟩
              have hj1 : (0 : Int) < ((i + 1 : Nat) : Int) := by omega
              have hN6 : (N : Int) ≤ 5 := by omega
              have hN3 : (2 : Int) ≤ (N : Int) := by omega
              have HB := LB (N : Int) (by omega) (by omega) wr HD.out.cur HD.out.old
              clear x0 x1 x2 x3 x4
              go_wp2_with fail
              refine HB.out.mono ?_
              rintro e w6 ⟨a, rfl, ha0, ha1, hC6, hb6, hf6⟩
              have HD6 := Lib.hid (HD.out.drawn hgc hC6 hb6 hf6)
              have hh6 : Blk w6 w3.heap.size 25 #[.int .i64 (N : Int), .slice A es.length c] := (hf6 _ (by omega)).trans HH.out
              have HE6 := Lib.hid (HE.out.keep2 hb6.size (fun g hg _ => hf6 g (by omega)))
              obtain ⟨x0, x1, x2, x3, x4⟩ := box_facts hh6
              have HH6 := Lib.hid hh6
              clear hC6 hb6 hf6 hh6 HD HH HE HB
              -- the two calls of the region
              have KD := Lib.hid (fun (W : World) (hW : Below w6.heap.size w6 W) => (⟨HD6.out.next hW, HH6.out.below hW HH6.out.lt, HE6.out.below hW⟩ : DrW w W gc A0 xs.length c0 ∧ Blk W w3.heap.size 25 #[.int .i64 (N : Int), .slice A es.length c] ∧ OwnEK W (w3.heap.size + 1) A es))
              have C1 := fun (W : World) (hW : Below w6.heap.size w6 W) => Lib.hid (show Calls Try.prog 98 #[.pointer (some ⟨gc, 0, none⟩), .int .i64 ((N : Int) - 1)] W (fun e w' => ∃ y : Int, e = .returned (.int .i64 y) ∧ 0 ≤ y ∧ y ≤ (N : Int) - 2 ∧ DrW w w' gc A0 xs.length c0 ∧ Blk w' w3.heap.size 25 #[.int .i64 (N : Int), .slice A es.length c] ∧ OwnEK w' (w3.heap.size + 1) A es ∧ Below gc w6 w' ∧ (∀ k, k ≠ gc → w'.heap[k]? = W.heap[k]?) ∧ W.heap.size ≤ w'.heap.size ∧ w6.heap.size ≤ w'.heap.size) from by
                obtain ⟨d1, d2, d3⟩ := KD.out W hW
                refine (LB ((N : Int) - 1) (by omega) (by omega) W d1.cur d1.old).out.mono ?_
                rintro e w' ⟨y, rfl, hy0, hy1, hC, hb, hf⟩
                exact ⟨y, rfl, hy0, by omega, d1.drawn hgc hC hb hf, (hf _ (by omega)).trans d2, d3.keep2 hb.size (fun g hg _ => hf g (by omega)), (hW.mono (Nat.le_of_lt HD6.out.cur.lt)).trans hb, hf, hb.size, Nat.le_trans hW.size hb.size⟩)
              have C2 := fun (W7 W : World) (y : Int) (hy0 : 0 ≤ y) (hy1 : y ≤ (N : Int) - 2) (d1 : DrW w W7 gc A0 xs.length c0) (d2 : Blk W7 w3.heap.size 25 #[.int .i64 (N : Int), .slice A es.length c]) (d3 : OwnEK W7 (w3.heap.size + 1) A es) (d4 : Below gc w6 W7) (hW : Below W7.heap.size W7 W) => Lib.hid (show Calls Try.prog 132 #[.agg #[.int .i64 (N : Int), .slice A es.length c], .int .i64 a, .int .i64 ((a + 1 + y).tmod (N : Int))] W (fun e w' => ∃ (A8 : Option Addr) (c8 : Nat) (L : List (Int × Int)), e = .returned (.tuple #[.agg #[.int .i64 (N : Int), .slice A8 L.length c8], .bool true]) ∧ graphB (N : Int) L = true ∧ Hid (L.length = es.length + 1) ∧ OwnEK w' W.heap.size A8 L ∧ DrW w w' gc A0 xs.length c0 ∧ Blk w' w3.heap.size 25 #[.int .i64 (N : Int), .slice A es.length c] ∧ Below gc w6 w' ∧ Below W.heap.size W w') from by
                have k1 := d1.next hW
                have k2 := d2.below hW d2.lt
                have k3 := d3.below hW
                have hk := draw_add (es := es) hN2 hN5 ha0 (by omega) hy0 hy1 (by omega) HGB.out
                refine (specAdd (N : Int) A c es a ((a + 1 + y).tmod (N : Int)) W (by omega) k3.edges).mono ?_
                rintro e w' ⟨A8, c8, rfl, ho, _, hb⟩
                have hn := add_yes hk
                rw [hk, hn.1]
                rw [hn.2] at ho ⊢
                exact ⟨A8, c8, _, rfl, add_valid hk, Lib.hid (insE_len _ _), ho, k1.next hb, k2.below hb k2.lt, (d4.trans (hW.mono (Nat.le_of_lt d1.cur.lt))).trans (hb.mono (Nat.le_of_lt k1.cur.lt)), hb⟩)
              have HGC := Lib.hid (show gc ≤ w6.heap.size from Nat.le_of_lt HD6.out.cur.lt)
              have hrm := fun (y : Int) (hy0 : 0 ≤ y) => Lib.hid (show 0 ≤ (a + 1 + y) % (N : Int) ∧ (a + 1 + y) % (N : Int) < (N : Int) ∧ IntKind.i64.wrap ((a + 1 + y) % (N : Int)) = (a + 1 + y) % (N : Int) from by
                have h1 := Int.emod_nonneg (a + 1 + y) (show (N : Int) ≠ 0 by omega)
                have h2 := Int.emod_lt_of_pos (a + 1 + y) (show (0 : Int) < (N : Int) by omega)
                refine ⟨h1, h2, ?_⟩
                rw [IntKind.wrap_i64]
                omega)
              have hN0 : ((N : Int) == 0) = false := by simp; omega
              have hN7 : (N : Int) ≠ 0 := by omega
              have hN9 : ¬ N = 0 := by omega
              have hwa : IntKind.i64.wrap (a + 1) = a + 1 := by rw [IntKind.wrap_i64]; omega
              have hwn : IntKind.i64.wrap ((N : Int) - 1) = (N : Int) - 1 := by rw [IntKind.wrap_i64]; omega
              have HEJ := Lib.hid hej
              have hl8 : es.length ≤ 8 := by omega
              have hi8 : i ≤ 8 := by omega
              clear LB KD HS HT HGN HOE HLN hej
              go_wp2_with fail
              go_region_held3 (fun w' => w'.cell? ⟨w3.heap.size, 0, none⟩ = some (.int .i64 (N : Int)) ∧ w'.cell? ⟨w3.heap.size, 1, none⟩ = some (.slice A es.length c) ∧ Below gc w6 w')
                (first
                  | exact ⟨x0, x1, (Below.refl gc w6).drew⟩
                  | exact ⟨(box_facts hh8).1, (box_facts hh8).2.1, hb8⟩
                  | exact ⟨(box_facts hh7).1, (box_facts hh7).2.1, hb7⟩
                  | exact keepAl ⟨(box_facts hh8).1, (box_facts hh8).2.1, hb8⟩ HGC.out
                  | exact keepAl (by assumption) HGC.out
                  | exact keepSt (by assumption) (by constructor <;> (simp only; omega)) (by have := HGC.out; omega))
                (first
                  | (go_at_call 98; refine (C1 _ (by first | exact (Below.refl _ _).drew | exact ((Below.refl _ _).alloc (Nat.le_refl _) _).drew | exact (Below.refl _ _).drew.alloc (Nat.le_refl _) _)).out.mono ?_; rintro e w7 ⟨y, rfl, hy0, hy1, hd7, hh7, he7, hb7, hf7, hs7, hz7⟩; obtain ⟨hr0, hr1, hr2⟩ := (hrm y hy0).out; have hwy : IntKind.i64.wrap (a + 1 + y) = a + 1 + y := by rw [IntKind.wrap_i64]; omega)
                  | (go_at_call 132; refine (C2 w7 _ y hy0 hy1 hd7 hh7 he7 hb7 (by first | exact Below.refl _ _ | exact (Below.refl _ _).alloc (Nat.le_refl _) _)).out.mono ?_; rintro e w8 ⟨A8, c8, L, rfl, hg8, hlL, ho8, hd8, hh8, hb8, hbw8⟩
                     first
                       | (have hbx := bxB hbw8; obtain ⟨b0, b1, b2, b3, b4⟩ := box_facts hbx)
                       | (have hbx := bxA hf7 (Ne.symm (Nat.ne_of_lt HD6.out.cur.lt)) hbw8; obtain ⟨b0, b1, b2, b3, b4⟩ := box_facts hbx)
                       | skip))
              · have HZ := DrZ.new (c8 := c8) hd8 hh8 ho8 hh7.lt
                revert HZ
                generalize (w8.alloc (Obj.cells #[.int .i64 (N : Int), .slice A8 L.length c8] 25)) = wz
                intro HZ
                have HL := HZ.lt
                obtain ⟨s0, s1, s2, s3, s4⟩ := box_facts HZ.bx
                obtain ⟨t0, t1, t2, t3, t4⟩ := box_facts HZ.hx
                have HZ2 := Lib.hid HZ
                clear HZ
                go_wp2
                exact ⟨⟨i, L, A8, c8, rfl, by have := HEJ.out; have := hlL.out; omega, hg8, (HZ2.out.dr.store (X := w3.heap.size) (o := 0) (by omega) hgc _).store (X := w3.heap.size) (o := 1) (by omega) hgc _, (HZ2.out.hx.set_ 0 _).set_ 1 _, (ownE_far HZ2.out.ow HL _ _).mono (by omega)⟩, by simp only [intOf]; omega⟩
              · have HZ := DrZ.box (c8 := c8) hd8 hh8 hbx ho8 hgc (by omega) hh7.lt (by simp)
                revert HZ
                generalize ((w8.setCell ⟨w7.heap.size, 0, none⟩ (.int .i64 (N : Int))).setCell ⟨w7.heap.size, 1, none⟩ (.slice A8 L.length c8)) = wz
                intro HZ
                have HL := HZ.lt
                obtain ⟨s0, s1, s2, s3, s4⟩ := box_facts HZ.bx
                obtain ⟨t0, t1, t2, t3, t4⟩ := box_facts HZ.hx
                have HZ2 := Lib.hid HZ
                clear HZ
                go_wp2
                exact ⟨⟨i, L, A8, c8, rfl, by have := HEJ.out; have := hlL.out; omega, hg8, (HZ2.out.dr.store (X := w3.heap.size) (o := 0) (by omega) hgc _).store (X := w3.heap.size) (o := 1) (by omega) hgc _, (HZ2.out.hx.set_ 0 _).set_ 1 _, (ownE_far HZ2.out.ow HL _ _).mono (by omega)⟩, by simp only [intOf]; omega⟩
              · have HZ := DrZ.box (c8 := c8) hd8 hh8 hbx ho8 hgc (by omega) x4 (Nat.lt_of_lt_of_le (by show w6.heap.size < (w6.alloc _).heap.size; simp) hs7)
                revert HZ
                generalize ((w8.setCell ⟨w6.heap.size, 0, none⟩ (.int .i64 (N : Int))).setCell ⟨w6.heap.size, 1, none⟩ (.slice A8 L.length c8)) = wz
                intro HZ
                have HL := HZ.lt
                obtain ⟨s0, s1, s2, s3, s4⟩ := box_facts HZ.bx
                obtain ⟨t0, t1, t2, t3, t4⟩ := box_facts HZ.hx
                have HZ2 := Lib.hid HZ
                clear HZ
                go_wp2
                exact ⟨⟨i, L, A8, c8, rfl, by have := HEJ.out; have := hlL.out; omega, hg8, (HZ2.out.dr.store (X := w3.heap.size) (o := 0) (by omega) hgc _).store (X := w3.heap.size) (o := 1) (by omega) hgc _, (HZ2.out.hx.set_ 0 _).set_ 1 _, (ownE_far HZ2.out.ow HL _ _).mono (by omega)⟩, by simp only [intOf]; omega⟩
            · have hj0 : j = 0 := by omega
              subst hj0
              have hnj : ¬ ((0 : Nat) : Int) > 0 := by omega
              obtain ⟨z0, z1, z2, z3, z4⟩ := box_facts HD.out.res
              have hl9 : es.length ≤ m + 3 := by omega
              have HEO := HE.out
              have hws : w.heap.size < w3.heap.size + 1 := by omega
              go_wp2
              obtain ⟨W6, hW6⟩ : ∃ W6 : World, W6 = ((wr.setCell ⟨w.heap.size, 0, none⟩ (.int .i64 (N : Int))).setCell ⟨w.heap.size, 1, none⟩ (.slice A es.length c)) := ⟨_, rfl⟩
              rw [← hW6]
              have hb9 : Blk W6 w.heap.size 25 #[.int .i64 (N : Int), .slice A es.length c] := by rw [hW6]; exact (HD.out.res.set_ 0 _).set_ 1 _
              have hcur : Cur W6 gc A0 xs.length c0 := by
                rw [hW6]
                exact (HD.out.cur.keep (Below.heap_setCell _ _ _ _ (by show gc ≠ w.heap.size; omega))).keep (Below.heap_setCell _ _ _ _ (by show gc ≠ w.heap.size; omega))
              have hold : Below gc w W6 := by rw [hW6]; exact (HD.out.old.setCell (p := ⟨w.heap.size, 0, none⟩) (by simp only; omega) _).setCell (p := ⟨w.heap.size, 1, none⟩) (by simp only; omega) _
              have hkep : ∀ k, k ≠ gc → k < w.heap.size → W6.heap[k]? = w.heap[k]? := fun k hk1 hk2 => by
                rw [hW6]
                exact ((Below.heap_setCell _ _ _ _ (by show k ≠ w.heap.size; omega)).trans (Below.heap_setCell _ _ _ _ (by show k ≠ w.heap.size; omega))).trans (HD.out.kep k hk1 hk2)
              have hoA : OwnEK W6 (w3.heap.size + 1) A es := by rw [hW6]; exact ownE_far HEO hws _ _
              obtain ⟨s0, s1, s2, s3, s4⟩ := box_facts hb9
              refine bodyPost_ret (v := .agg #[.int .i64 (N : Int), .slice A es.length c]) (by simp [results, Try.results97, go_sem, s0, s1]) rfl ⟨N, A, c, es, rfl, hN2, hNm, hl9, HGB.out, hoA.mono (by omega), hcur, hold, hkep⟩
def MkGraph (w : World) (e : Ending) (w' : World) : Prop :=
  ∃ (M : Nat) (A : Option Addr) (c : Nat) (es : List (Int × Int)), e = .returned (.agg #[.int .i64 (M : Int), .slice A es.length c]) ∧ 2 ≤ M ∧ M ≤ 5 ∧ es.length ≤ 8 ∧ graphB (M : Int) es = true ∧ OwnEK w' w.heap.size A es ∧ Below w.heap.size w w'
set_option maxRecDepth 100000 in
set_option maxHeartbeats 1000000 in
theorem l02Graph_any (w : World) (gc : Nat) (A0 : Option Addr) (c0 : Nat) (xs : List Int) (hx : xs.length ≤ 1048576) (hC : Cur w gc A0 xs.length c0) (hS : CodeS w gc A0 xs) :
    Calls Try.prog 53 #[.pointer (some ⟨gc, 0, none⟩)] w (GivesGraph w gc 5 A0 xs.length c0) := by
  have hgc := hC.lt
  have hb0 : Below w.heap.size w (w.alloc (Obj.cells #[.int .i64 0, .slice none 0 0] 25)) := (Below.refl _ _).alloc (Nat.le_refl _) _
  have HB := Lib.hid (Blk.new w 25 #[.int .i64 0, .slice none 0 0])
  have HD := Lib.hid (l02Draw_any _ gc 5 (by omega) (by omega) A0 c0 xs hx (hC.below hb0) (hS.keep (hb0.mono (Nat.le_of_lt hgc))))
  have HB0 := Lib.hid hb0
  clear hC hS hb0
  go_enter Try.func53, Try.ntmps53
  go_wp2_with fail
  refine HD.out.mono ?_
  rintro e w1 ⟨M, A, c, es, rfl, hM2, hM5, hel, hg, ho, hcur, hb, hkep⟩
  have HR := Lib.hid (show Blk w1 w.heap.size 25 #[.int .i64 0, .slice none 0 0] from (hkep _ (by omega) (by simp)).trans HB.out)
  obtain ⟨x0, x1, x2, x3, x4⟩ := box_facts HR.out
  have HK := Lib.hid (show ∀ k, k ≠ gc → k < w.heap.size → w1.heap[k]? = w.heap[k]? from fun k h1 h2 => (hkep k h1 (by simp; omega)).trans (HB0.out.block k h2))
  have HO := Lib.hid (ho.mono (base' := w.heap.size + 1) (by simp))
  have HC := Lib.hid hcur
  have HBL := Lib.hid ((HB0.out.mono (Nat.le_of_lt hgc)).trans hb)
  clear hkep ho hcur hb HB0 HB HD
  go_wp2
  obtain ⟨W6, hW6⟩ : ∃ W6 : World, W6 = ((w1.setCell ⟨w.heap.size, 0, none⟩ (.int .i64 (M : Int))).setCell ⟨w.heap.size, 1, none⟩ (.slice A es.length c)) := ⟨_, rfl⟩
  rw [← hW6]
  have hb9 : Blk W6 w.heap.size 25 #[.int .i64 (M : Int), .slice A es.length c] := by rw [hW6]; exact (HR.out.set_ 0 _).set_ 1 _
  obtain ⟨s0, s1, s2, s3, s4⟩ := box_facts hb9
  have hne : gc ≠ w.heap.size := by omega
  refine bodyPost_ret (v := .agg #[.int .i64 (M : Int), .slice A es.length c]) (by simp [results, Try.results53, go_sem, s0, s1]) rfl ⟨M, A, c, es, rfl, hM2, hM5, hel, hg, ?_, ?_, ?_, ?_⟩
  · rw [hW6]; exact ownE_far HO.out (by omega) _ _
  · rw [hW6]; exact (HC.out.keep (Below.heap_setCell _ _ _ _ hne)).keep (Below.heap_setCell _ _ _ _ hne)
  · rw [hW6]; exact (HBL.out.setCell (p := ⟨w.heap.size, 0, none⟩) (by simp only; omega) _).setCell (p := ⟨w.heap.size, 1, none⟩) (by simp only; omega) _
  · intro k h1 h2
    rw [hW6]
    exact ((Below.heap_setCell _ _ _ _ (by show k ≠ w.heap.size; omega)).trans (Below.heap_setCell _ _ _ _ (by show k ≠ w.heap.size; omega))).trans (HK.out k h1 h2)
set_option maxRecDepth 100000 in
set_option maxHeartbeats 1000000 in
theorem makeGraph_any (w : World) (A0 : Option Addr) (c0 : Nat) (xs : List Int) (hx : xs.length ≤ 1048576) (hS : CodeS w w.heap.size A0 xs) :
    Calls Try.prog 15 #[.slice A0 xs.length c0] w (MkGraph w) := by
  have hb0 : Below w.heap.size w (w.alloc (Obj.cells #[.int .i64 0, .slice none 0 0] 25)) := (Below.refl _ _).alloc (Nat.le_refl _) _
  have HB := Lib.hid (Blk.new w 25 #[.int .i64 0, .slice none 0 0])
  have HN := Lib.hid (l01New_any _ A0 c0 xs hx ((hS.keep hb0).up hb0.size))
  have HB0 := Lib.hid hb0
  have HS := Lib.hid hS
  clear hS hb0
  go_enter Try.func15, Try.ntmps15
  go_wp2_with fail
  refine HN.out.mono ?_
  rintro e w1 ⟨gc, rfl, hN, hC, hb⟩
  have hN2 : w.heap.size + 1 ≤ gc := by simpa using hN
  have HB1 := Lib.hid (show Below w.heap.size w w1 from HB0.out.trans (hb.mono (by simp)))
  have HR := Lib.hid (show Blk w1 w.heap.size 25 #[.int .i64 0, .slice none 0 0] from HB.out.below hb HB.out.lt)
  have HG := Lib.hid (l02Graph_any w1 gc A0 c0 xs hx hC ((HS.out.keep HB1.out).up (by omega)))
  have hgl := hC.lt
  clear hN hC hb HB HN HB0
  go_wp2_with fail
  refine HG.out.mono ?_
  rintro e w2 ⟨M, A, c, es, rfl, hM2, hM5, hel, hg, ho, hcur, hb, hkep⟩
  have HR2 := Lib.hid (show Blk w2 w.heap.size 25 #[.int .i64 0, .slice none 0 0] from (hkep _ (by omega) HR.out.lt).trans HR.out)
  obtain ⟨x0, x1, x2, x3, x4⟩ := box_facts HR2.out
  have HO := Lib.hid (ho.mono (base' := w.heap.size + 1) (by omega))
  have HBL := Lib.hid (HB1.out.trans (hb.mono (show w.heap.size ≤ gc by omega)))
  clear hkep ho hcur hb HB1 HR HG
  go_wp2
  obtain ⟨W6, hW6⟩ : ∃ W6 : World, W6 = ((w2.setCell ⟨w.heap.size, 0, none⟩ (.int .i64 (M : Int))).setCell ⟨w.heap.size, 1, none⟩ (.slice A es.length c)) := ⟨_, rfl⟩
  rw [← hW6]
  have hb9 : Blk W6 w.heap.size 25 #[.int .i64 (M : Int), .slice A es.length c] := by rw [hW6]; exact (HR2.out.set_ 0 _).set_ 1 _
  obtain ⟨s0, s1, s2, s3, s4⟩ := box_facts hb9
  refine bodyPost_ret (v := .agg #[.int .i64 (M : Int), .slice A es.length c]) (by simp [results, Try.results15, go_sem, s0, s1]) rfl ⟨M, A, c, es, rfl, hM2, hM5, hel, hg, ?_, ?_⟩
  · rw [hW6]; exact (ownE_far HO.out (by omega) _ _).mono (by omega)
  · rw [hW6]; exact (HBL.out.setCell (p := ⟨w.heap.size, 0, none⟩) (Nat.le_refl _) _).setCell (p := ⟨w.heap.size, 1, none⟩) (Nat.le_refl _) _
structure GLaw (w wc : World) (X M : Nat) (A : Option Addr) (c : Nat) (es : List (Int × Int)) : Prop where
  old : Below w.heap.size w wc
  box : Blk wc X 25 #[.int .i64 (M : Int), .slice A es.length c]
  own : OwnEK wc w.heap.size A es
theorem GLaw.next {w wc wd : World} {X M c : Nat} {A : Option Addr} {es : List (Int × Int)} (h : GLaw w wc X M A c es) (hb : Below wc.heap.size wc wd) : GLaw w wd X M A c es :=
  ⟨h.old.trans (hb.mono h.old.size), h.box.below hb h.box.lt, h.own.below hb⟩
end Go.Proofs.Ytndncmjhpbjcoaa.K
