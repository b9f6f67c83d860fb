/- One text out of several: GEdge AddS DrawM CurN Draw Make MakeD MakeS OpenC SmHas GLw. -/
import Derived.Test.YtndncmjhpbjcoaaGBA
import Derived.Test.YtndncmjhpbjcoaaGBB
import Derived.Test.YtndncmjhpbjcoaaGBF
import Derived.Test.YtndncmjhpbjcoaaGBI
import Derived.Deep.Slices
import Derived.ChangeSlices
import Derived.OpenShut
set_option linter.all false
/- A graph of the call's own: its box, its edges, and edges that are added one by one. -/
namespace Go.Proofs.Ytndncmjhpbjcoaa
open Go.RowKit

def GivesG (w : World) (N : Int) (es : List (Int × Int)) (b : Bool) (e : Ending) (w' : World) : Prop :=
  ∃ (A : Option Addr) (c : Nat), e = .returned (.tuple #[.agg #[.int .i64 N, .slice A es.length c], .bool b]) ∧ OwnE w' w.heap.size A es ∧ (∀ g off, A = some ⟨g, off, none⟩ → w.heap.size ≤ g ∧ g < w'.heap.size) ∧ Below w.heap.size w w'
theorem own_nil (w : World) (b : Nat) (A : Option Addr) : OwnE w b A [] := fun h => absurd h (by simp)
theorem box_facts {w : World} {g : Nat} {a b : Value} (hb : Blk w g 25 #[a, b]) : w.cell? ⟨g, 0, none⟩ = some a ∧ w.cell? ⟨g, 1, none⟩ = some b ∧ w.frozen? ⟨g, 0, none⟩ = false ∧ w.frozen? ⟨g, 1, none⟩ = false ∧ g < w.heap.size :=
  ⟨by rw [hb.cell]; rfl, by rw [hb.cell]; rfl, hb.frozen 0, hb.frozen 1, hb.lt⟩
theorem below_two {w : World} {B X : Nat} (hx : B ≤ X) (u v : Value) : Below B w ((w.setCell ⟨X, 0, none⟩ u).setCell ⟨X, 1, none⟩ v) :=
  Below.setCell (B := B) (Below.setCell (B := B) (Below.refl B w) (p := ⟨X, 0, none⟩) hx u) (p := ⟨X, 1, none⟩) hx v
theorem own_set {w : World} {base X o n size : Nat} {e : TypeId} {v u : Value} {xs : List Value} (h : w.ownsRow base e size v n xs) (hX : X < base) : (w.setCell ⟨X, o, none⟩ u).ownsRow base e size v n xs := by
  refine ⟨h.1, h.2.imp id ?_⟩
  rintro ⟨g, cap, cur, h1, h2, h3, h4⟩
  exact ⟨g, cap, cur, h1, h2, (Below.heap_setCell _ _ _ _ (by show g ≠ X; omega)).trans h3, h4⟩
theorem ownE_of {w : World} {base n : Nat} {v : Value} {l : List (Int × Int)} (h : w.ownsRow base 122 2 v n (flat l)) : ∃ (A : Option Addr) (c : Nat), v = .slice A l.length c ∧ OwnE w base A l ∧ ∀ g off, A = some ⟨g, off, none⟩ → base ≤ g ∧ g < w.heap.size := by
  obtain ⟨hl, h⟩ := h
  rw [flat_length] at hl
  have hln : l.length = n := by omega
  rcases h with ⟨h1, h2⟩ | ⟨g, cap, cur, hv, hb, hh, hnc, _, hcs, htk⟩
  · exact ⟨none, 0, by rw [h1, hln, h2], fun hn => absurd hn (by omega), fun _ _ h => by cases h⟩
  · have hblk : Blk w g 122 cur := hh
    have hc : ∀ k u, (flat l)[k]? = some u → w.cell? ⟨g, 0 + k, none⟩ = some u := fun k u hu => by
      have hk : k < n * 2 := by
        have := (List.getElem?_eq_some_iff.1 hu).1
        rw [flat_length] at this
        omega
      rw [Nat.zero_add, hblk.cell, ← hu, ← htk, List.getElem?_take_of_lt hk, Array.getElem?_toList]
    refine ⟨some ⟨g, 0, none⟩, cap, by rw [hln]; exact hv, fun _ => ⟨g, 0, rfl, hb, hblk.lt, fun i e he => ?_⟩, fun g' off e => by
      injection e with e
      injection e with e1 _ _
      subst e1
      exact ⟨hb, hblk.lt⟩⟩
    have hf := flat_at l i e he
    exact ⟨hc _ _ hf.1, hc _ _ hf.2, hblk.frozen _, hblk.frozen _⟩
theorem ownE_far {w : World} {b X : Nat} {A : Option Addr} {es : List (Int × Int)} (h : OwnE w b A es) (hx : X < b) (u v : Value) : OwnE ((w.setCell ⟨X, 0, none⟩ u).setCell ⟨X, 1, none⟩ v) b A es := fun hn => by
  obtain ⟨g, off, rfl, h1, hg, hc⟩ := h hn
  have hbl : ((w.setCell ⟨X, 0, none⟩ u).setCell ⟨X, 1, none⟩ v).heap[g]? = w.heap[g]? := (Below.heap_setCell _ _ _ _ (by show g ≠ X; omega)).trans (Below.heap_setCell _ _ _ _ (by show g ≠ X; omega))
  have hcl : ∀ o : Nat, ((w.setCell ⟨X, 0, none⟩ u).setCell ⟨X, 1, none⟩ v).cell? ⟨g, o, none⟩ = w.cell? ⟨g, o, none⟩ := fun o => World.cell?_of_block (a := ⟨g, o, none⟩) hbl
  have hfr : ∀ o : Nat, ((w.setCell ⟨X, 0, none⟩ u).setCell ⟨X, 1, none⟩ v).frozen? ⟨g, o, none⟩ = w.frozen? ⟨g, o, none⟩ := fun o => World.frozen?_of_block (a := ⟨g, o, none⟩) hbl
  refine ⟨g, off, rfl, h1, by simpa [World.setCell] using hg, fun i z hz => ?_⟩
  rw [hcl, hcl, hfr, hfr]
  exact hc i z hz
theorem two_cells (W : World) (g : Nat) (hg : g = W.heap.size) (t : TypeId) (u v : Value) (j : Nat) (x : Value) (h : [u, v][j]? = some x) : (W.alloc (.cells #[u, v] t)).cell? ((⟨g, 0, none⟩ : Addr).add j) = some x := by
  subst hg
  rw [Addr.add_lit, Nat.zero_add, (Blk.new W t #[u, v]).cell]
  simpa using h
theorem flat_app (a b : List (Int × Int)) : flat (a ++ b) = flat a ++ flat b := by
  induction a with
  | nil => rfl
  | cons x l ih => simp only [List.cons_append, flat, ih]
end Go.Proofs.Ytndncmjhpbjcoaa

/- AddEdge: the plain function; the specification's side. -/
namespace Go.Proofs.Ytndncmjhpbjcoaa
open Go.RowKit

noncomputable def addK (N : Int) (es : List (Int × Int)) (a b : Int) : Bool := graphB N es && (vB a N && (vB b N && (!decide (a = b) && !decide (es.length = 12))))
def edgeOf (a b : Int) : Int × Int := (min a b, max a b)
def placeE (es : List (Int × Int)) (e : Int × Int) : Nat := es.findIdx fun x => ltE e x
def insE (es : List (Int × Int)) (e : Int × Int) : List (Int × Int) := es.take (placeE es e) ++ e :: es.drop (placeE es e)
noncomputable def addN (N : Int) (es : List (Int × Int)) (a b : Int) : Int := if addK N es a b = true then N else 0
noncomputable def addL (N : Int) (es : List (Int × Int)) (a b : Int) : List (Int × Int) := if addK N es a b = true then insE es (edgeOf a b) else []
theorem add_no {N : Int} {es : List (Int × Int)} {a b : Int} (h : addK N es a b = false) : addN N es a b = 0 ∧ addL N es a b = [] := by
  unfold addN addL
  rw [h]
  exact ⟨rfl, rfl⟩
theorem add_yes {N : Int} {es : List (Int × Int)} {a b : Int} (h : addK N es a b = true) : addN N es a b = N ∧ addL N es a b = insE es (edgeOf a b) := by
  unfold addN addL
  rw [if_pos h, if_pos h]
  exact ⟨rfl, rfl⟩
theorem placeE_le (es : List (Int × Int)) (e : Int × Int) : placeE es e ≤ es.length := List.findIdx_le_length
theorem insE_len (es : List (Int × Int)) (e : Int × Int) : (insE es e).length = es.length + 1 := by
  unfold insE
  have := placeE_le es e
  simp
  omega
def gathE (es : List (Int × Int)) (e : Int × Int) (k : Nat) : List (Int × Int) := if k ≤ placeE es e then es.take k else es.take (placeE es e) ++ e :: (es.take k).drop (placeE es e)
theorem gathE_zero (es : List (Int × Int)) (e : Int × Int) : gathE es e 0 = [] := by rw [gathE, if_pos (Nat.zero_le _)]; rfl
theorem gathE_len (es : List (Int × Int)) (e : Int × Int) (k : Nat) (hk : k ≤ es.length) : (gathE es e k).length ≤ es.length + 1 := by
  unfold gathE
  split
  · simp; omega
  · have := placeE_le es e
    simp
    omega
theorem place_before {es : List (Int × Int)} {e x : Int × Int} {k : Nat} (hx : es[k]? = some x) (h : k < placeE es e) : ltE e x = false := by
  have hk := (List.getElem?_eq_some_iff.1 hx).1
  have h1 := List.not_of_lt_findIdx h
  rw [List.getElem?_eq_getElem hk] at hx
  injection hx with hx
  rw [hx] at h1
  simpa using h1
theorem place_at {es : List (Int × Int)} {e x : Int × Int} (hx : es[placeE es e]? = some x) : ltE e x = true := by
  have hk := (List.getElem?_eq_some_iff.1 hx).1
  have h1 := List.findIdx_getElem (w := hk)
  rw [List.getElem?_eq_getElem hk] at hx
  injection hx with hx
  unfold placeE at hx
  rw [hx] at h1
  exact h1
theorem gathE_before {es : List (Int × Int)} {e x : Int × Int} {k : Nat} (hx : es[k]? = some x) (h : k < placeE es e) : gathE es e (k + 1) = gathE es e k ++ [x] := by
  rw [gathE, if_pos (by omega), gathE, if_pos (by omega), List.take_add_one, hx]
  rfl
theorem gathE_at {es : List (Int × Int)} {e x : Int × Int} (hx : es[placeE es e]? = some x) : gathE es e (placeE es e + 1) = gathE es e (placeE es e) ++ [e] ++ [x] := by
  have hk := (List.getElem?_eq_some_iff.1 hx).1
  rw [gathE, if_neg (by omega), gathE, if_pos (Nat.le_refl _), List.take_add_one, hx, List.drop_append_of_le_length (by simp; omega)]
  simp
theorem gathE_after {es : List (Int × Int)} {e x : Int × Int} {k : Nat} (hx : es[k]? = some x) (h : placeE es e < k) : gathE es e (k + 1) = gathE es e k ++ [x] := by
  have hk := (List.getElem?_eq_some_iff.1 hx).1
  rw [gathE, if_neg (by omega), gathE, if_neg (by omega), List.take_add_one, hx, List.drop_append_of_le_length (by simp; omega)]
  simp
theorem gathE_end1 {es : List (Int × Int)} {e : Int × Int} (h : placeE es e < es.length) : gathE es e es.length = insE es e := by
  rw [gathE, if_neg (by omega), insE, List.take_of_length_le (Nat.le_refl es.length)]
theorem gathE_end2 {es : List (Int × Int)} {e : Int × Int} (h : placeE es e = es.length) : gathE es e es.length ++ [e] = insE es e := by
  rw [gathE, if_pos (by omega), insE, h]
  simp

theorem ownE_far1 {w : World} {b X : Nat} {A : Option Addr} {es : List (Int × Int)} (h : OwnE w b A es) (hx : X < b) (o : Nat) (u : Value) : OwnE (w.setCell ⟨X, o, none⟩ u) b A es := fun hn => by
  obtain ⟨g, off, rfl, h1, hg, hc⟩ := h hn
  have hbl : (w.setCell ⟨X, o, none⟩ u).heap[g]? = w.heap[g]? := Below.heap_setCell _ _ _ _ (by show g ≠ X; omega)
  have hcl : ∀ o' : Nat, (w.setCell ⟨X, o, none⟩ u).cell? ⟨g, o', none⟩ = w.cell? ⟨g, o', none⟩ := fun o' => World.cell?_of_block (a := ⟨g, o', none⟩) hbl
  have hfr : ∀ o' : Nat, (w.setCell ⟨X, o, none⟩ u).frozen? ⟨g, o', none⟩ = w.frozen? ⟨g, o', none⟩ := fun o' => World.frozen?_of_block (a := ⟨g, o', none⟩) hbl
  refine ⟨g, off, rfl, h1, by simpa [World.setCell] using hg, fun i z hz => ?_⟩
  rw [hcl, hcl, hfr, hfr]
  exact hc i z hz
set_option maxRecDepth 100000 in
set_option maxHeartbeats 8000000 in
theorem specAdd (N : Int) (A : Option Addr) (c : Nat) (es : List (Int × Int)) (a b : Int) (w : World) (hn : es.length ≤ 1048576) (hE : EdgeS w w.heap.size A es) :
    Calls Try.prog 132 #[.agg #[.int .i64 N, .slice A es.length c], .int .i64 a, .int .i64 b] w (GivesG w (addN N es a b) (addL N es a b) (addK N es a b)) := by
  have HE := Lib.hid hE
  obtain ⟨wa, hwa⟩ : ∃ wa, wa = ((w.alloc (Obj.cells #[.int .i64 N, .slice A es.length c] 25)).alloc (Obj.cells #[.int .i64 0, .slice none 0 0] 25)) := ⟨_, rfl⟩
  have hba : Below w.heap.size w wa := by rw [hwa]; exact ((Below.refl _ w).alloc (Nat.le_refl _) _).alloc (by simp) _
  have hk1 : Blk wa w.heap.size 25 #[.int .i64 N, .slice A es.length c] := by rw [hwa]; exact (Blk.new w _ _).alloc _
  have hk2 : Blk wa (w.heap.size + 1) 25 #[.int .i64 0, .slice none 0 0] := by
    rw [hwa]
    have h := Blk.new (w.alloc (Obj.cells #[.int .i64 N, .slice A es.length c] 25)) 25 #[.int .i64 0, .slice none 0 0]
    rw [World.size_alloc] at h
    exact h
  have hsa : wa.heap.size = w.heap.size + 2 := by rw [hwa]; simp
  have HWA := Lib.hid hwa
  have HG := Lib.hid (specGraphOk N A c es wa (by omega) ((hE.below hba).keep (fun _ _ => rfl) hba.size))
  clear hwa
  cases hg : graphB N es with
  | false =>
    rw [hg] at HG
    have HK := Lib.hid (show addK N es a b = false by simp [addK, hg])
    have E0 := add_no HK.out
    have E1 := Lib.hid E0.1
    have E2 := Lib.hid E0.2
    clear E0
    clear hg
    go_enter Try.func132, Try.ntmps132
    go_wp2_with fail
    rw [← HWA.out]
    refine HG.out.mono ?_
    rintro e w1 ⟨rfl, hb⟩
    have HB1 := Lib.hid (hk1.below hb (by omega))
    have HB2 := Lib.hid (hk2.below hb (by omega))
    have hb1 := hba.trans (hb.mono hba.size)
    obtain ⟨hc0, hc1, hf0, hf1, hl1⟩ := box_facts HB1.out
    obtain ⟨hd0, hd1, hg0, hg1, hl2⟩ := box_facts HB2.out
    clear hb hk1 hk2 HG
    go_wp2
    obtain ⟨W6, hW6⟩ : ∃ W6 : World, W6 = ((w1.setCell ⟨w.heap.size + 1, 0, none⟩ (.int .i64 0)).setCell ⟨w.heap.size + 1, 1, none⟩ (.slice none 0 0)) := ⟨_, rfl⟩
    rw [← hW6]
    have hb9 : Blk W6 (w.heap.size + 1) 25 #[.int .i64 0, .slice none 0 0] := by rw [hW6]; exact (HB2.out.set_ 0 _).set_ 1 _
    have hbA : Below w.heap.size w W6 := by rw [hW6]; exact hb1.trans (below_two (by omega) _ _)
    obtain ⟨z0, z1, z2, z3, z4⟩ := box_facts hb9
    refine bodyPost_ret (v := .tuple #[.agg #[.int .i64 0, .slice none 0 0], .bool false]) (by simp [results, Try.results132, go_sem, z0, z1]) rfl ⟨none, 0, by rw [E1.out, E2.out, HK.out]; rfl, by rw [E2.out]; exact own_nil _ _ _, (fun _ _ h => by cases h), hbA⟩
  | true =>
    rw [hg] at HG
    have hlims : 1 ≤ N ∧ N ≤ 6 ∧ es.length ≤ 12 := by
      simp only [graphB, Bool.and_eq_true] at hg
      exact edgesB_lims hg.1.1
    obtain ⟨hN1, hN6, hn12⟩ := hlims
    have HIA := fun w => Lib.hid (l01In_any a 0 (N - 1) w)
    have HIB := fun w => Lib.hid (l01In_any b 0 (N - 1) w)
    simp only [inB_vB] at HIA HIB
    cases ha : vB a N with
    | false =>
      rw [ha] at HIA
      have HK := Lib.hid (show addK N es a b = false by simp [addK, ha])
      have E0 := add_no HK.out
      have E1 := Lib.hid E0.1
      have E2 := Lib.hid E0.2
      clear E0
      clear ha hg
      go_enter Try.func132, Try.ntmps132
      go_wp2_with fail
      rw [← HWA.out]
      refine HG.out.mono ?_
      rintro e w1 ⟨rfl, hb⟩
      have HB1 := Lib.hid (hk1.below hb (by omega))
      have HB2 := Lib.hid (hk2.below hb (by omega))
      have hb1 := hba.trans (hb.mono hba.size)
      obtain ⟨hc0, hc1, hf0, hf1, hl1⟩ := box_facts HB1.out
      obtain ⟨hd0, hd1, hg0, hg1, hl2⟩ := box_facts HB2.out
      clear hb hk1 hk2 HG
      go_wp2_with fail
      refine (HIA w1).out.mono ?_
      rintro e w2 ⟨rfl, rfl⟩
      go_wp2
      obtain ⟨W6, hW6⟩ : ∃ W6 : World, W6 = ((w1.setCell ⟨w.heap.size + 1, 0, none⟩ (.int .i64 0)).setCell ⟨w.heap.size + 1, 1, none⟩ (.slice none 0 0)) := ⟨_, rfl⟩
      rw [← hW6]
      have hb9 : Blk W6 (w.heap.size + 1) 25 #[.int .i64 0, .slice none 0 0] := by rw [hW6]; exact (HB2.out.set_ 0 _).set_ 1 _
      have hbA : Below w.heap.size w W6 := by rw [hW6]; exact hb1.trans (below_two (by omega) _ _)
      obtain ⟨z0, z1, z2, z3, z4⟩ := box_facts hb9
      refine bodyPost_ret (v := .tuple #[.agg #[.int .i64 0, .slice none 0 0], .bool false]) (by simp [results, Try.results132, go_sem, z0, z1]) rfl ⟨none, 0, by rw [E1.out, E2.out, HK.out]; rfl, by rw [E2.out]; exact own_nil _ _ _, (fun _ _ h => by cases h), hbA⟩
    | true =>
      rw [ha] at HIA
      cases hb' : vB b N with
      | false =>
        rw [hb'] at HIB
        have HK := Lib.hid (show addK N es a b = false by simp [addK, hb'])
        have E0 := add_no HK.out
        have E1 := Lib.hid E0.1
        have E2 := Lib.hid E0.2
        clear E0
        clear ha hg hb'
        go_enter Try.func132, Try.ntmps132
        go_wp2_with fail
        rw [← HWA.out]
        refine HG.out.mono ?_
        rintro e w1 ⟨rfl, hb⟩
        have HB1 := Lib.hid (hk1.below hb (by omega))
        have HB2 := Lib.hid (hk2.below hb (by omega))
        have hb1 := hba.trans (hb.mono hba.size)
        obtain ⟨hc0, hc1, hf0, hf1, hl1⟩ := box_facts HB1.out
        obtain ⟨hd0, hd1, hg0, hg1, hl2⟩ := box_facts HB2.out
        clear hb hk1 hk2 HG
        go_wp2_with fail
        refine (HIA w1).out.mono ?_
        rintro e w2 ⟨rfl, rfl⟩
        go_wp2_with fail
        refine (HIB w1).out.mono ?_
        rintro e w2 ⟨rfl, rfl⟩
        go_wp2
        obtain ⟨W6, hW6⟩ : ∃ W6 : World, W6 = ((w1.setCell ⟨w.heap.size + 1, 0, none⟩ (.int .i64 0)).setCell ⟨w.heap.size + 1, 1, none⟩ (.slice none 0 0)) := ⟨_, rfl⟩
        rw [← hW6]
        have hb9 : Blk W6 (w.heap.size + 1) 25 #[.int .i64 0, .slice none 0 0] := by rw [hW6]; exact (HB2.out.set_ 0 _).set_ 1 _
        have hbA : Below w.heap.size w W6 := by rw [hW6]; exact hb1.trans (below_two (by omega) _ _)
        obtain ⟨z0, z1, z2, z3, z4⟩ := box_facts hb9
        refine bodyPost_ret (v := .tuple #[.agg #[.int .i64 0, .slice none 0 0], .bool false]) (by simp [results, Try.results132, go_sem, z0, z1]) rfl ⟨none, 0, by rw [E1.out, E2.out, HK.out]; rfl, by rw [E2.out]; exact own_nil _ _ _, (fun _ _ h => by cases h), hbA⟩
      | true =>
        rw [hb'] at HIB
        by_cases hab : a = b
        · have t0 : (a == b) = true := by simp [hab]
          have HK := Lib.hid (show addK N es a b = false by simp [addK, hab])
          have E0 := add_no HK.out
          have E1 := Lib.hid E0.1
          have E2 := Lib.hid E0.2
          clear E0
          clear ha hg hb' hab
          go_enter Try.func132, Try.ntmps132
          go_wp2_with fail
          rw [← HWA.out]
          refine HG.out.mono ?_
          rintro e w1 ⟨rfl, hb⟩
          have HB1 := Lib.hid (hk1.below hb (by omega))
          have HB2 := Lib.hid (hk2.below hb (by omega))
          have hb1 := hba.trans (hb.mono hba.size)
          obtain ⟨hc0, hc1, hf0, hf1, hl1⟩ := box_facts HB1.out
          obtain ⟨hd0, hd1, hg0, hg1, hl2⟩ := box_facts HB2.out
          clear hb hk1 hk2 HG
          go_wp2_with fail
          refine (HIA w1).out.mono ?_
          rintro e w2 ⟨rfl, rfl⟩
          go_wp2_with fail
          refine (HIB w1).out.mono ?_
          rintro e w2 ⟨rfl, rfl⟩
          go_wp2
          obtain ⟨W6, hW6⟩ : ∃ W6 : World, W6 = ((w1.setCell ⟨w.heap.size + 1, 0, none⟩ (.int .i64 0)).setCell ⟨w.heap.size + 1, 1, none⟩ (.slice none 0 0)) := ⟨_, rfl⟩
          rw [← hW6]
          have hb9 : Blk W6 (w.heap.size + 1) 25 #[.int .i64 0, .slice none 0 0] := by rw [hW6]; exact (HB2.out.set_ 0 _).set_ 1 _
          have hbA : Below w.heap.size w W6 := by rw [hW6]; exact hb1.trans (below_two (by omega) _ _)
          obtain ⟨z0, z1, z2, z3, z4⟩ := box_facts hb9
          refine bodyPost_ret (v := .tuple #[.agg #[.int .i64 0, .slice none 0 0], .bool false]) (by simp [results, Try.results132, go_sem, z0, z1]) rfl ⟨none, 0, by rw [E1.out, E2.out, HK.out]; rfl, by rw [E2.out]; exact own_nil _ _ _, (fun _ _ h => by cases h), hbA⟩
        · have t0 : (a == b) = false := by simp [hab]
          by_cases hfull : es.length = 12
          · have t9 : ((es.length : Int) == 12) = true := by simp; omega
            have HK := Lib.hid (show addK N es a b = false by simp [addK, hfull])
            have E0 := add_no HK.out
            have E1 := Lib.hid E0.1
            have E2 := Lib.hid E0.2
            clear E0
            clear ha hg hb' hab hfull
            go_enter Try.func132, Try.ntmps132
            go_wp2_with fail
            rw [← HWA.out]
            refine HG.out.mono ?_
            rintro e w1 ⟨rfl, hb⟩
            have HB1 := Lib.hid (hk1.below hb (by omega))
            have HB2 := Lib.hid (hk2.below hb (by omega))
            have hb1 := hba.trans (hb.mono hba.size)
            obtain ⟨hc0, hc1, hf0, hf1, hl1⟩ := box_facts HB1.out
            obtain ⟨hd0, hd1, hg0, hg1, hl2⟩ := box_facts HB2.out
            clear hb hk1 hk2 HG
            go_wp2_with fail
            refine (HIA w1).out.mono ?_
            rintro e w2 ⟨rfl, rfl⟩
            go_wp2_with fail
            refine (HIB w1).out.mono ?_
            rintro e w2 ⟨rfl, rfl⟩
            go_wp2
            obtain ⟨W6, hW6⟩ : ∃ W6 : World, W6 = ((w1.setCell ⟨w.heap.size + 1, 0, none⟩ (.int .i64 0)).setCell ⟨w.heap.size + 1, 1, none⟩ (.slice none 0 0)) := ⟨_, rfl⟩
            rw [← hW6]
            have hb9 : Blk W6 (w.heap.size + 1) 25 #[.int .i64 0, .slice none 0 0] := by rw [hW6]; exact (HB2.out.set_ 0 _).set_ 1 _
            have hbA : Below w.heap.size w W6 := by rw [hW6]; exact hb1.trans (below_two (by omega) _ _)
            obtain ⟨z0, z1, z2, z3, z4⟩ := box_facts hb9
            refine bodyPost_ret (v := .tuple #[.agg #[.int .i64 0, .slice none 0 0], .bool false]) (by simp [results, Try.results132, go_sem, z0, z1]) rfl ⟨none, 0, by rw [E1.out, E2.out, HK.out]; rfl, by rw [E2.out]; exact own_nil _ _ _, (fun _ _ h => by cases h), hbA⟩
          · have t9 : ((es.length : Int) == 12) = false := by simp; omega
            have HK := Lib.hid (show addK N es a b = true by simp [addK, hg, ha, hb', hab, hfull])
            have E0 := add_yes HK.out
            have E1 := Lib.hid E0.1
            have E2 := Lib.hid (show addL N es a b = insE es (min a b, max a b) from E0.2)
            have hal := vB_iff ha
            have hbl := vB_iff hb'
            obtain ⟨i0, hI, hzz0, hzz1, hzz2⟩ := info_parts edgeInfo
            have hm1 : 0 ≤ min a b ∧ min a b ≤ 6 := by omega
            have hm2 : 0 ≤ max a b ∧ max a b ≤ 6 := by omega
            clear E0 ha hg hb' hab hfull
            obtain ⟨e1, hmn⟩ : ∃ e1, min a b = e1 := ⟨_, rfl⟩
            obtain ⟨e2, hmx⟩ : ∃ e2, max a b = e2 := ⟨_, rfl⟩
            rw [hmn, hmx] at E2
            rw [hmn] at hm1
            rw [hmx] at hm2
            go_enter Try.func132, Try.ntmps132
            go_wp2_with fail
            rw [← HWA.out]
            refine HG.out.mono ?_
            rintro e w1 ⟨rfl, hb⟩
            have HB1 := Lib.hid (hk1.below hb (by omega))
            have HB2 := Lib.hid (hk2.below hb (by omega))
            have hb1 := hba.trans (hb.mono hba.size)
            obtain ⟨hc0, hc1, hf0, hf1, hl1⟩ := box_facts HB1.out
            obtain ⟨hd0, hd1, hg0, hg1, hl2⟩ := box_facts HB2.out
            clear hb hk1 hk2 HG
            go_wp2_with fail
            refine (HIA w1).out.mono ?_
            rintro e w2 ⟨rfl, rfl⟩
            go_wp2_with fail
            refine (HIB w1).out.mono ?_
            rintro e w2 ⟨rfl, rfl⟩
            have hmin : (0 : Int) = 0 := rfl
            clear hmin
            go_wp2
            clear hmn hmx
            obtain ⟨W3, hW3⟩ : ∃ W3 : World, W3 = (w1.alloc (Obj.cells #[.int .i64 e1, .int .i64 e2] 122)).alloc (Obj.cells #[.int .i64 N, .slice none 0 0] 25) := ⟨_, rfl⟩
            have hEB : Blk W3 w1.heap.size 122 #[.int .i64 e1, .int .i64 e2] := by rw [hW3]; exact (Blk.new w1 _ _).alloc _
            have hOB : Blk W3 (w1.heap.size + 1) 25 #[.int .i64 N, .slice none 0 0] := by
              have h := Blk.new (w1.alloc (Obj.cells #[.int .i64 e1, .int .i64 e2] 122)) 25 #[.int .i64 N, .slice none 0 0]
              rw [World.size_alloc, ← hW3] at h
              exact h
            have hb3 : Below w1.heap.size w1 W3 := by rw [hW3]; exact ((Below.refl _ _).alloc (Nat.le_refl _) _).alloc (by simp) _
            have HW3 := Lib.hid hW3
            clear hW3
            go_loopw [57, 10] (fun cnt dn wr => ∃ (j : Nat) (v : Value), j ≤ es.length ∧ cnt = .int .i64 j ∧ dn = .bool (decide (placeE es (e1, e2) < j)) ∧ Blk wr w1.heap.size 122 #[.int .i64 e1, .int .i64 e2] ∧ Blk wr (w1.heap.size + 1) 25 #[.int .i64 N, v] ∧ wr.ownsRow (w1.heap.size + 2) 122 2 v (gathE es (e1, e2) j).length (flat (gathE es (e1, e2) j)) ∧ Below w1.heap.size w1 wr) (fun cnt _ _ => es.length - (intOf cnt).toNat)
            case atStart =>
              rw [← HW3.out]
              exact ⟨0, _, Nat.zero_le _, rfl, by simp, hEB, hOB, ⟨by rw [gathE_zero]; rfl, .inl ⟨rfl, by rw [gathE_zero]; rfl⟩⟩, hb3⟩
            case round =>
              clear hEB hOB hb3 HW3
              obtain ⟨j, v, hj, rfl, rfl, heb, hob, hown, hbw⟩ := hrel
              have HEB := Lib.hid heb
              have HBX := Lib.hid hob
              have HO := Lib.hid hown
              have HBW := Lib.hid hbw
              have hsz := hbw.size
              have hgl := gathE_len es (e1, e2) j hj
              have hxl := hob.lt
              obtain ⟨x0, x1, x2, x3, x4⟩ := box_facts hob
              have y0 : wr.cell? ⟨w1.heap.size, 0, none⟩ = some (.int .i64 e1) := by rw [heb.cell]; rfl
              have y1 : wr.cell? ⟨w1.heap.size, 1, none⟩ = some (.int .i64 e2) := by rw [heb.cell]; rfl
              have y4 : w1.heap.size < wr.heap.size := heb.lt
              clear heb hob hown hbw
              by_cases hlt : j < es.length
              · have hj0 : (0 : Int) ≤ (j : Int) := Int.natCast_nonneg _
                have hj1 : (j : Int) < (es.length : Int) := by omega
                obtain ⟨b1, o1, x, rfl, hbb, he, he0, he1⟩ := (HE.out.below (hb1.trans (HBW.out.mono hb1.size))).at_ hlt
                have HX := Lib.hid he
                obtain ⟨p1, p2⟩ := x
                simp only at he0 he1
                have HXA := Lib.hid (Blk.new wr 122 #[.int .i64 p1, .int .i64 p2])
                clear he
                rcases Nat.lt_trichotomy j (placeE es (e1, e2)) with hjp | hjp | hjp
                · have hng := place_before (e := (e1, e2)) HX.out hjp
                  simp only [ltE, Bool.or_eq_false_iff, Bool.and_eq_false_iff, decide_eq_false_iff_not] at hng
                  by_cases heq : p1 = e1
                  · have t1 : decide (e1 < p1) = false := decide_eq_false (by omega)
                    have t2 : (p1 == e1) = true := by simp; omega
                    have t3 : decide (e2 < p2) = false := decide_eq_false (by omega)
                    clear hng heq
                    have HN := Lib.hid (gathE_before (e := (e1, e2)) HX.out hjp)
                    have HD := Lib.hid (show decide (placeE es (e1, e2) < j + 1) = false from by simp; omega)
                    have hdn : decide (placeE es (e1, e2) < j) = false := by simp; omega
                    rw [hdn]
                    obtain ⟨l, hl⟩ : ∃ l, l = gathE es (e1, e2) j := ⟨_, rfl⟩
                    rw [← hl] at HO hgl HN
                    clear hl
                    clear hdn
                    have OW := Lib.hid ((HO.out.alloc (.cells #[.int .i64 p1, .int .i64 p2] 122)).alloc (.cells #[.int .i64 p1, .int .i64 p2] 122))
                    go_wp2_with (at_builtin; refine wpList_append_own _ rfl _ _ 23 rfl (w1.heap.size + 2) 122 i0 (.agg #[.int .i64 0, .int .i64 0]) 2 16 Try.underlying23 hI hzz0 hzz1 hzz2 rfl (by decide) _ _ _ rfl OW.out ⟨_, 0, none⟩ 1 1 [.int .i64 p1, .int .i64 p2] rfl rfl ?p1 ?p2 ?p3 ?p4 ?p5 ?_)
                    case p1 => exact two_cells _ _ (by simp) _ _ _
                    case p2 =>
                      intro u hu
                      simp only [List.mem_cons, List.not_mem_nil, or_false] at hu
                      rcases hu with rfl | rfl <;> rfl
                    case p3 => unfold maxLen; omega
                    case p4 => omega
                    case p5 => first | omega | (simp; omega) | (simp [World.setCell]; omega)
                    intro v' w3 hown' hgrow _
                    have HQw3 : Hid (w3.ownsRow (w1.heap.size + 2) 122 2 v' (l ++ [(p1, p2)]).length (flat (l ++ [(p1, p2)]))) := Lib.hid (by
                      rw [flat_app]
                      have h3 := hown'
                      simpa [flat] using h3)
                    have hlt' := (OW.out).lt
                    have HEBw3 := Lib.hid (Blk.grown ((HEB.out.alloc (.cells #[.int .i64 p1, .int .i64 p2] 122)).alloc (.cells #[.int .i64 p1, .int .i64 p2] 122)) hgrow (fun h => by have := (hlt' _ h).1; omega))
                    have HBXw3 := Lib.hid (Blk.grown ((HBX.out.alloc (.cells #[.int .i64 p1, .int .i64 p2] 122)).alloc (.cells #[.int .i64 p1, .int .i64 p2] 122)) hgrow (fun h => by have := (hlt' _ h).1; omega))
                    have HBWw3 := Lib.hid (show Below w1.heap.size w1 w3 from ((HBW.out.alloc hsz (.cells #[.int .i64 p1, .int .i64 p2] 122)).alloc (by simp; omega) (.cells #[.int .i64 p1, .int .i64 p2] 122)).grown hgrow (by first | omega | (simp; omega) | (simp [World.setCell]; omega)) (fun q hq => by have := (hlt' q hq).1; omega))
                    have hszw3 := HBWw3.out.size
                    obtain ⟨A9, c9, hv9, -, -⟩ := ownE_of HQw3.out
                    rw [← HN.out] at HQw3 hv9
                    obtain ⟨n9, hn9⟩ : ∃ n9, n9 = (gathE es (e1, e2) (j + 1)).length := ⟨_, rfl⟩
                    rw [← hn9] at hv9
                    subst hv9
                    have HQ9 := Lib.hid (own_set (X := w1.heap.size + 1) (o := 1) (u := .slice A9 n9 c9) HQw3.out (by omega))
                    have HE9 := Lib.hid (HEBw3.out.far (p := ⟨w1.heap.size + 1, 1, none⟩) (by simp only; omega) (.slice A9 n9 c9))
                    have HB9 := Lib.hid (HBXw3.out.set_ 1 (.slice A9 n9 c9))
                    have HW9 := Lib.hid (Below.setCell (B := w1.heap.size) HBWw3.out (p := ⟨w1.heap.size + 1, 1, none⟩) (by simp only; omega) (.slice A9 n9 c9))
                    obtain ⟨s0, s1, s2, s3, s4⟩ := box_facts HBXw3.out
                    clear hown' hgrow hlt' hn9
                    go_wp2
                    exact ⟨⟨j + 1, .slice A9 n9 c9, by omega, by go_num, by rw [HD.out], HE9.out, HB9.out, HQ9.out, HW9.out⟩, by simp [intOf]; omega⟩
                  · have t1 : decide (e1 < p1) = false := decide_eq_false (by omega)
                    have t2 : (p1 == e1) = false := by simp; omega
                    clear hng heq
                    have HN := Lib.hid (gathE_before (e := (e1, e2)) HX.out hjp)
                    have HD := Lib.hid (show decide (placeE es (e1, e2) < j + 1) = false from by simp; omega)
                    have hdn : decide (placeE es (e1, e2) < j) = false := by simp; omega
                    rw [hdn]
                    obtain ⟨l, hl⟩ : ∃ l, l = gathE es (e1, e2) j := ⟨_, rfl⟩
                    rw [← hl] at HO hgl HN
                    clear hl
                    clear hdn
                    have OW := Lib.hid ((HO.out.alloc (.cells #[.int .i64 p1, .int .i64 p2] 122)).alloc (.cells #[.int .i64 p1, .int .i64 p2] 122))
                    go_wp2_with (at_builtin; refine wpList_append_own _ rfl _ _ 23 rfl (w1.heap.size + 2) 122 i0 (.agg #[.int .i64 0, .int .i64 0]) 2 16 Try.underlying23 hI hzz0 hzz1 hzz2 rfl (by decide) _ _ _ rfl OW.out ⟨_, 0, none⟩ 1 1 [.int .i64 p1, .int .i64 p2] rfl rfl ?p1 ?p2 ?p3 ?p4 ?p5 ?_)
                    case p1 => exact two_cells _ _ (by simp) _ _ _
                    case p2 =>
                      intro u hu
                      simp only [List.mem_cons, List.not_mem_nil, or_false] at hu
                      rcases hu with rfl | rfl <;> rfl
                    case p3 => unfold maxLen; omega
                    case p4 => omega
                    case p5 => first | omega | (simp; omega) | (simp [World.setCell]; omega)
                    intro v' w3 hown' hgrow _
                    have HQw3 : Hid (w3.ownsRow (w1.heap.size + 2) 122 2 v' (l ++ [(p1, p2)]).length (flat (l ++ [(p1, p2)]))) := Lib.hid (by
                      rw [flat_app]
                      have h3 := hown'
                      simpa [flat] using h3)
                    have hlt' := (OW.out).lt
                    have HEBw3 := Lib.hid (Blk.grown ((HEB.out.alloc (.cells #[.int .i64 p1, .int .i64 p2] 122)).alloc (.cells #[.int .i64 p1, .int .i64 p2] 122)) hgrow (fun h => by have := (hlt' _ h).1; omega))
                    have HBXw3 := Lib.hid (Blk.grown ((HBX.out.alloc (.cells #[.int .i64 p1, .int .i64 p2] 122)).alloc (.cells #[.int .i64 p1, .int .i64 p2] 122)) hgrow (fun h => by have := (hlt' _ h).1; omega))
                    have HBWw3 := Lib.hid (show Below w1.heap.size w1 w3 from ((HBW.out.alloc hsz (.cells #[.int .i64 p1, .int .i64 p2] 122)).alloc (by simp; omega) (.cells #[.int .i64 p1, .int .i64 p2] 122)).grown hgrow (by first | omega | (simp; omega) | (simp [World.setCell]; omega)) (fun q hq => by have := (hlt' q hq).1; omega))
                    have hszw3 := HBWw3.out.size
                    obtain ⟨A9, c9, hv9, -, -⟩ := ownE_of HQw3.out
                    rw [← HN.out] at HQw3 hv9
                    obtain ⟨n9, hn9⟩ : ∃ n9, n9 = (gathE es (e1, e2) (j + 1)).length := ⟨_, rfl⟩
                    rw [← hn9] at hv9
                    subst hv9
                    have HQ9 := Lib.hid (own_set (X := w1.heap.size + 1) (o := 1) (u := .slice A9 n9 c9) HQw3.out (by omega))
                    have HE9 := Lib.hid (HEBw3.out.far (p := ⟨w1.heap.size + 1, 1, none⟩) (by simp only; omega) (.slice A9 n9 c9))
                    have HB9 := Lib.hid (HBXw3.out.set_ 1 (.slice A9 n9 c9))
                    have HW9 := Lib.hid (Below.setCell (B := w1.heap.size) HBWw3.out (p := ⟨w1.heap.size + 1, 1, none⟩) (by simp only; omega) (.slice A9 n9 c9))
                    obtain ⟨s0, s1, s2, s3, s4⟩ := box_facts HBXw3.out
                    clear hown' hgrow hlt' hn9
                    go_wp2
                    exact ⟨⟨j + 1, .slice A9 n9 c9, by omega, by go_num, by rw [HD.out], HE9.out, HB9.out, HQ9.out, HW9.out⟩, by simp [intOf]; omega⟩
                · have hps := place_at (e := (e1, e2)) (hjp ▸ HX.out)
                  simp only [ltE, Bool.or_eq_true, Bool.and_eq_true, decide_eq_true_eq] at hps
                  by_cases heq : p1 = e1
                  · have t1 : decide (e1 < p1) = false := decide_eq_false (by omega)
                    have t2 : (p1 == e1) = true := by simp; omega
                    have t3 : decide (e2 < p2) = true := decide_eq_true (by omega)
                    clear hps heq
                    have HN := Lib.hid (hjp ▸ gathE_at (e := (e1, e2)) (hjp ▸ HX.out))
                    have HD := Lib.hid (show decide (placeE es (e1, e2) < j + 1) = true from by simp; omega)
                    have hdn : decide (placeE es (e1, e2) < j) = false := by simp; omega
                    rw [hdn]
                    obtain ⟨l, hl⟩ : ∃ l, l = gathE es (e1, e2) j := ⟨_, rfl⟩
                    rw [← hl] at HO hgl HN
                    clear hl
                    clear hdn hjp
                    have OW := Lib.hid ((HO.out.alloc (.cells #[.int .i64 p1, .int .i64 p2] 122)).alloc (.cells #[.int .i64 e1, .int .i64 e2] 122))
                    go_wp2_with (at_builtin; refine wpList_append_own _ rfl _ _ 23 rfl (w1.heap.size + 2) 122 i0 (.agg #[.int .i64 0, .int .i64 0]) 2 16 Try.underlying23 hI hzz0 hzz1 hzz2 rfl (by decide) _ _ _ rfl OW.out ⟨_, 0, none⟩ 1 1 [.int .i64 e1, .int .i64 e2] rfl rfl ?p1 ?p2 ?p3 ?p4 ?p5 ?_)
                    case p1 => exact two_cells _ _ (by simp) _ _ _
                    case p2 =>
                      intro u hu
                      simp only [List.mem_cons, List.not_mem_nil, or_false] at hu
                      rcases hu with rfl | rfl <;> rfl
                    case p3 => unfold maxLen; omega
                    case p4 => omega
                    case p5 => first | omega | (simp; omega) | (simp [World.setCell]; omega)
                    intro v' w3 hown' hgrow _
                    have HQw3 : Hid (w3.ownsRow (w1.heap.size + 2) 122 2 v' (l ++ [(e1, e2)]).length (flat (l ++ [(e1, e2)]))) := Lib.hid (by
                      rw [flat_app]
                      have h3 := hown'
                      simpa [flat] using h3)
                    have hlt' := (OW.out).lt
                    have HEBw3 := Lib.hid (Blk.grown ((HEB.out.alloc (.cells #[.int .i64 p1, .int .i64 p2] 122)).alloc (.cells #[.int .i64 e1, .int .i64 e2] 122)) hgrow (fun h => by have := (hlt' _ h).1; omega))
                    have HBXw3 := Lib.hid (Blk.grown ((HBX.out.alloc (.cells #[.int .i64 p1, .int .i64 p2] 122)).alloc (.cells #[.int .i64 e1, .int .i64 e2] 122)) hgrow (fun h => by have := (hlt' _ h).1; omega))
                    have HXAw3 := Lib.hid (Blk.grown (HXA.out.alloc (.cells #[.int .i64 e1, .int .i64 e2] 122)) hgrow (fun h => by have := (HO.out.lt _ h).2; omega))
                    have HBWw3 := Lib.hid (show Below w1.heap.size w1 w3 from ((HBW.out.alloc hsz (.cells #[.int .i64 p1, .int .i64 p2] 122)).alloc (by simp; omega) (.cells #[.int .i64 e1, .int .i64 e2] 122)).grown hgrow (by first | omega | (simp; omega) | (simp [World.setCell]; omega)) (fun q hq => by have := (hlt' q hq).1; omega))
                    have hszw3 := HBWw3.out.size
                    obtain ⟨A4, c4, hv4, -, -⟩ := ownE_of HQw3.out
                    obtain ⟨n4, hn4⟩ : ∃ n4, n4 = (l ++ [(e1, e2)]).length := ⟨_, rfl⟩
                    rw [← hn4] at hv4
                    have hn5 : n4 ≤ es.length + 2 := by rw [hn4]; simp; omega
                    subst hv4
                    have HQ4 := Lib.hid (own_set (X := w1.heap.size + 1) (o := 1) (u := .slice A4 n4 c4) HQw3.out (by omega))
                    have HE4 := Lib.hid (HEBw3.out.far (p := ⟨w1.heap.size + 1, 1, none⟩) (by simp only; omega) (.slice A4 n4 c4))
                    have HB4 := Lib.hid (HBXw3.out.set_ 1 (.slice A4 n4 c4))
                    have HX4 := Lib.hid (HXAw3.out.far (p := ⟨w1.heap.size + 1, 1, none⟩) (by simp only; omega) (.slice A4 n4 c4))
                    have HW4 := Lib.hid (Below.setCell (B := w1.heap.size) HBWw3.out (p := ⟨w1.heap.size + 1, 1, none⟩) (by simp only; omega) (.slice A4 n4 c4))
                    obtain ⟨s0, s1, s2, s3, s4⟩ := box_facts HBXw3.out
                    have q1 : (w3.setCell ⟨w1.heap.size + 1, 1, none⟩ (.slice A4 n4 c4)).cell? ⟨w1.heap.size + 1, 1, none⟩ = some (.slice A4 n4 c4) := by rw [HB4.out.cell]; rfl
                    have q2 : (w3.setCell ⟨w1.heap.size + 1, 1, none⟩ (.slice A4 n4 c4)).cell? ⟨wr.heap.size, 0, none⟩ = some (.int .i64 p1) := by rw [HX4.out.cell]; rfl
                    have q3 : (w3.setCell ⟨w1.heap.size + 1, 1, none⟩ (.slice A4 n4 c4)).cell? ⟨wr.heap.size, 1, none⟩ = some (.int .i64 p2) := by rw [HX4.out.cell]; rfl
                    have hs4 : (w3.setCell ⟨w1.heap.size + 1, 1, none⟩ (.slice A4 n4 c4)).heap.size = w3.heap.size := by simp [World.setCell]
                    rw [← hn4] at HQ4
                    have HNN := Lib.hid hn4
                    have OW4 := Lib.hid (HQ4.out.alloc (.cells #[.int .i64 p1, .int .i64 p2] 122))
                    clear hown' hgrow hlt' hn4
                    go_wp2_with (at_builtin; refine wpList_append_own _ rfl _ _ 23 rfl (w1.heap.size + 2) 122 i0 (.agg #[.int .i64 0, .int .i64 0]) 2 16 Try.underlying23 hI hzz0 hzz1 hzz2 rfl (by decide) _ _ _ rfl OW4.out ⟨_, 0, none⟩ 1 1 [.int .i64 p1, .int .i64 p2] rfl rfl ?p1 ?p2 ?p3 ?p4 ?p5 ?_)
                    case p1 => exact two_cells _ _ (by simp) _ _ _
                    case p2 =>
                      intro u hu
                      simp only [List.mem_cons, List.not_mem_nil, or_false] at hu
                      rcases hu with rfl | rfl <;> rfl
                    case p3 => unfold maxLen; omega
                    case p4 => omega
                    case p5 => first | omega | (simp; omega) | (simp [World.setCell]; omega)
                    intro v' w5 hown' hgrow _
                    have HQw5 : Hid (w5.ownsRow (w1.heap.size + 2) 122 2 v' ((l ++ [(e1, e2)]) ++ [(p1, p2)]).length (flat ((l ++ [(e1, e2)]) ++ [(p1, p2)]))) := Lib.hid (by
                      rw [flat_app]
                      have h3 := hown'
                      rw [HNN.out] at h3
                      simpa [flat] using h3)
                    have hlt' := (OW4.out).lt
                    have HEBw5 := Lib.hid (Blk.grown (HE4.out.alloc (.cells #[.int .i64 p1, .int .i64 p2] 122)) hgrow (fun h => by have := (hlt' _ h).1; omega))
                    have HBXw5 := Lib.hid (Blk.grown (HB4.out.alloc (.cells #[.int .i64 p1, .int .i64 p2] 122)) hgrow (fun h => by have := (hlt' _ h).1; omega))
                    have HBWw5 := Lib.hid (show Below w1.heap.size w1 w5 from (HW4.out.alloc (by rw [hs4]; omega) (.cells #[.int .i64 p1, .int .i64 p2] 122)).grown hgrow (by first | omega | (simp; omega) | (simp [World.setCell]; omega)) (fun q hq => by have := (hlt' q hq).1; omega))
                    have hszw5 := HBWw5.out.size
                    obtain ⟨A9, c9, hv9, -, -⟩ := ownE_of HQw5.out
                    rw [← HN.out] at HQw5 hv9
                    obtain ⟨n9, hn9⟩ : ∃ n9, n9 = (gathE es (e1, e2) (j + 1)).length := ⟨_, rfl⟩
                    rw [← hn9] at hv9
                    subst hv9
                    have HQ9 := Lib.hid (own_set (X := w1.heap.size + 1) (o := 1) (u := .slice A9 n9 c9) HQw5.out (by omega))
                    have HE9 := Lib.hid (HEBw5.out.far (p := ⟨w1.heap.size + 1, 1, none⟩) (by simp only; omega) (.slice A9 n9 c9))
                    have HB9 := Lib.hid (HBXw5.out.set_ 1 (.slice A9 n9 c9))
                    have HW9 := Lib.hid (Below.setCell (B := w1.heap.size) HBWw5.out (p := ⟨w1.heap.size + 1, 1, none⟩) (by simp only; omega) (.slice A9 n9 c9))
                    clear s0 s1 s2 s3 s4 q1 q2 q3 hs4
                    obtain ⟨s0, s1, s2, s3, s4⟩ := box_facts HBXw5.out
                    clear hown' hgrow hlt' hn9
                    go_wp2
                    exact ⟨⟨j + 1, .slice A9 n9 c9, by omega, by go_num, by rw [HD.out], HE9.out, HB9.out, HQ9.out, HW9.out⟩, by simp [intOf]; omega⟩
                  · have t1 : decide (e1 < p1) = true := decide_eq_true (by omega)
                    clear hps heq
                    have HN := Lib.hid (hjp ▸ gathE_at (e := (e1, e2)) (hjp ▸ HX.out))
                    have HD := Lib.hid (show decide (placeE es (e1, e2) < j + 1) = true from by simp; omega)
                    have hdn : decide (placeE es (e1, e2) < j) = false := by simp; omega
                    rw [hdn]
                    obtain ⟨l, hl⟩ : ∃ l, l = gathE es (e1, e2) j := ⟨_, rfl⟩
                    rw [← hl] at HO hgl HN
                    clear hl
                    clear hdn hjp
                    have OW := Lib.hid ((HO.out.alloc (.cells #[.int .i64 p1, .int .i64 p2] 122)).alloc (.cells #[.int .i64 e1, .int .i64 e2] 122))
                    go_wp2_with (at_builtin; refine wpList_append_own _ rfl _ _ 23 rfl (w1.heap.size + 2) 122 i0 (.agg #[.int .i64 0, .int .i64 0]) 2 16 Try.underlying23 hI hzz0 hzz1 hzz2 rfl (by decide) _ _ _ rfl OW.out ⟨_, 0, none⟩ 1 1 [.int .i64 e1, .int .i64 e2] rfl rfl ?p1 ?p2 ?p3 ?p4 ?p5 ?_)
                    case p1 => exact two_cells _ _ (by simp) _ _ _
                    case p2 =>
                      intro u hu
                      simp only [List.mem_cons, List.not_mem_nil, or_false] at hu
                      rcases hu with rfl | rfl <;> rfl
                    case p3 => unfold maxLen; omega
                    case p4 => omega
                    case p5 => first | omega | (simp; omega) | (simp [World.setCell]; omega)
                    intro v' w3 hown' hgrow _
                    have HQw3 : Hid (w3.ownsRow (w1.heap.size + 2) 122 2 v' (l ++ [(e1, e2)]).length (flat (l ++ [(e1, e2)]))) := Lib.hid (by
                      rw [flat_app]
                      have h3 := hown'
                      simpa [flat] using h3)
                    have hlt' := (OW.out).lt
                    have HEBw3 := Lib.hid (Blk.grown ((HEB.out.alloc (.cells #[.int .i64 p1, .int .i64 p2] 122)).alloc (.cells #[.int .i64 e1, .int .i64 e2] 122)) hgrow (fun h => by have := (hlt' _ h).1; omega))
                    have HBXw3 := Lib.hid (Blk.grown ((HBX.out.alloc (.cells #[.int .i64 p1, .int .i64 p2] 122)).alloc (.cells #[.int .i64 e1, .int .i64 e2] 122)) hgrow (fun h => by have := (hlt' _ h).1; omega))
                    have HXAw3 := Lib.hid (Blk.grown (HXA.out.alloc (.cells #[.int .i64 e1, .int .i64 e2] 122)) hgrow (fun h => by have := (HO.out.lt _ h).2; omega))
                    have HBWw3 := Lib.hid (show Below w1.heap.size w1 w3 from ((HBW.out.alloc hsz (.cells #[.int .i64 p1, .int .i64 p2] 122)).alloc (by simp; omega) (.cells #[.int .i64 e1, .int .i64 e2] 122)).grown hgrow (by first | omega | (simp; omega) | (simp [World.setCell]; omega)) (fun q hq => by have := (hlt' q hq).1; omega))
                    have hszw3 := HBWw3.out.size
                    obtain ⟨A4, c4, hv4, -, -⟩ := ownE_of HQw3.out
                    obtain ⟨n4, hn4⟩ : ∃ n4, n4 = (l ++ [(e1, e2)]).length := ⟨_, rfl⟩
                    rw [← hn4] at hv4
                    have hn5 : n4 ≤ es.length + 2 := by rw [hn4]; simp; omega
                    subst hv4
                    have HQ4 := Lib.hid (own_set (X := w1.heap.size + 1) (o := 1) (u := .slice A4 n4 c4) HQw3.out (by omega))
                    have HE4 := Lib.hid (HEBw3.out.far (p := ⟨w1.heap.size + 1, 1, none⟩) (by simp only; omega) (.slice A4 n4 c4))
                    have HB4 := Lib.hid (HBXw3.out.set_ 1 (.slice A4 n4 c4))
                    have HX4 := Lib.hid (HXAw3.out.far (p := ⟨w1.heap.size + 1, 1, none⟩) (by simp only; omega) (.slice A4 n4 c4))
                    have HW4 := Lib.hid (Below.setCell (B := w1.heap.size) HBWw3.out (p := ⟨w1.heap.size + 1, 1, none⟩) (by simp only; omega) (.slice A4 n4 c4))
                    obtain ⟨s0, s1, s2, s3, s4⟩ := box_facts HBXw3.out
                    have q1 : (w3.setCell ⟨w1.heap.size + 1, 1, none⟩ (.slice A4 n4 c4)).cell? ⟨w1.heap.size + 1, 1, none⟩ = some (.slice A4 n4 c4) := by rw [HB4.out.cell]; rfl
                    have q2 : (w3.setCell ⟨w1.heap.size + 1, 1, none⟩ (.slice A4 n4 c4)).cell? ⟨wr.heap.size, 0, none⟩ = some (.int .i64 p1) := by rw [HX4.out.cell]; rfl
                    have q3 : (w3.setCell ⟨w1.heap.size + 1, 1, none⟩ (.slice A4 n4 c4)).cell? ⟨wr.heap.size, 1, none⟩ = some (.int .i64 p2) := by rw [HX4.out.cell]; rfl
                    have hs4 : (w3.setCell ⟨w1.heap.size + 1, 1, none⟩ (.slice A4 n4 c4)).heap.size = w3.heap.size := by simp [World.setCell]
                    rw [← hn4] at HQ4
                    have HNN := Lib.hid hn4
                    have OW4 := Lib.hid (HQ4.out.alloc (.cells #[.int .i64 p1, .int .i64 p2] 122))
                    clear hown' hgrow hlt' hn4
                    go_wp2_with (at_builtin; refine wpList_append_own _ rfl _ _ 23 rfl (w1.heap.size + 2) 122 i0 (.agg #[.int .i64 0, .int .i64 0]) 2 16 Try.underlying23 hI hzz0 hzz1 hzz2 rfl (by decide) _ _ _ rfl OW4.out ⟨_, 0, none⟩ 1 1 [.int .i64 p1, .int .i64 p2] rfl rfl ?p1 ?p2 ?p3 ?p4 ?p5 ?_)
                    case p1 => exact two_cells _ _ (by simp) _ _ _
                    case p2 =>
                      intro u hu
                      simp only [List.mem_cons, List.not_mem_nil, or_false] at hu
                      rcases hu with rfl | rfl <;> rfl
                    case p3 => unfold maxLen; omega
                    case p4 => omega
                    case p5 => first | omega | (simp; omega) | (simp [World.setCell]; omega)
                    intro v' w5 hown' hgrow _
                    have HQw5 : Hid (w5.ownsRow (w1.heap.size + 2) 122 2 v' ((l ++ [(e1, e2)]) ++ [(p1, p2)]).length (flat ((l ++ [(e1, e2)]) ++ [(p1, p2)]))) := Lib.hid (by
                      rw [flat_app]
                      have h3 := hown'
                      rw [HNN.out] at h3
                      simpa [flat] using h3)
                    have hlt' := (OW4.out).lt
                    have HEBw5 := Lib.hid (Blk.grown (HE4.out.alloc (.cells #[.int .i64 p1, .int .i64 p2] 122)) hgrow (fun h => by have := (hlt' _ h).1; omega))
                    have HBXw5 := Lib.hid (Blk.grown (HB4.out.alloc (.cells #[.int .i64 p1, .int .i64 p2] 122)) hgrow (fun h => by have := (hlt' _ h).1; omega))
                    have HBWw5 := Lib.hid (show Below w1.heap.size w1 w5 from (HW4.out.alloc (by rw [hs4]; omega) (.cells #[.int .i64 p1, .int .i64 p2] 122)).grown hgrow (by first | omega | (simp; omega) | (simp [World.setCell]; omega)) (fun q hq => by have := (hlt' q hq).1; omega))
                    have hszw5 := HBWw5.out.size
                    obtain ⟨A9, c9, hv9, -, -⟩ := ownE_of HQw5.out
                    rw [← HN.out] at HQw5 hv9
                    obtain ⟨n9, hn9⟩ : ∃ n9, n9 = (gathE es (e1, e2) (j + 1)).length := ⟨_, rfl⟩
                    rw [← hn9] at hv9
                    subst hv9
                    have HQ9 := Lib.hid (own_set (X := w1.heap.size + 1) (o := 1) (u := .slice A9 n9 c9) HQw5.out (by omega))
                    have HE9 := Lib.hid (HEBw5.out.far (p := ⟨w1.heap.size + 1, 1, none⟩) (by simp only; omega) (.slice A9 n9 c9))
                    have HB9 := Lib.hid (HBXw5.out.set_ 1 (.slice A9 n9 c9))
                    have HW9 := Lib.hid (Below.setCell (B := w1.heap.size) HBWw5.out (p := ⟨w1.heap.size + 1, 1, none⟩) (by simp only; omega) (.slice A9 n9 c9))
                    clear s0 s1 s2 s3 s4 q1 q2 q3 hs4
                    obtain ⟨s0, s1, s2, s3, s4⟩ := box_facts HBXw5.out
                    clear hown' hgrow hlt' hn9
                    go_wp2
                    exact ⟨⟨j + 1, .slice A9 n9 c9, by omega, by go_num, by rw [HD.out], HE9.out, HB9.out, HQ9.out, HW9.out⟩, by simp [intOf]; omega⟩
                · have HN := Lib.hid (gathE_after (e := (e1, e2)) HX.out hjp)
                  have HD := Lib.hid (show decide (placeE es (e1, e2) < j + 1) = true from by simp; omega)
                  have hdn : decide (placeE es (e1, e2) < j) = true := by simp; omega
                  rw [hdn]
                  obtain ⟨l, hl⟩ : ∃ l, l = gathE es (e1, e2) j := ⟨_, rfl⟩
                  rw [← hl] at HO hgl HN
                  clear hl
                  clear hdn
                  have OW := Lib.hid ((HO.out.alloc (.cells #[.int .i64 p1, .int .i64 p2] 122)).alloc (.cells #[.int .i64 p1, .int .i64 p2] 122))
                  go_wp2_with (at_builtin; refine wpList_append_own _ rfl _ _ 23 rfl (w1.heap.size + 2) 122 i0 (.agg #[.int .i64 0, .int .i64 0]) 2 16 Try.underlying23 hI hzz0 hzz1 hzz2 rfl (by decide) _ _ _ rfl OW.out ⟨_, 0, none⟩ 1 1 [.int .i64 p1, .int .i64 p2] rfl rfl ?p1 ?p2 ?p3 ?p4 ?p5 ?_)
                  case p1 => exact two_cells _ _ (by simp) _ _ _
                  case p2 =>
                    intro u hu
                    simp only [List.mem_cons, List.not_mem_nil, or_false] at hu
                    rcases hu with rfl | rfl <;> rfl
                  case p3 => unfold maxLen; omega
                  case p4 => omega
                  case p5 => first | omega | (simp; omega) | (simp [World.setCell]; omega)
                  intro v' w3 hown' hgrow _
                  have HQw3 : Hid (w3.ownsRow (w1.heap.size + 2) 122 2 v' (l ++ [(p1, p2)]).length (flat (l ++ [(p1, p2)]))) := Lib.hid (by
                    rw [flat_app]
                    have h3 := hown'
                    simpa [flat] using h3)
                  have hlt' := (OW.out).lt
                  have HEBw3 := Lib.hid (Blk.grown ((HEB.out.alloc (.cells #[.int .i64 p1, .int .i64 p2] 122)).alloc (.cells #[.int .i64 p1, .int .i64 p2] 122)) hgrow (fun h => by have := (hlt' _ h).1; omega))
                  have HBXw3 := Lib.hid (Blk.grown ((HBX.out.alloc (.cells #[.int .i64 p1, .int .i64 p2] 122)).alloc (.cells #[.int .i64 p1, .int .i64 p2] 122)) hgrow (fun h => by have := (hlt' _ h).1; omega))
                  have HBWw3 := Lib.hid (show Below w1.heap.size w1 w3 from ((HBW.out.alloc hsz (.cells #[.int .i64 p1, .int .i64 p2] 122)).alloc (by simp; omega) (.cells #[.int .i64 p1, .int .i64 p2] 122)).grown hgrow (by first | omega | (simp; omega) | (simp [World.setCell]; omega)) (fun q hq => by have := (hlt' q hq).1; omega))
                  have hszw3 := HBWw3.out.size
                  obtain ⟨A9, c9, hv9, -, -⟩ := ownE_of HQw3.out
                  rw [← HN.out] at HQw3 hv9
                  obtain ⟨n9, hn9⟩ : ∃ n9, n9 = (gathE es (e1, e2) (j + 1)).length := ⟨_, rfl⟩
                  rw [← hn9] at hv9
                  subst hv9
                  have HQ9 := Lib.hid (own_set (X := w1.heap.size + 1) (o := 1) (u := .slice A9 n9 c9) HQw3.out (by omega))
                  have HE9 := Lib.hid (HEBw3.out.far (p := ⟨w1.heap.size + 1, 1, none⟩) (by simp only; omega) (.slice A9 n9 c9))
                  have HB9 := Lib.hid (HBXw3.out.set_ 1 (.slice A9 n9 c9))
                  have HW9 := Lib.hid (Below.setCell (B := w1.heap.size) HBWw3.out (p := ⟨w1.heap.size + 1, 1, none⟩) (by simp only; omega) (.slice A9 n9 c9))
                  obtain ⟨s0, s1, s2, s3, s4⟩ := box_facts HBXw3.out
                  clear hown' hgrow hlt' hn9
                  go_wp2
                  exact ⟨⟨j + 1, .slice A9 n9 c9, by omega, by go_num, by rw [HD.out], HE9.out, HB9.out, HQ9.out, HW9.out⟩, by simp [intOf]; omega⟩
              · have hjn : j = es.length := by omega
                subst hjn
                have hple := placeE_le es (e1, e2)
                have HR := Lib.hid (HB2.out.below HBW.out hl2)
                have hbz := hb1.trans (HBW.out.mono hb1.size)
                obtain ⟨r0, r1, r2, r3, r4⟩ := box_facts HR.out
                by_cases hpl : placeE es (e1, e2) < es.length
                · have hdn : decide (placeE es (e1, e2) < es.length) = true := decide_eq_true hpl
                  rw [hdn]
                  have hO2 := HO.out
                  rw [gathE_end1 hpl] at hO2
                  obtain ⟨A9, c9, hv9, hOE, hrg⟩ := ownE_of hO2
                  have HRG := Lib.hid hrg
                  have HOE := Lib.hid hOE
                  have HLN := Lib.hid (insE_len es (e1, e2))
                  subst hv9
                  obtain ⟨n9, hn9⟩ : ∃ n9, n9 = (insE es (e1, e2)).length := ⟨_, rfl⟩
                  rw [← hn9] at x1
                  have HN9 := Lib.hid hn9
                  clear hO2 hOE hrg hdn hpl HO HBX hn9
                  go_wp2
                  obtain ⟨W6, hW6⟩ : ∃ W6 : World, W6 = ((wr.setCell ⟨w.heap.size + 1, 0, none⟩ (.int .i64 N)).setCell ⟨w.heap.size + 1, 1, none⟩ (.slice A9 n9 c9)) := ⟨_, rfl⟩
                  rw [← hW6]
                  have hb9 : Blk W6 (w.heap.size + 1) 25 #[.int .i64 N, .slice A9 n9 c9] := by rw [hW6]; exact (HR.out.set_ 0 _).set_ 1 _
                  have hbA : Below w.heap.size w W6 := by rw [hW6]; exact hbz.trans (below_two (by omega) _ _)
                  have hsz6 : wr.heap.size ≤ W6.heap.size := by rw [hW6]; simp [World.setCell]
                  have hoA : OwnE W6 (w1.heap.size + 2) A9 (insE es (e1, e2)) := by rw [hW6]; exact ownE_far HOE.out (by omega) _ _
                  obtain ⟨z0, z1, z2, z3, z4⟩ := box_facts hb9
                  refine bodyPost_ret (v := .tuple #[.agg #[.int .i64 N, .slice A9 n9 c9], .bool true]) (by simp [results, Try.results132, go_sem, z0, z1]) rfl ⟨A9, c9, by rw [E1.out, E2.out, HK.out, HN9.out], by rw [E2.out]; exact hoA.mono (by omega), (fun g off e => ⟨by have := (HRG.out g off e).1; omega, by have := (HRG.out g off e).2; have := hsz6; omega⟩), hbA⟩
                · have hpq : placeE es (e1, e2) = es.length := by omega
                  have hdn : decide (placeE es (e1, e2) < es.length) = false := decide_eq_false hpl
                  rw [hdn]
                  have HN := Lib.hid (gathE_end2 hpq)
                  obtain ⟨l, hl⟩ : ∃ l, l = gathE es (e1, e2) es.length := ⟨_, rfl⟩
                  rw [← hl] at HO hgl HN
                  have HLN := Lib.hid (insE_len es (e1, e2))
                  clear hl hdn hpl
                  have OW := Lib.hid (HO.out.alloc (.cells #[.int .i64 e1, .int .i64 e2] 122))
                  go_wp2_with (at_builtin; refine wpList_append_own _ rfl _ _ 23 rfl (w1.heap.size + 2) 122 i0 (.agg #[.int .i64 0, .int .i64 0]) 2 16 Try.underlying23 hI hzz0 hzz1 hzz2 rfl (by decide) _ _ _ rfl OW.out ⟨_, 0, none⟩ 1 1 [.int .i64 e1, .int .i64 e2] rfl rfl ?p1 ?p2 ?p3 ?p4 ?p5 ?_)
                  case p1 => exact two_cells _ _ (by simp) _ _ _
                  case p2 =>
                    intro u hu
                    simp only [List.mem_cons, List.not_mem_nil, or_false] at hu
                    rcases hu with rfl | rfl <;> rfl
                  case p3 => unfold maxLen; omega
                  case p4 => omega
                  case p5 => first | omega | (simp; omega) | (simp [World.setCell]; omega)
                  intro v' w3 hown' hgrow _
                  have HQw3 : Hid (w3.ownsRow (w1.heap.size + 2) 122 2 v' (l ++ [(e1, e2)]).length (flat (l ++ [(e1, e2)]))) := Lib.hid (by
                    rw [flat_app]
                    have h3 := hown'
                    simpa [flat] using h3)
                  have hlt' := (OW.out).lt
                  have HBXw3 := Lib.hid (Blk.grown (HBX.out.alloc (.cells #[.int .i64 e1, .int .i64 e2] 122)) hgrow (fun h => by have := (hlt' _ h).1; omega))
                  have HRRw3 := Lib.hid (Blk.grown (HR.out.alloc (.cells #[.int .i64 e1, .int .i64 e2] 122)) hgrow (fun h => by have := (hlt' _ h).1; omega))
                  have HBWw3 := Lib.hid (show Below w1.heap.size w1 w3 from (HBW.out.alloc hsz (.cells #[.int .i64 e1, .int .i64 e2] 122)).grown hgrow (by first | omega | (simp; omega) | (simp [World.setCell]; omega)) (fun q hq => by have := (hlt' q hq).1; omega))
                  have hszw3 := HBWw3.out.size
                  rw [HN.out] at HQw3
                  obtain ⟨A9, c9, hv9, hOE, hrg⟩ := ownE_of HQw3.out
                  obtain ⟨n9, hn9⟩ : ∃ n9, n9 = (insE es (e1, e2)).length := ⟨_, rfl⟩
                  rw [← hn9] at hv9
                  have HN9 := Lib.hid hn9
                  subst hv9
                  have HRG := Lib.hid hrg
                  have HOE := Lib.hid (ownE_far1 hOE (X := w1.heap.size + 1) (by omega) 1 (.slice A9 n9 c9))
                  have HB4 := Lib.hid (HBXw3.out.set_ 1 (.slice A9 n9 c9))
                  have HR4 := Lib.hid (HRRw3.out.far (p := ⟨w1.heap.size + 1, 1, none⟩) (by simp only; omega) (.slice A9 n9 c9))
                  have HW4 := Lib.hid (Below.setCell (B := w1.heap.size) HBWw3.out (p := ⟨w1.heap.size + 1, 1, none⟩) (by simp only; omega) (.slice A9 n9 c9))
                  obtain ⟨s0, s1, s2, s3, s4⟩ := box_facts HBXw3.out
                  have q0 : (w3.setCell ⟨w1.heap.size + 1, 1, none⟩ (.slice A9 n9 c9)).cell? ⟨w1.heap.size + 1, 0, none⟩ = some (.int .i64 N) := by rw [HB4.out.cell]; rfl
                  have q1 : (w3.setCell ⟨w1.heap.size + 1, 1, none⟩ (.slice A9 n9 c9)).cell? ⟨w1.heap.size + 1, 1, none⟩ = some (.slice A9 n9 c9) := by rw [HB4.out.cell]; rfl
                  obtain ⟨u0, u1, u2, u3, u4⟩ := box_facts HR4.out
                  have hbz2 := hb1.trans (HW4.out.mono hb1.size)
                  clear hown' hgrow hlt' hOE hrg hn9 r0 r1 r2 r3 x0 x1 x2 x3
                  go_wp2
                  obtain ⟨W6, hW6⟩ : ∃ W6 : World, W6 = (((w3.setCell ⟨w1.heap.size + 1, 1, none⟩ (.slice A9 n9 c9)).setCell ⟨w.heap.size + 1, 0, none⟩ (.int .i64 N)).setCell ⟨w.heap.size + 1, 1, none⟩ (.slice A9 n9 c9)) := ⟨_, rfl⟩
                  rw [← hW6]
                  have hb9 : Blk W6 (w.heap.size + 1) 25 #[.int .i64 N, .slice A9 n9 c9] := by rw [hW6]; exact (HR4.out.set_ 0 _).set_ 1 _
                  have hbA : Below w.heap.size w W6 := by rw [hW6]; exact hbz2.trans (below_two (by omega) _ _)
                  have hsz6 : w3.heap.size ≤ W6.heap.size := by rw [hW6]; simp [World.setCell]
                  have hoA : OwnE W6 (w1.heap.size + 2) A9 (insE es (e1, e2)) := by rw [hW6]; exact ownE_far HOE.out (by omega) _ _
                  obtain ⟨z0, z1, z2, z3, z4⟩ := box_facts hb9
                  refine bodyPost_ret (v := .tuple #[.agg #[.int .i64 N, .slice A9 n9 c9], .bool true]) (by simp [results, Try.results132, go_sem, z0, z1]) rfl ⟨A9, c9, by rw [E1.out, E2.out, HK.out, HN9.out], by rw [E2.out]; exact hoA.mono (by omega), (fun g off e => ⟨by have := (HRG.out g off e).1; omega, by have := (HRG.out g off e).2; have := hsz6; omega⟩), hbA⟩
end Go.Proofs.Ytndncmjhpbjcoaa

/- A drawn graph, the plain math: a tree, its edges in order, and edges that are inserted. -/
namespace Go.Proofs.Ytndncmjhpbjcoaa
open Go.RowKit

theorem ltE_irr (x : Int × Int) : ltE x x = false := by simp [ltE]
theorem ltE_asymm {x y : Int × Int} (h : ltE x y = true) : ltE y x = false := by
  simp only [ltE, Bool.or_eq_true, Bool.and_eq_true, decide_eq_true_eq, Bool.or_eq_false_iff, Bool.and_eq_false_iff, decide_eq_false_iff_not] at h ⊢
  omega
theorem leE_trans {x y z : Int × Int} (h1 : ltE y x = false) (h2 : ltE z y = false) : ltE z x = false := by
  simp only [ltE, Bool.or_eq_false_iff, Bool.and_eq_false_iff, decide_eq_false_iff_not] at h1 h2 ⊢
  omega
theorem ltE_le {x y z : Int × Int} (h1 : ltE x y = true) (h2 : ltE z y = false) : ltE z x = false := by
  simp only [ltE, Bool.or_eq_true, Bool.and_eq_true, decide_eq_true_eq] at h1
  simp only [ltE, Bool.or_eq_false_iff, Bool.and_eq_false_iff, decide_eq_false_iff_not] at h2 ⊢
  omega
def Srt (es : List (Int × Int)) : Prop := es.Pairwise fun x y => ltE y x = false
theorem ordB_pairs {es : List (Int × Int)} (h : ordB es = true) (i : Nat) (hi : i + 1 < es.length) : ltE es[i + 1] es[i] = false := by
  unfold ordB at h
  rw [List.all_eq_true] at h
  have h1 := h i (List.mem_range.2 (by omega))
  rw [pairBad_eq (List.getElem?_eq_getElem (by omega)) (List.getElem?_eq_getElem hi)] at h1
  simpa using h1
theorem ordB_far {es : List (Int × Int)} (h : ordB es = true) : ∀ (n i : Nat) (hi : i + n < es.length), ltE es[i + n] es[i] = false
  | 0, i, hi => ltE_irr _
  | n + 1, i, hi => leE_trans (ordB_far h n i (by omega)) (ordB_pairs h (i + n) (by omega))
theorem ordB_srt {es : List (Int × Int)} (h : ordB es = true) : Srt es := by
  unfold Srt
  rw [List.pairwise_iff_getElem]
  intro i j hi hj hij
  have := ordB_far h (j - i) i (by omega)
  simpa [show i + (j - i) = j by omega] using this
theorem srt_ordB {es : List (Int × Int)} (h : Srt es) : ordB es = true := ordB_true fun i hi => by
  rw [pairBad_eq (List.getElem?_eq_getElem (by omega)) (List.getElem?_eq_getElem hi)]
  unfold Srt at h
  rw [List.pairwise_iff_getElem] at h
  exact h i (i + 1) (by omega) hi (by omega)
theorem edgesB_of {N : Int} {es : List (Int × Int)} (h1 : 1 ≤ N) (h2 : N ≤ 6) (h3 : es.length ≤ 12) (h4 : ∀ e ∈ es, 0 ≤ e.1 ∧ e.1 < e.2 ∧ e.2 < N) : edgesB N es = true := by
  simp only [edgesB, Bool.and_eq_true, decide_eq_true_eq, List.all_eq_true]
  refine ⟨⟨⟨h1, h2⟩, h3⟩, fun e he => ?_⟩
  have := h4 e he
  simp only [edgeOk, Bool.and_eq_true, decide_eq_true_eq]
  omega
theorem graphB_of {N : Int} {es : List (Int × Int)} (h1 : edgesB N es = true) (h2 : Srt es) (h3 : Conn N es) : graphB N es = true := by
  simp [graphB, h1, srt_ordB h2, connB_t h3]
theorem Near.sub {es fs : List (Int × Int)} (h : ∀ e ∈ es, e ∈ fs) {v u : Int} {k : Nat} (n : Near es v k u) : Near fs v k u := by
  induction n with
  | start => exact .start
  | stay _ ih => exact .stay ih
  | step _ ht ih => exact .step ih (ht.imp (h _) (h _))
theorem insE_mem {es : List (Int × Int)} {e x : Int × Int} : x ∈ insE es e ↔ x = e ∨ x ∈ es := by
  unfold insE
  rw [List.mem_append, List.mem_cons]
  have : x ∈ es ↔ x ∈ es.take (placeE es e) ∨ x ∈ es.drop (placeE es e) := by rw [← List.mem_append, List.take_append_drop]
  rw [this]
  constructor
  · rintro (h | h | h)
    · exact .inr (.inl h)
    · exact .inl h
    · exact .inr (.inr h)
  · rintro (h | h | h)
    · exact .inr (.inl h)
    · exact .inl h
    · exact .inr (.inr h)
theorem insE_srt {es : List (Int × Int)} {e : Int × Int} (h : Srt es) : Srt (insE es e) := by
  have hs : (es.take (placeE es e) ++ es.drop (placeE es e)).Pairwise fun x y => ltE y x = false := by rw [List.take_append_drop]; exact h
  rw [List.pairwise_append] at hs
  obtain ⟨h1, h2, h3⟩ := hs
  have hb : ∀ x ∈ es.take (placeE es e), ltE e x = false := fun x hx => by
    obtain ⟨i, hi⟩ := List.getElem?_of_mem hx
    have hil := (List.getElem?_eq_some_iff.1 hi).1
    rw [List.length_take] at hil
    rw [List.getElem?_take_of_lt (by omega)] at hi
    exact place_before hi (by omega)
  have ha : ∀ y ∈ es.drop (placeE es e), ltE y e = false := fun y hy => by
    cases hd : es.drop (placeE es e) with
    | nil => rw [hd] at hy; cases hy
    | cons z l =>
      have hz : es[placeE es e]? = some z := by
        have : (es.drop (placeE es e))[0]? = some z := by rw [hd]; rfl
        rwa [List.getElem?_drop, Nat.add_zero] at this
      have hez := place_at hz
      rw [hd, List.mem_cons] at hy
      rcases hy with rfl | hy
      · exact ltE_asymm hez
      · rw [hd, List.pairwise_cons] at h2
        exact ltE_le hez (h2.1 y hy)
  unfold Srt insE
  rw [List.pairwise_append, List.pairwise_cons]
  exact ⟨h1, ⟨ha, h2⟩, fun x hx y hy => by
    rw [List.mem_cons] at hy
    rcases hy with rfl | hy
    · exact hb x hx
    · exact h3 x hx y hy⟩
theorem add_valid {N : Int} {es : List (Int × Int)} {a b : Int} (h : addK N es a b = true) : graphB N (insE es (edgeOf a b)) = true := by
  simp only [addK, Bool.and_eq_true, Bool.not_eq_true', decide_eq_false_iff_not] at h
  obtain ⟨hg, ha, hb, hab, hl⟩ := h
  obtain ⟨h1, h2⟩ := graphB_all hg
  have ho : ordB es = true := by
    simp only [graphB, Bool.and_eq_true] at hg
    exact hg.1.2
  obtain ⟨l1, l2, l3⟩ := edgesB_lims h1
  have va := vB_iff ha
  have vb := vB_iff hb
  refine graphB_of (edgesB_of l1 l2 (by rw [insE_len]; omega) fun x hx => ?_) (insE_srt (ordB_srt ho)) fun u hu0 hu1 => ?_
  · rcases insE_mem.1 hx with rfl | hx
    · unfold edgeOf
      simp only
      omega
    · exact all_edge h1 hx
  · obtain ⟨k, n⟩ := h2 u hu0 hu1
    exact ⟨k, n.sub fun x hx => insE_mem.2 (.inr hx)⟩
def TreeL (l : List (Int × Int)) : Prop := ∀ (i : Nat) (x : Int × Int), l[i]? = some x → x.2 = (i : Int) + 1 ∧ 0 ≤ x.1 ∧ x.1 ≤ (i : Int)
theorem TreeL.nil : TreeL [] := fun i x h => by simp at h
theorem TreeL.push {l : List (Int × Int)} (h : TreeL l) {a : Int} (h0 : 0 ≤ a) (h1 : a ≤ (l.length : Int)) : TreeL (l ++ [(a, (l.length : Int) + 1)]) := fun i x hx => by
  rcases Nat.lt_or_ge i l.length with g | g
  · rw [List.getElem?_append_left g] at hx
    exact h i x hx
  · rw [List.getElem?_append_right g] at hx
    have hi : i - l.length = 0 := by
      have := (List.getElem?_eq_some_iff.1 hx).1
      simp at this
      omega
    rw [hi] at hx
    simp at hx
    subst hx
    simp only
    omega
theorem TreeL.mem {l : List (Int × Int)} (h : TreeL l) {x : Int × Int} (hx : x ∈ l) : 0 ≤ x.1 ∧ x.1 < x.2 ∧ x.2 ≤ (l.length : Int) := by
  obtain ⟨i, hi⟩ := List.getElem?_of_mem hx
  have := h i x hi
  have := (List.getElem?_eq_some_iff.1 hi).1
  omega
theorem nodupP_of {l : List (Int × Int)} (h : ∀ (i j : Nat) (x : Int × Int), l[i]? = some x → l[j]? = some x → i = j) : l.Nodup := by
  rw [List.nodup_iff_pairwise_ne, List.pairwise_iff_getElem]
  intro i j hi hj hij he
  have := h i j l[i] (List.getElem?_eq_getElem hi) (by rw [he]; exact List.getElem?_eq_getElem hj)
  omega
theorem TreeL.nodup {l : List (Int × Int)} (h : TreeL l) : l.Nodup := nodupP_of fun i j x hi hj => by
  have h1 := (h i x hi).1
  have h2 := (h j x hj).1
  omega
theorem nodup_count {x : Int × Int} : ∀ {l : List (Int × Int)}, l.Nodup → l.count x = if x ∈ l then 1 else 0
  | [], _ => rfl
  | y :: l, h => by
    rw [List.nodup_cons] at h
    rw [List.count_cons, nodup_count h.2]
    by_cases e : y = x
    · subst e
      rw [if_neg h.1]
      simp
    · have e2 : ¬ x = y := fun g => e g.symm
      have e3 : (y == x) = false := by simpa using e
      simp [e3, e2]
theorem nodup_lenP : ∀ (l m : List (Int × Int)), l.Nodup → (∀ x ∈ l, x ∈ m) → l.length ≤ m.length
  | [], m, _, _ => Nat.zero_le _
  | a :: l, m, hd, hs => by
    rw [List.nodup_cons] at hd
    have ha : a ∈ m := hs a (by simp)
    have h1 := nodup_lenP l (m.erase a) hd.2 fun x hx => (List.mem_erase_of_ne (by rintro rfl; exact hd.1 hx)).2 (hs x (by simp [hx]))
    have h2 := List.length_erase_of_mem ha
    have h3 := List.length_pos_of_mem ha
    rw [List.length_cons]
    omega
structure Upto (l hs : List (Int × Int)) (a b : Int) : Prop where
  srt : hs.Pairwise fun x y => ltE x y = true
  mem : ∀ x ∈ hs, x ∈ l ∧ ltE x (a, b) = true
  all : ∀ x ∈ l, ltE x (a, b) = true → x ∈ hs
theorem Upto.start {l : List (Int × Int)} (h : TreeL l) : Upto l [] 0 1 := ⟨List.Pairwise.nil, (fun x hx => by cases hx), fun x hx hlt => by
  have := h.mem hx
  simp only [ltE, Bool.or_eq_true, Bool.and_eq_true, decide_eq_true_eq] at hlt
  omega⟩
theorem Upto.skip {l hs : List (Int × Int)} {a b : Int} (h : Upto l hs a b) (hn : ¬ (a, b) ∈ l) : Upto l hs a (b + 1) := ⟨h.srt, fun x hx => ⟨(h.mem x hx).1, by
  have := (h.mem x hx).2
  simp only [ltE, Bool.or_eq_true, Bool.and_eq_true, decide_eq_true_eq] at this ⊢
  omega⟩, fun x hx hlt => by
  by_cases e : x = (a, b)
  · rw [e] at hx; exact absurd hx hn
  · refine h.all x hx ?_
    have : ¬ (x.1 = a ∧ x.2 = b) := fun g => e (Prod.ext g.1 g.2)
    simp only [ltE, Bool.or_eq_true, Bool.and_eq_true, decide_eq_true_eq] at hlt ⊢
    omega⟩
theorem Upto.take {l hs : List (Int × Int)} {a b : Int} (h : Upto l hs a b) (hm : (a, b) ∈ l) : Upto l (hs ++ [(a, b)]) a (b + 1) := ⟨by
  rw [List.pairwise_append]
  exact ⟨h.srt, List.pairwise_singleton _ _, fun x hx y hy => by
    rw [List.mem_singleton] at hy
    subst hy
    exact (h.mem x hx).2⟩, fun x hx => by
  rw [List.mem_append, List.mem_singleton] at hx
  rcases hx with hx | rfl
  · refine ⟨(h.mem x hx).1, ?_⟩
    have := (h.mem x hx).2
    simp only [ltE, Bool.or_eq_true, Bool.and_eq_true, decide_eq_true_eq] at this ⊢
    omega
  · refine ⟨hm, ?_⟩
    have : b < b + 1 := by omega
    simp [ltE, this], fun x hx hlt => by
  rw [List.mem_append, List.mem_singleton]
  by_cases e : x = (a, b)
  · exact .inr e
  · refine .inl (h.all x hx ?_)
    have : ¬ (x.1 = a ∧ x.2 = b) := fun g => e (Prod.ext g.1 g.2)
    simp only [ltE, Bool.or_eq_true, Bool.and_eq_true, decide_eq_true_eq] at hlt ⊢
    omega⟩
theorem Upto.row {l hs : List (Int × Int)} {a n : Int} (h : Upto l hs a n) (ht : TreeL l) (hn : (l.length : Int) + 1 = n) : Upto l hs (a + 1) (a + 2) := ⟨h.srt, fun x hx => ⟨(h.mem x hx).1, by
  have := (h.mem x hx).2
  simp only [ltE, Bool.or_eq_true, Bool.and_eq_true, decide_eq_true_eq] at this ⊢
  omega⟩, fun x hx hlt => h.all x hx (by
  have := ht.mem hx
  simp only [ltE, Bool.or_eq_true, Bool.and_eq_true, decide_eq_true_eq] at hlt ⊢
  omega)⟩
theorem Upto.len {l hs : List (Int × Int)} {a b : Int} (h : Upto l hs a b) : hs.length ≤ l.length :=
  nodup_lenP hs l (List.nodup_iff_pairwise_ne.2 (h.srt.imp fun {x y} hxy e => by rw [e, ltE_irr] at hxy; cases hxy)) fun x hx => (h.mem x hx).1
theorem Upto.done {l hs : List (Int × Int)} {n b : Int} (h : Upto l hs n b) (ht : TreeL l) (hn : (l.length : Int) + 1 = n) (h1 : 1 ≤ n) (h6 : n ≤ 6) : graphB n hs = true := by
  have hall : ∀ x ∈ l, x ∈ hs := fun x hx => h.all x hx (by
    have := ht.mem hx
    simp only [ltE, Bool.or_eq_true, Bool.and_eq_true, decide_eq_true_eq]
    omega)
  have hlen := h.len
  refine graphB_of (edgesB_of h1 h6 (by omega) fun x hx => ?_) (h.srt.imp fun {x y} hxy => ltE_asymm hxy) fun u hu0 hu1 => ?_
  · have := ht.mem (h.mem x hx).1
    omega
  · obtain ⟨m, rfl⟩ : ∃ m : Nat, u = (m : Int) := ⟨u.toNat, by omega⟩
    clear hu0
    induction m using Nat.strongRecOn with
    | _ m ih =>
      cases m with
      | zero => exact ⟨0, .start⟩
      | succ m =>
        have hml : m < l.length := by omega
        obtain ⟨h2, h3, h4⟩ := ht m l[m] (List.getElem?_eq_getElem hml)
        obtain ⟨k, nk⟩ := ih l[m].1.toNat (by omega) (by omega)
        rw [show ((l[m].1.toNat : Nat) : Int) = l[m].1 by omega] at nk
        refine ⟨k + 1, .step nk (.inl ?_)⟩
        have := hall l[m] (List.getElem_mem hml)
        rwa [show l[m] = (l[m].1, ((m + 1 : Nat) : Int)) from Prod.ext rfl (by rw [h2]; omega)] at this
end Go.Proofs.Ytndncmjhpbjcoaa

/- The specification's cursor over the bytes of a code, without its strings: what its functions hand back, whatever the bytes are. -/
namespace Go.Proofs.Ytndncmjhpbjcoaa
open Go.RowKit

def CodeS (w : World) (B : Nat) (A : Option Addr) (xs : List Int) : Prop :=
  (∀ z ∈ xs, 0 ≤ z ∧ z ≤ 255) ∧ (0 < xs.length → ∃ b off : Nat, A = some ⟨b, off, none⟩ ∧ b < B ∧ ∀ (i : Nat) (z : Int), xs[i]? = some z → w.cell? ⟨b, off + i, none⟩ = some (.int .u8 z))
theorem CodeS.at_ {w : World} {B : Nat} {A : Option Addr} {xs : List Int} (h : CodeS w B A xs) {k : Nat} (hk : k < xs.length) :
    ∃ (b off : Nat) (z : Int), A = some ⟨b, off, none⟩ ∧ b < B ∧ w.cell? ⟨b, off + k, none⟩ = some (.int .u8 z) ∧ 0 ≤ z ∧ z ≤ 255 := by
  obtain ⟨b, off, e, hb, hc⟩ := h.2 (by omega)
  have h2 := h.1 xs[k] (List.getElem_mem hk)
  exact ⟨b, off, xs[k], e, hb, hc k _ (List.getElem?_eq_getElem hk), h2.1, h2.2⟩
theorem CodeS.keep {w w' : World} {B : Nat} {A : Option Addr} {xs : List Int} (h : CodeS w B A xs) (hb : Below B w w') : CodeS w' B A xs :=
  ⟨h.1, fun hn => by
    obtain ⟨b, off, e, hb1, hc⟩ := h.2 hn
    exact ⟨b, off, e, hb1, fun i z hz => (hb.cell hb1).trans (hc i z hz)⟩⟩
def Cur (w : World) (g : Nat) (A : Option Addr) (n c : Nat) : Prop := ∃ (i : Nat) (h : Int), i ≤ n ∧ -9223372036854775808 ≤ h ∧ h ≤ 9223372036854775807 ∧ Blk w g 106 #[.slice A n c, .int .i64 i, .int .i64 h]
def Draws (m : Int) (w : World) (g : Nat) (A : Option Addr) (n c : Nat) (e : Ending) (w' : World) : Prop := ∃ x : Int, e = .returned (.int .i64 x) ∧ 0 ≤ x ∧ x ≤ m ∧ Cur w' g A n c ∧ Below g w w' ∧ ∀ k, k ≠ g → w'.heap[k]? = w.heap[k]?
theorem and255 (n : Int) : bits .and .i64 n 255 = n % 256 := by
  have h127 : (BitVec.ofInt 64 255).toNat = 2 ^ 8 - 1 := by decide
  have key : (BitVec.ofInt 64 n &&& BitVec.ofInt 64 255).toNat = (n % ((2 ^ 64 : Nat) : Int)).toNat % 2 ^ 8 := by
    rw [BitVec.toNat_and, BitVec.toNat_ofInt, h127, Nat.and_two_pow_sub_one_eq_mod]
  show IntKind.i64.wrap ((BitVec.ofInt 64 n &&& BitVec.ofInt 64 255).toNat : Nat) = n % 256
  rw [key, IntKind.wrap_i64]
  omega
theorem and30 (n : Int) : bits .and .i64 n 1073741823 = n % 1073741824 := by
  have h127 : (BitVec.ofInt 64 1073741823).toNat = 2 ^ 30 - 1 := by decide
  have key : (BitVec.ofInt 64 n &&& BitVec.ofInt 64 1073741823).toNat = (n % ((2 ^ 64 : Nat) : Int)).toNat % 2 ^ 30 := by
    rw [BitVec.toNat_and, BitVec.toNat_ofInt, h127, Nat.and_two_pow_sub_one_eq_mod]
  show IntKind.i64.wrap ((BitVec.ofInt 64 n &&& BitVec.ofInt 64 1073741823).toNat : Nat) = n % 1073741824
  rw [key, IntKind.wrap_i64]
  omega
theorem cur_facts {w : World} {g : Nat} {a i h : Value} (hb : Blk w g 106 #[a, i, h]) :
    w.cell? ⟨g, 0, none⟩ = some a ∧ w.cell? ⟨g, 1, none⟩ = some i ∧ w.cell? ⟨g, 2, none⟩ = some h ∧ w.frozen? ⟨g, 1, none⟩ = false ∧ w.frozen? ⟨g, 2, none⟩ = false ∧ g < w.heap.size :=
  ⟨by rw [hb.cell]; rfl, by rw [hb.cell]; rfl, by rw [hb.cell]; rfl, hb.frozen 1, hb.frozen 2, hb.lt⟩
set_option maxRecDepth 100000 in
set_option maxHeartbeats 1000000 in
theorem l01Byte_any (w : World) (g : Nat) (A : Option Addr) (c : Nat) (xs : List Int) (hx : xs.length ≤ 1048576) (hC : Cur w g A xs.length c) (hS : CodeS w g A xs) :
    Calls Try.prog 56 #[.pointer (some ⟨g, 0, none⟩)] w (Draws 255 w g A xs.length c) := by
  obtain ⟨i, h, hi, hh0, hh1, hblk⟩ := hC
  have HB := Lib.hid hblk
  have HS := Lib.hid hS
  obtain ⟨hc0, hc1, hc2, hf1, hf2, hglt⟩ := cur_facts hblk
  clear hblk hS
  by_cases hlt : i < xs.length
  · have hj0 : (0 : Int) ≤ (i : Int) := Int.natCast_nonneg _
    have hj1 : (i : Int) < (xs.length : Int) := by omega
    go_enter Try.func56, Try.ntmps56
    go_wp2
    obtain ⟨h1, hh1⟩ : ∃ h1, h1 = wrap64 (wrap64 (h * 6364136223846793005) + 1442695040888963407) := ⟨_, rfl⟩
    rw [← hh1]
    obtain ⟨w1, hw1⟩ : ∃ w1, w1 = w.setCell ⟨g, 2, none⟩ (.int .i64 h1) := ⟨_, rfl⟩
    rw [← hw1]
    have hbk1 : Blk w1 g 106 #[.slice A xs.length c, .int .i64 i, .int .i64 h1] := by rw [hw1]; exact HB.out.set_ 2 _
    have hbw1 : Below g w w1 := by rw [hw1]; exact Below.setCell (B := g) (Below.refl g w) (p := ⟨g, 2, none⟩) (Nat.le_refl g) _
    have hfr1 : ∀ k, k ≠ g → w1.heap[k]? = w.heap[k]? := fun k hk => by rw [hw1]; exact Below.heap_setCell _ _ _ _ (by simpa using hk)
    have hr1 : -9223372036854775808 ≤ h1 := by rw [hh1]; unfold wrap64; omega
    have hr2 : h1 ≤ 9223372036854775807 := by rw [hh1]; unfold wrap64; omega
    clear hw1 hc0 hc1 hc2 hf1 hf2 hglt hh1
    obtain ⟨hc0, hc1, hc2, hf1, hf2, hglt⟩ := cur_facts hbk1
    go_region
    obtain ⟨x, hx1⟩ : ∃ x, x = bits BinOp.and IntKind.i64 (bits BinOp.xor IntKind.i64 (h1 / 8589934592) (h1 / 35184372088832)) 255 := ⟨_, rfl⟩
    rw [← hx1]
    have hx0 : 0 ≤ x := by rw [hx1, and255]; omega
    have hx2 : x ≤ 255 := by rw [hx1, and255]; omega
    clear hx1 hc0 hc1 hc2 hf1 hf2 hglt
    obtain ⟨w2, hw2⟩ : ∃ w2, w2 = w1.drew := ⟨_, rfl⟩
    rw [← hw2]
    have hbk2 : Blk w2 g 106 #[.slice A xs.length c, .int .i64 i, .int .i64 h1] := by rw [hw2]; exact hbk1
    have hbw2 : Below g w w2 := by rw [hw2]; exact hbw1.drew
    have HFR : Hid (∀ k, k ≠ g → w2.heap[k]? = w.heap[k]?) := Lib.hid (by rw [hw2]; exact hfr1)
    have HBW := Lib.hid hbw2
    have HBK := Lib.hid hbk2
    clear hw2 hbk1 hbw1 hfr1
    obtain ⟨hc0, hc1, hc2, hf1, hf2, hglt⟩ := cur_facts hbk2
    clear hbk2 hbw2
    obtain ⟨b, off, z, rfl, hb, hcz, hz0, hz1⟩ := (HS.out.keep HBW.out).at_ hlt
    go_wp2
    go_region
    go_wp2
    go_region
    obtain ⟨y, hy1⟩ : ∃ y, y = bits BinOp.and IntKind.i64 (x + z) 255 := ⟨_, rfl⟩
    rw [← hy1]
    have hy0 : 0 ≤ y := by rw [hy1, and255]; omega
    have hy2 : y ≤ 255 := by rw [hy1, and255]; omega
    clear hy1
    go_wp2
    go_ret
    exact ⟨y, rfl, hy0, hy2, ⟨i + 1, h1, by omega, hr1, hr2, HBK.out.set_ 1 (.int .i64 ((i : Int) + 1))⟩, ((Below.setCell (B := g) HBW.out (p := ⟨g, 1, none⟩) (Nat.le_refl g) _).drew).drew, fun k hk => (Below.heap_setCell _ _ _ _ (by simpa using hk)).trans (HFR.out k hk)⟩
  · have hj1 : (xs.length : Int) ≤ (i : Int) := by omega
    go_enter Try.func56, Try.ntmps56
    go_wp2
    obtain ⟨h1, hh1⟩ : ∃ h1, h1 = wrap64 (wrap64 (h * 6364136223846793005) + 1442695040888963407) := ⟨_, rfl⟩
    rw [← hh1]
    obtain ⟨w1, hw1⟩ : ∃ w1, w1 = w.setCell ⟨g, 2, none⟩ (.int .i64 h1) := ⟨_, rfl⟩
    rw [← hw1]
    have hbk1 : Blk w1 g 106 #[.slice A xs.length c, .int .i64 i, .int .i64 h1] := by rw [hw1]; exact HB.out.set_ 2 _
    have hbw1 : Below g w w1 := by rw [hw1]; exact Below.setCell (B := g) (Below.refl g w) (p := ⟨g, 2, none⟩) (Nat.le_refl g) _
    have hfr1 : ∀ k, k ≠ g → w1.heap[k]? = w.heap[k]? := fun k hk => by rw [hw1]; exact Below.heap_setCell _ _ _ _ (by simpa using hk)
    have hr1 : -9223372036854775808 ≤ h1 := by rw [hh1]; unfold wrap64; omega
    have hr2 : h1 ≤ 9223372036854775807 := by rw [hh1]; unfold wrap64; omega
    clear hw1 hc0 hc1 hc2 hf1 hf2 hglt hh1
    obtain ⟨hc0, hc1, hc2, hf1, hf2, hglt⟩ := cur_facts hbk1
    go_region
    obtain ⟨x, hx1⟩ : ∃ x, x = bits BinOp.and IntKind.i64 (bits BinOp.xor IntKind.i64 (h1 / 8589934592) (h1 / 35184372088832)) 255 := ⟨_, rfl⟩
    rw [← hx1]
    have hx0 : 0 ≤ x := by rw [hx1, and255]; omega
    have hx2 : x ≤ 255 := by rw [hx1, and255]; omega
    clear hx1 hc0 hc1 hc2 hf1 hf2 hglt
    obtain ⟨w2, hw2⟩ : ∃ w2, w2 = w1.drew := ⟨_, rfl⟩
    rw [← hw2]
    have hbk2 : Blk w2 g 106 #[.slice A xs.length c, .int .i64 i, .int .i64 h1] := by rw [hw2]; exact hbk1
    have hbw2 : Below g w w2 := by rw [hw2]; exact hbw1.drew
    have HFR : Hid (∀ k, k ≠ g → w2.heap[k]? = w.heap[k]?) := Lib.hid (by rw [hw2]; exact hfr1)
    have HBW := Lib.hid hbw2
    have HBK := Lib.hid hbk2
    clear hw2 hbk1 hbw1 hfr1
    obtain ⟨hc0, hc1, hc2, hf1, hf2, hglt⟩ := cur_facts hbk2
    clear hbk2 hbw2
    go_wp2
    go_region
    go_wp2
    go_ret
    exact ⟨x, rfl, hx0, hx2, ⟨i, h1, hi, hr1, hr2, HBK.out⟩, HBW.out.drew, HFR.out⟩
set_option maxRecDepth 100000 in
set_option maxHeartbeats 1000000 in
theorem l01Below_any (m : Int) (hm0 : 1 ≤ m) (hm1 : m ≤ 256) (w : World) (g : Nat) (A : Option Addr) (c : Nat) (xs : List Int) (hx : xs.length ≤ 1048576) (hC : Cur w g A xs.length c) (hS : CodeS w g A xs) :
    Calls Try.prog 98 #[.pointer (some ⟨g, 0, none⟩), .int .i64 m] w (Draws (m - 1) w g A xs.length c) := by
  have HC := Lib.hid (l01Byte_any w g A c xs hx hC hS)
  clear hC hS
  go_enter Try.func98, Try.ntmps98
  go_wp2_with fail
  refine HC.out.mono ?_
  rintro e w1 ⟨x, rfl, hx0, hx1, hC1, hb1, hfr⟩
  have HFR := Lib.hid hfr
  clear hfr
  go_wp2
  go_ret
  exact ⟨_, rfl, Int.emod_nonneg _ (by omega), by have := Int.emod_lt_of_pos x (show 0 < m by omega); omega, hC1, hb1, HFR.out⟩
set_option maxRecDepth 100000 in
set_option maxHeartbeats 1000000 in
theorem l01New_any (w : World) (A : Option Addr) (c : Nat) (xs : List Int) (hx : xs.length ≤ 1048576) (hS : CodeS w w.heap.size A xs) :
    Calls Try.prog 54 #[.slice A xs.length c] w fun e w' => ∃ N, e = .returned (.pointer (some ⟨N, 0, none⟩)) ∧ w.heap.size ≤ N ∧ Cur w' N A xs.length c ∧ Below w.heap.size w w' := by
  have HS := Lib.hid hS
  clear hS
  go_enter Try.func54, Try.ntmps54
  go_wp2
  go_loopw [3, 4] (fun h i wr => ∃ (k : Nat) (z : Int), k ≤ xs.length ∧ i = .int .i64 k ∧ h = .int .i64 z ∧ 0 ≤ z ∧ z ≤ 1073741823 ∧ Below w.heap.size w wr) (fun _ i _ => xs.length - (intOf i).toNat)
  case atStart => exact ⟨0, _, Nat.zero_le _, rfl, rfl, by omega, by omega, Below.refl _ _⟩
  case round =>
    obtain ⟨k, z, hk, rfl, rfl, hz0, hz1, hb⟩ := hrel
    have HB := Lib.hid hb
    clear hb
    by_cases hlt : k < xs.length
    · have hj0 : (0 : Int) ≤ (k : Int) := Int.natCast_nonneg _
      have hj1 : (k : Int) < (xs.length : Int) := by omega
      obtain ⟨b, off, y, rfl, hb1, hcz, hy0, hy1⟩ := (HS.out.keep HB.out).at_ hlt
      by_cases h4 : (k : Int) < 4000
      · go_wp2
        exact ⟨⟨k + 1, _, by omega, by go_num, rfl, by rw [and30]; omega, by rw [and30]; omega, HB.out⟩, by simp [intOf]; omega⟩
      · have h5 : (4000 : Int) ≤ (k : Int) := by omega
        clear h4
        go_wp2
        go_ret
        exact ⟨wr.heap.size, rfl, HB.out.size, ⟨0, z, Nat.zero_le _, by omega, by omega, Blk.new wr _ _⟩, HB.out.alloc HB.out.size _⟩
    · have hj1 : (xs.length : Int) ≤ (k : Int) := by omega
      go_wp2
      go_ret
      exact ⟨wr.heap.size, rfl, HB.out.size, ⟨0, z, Nat.zero_le _, by omega, by omega, Blk.new wr _ _⟩, HB.out.alloc HB.out.size _⟩
set_option maxRecDepth 100000 in
set_option maxHeartbeats 1000000 in
theorem l21New_any (m : Nat) (hm : m ≤ 1000) (w : World) (A : Option Addr) (c : Nat) (xs : List Int) (hx : xs.length ≤ 1048576) (hS : CodeS w w.heap.size A xs) :
    Calls Try.prog 55 #[.slice A xs.length c, .int .i64 m] w fun e w' => ∃ N, e = .returned (.pointer (some ⟨N, 0, none⟩)) ∧ w.heap.size ≤ N ∧ Cur w' N A xs.length c ∧ Below w.heap.size w w' := by
  have HS := Lib.hid hS
  have HN := Lib.hid (l01New_any w A c xs hx hS)
  have HC := fun w g h1 h2 => Lib.hid (l01Byte_any w g A c xs hx h1 h2)
  clear hS
  have hm2 : (m : Int) ≤ 1000 := by omega
  go_enter Try.func55, Try.ntmps55
  go_wp2_with fail
  refine HN.out.mono ?_
  rintro e w1 ⟨N, rfl, hN, hC, hb⟩
  have HC1 := Lib.hid hC
  clear hC
  go_wp2_with fail
  go_loopw [6] (fun i wr => ∃ (k : Nat), k ≤ m ∧ i = .int .i64 k ∧ Cur wr N A xs.length c ∧ Below w.heap.size w wr) (fun i _ => m - (intOf i).toNat)
  case atStart => exact ⟨0, Nat.zero_le _, rfl, HC1.out, hb⟩
  case round =>
    obtain ⟨k, hk, rfl, hcur, hb1⟩ := hrel
    by_cases hlt : k < m
    · have hj0 : (0 : Int) ≤ (k : Int) := Int.natCast_nonneg _
      have hj1 : (k : Int) < (m : Int) := by omega
      have hS1 : CodeS wr N A xs := by
        refine ⟨HS.out.1, fun hn => ?_⟩
        obtain ⟨b, off, e, hb2, hc⟩ := (HS.out.keep hb1).2 hn
        exact ⟨b, off, e, by omega, hc⟩
      have HH := HC wr N hcur hS1
      clear hS1 hcur
      go_wp2_with fail
      refine HH.out.mono ?_
      rintro e w2 ⟨x, rfl, hx0, hx1, hC2, hb2, -⟩
      have hb3 := hb1.trans (hb2.mono hN)
      have HC2 := Lib.hid hC2
      clear hC2 hb2 hb1
      go_wp2
      exact ⟨⟨k + 1, by omega, by go_num, HC2.out, hb3⟩, by simp [intOf]; omega⟩
    · have hj1 : (m : Int) ≤ (k : Int) := by omega
      have HC2 := Lib.hid hcur
      clear hcur
      go_wp2
      go_ret
      exact ⟨N, rfl, hN, HC2.out, hb1⟩
theorem CodeS.up {w : World} {B B' : Nat} {A : Option Addr} {xs : List Int} (h : CodeS w B A xs) (hB : B ≤ B') : CodeS w B' A xs :=
  ⟨h.1, fun hn => by
    obtain ⟨b, off, e, hb2, hc⟩ := h.2 hn
    exact ⟨b, off, e, by omega, hc⟩⟩
set_option maxRecDepth 100000 in
set_option maxHeartbeats 1000000 in
theorem makeNum_any (m : Nat) (hm : m ≤ 1000) (w : World) (A : Option Addr) (c : Nat) (xs : List Int) (hx : xs.length ≤ 1048576) (hS : CodeS w w.heap.size A xs) :
    Calls Try.prog 16 #[.slice A xs.length c, .int .i64 m] w fun e w' => ∃ x, e = .returned (.int .i64 x) ∧ 0 ≤ x ∧ x ≤ 65535 ∧ Below w.heap.size w w' := by
  have HS := Lib.hid hS
  have HN := Lib.hid (l21New_any m hm w A c xs hx hS)
  have HC := fun w g h1 h2 => Lib.hid (l01Byte_any w g A c xs hx h1 h2)
  clear hS
  have hm2 : (m : Int) ≤ 1000 := by omega
  go_enter Try.func16, Try.ntmps16
  go_wp2_with fail
  refine HN.out.mono ?_
  rintro e w1 ⟨N, rfl, hN, hC, hb⟩
  have H1 := HC w1 N hC ((HS.out.keep hb).up hN)
  clear hC
  go_wp2_with fail
  refine H1.out.mono ?_
  rintro e w2 ⟨x, rfl, hx0, hx1, hC2, hb2, -⟩
  have hb3 := hb.trans (hb2.mono hN)
  have H2 := HC w2 N hC2 ((HS.out.keep hb3).up hN)
  clear hC2 hb hb2
  go_wp2_with fail
  refine H2.out.mono ?_
  rintro e w3 ⟨y, rfl, hy0, hy1, -, hb2, -⟩
  have hb4 := hb3.trans (hb2.mono hN)
  clear hb3 hb2
  go_wp2
  go_ret
  exact ⟨_, rfl, by omega, by omega, hb4⟩
end Go.Proofs.Ytndncmjhpbjcoaa

/- The specification's l02Draw: what it draws is a valid graph of its own. -/
namespace Go.Proofs.Ytndncmjhpbjcoaa
open Go.RowKit

theorem own_keep2 {w w' : World} {base n size : Nat} {t : TypeId} {v : Value} {xs : List Value} (h : w.ownsRow base t size v n xs) (hk : ∀ g, base ≤ g → g < w.heap.size → w'.heap[g]? = w.heap[g]?) : w'.ownsRow base t size v n xs := by
  refine ⟨h.1, ?_⟩
  rcases h.2 with g | ⟨g, cap, cur, hv, hb, hh, rest⟩
  · exact .inl g
  · refine .inr ⟨g, cap, cur, hv, hb, ?_, rest⟩
    rw [hk g hb (Array.getElem?_eq_some_iff.1 hh).1]
    exact hh
theorem Cur.below {w w' : World} {g n c : Nat} {A : Option Addr} (h : Cur w g A n c) (hb : Below w.heap.size w w') : Cur w' g A n c := by
  obtain ⟨i, x, h1, h2, h3, h4⟩ := h
  exact ⟨i, x, h1, h2, h3, h4.below hb h4.lt⟩
theorem Cur.keep {w w' : World} {g n c : Nat} {A : Option Addr} (h : Cur w g A n c) (hb : w'.heap[g]? = w.heap[g]?) : Cur w' g A n c := by
  obtain ⟨i, x, h1, h2, h3, h4⟩ := h
  exact ⟨i, x, h1, h2, h3, hb.trans h4⟩
theorem Cur.lt {w : World} {g n c : Nat} {A : Option Addr} (h : Cur w g A n c) : g < w.heap.size := by
  obtain ⟨i, x, h1, h2, h3, h4⟩ := h
  exact h4.lt
theorem OwnE.keep2 {w w' : World} {base : Nat} {A : Option Addr} {es : List (Int × Int)} (h : OwnE w base A es) (hs : w.heap.size ≤ w'.heap.size) (hk : ∀ g, base ≤ g → g < w.heap.size → w'.heap[g]? = w.heap[g]?) : OwnE w' base A es := fun hn => by
  obtain ⟨g, off, rfl, h1, hg, hc⟩ := h hn
  have hbl := hk g h1 hg
  refine ⟨g, off, rfl, h1, Nat.lt_of_lt_of_le hg hs, fun i z hz => ?_⟩
  rw [World.cell?_of_block (a := ⟨g, off + i * 2, none⟩) hbl, World.cell?_of_block (a := ⟨g, off + i * 2 + 1, none⟩) hbl, World.frozen?_of_block (a := ⟨g, off + i * 2, none⟩) hbl, World.frozen?_of_block (a := ⟨g, off + i * 2 + 1, none⟩) hbl]
  exact hc i z hz
structure DrW (w wr : World) (gc : Nat) (A : Option Addr) (n c : Nat) : Prop where
  cur : Cur wr gc A n c
  old : Below gc w wr
  res : Blk wr w.heap.size 25 #[.int .i64 0, .slice none 0 0]
  kep : ∀ k, k ≠ gc → k < w.heap.size → wr.heap[k]? = w.heap[k]?
theorem DrW.next {w wr w2 : World} {gc n c : Nat} {A : Option Addr} (h : DrW w wr gc A n c) (hb : Below wr.heap.size wr w2) : DrW w w2 gc A n c :=
  ⟨h.cur.below hb, h.old.trans (hb.mono (Nat.le_of_lt h.cur.lt)), h.res.below hb h.res.lt, fun k h1 h2 => (hb.block k (Nat.lt_of_lt_of_le h2 h.old.size)).trans (h.kep k h1 h2)⟩
theorem DrW.drawn {w wr w2 : World} {gc n c : Nat} {A : Option Addr} (h : DrW w wr gc A n c) (hgc : gc < w.heap.size) (hc : Cur w2 gc A n c) (hb : Below gc wr w2) (hf : ∀ k, k ≠ gc → w2.heap[k]? = wr.heap[k]?) : DrW w w2 gc A n c :=
  ⟨hc, h.old.trans hb, (hf _ (by omega)).trans h.res, fun k h1 h2 => (hf k h1).trans (h.kep k h1 h2)⟩
theorem DrW.store {w wr : World} {gc n c X o : Nat} {A : Option Addr} (h : DrW w wr gc A n c) (hX : w.heap.size < X) (hgc : gc < w.heap.size) (u : Value) : DrW w (wr.setCell ⟨X, o, none⟩ u) gc A n c :=
  ⟨h.cur.keep (Below.heap_setCell _ _ _ _ (by show gc ≠ X; omega)), h.old.setCell (p := ⟨X, o, none⟩) (by simp only; omega) _, h.res.far (p := ⟨X, o, none⟩) (by simp only; omega) _, fun k h1 h2 => (Below.heap_setCell _ _ _ _ (by show k ≠ X; omega)).trans (h.kep k h1 h2)⟩
theorem keepAl {gc : Nat} {w W : World} {p r : Addr} {a b : Value} {o : Obj} (h : W.cell? p = some a ∧ W.cell? r = some b ∧ Below gc w W) (hg : gc ≤ w.heap.size) : (W.alloc o).cell? p = some a ∧ (W.alloc o).cell? r = some b ∧ Below gc w (W.alloc o) := by
  obtain ⟨h1, h2, h3⟩ := h
  have hb : Below W.heap.size W (W.alloc o) := (Below.refl _ _).alloc (Nat.le_refl _) _
  exact ⟨(hb.cell (World.block_lt_of_cell? W p h1)).trans h1, (hb.cell (World.block_lt_of_cell? W r h2)).trans h2, h3.trans (hb.mono (Nat.le_trans hg h3.size))⟩
theorem keepSt {gc X : Nat} {w W : World} {p r : Addr} {a b u v : Value} (h : W.cell? p = some a ∧ W.cell? r = some b ∧ Below gc w W) (hp : p.block ≠ X ∧ r.block ≠ X) (hX : gc ≤ X) :
    ((W.setCell ⟨X, 0, none⟩ u).setCell ⟨X, 1, none⟩ v).cell? p = some a ∧ ((W.setCell ⟨X, 0, none⟩ u).setCell ⟨X, 1, none⟩ v).cell? r = some b ∧ Below gc w ((W.setCell ⟨X, 0, none⟩ u).setCell ⟨X, 1, none⟩ v) := by
  obtain ⟨h1, h2, h3⟩ := h
  have hbl : ∀ k, k ≠ X → ((W.setCell ⟨X, 0, none⟩ u).setCell ⟨X, 1, none⟩ v).heap[k]? = W.heap[k]? := fun k hk => (Below.heap_setCell _ _ _ _ (by simpa using hk)).trans (Below.heap_setCell _ _ _ _ (by simpa using hk))
  exact ⟨(World.cell?_of_block (hbl _ hp.1)).trans h1, (World.cell?_of_block (hbl _ hp.2)).trans h2, (h3.setCell (p := ⟨X, 0, none⟩) hX u).setCell (p := ⟨X, 1, none⟩) hX v⟩
theorem bxA {w6 w7 w8 : World} {gc : Nat} {cs : Array Value} {t : TypeId} (hf : ∀ k, k ≠ gc → w7.heap[k]? = ((w6.alloc (.cells cs t)).drew).heap[k]?) (hne : w6.heap.size ≠ gc) (hb : Below w7.heap.size w7 w8) : Blk w8 w6.heap.size t cs := by
  have h1 : Blk w7 w6.heap.size t cs := (hf _ hne).trans (Blk.new w6 t cs)
  exact h1.below hb h1.lt
theorem bxB {w7 w8 : World} {cs : Array Value} {t : TypeId} (hb : Below (w7.alloc (.cells cs t)).heap.size (w7.alloc (.cells cs t)) w8) : Blk w8 w7.heap.size t cs :=
  (Blk.new w7 t cs).below hb (by simp)
theorem draw_other {N : Nat} (h2 : 2 ≤ N) (h5 : N ≤ 5) {a y : Int} (ha0 : 0 ≤ a) (ha1 : a < (N : Int)) (hy0 : 0 ≤ y) (hy1 : y ≤ (N : Int) - 2) : 0 ≤ (a + 1 + y).tmod (N : Int) ∧ (a + 1 + y).tmod (N : Int) < (N : Int) ∧ (a + 1 + y).tmod (N : Int) ≠ a := by
  rw [Int.tmod_eq_emod_of_nonneg (by omega)]
  have h : N = 2 ∨ N = 3 ∨ N = 4 ∨ N = 5 := by omega
  rcases h with rfl | rfl | rfl | rfl <;> omega
theorem draw_add {N : Nat} {es : List (Int × Int)} (h2 : 2 ≤ N) (h5 : N ≤ 5) {a y : Int} (ha0 : 0 ≤ a) (ha1 : a < (N : Int)) (hy0 : 0 ≤ y) (hy1 : y ≤ (N : Int) - 2) (hl : es.length ≤ 8) (hg : graphB (N : Int) es = true) : addK (N : Int) es a ((a + 1 + y).tmod (N : Int)) = true := by
  obtain ⟨h3, h4, h6⟩ := draw_other h2 h5 ha0 ha1 hy0 hy1
  have h7 : ¬ a = (a + 1 + y).tmod (N : Int) := fun e => h6 e.symm
  simp [addK, hg, vB_t (N := (N : Int)) ⟨ha0, ha1⟩, vB_t (N := (N : Int)) ⟨h3, h4⟩, h7]
  omega
structure DrZ (w wz : World) (gc : Nat) (A : Option Addr) (n c X P B : Nat) (NI : Int) (V : Value) (A8 : Option Addr) (c8 : Nat) (L : List (Int × Int)) : Prop where
  dr : DrW w wz gc A n c
  hx : Blk wz X 25 #[.int .i64 NI, V]
  bx : Blk wz P 25 #[.int .i64 NI, .slice A8 L.length c8]
  ow : OwnE wz B A8 L
  lt : X < B
theorem DrZ.box {w w8 : World} {gc n c X P B : Nat} {A A8 : Option Addr} {NI : Int} {V u v : Value} {c8 : Nat} {L : List (Int × Int)} (hd : DrW w w8 gc A n c) (hx : Blk w8 X 25 #[.int .i64 NI, V]) (hb : Blk w8 P 25 #[u, v]) (ho : OwnE w8 B A8 L)
    (hgc : gc < w.heap.size) (h1 : w.heap.size < P) (h2 : X < P) (h3 : P < B) : DrZ w ((w8.setCell ⟨P, 0, none⟩ (.int .i64 NI)).setCell ⟨P, 1, none⟩ (.slice A8 L.length c8)) gc A n c X P B NI V A8 c8 L :=
  ⟨(hd.store h1 hgc _).store h1 hgc _, (hx.far (p := ⟨P, 0, none⟩) (by simp only; omega) _).far (p := ⟨P, 1, none⟩) (by simp only; omega) _, (hb.set_ 0 _).set_ 1 _, ownE_far ho h3 _ _, by omega⟩
theorem DrZ.new {w w8 : World} {gc n c X B : Nat} {A A8 : Option Addr} {NI : Int} {V : Value} {c8 : Nat} {L : List (Int × Int)} (hd : DrW w w8 gc A n c) (hx : Blk w8 X 25 #[.int .i64 NI, V]) (ho : OwnE w8 B A8 L) (h2 : X < B) :
    DrZ w (w8.alloc (.cells #[.int .i64 NI, .slice A8 L.length c8] 25)) gc A n c X w8.heap.size B NI V A8 c8 L :=
  ⟨hd.next ((Below.refl _ _).alloc (Nat.le_refl _) _), hx.alloc _, Blk.new w8 _ _, ho.below ((Below.refl _ _).alloc (Nat.le_refl _) _), h2⟩
def GivesGraph (w : World) (gc m : Nat) (A0 : Option Addr) (n0 c0 : Nat) (e : Ending) (w' : World) : Prop :=
  ∃ (M : Nat) (A : Option Addr) (c : Nat) (es : List (Int × Int)), e = .returned (.agg #[.int .i64 (M : Int), .slice A es.length c]) ∧ 2 ≤ M ∧ M ≤ m ∧ es.length ≤ m + 3 ∧ graphB (M : Int) es = true ∧ OwnE w' (w.heap.size + 1) A es ∧ Cur w' gc A0 n0 c0 ∧ Below gc w w' ∧ ∀ k, k ≠ gc → k < w.heap.size → w'.heap[k]? = w.heap[k]?

set_option maxRecDepth 100000 in
set_option maxHeartbeats 8000000 in
theorem l02Draw_any (w : World) (gc m : Nat) (hm4 : 4 ≤ m) (hm5 : m ≤ 5) (A0 : Option Addr) (c0 : Nat) (xs : List Int) (hx : xs.length ≤ 1048576) (hC : Cur w gc A0 xs.length c0) (hS : CodeS w gc A0 xs) :
    Calls Try.prog 97 #[.pointer (some ⟨gc, 0, none⟩), .int .i64 (m : Int)] w (GivesGraph w gc m A0 xs.length c0) := by
  obtain ⟨i0, hI, hzz0, hzz1, hzz2⟩ := info_parts edgeInfo
  have hgc := hC.lt
  have HS := Lib.hid hS
  have LB := fun (m : Int) (h0 : 1 ≤ m) (h1 : m ≤ 256) (w' : World) (hd : Cur w' gc A0 xs.length c0) (ho : Below gc w w') => Lib.hid (l01Below_any m h0 h1 w' gc A0 c0 xs hx hd (hS.keep ho))
  obtain ⟨W0, hW0⟩ : ∃ X : World, X = (w.alloc (Obj.cells #[.int .i64 0, .slice none 0 0] 25)).alloc (Obj.cells #[.int .i64 1, .slice none 0 0] 25) := ⟨_, rfl⟩
  have hd0 : DrW w W0 gc A0 xs.length c0 := by
    have hb0 : Below w.heap.size w W0 := by rw [hW0]; exact ((Below.refl _ _).alloc (Nat.le_refl _) _).alloc (by simp) _
    exact ⟨hC.below hb0, hb0.mono (Nat.le_of_lt hgc), by rw [hW0]; exact (Blk.new w _ _).alloc _, fun k _ hk => hb0.block k hk⟩
  have hg0 : Blk W0 (w.heap.size + 1) 25 #[.int .i64 1, .slice none 0 0] := by
    have h := Blk.new (w.alloc (Obj.cells #[.int .i64 0, .slice none 0 0] 25)) 25 #[.int .i64 1, .slice none 0 0]
    rw [World.size_alloc, ← hW0] at h
    exact h
  have HD0 := Lib.hid hd0
  have HG0 := Lib.hid hg0
  have HW0 := Lib.hid hW0
  have HB0 := LB ((m : Int) - 1) (by omega) (by omega) W0 hd0.cur hd0.old
  have hmi4 : (4 : Int) ≤ (m : Int) := by omega
  have hmi5 : (m : Int) ≤ 5 := by omega
  clear hS hC hW0 hd0 hg0
  go_enter Try.func97, Try.ntmps97
  go_wp2_with fail
  rw [← HW0.out]
  refine HB0.out.mono ?_
  rintro e w1 ⟨x, rfl, hx0, hx1, hC1, hb1, hf1⟩
  obtain ⟨N, hN⟩ : ∃ N : Nat, (N : Int) = 2 + x := ⟨(2 + x).toNat, by omega⟩
  have HD1 := Lib.hid (HD0.out.drawn hgc hC1 hb1 hf1)
  have HG1 := Lib.hid (show Blk w1 (w.heap.size + 1) 25 #[.int .i64 1, .slice none 0 0] from (hf1 _ (by omega)).trans HG0.out)
  have hN2 : 2 ≤ N := by omega
  have hNm : N ≤ m := by omega
  have hN5 : N ≤ 5 := by omega
  clear hC1 hb1 hf1 HB0 HD0 HG0 HW0
  go_wp2
  rw [← hN]
  clear hN hx0 hx1
  go_loopw [7, 8] (fun v _ wr => ∃ (k : Nat) (l : List (Int × Int)) (V : Value), v = .int .i64 k ∧ k ≤ N ∧ l.length + 1 = k ∧ TreeL l ∧ DrW w wr gc A0 xs.length c0 ∧ Blk wr (w.heap.size + 1) 25 #[.int .i64 k, V] ∧ wr.ownsRow (w.heap.size + 2) 122 2 V l.length (flat l)) (fun v _ _ => N - (intOf v).toNat)
  case atStart => exact ⟨1, [], _, rfl, by omega, rfl, TreeL.nil, HD1.out, HG1.out, ⟨rfl, .inl ⟨rfl, rfl⟩⟩⟩
  case round =>
    clear HD1 HG1
    obtain ⟨k, l, V, rfl, hk, hlk, htr, hdr, hgb, hown⟩ := hrel
    have HT := Lib.hid htr
    have HD := Lib.hid hdr
    have HG := Lib.hid hgb
    have HO := Lib.hid hown
    have hgl := hgb.lt
    have hf0 := hgb.frozen 0
    obtain ⟨x0, x1, x2, x3, x4⟩ := box_facts hgb
    clear htr hdr hgb hown
    by_cases hlt : k < N
    · have hk0 : (0 : Int) ≤ (k : Int) := Int.natCast_nonneg _
      have hk1 : (k : Int) < (N : Int) := by omega
      have hN6 : (N : Int) ≤ 5 := by omega
      have hlen : (k : Int) = (l.length : Int) + 1 := by omega
      have HLK := Lib.hid hlen
      have HLL := Lib.hid hlk
      have HD2 := Lib.hid (HD.out.store (X := w.heap.size + 1) (o := 0) (by omega) hgc (.int .i64 ((k : Int) + 1)))
      have HG2 := Lib.hid (HG.out.set_ 0 (.int .i64 ((k : Int) + 1)))
      have HO2 := Lib.hid (own_set (X := w.heap.size + 1) (o := 0) (u := .int .i64 ((k : Int) + 1)) HO.out (by omega))
      have HB := LB (k : Int) (by omega) (by omega) _ HD2.out.cur HD2.out.old
      have hkk : k ≤ 4 := by omega
      have hll : l.length ≤ 4 := by omega
      clear hlen hlk
      go_wp2_with fail
      refine HB.out.mono ?_
      rintro e w2 ⟨x, rfl, hx0, hx1, hC2, hb2, hf2⟩
      have HD3 := Lib.hid (HD2.out.drawn hgc hC2 hb2 hf2)
      have hg3 : Blk w2 (w.heap.size + 1) 25 #[.int .i64 ((k : Int) + 1), V] := (hf2 _ (by omega)).trans HG2.out
      have HO3 := Lib.hid (own_keep2 HO2.out (fun g hg _ => hf2 g (by omega)))
      obtain ⟨s0, s1, s2, s3, s4⟩ := box_facts hg3
      have HG3 := Lib.hid hg3
      clear hC2 hb2 hf2 hg3 HB HD2 HG2 HO2 x0 x1 x2 x3 x4 hf0
      have OW := Lib.hid ((HO3.out.alloc (.cells #[.int .i64 x, .int .i64 (k : Int)] 122)).alloc (.cells #[.int .i64 x, .int .i64 (k : Int)] 122))
      go_wp2_with (at_builtin; refine wpList_append_own _ rfl _ _ 23 rfl (w.heap.size + 2) 122 i0 (.agg #[.int .i64 0, .int .i64 0]) 2 16 Try.underlying23 hI hzz0 hzz1 hzz2 rfl (by decide) _ _ _ rfl OW.out ⟨_, 0, none⟩ 1 1 [.int .i64 x, .int .i64 (k : Int)] rfl rfl ?p1 ?p2 ?p3 ?p4 ?p5 ?_)
      case p1 => exact two_cells _ _ (by simp) _ _ _
      case p2 =>
        intro u hu
        simp only [List.mem_cons, List.not_mem_nil, or_false] at hu
        rcases hu with rfl | rfl <;> rfl
      case p3 => unfold maxLen; omega
      case p4 => omega
      case p5 => simp; omega
      intro v' w3 hown' hgrow _
      have HQ : Hid (w3.ownsRow (w.heap.size + 2) 122 2 v' (l ++ [(x, (k : Int))]).length (flat (l ++ [(x, (k : Int))]))) := Lib.hid (by
        rw [flat_app]
        have h3 := hown'
        simpa [flat] using h3)
      have hlt' := (OW.out).lt
      have hbg : Below w2.heap.size w2 ((w2.alloc (.cells #[.int .i64 x, .int .i64 (k : Int)] 122)).alloc (.cells #[.int .i64 x, .int .i64 (k : Int)] 122)) := ((Below.refl _ _).alloc (Nat.le_refl _) _).alloc (by simp) _
      have hd4 : DrW w w3 gc A0 xs.length c0 := by
        have h1 := HD3.out.next hbg
        have hsz := hgrow.size
        have hcl := h1.cur.lt
        have hrl := h1.res.lt
        refine ⟨h1.cur.keep (hgrow.block gc hcl (fun h => by have := (hlt' _ h.symm).1; omega)), h1.old.grown hgrow (by omega) (fun q hq => by have := (hlt' q hq).1; omega), ?_, ?_⟩
        · exact (hgrow.block _ hrl (fun h => by have := (hlt' _ h.symm).1; omega)).trans h1.res
        · exact fun k hk1 hk2 => (hgrow.block k (Nat.lt_of_lt_of_le hk2 h1.old.size) (fun h => by have := (hlt' _ h.symm).1; omega)).trans (h1.kep k hk1 hk2)
      have hg4 : Blk w3 (w.heap.size + 1) 25 #[.int .i64 ((k : Int) + 1), V] := Blk.grown (HG3.out.below hbg HG3.out.lt) hgrow (fun h => by have := (hlt' _ h).1; omega)
      obtain ⟨A9, c9, hv9, -, -⟩ := ownE_of HQ.out
      obtain ⟨n9, hn9⟩ : ∃ n9, n9 = (l ++ [(x, (k : Int))]).length := ⟨_, rfl⟩
      rw [← hn9] at hv9
      subst hv9
      have HT4 := Lib.hid (show TreeL (l ++ [(x, (k : Int))]) from by
        have h := HT.out.push hx0 (by have := HLK.out; omega)
        rwa [← HLK.out] at h)
      have HD4 := Lib.hid (hd4.store (X := w.heap.size + 1) (o := 1) (by omega) hgc (.slice A9 n9 c9))
      have HG4 := Lib.hid (hg4.set_ 1 (.slice A9 n9 c9))
      have HO4 := Lib.hid (own_set (X := w.heap.size + 1) (o := 1) (u := .slice A9 n9 c9) HQ.out (by omega))
      obtain ⟨z0, z1, z2, z3, z4⟩ := box_facts hg4
      clear hown' hgrow hlt' hbg hd4 hg4 hn9
      go_wp2
      exact ⟨⟨k + 1, l ++ [(x, (k : Int))], .slice A9 n9 c9, by go_num, by omega, by have := HLL.out; simp; omega, HT4.out, HD4.out, HG4.out, HO4.out⟩, by simp [intOf]; omega⟩
    · have hkN : k = N := by omega
      have hnl : ¬ ((k : Int) < (N : Int)) := by omega
      obtain ⟨Ag, cg, hV, hOE, -⟩ := ownE_of HO.out
      have hgN : Blk wr (w.heap.size + 1) 25 #[.int .i64 (N : Int), .slice Ag l.length cg] := by rw [← hkN, ← hV]; exact HG.out
      obtain ⟨w3, rfl⟩ : ∃ x : World, x = wr := ⟨_, rfl⟩
      have HGN := Lib.hid hgN
      have HOE := Lib.hid hOE
      have hlN : (l.length : Int) + 1 = (N : Int) := by omega
      have HLN := Lib.hid hlN
      have hl4 : l.length ≤ 4 := by omega
      have hlm : l.length + 1 ≤ m := by omega
      have hs3 : w.heap.size + 2 ≤ w3.heap.size := by omega
      have MU := fun (a b : Nat) (w' : World) (ha : a < b) (hb : b < N) (hbl : Below w3.heap.size w3 w') => Lib.hid (show Calls Try.prog 119 #[.agg #[.int .i64 (N : Int), .slice Ag l.length cg], .int .i64 (a : Int), .int .i64 (b : Int)] w' (fun e w'' => e = .returned (.int .i64 (if ((a : Int), (b : Int)) ∈ l then 1 else 0)) ∧ Below w'.heap.size w' w'') from by
        have h := specMultU (N : Int) Ag cg l (a : Int) (b : Int) w' (by omega) (((hOE.below hbl).edges))
        rw [multB_yes (vB_t (by omega)) (vB_t (by omega)) (by omega), Int.min_eq_left (by omega), Int.max_eq_right (by omega), nodup_count HT.out.nodup] at h
        refine h.mono ?_
        rintro e w'' ⟨rfl, hb2⟩
        refine ⟨?_, hb2⟩
        split <;> rfl)
      clear hOE hgN hV hkN hlk hlN HO HG x0 x1 x2 x3 x4 hf0 hk
      go_wp2
      obtain ⟨W3, hW3⟩ : ∃ X : World, X = w3.alloc (Obj.cells #[.int .i64 (N : Int), .slice none 0 0] 25) := ⟨_, rfl⟩
      have hb3 : Below w3.heap.size w3 W3 := by rw [hW3]; exact (Below.refl _ _).alloc (Nat.le_refl _) _
      have hh3 : Blk W3 w3.heap.size 25 #[.int .i64 (N : Int), .slice none 0 0] := by rw [hW3]; exact Blk.new w3 _ _
      have HW3 := Lib.hid hW3
      have HB3 := Lib.hid hb3
      have HH3 := Lib.hid hh3
      clear hW3 hb3 hh3
      go_loopw [10, 11, 12] (fun a _ _ wr => ∃ (k : Nat) (hs : List (Int × Int)) (V : Value), a = .int .i64 k ∧ k ≤ N ∧ Upto l hs (k : Int) ((k : Int) + 1) ∧ Blk wr w3.heap.size 25 #[.int .i64 (N : Int), V] ∧ wr.ownsRow (w3.heap.size + 1) 122 2 V hs.length (flat hs) ∧ Below w3.heap.size w3 wr) (fun a _ _ _ => N - (intOf a).toNat)
      case atStart =>
        rw [← HW3.out]
        exact ⟨0, [], _, rfl, Nat.zero_le _, Upto.start HT.out, HH3.out, ⟨rfl, .inl ⟨rfl, rfl⟩⟩, HB3.out⟩
      case round =>
        clear HW3 HB3 HH3
        obtain ⟨k2, hs, V2, rfl, hk2, hup, hhb, hown, hbw⟩ := hrel
        have HU := Lib.hid hup
        have HH := Lib.hid hhb
        have HO := Lib.hid hown
        have HB := Lib.hid hbw
        clear hup hhb hown hbw
        by_cases hlt2 : k2 < N
        · have hk0 : (0 : Int) ≤ (k2 : Int) := Int.natCast_nonneg _
          have hk1 : (k2 : Int) < (N : Int) := by omega
          have hN6 : (N : Int) ≤ 5 := by omega
          obtain ⟨wo, rfl⟩ : ∃ wo : World, wo = wr := ⟨_, rfl⟩
          go_wp2
          go_loopw [11, 12] (fun b _ wr => ∃ (j : Nat) (hs : List (Int × Int)) (V : Value), b = .int .i64 j ∧ k2 < j ∧ j ≤ N ∧ Upto l hs (k2 : Int) (j : Int) ∧ Blk wr w3.heap.size 25 #[.int .i64 (N : Int), V] ∧ wr.ownsRow (w3.heap.size + 1) 122 2 V hs.length (flat hs) ∧ Below w3.heap.size w3 wr) (fun b _ _ => N - (intOf b).toNat)
          case atStart => exact ⟨k2 + 1, hs, V2, by go_num, by omega, by omega, by have := HU.out; rwa [show ((k2 + 1 : Nat) : Int) = (k2 : Int) + 1 by omega], HH.out, HO.out, HB.out⟩
          case round =>
            clear HU HH HO HB
            obtain ⟨j, hs, V, rfl, hkj, hj, hup, hhb, hown, hbw⟩ := hrel
            have HU := Lib.hid hup
            have HH := Lib.hid hhb
            have HO := Lib.hid hown
            have HB := Lib.hid hbw
            have hg3 := HGN.out.below hbw HGN.out.lt
            obtain ⟨x0, x1, x2, x3, x4⟩ := box_facts hg3
            clear hup hhb hown hg3
            by_cases hlt3 : j < N
            · have hj0 : (0 : Int) ≤ (j : Int) := Int.natCast_nonneg _
              have hj1 : (j : Int) < (N : Int) := by omega
              have HM := MU k2 j wr hkj hlt3 hbw
              obtain ⟨wp, rfl⟩ : ∃ wp : World, wp = wr := ⟨_, rfl⟩
              clear hbw
              go_wp2_with fail
              refine HM.out.mono ?_
              rintro e w4 ⟨rfl, hb4⟩
              obtain ⟨z0, hz0⟩ : ∃ z0 : Int, z0 = if ((k2 : Int), (j : Int)) ∈ l then 1 else 0 := ⟨_, rfl⟩
              rw [← hz0]
              have HZ := Lib.hid (show (z0 = 1 ∧ ((k2 : Int), (j : Int)) ∈ l ∧ Upto l hs (k2 : Int) (j : Int)) ∨ (z0 = 0 ∧ Upto l hs (k2 : Int) ((j : Int) + 1)) from by
                by_cases hm : ((k2 : Int), (j : Int)) ∈ l
                · exact .inl ⟨by rw [hz0, if_pos hm], hm, HU.out⟩
                · exact .inr ⟨by rw [hz0, if_neg hm], HU.out.skip hm⟩)
              have HH4 := Lib.hid (HH.out.below hb4 HH.out.lt)
              have HO4 := Lib.hid (own_keep2 HO.out (fun g _ hg => hb4.block g hg))
              have HB4 := Lib.hid (HB.out.trans (hb4.mono HB.out.size))
              clear hb4 hz0 HM x0 x1 x2 x3 x4 HU HH HO HB
              go_wp2
              go_loopw [12] (fun c wr => ∃ (z : Int) (hs : List (Int × Int)) (V : Value), c = .int .i64 z ∧ ((z = 1 ∧ ((k2 : Int), (j : Int)) ∈ l ∧ Upto l hs (k2 : Int) (j : Int)) ∨ (z = 0 ∧ Upto l hs (k2 : Int) ((j : Int) + 1))) ∧ Blk wr w3.heap.size 25 #[.int .i64 (N : Int), V] ∧ wr.ownsRow (w3.heap.size + 1) 122 2 V hs.length (flat hs) ∧ Below w3.heap.size w3 wr) (fun c _ => (intOf c).toNat)
              case atStart => exact ⟨z0, hs, V, rfl, HZ.out, HH4.out, HO4.out, HB4.out⟩
              case round =>
                clear HZ HH4 HO4 HB4
                obtain ⟨z, hs, V, rfl, hzz, hhb, hown, hbw⟩ := hrel
                have HH := Lib.hid hhb
                have HO := Lib.hid hown
                have HB := Lib.hid hbw
                have hsz := hbw.size
                obtain ⟨x0, x1, x2, x3, x4⟩ := box_facts hhb
                clear hhb hown hbw
                rcases hzz with ⟨rfl, hm, hup⟩ | ⟨rfl, hup⟩
                · have HU := Lib.hid (hup.take hm)
                  have hhl := hup.len
                  have OW := Lib.hid (own_keep2 (w' := wr.alloc (.cells #[.int .i64 (k2 : Int), .int .i64 (j : Int)] 122)) HO.out (fun g _ hg => Below.heap_alloc _ _ g hg))
                  clear hm hup
                  go_wp2_with (at_builtin; refine wpList_append_own _ rfl _ _ 23 rfl (w3.heap.size + 1) 122 i0 (.agg #[.int .i64 0, .int .i64 0]) 2 16 Try.underlying23 hI hzz0 hzz1 hzz2 rfl (by decide) _ _ _ rfl OW.out ⟨_, 0, none⟩ 1 1 [.int .i64 (k2 : Int), .int .i64 (j : Int)] rfl rfl ?p1 ?p2 ?p3 ?p4 ?p5 ?_)
                  case p1 => exact two_cells _ _ (by simp) _ _ _
                  case p2 =>
                    intro u hu
                    simp only [List.mem_cons, List.not_mem_nil, or_false] at hu
                    rcases hu with rfl | rfl <;> rfl
                  case p3 => unfold maxLen; omega
                  case p4 => omega
                  case p5 => simp; omega
                  intro v' w5 hown' hgrow _
                  have HQ : Hid (w5.ownsRow (w3.heap.size + 1) 122 2 v' (hs ++ [((k2 : Int), (j : Int))]).length (flat (hs ++ [((k2 : Int), (j : Int))]))) := Lib.hid (by
                    rw [flat_app]
                    have h3 := hown'
                    simpa [flat] using h3)
                  have hlt' := (OW.out).lt
                  have hh5 : Blk w5 w3.heap.size 25 #[.int .i64 (N : Int), V] := Blk.grown (HH.out.alloc (.cells #[.int .i64 (k2 : Int), .int .i64 (j : Int)] 122)) hgrow (fun h => by have := (hlt' _ h).1; omega)
                  have hb5 : Below w3.heap.size w3 w5 := (HB.out.alloc hsz (.cells #[.int .i64 (k2 : Int), .int .i64 (j : Int)] 122)).grown hgrow (by simp; omega) (fun q hq => by have := (hlt' q hq).1; omega)
                  obtain ⟨A9, c9, hv9, -, -⟩ := ownE_of HQ.out
                  obtain ⟨n9, hn9⟩ : ∃ n9, n9 = (hs ++ [((k2 : Int), (j : Int))]).length := ⟨_, rfl⟩
                  rw [← hn9] at hv9
                  subst hv9
                  have HH6 := Lib.hid (hh5.set_ 1 (.slice A9 n9 c9))
                  have HO6 := Lib.hid (own_set (X := w3.heap.size) (o := 1) (u := .slice A9 n9 c9) HQ.out (by omega))
                  have HB6 := Lib.hid (Below.setCell (B := w3.heap.size) hb5 (p := ⟨w3.heap.size, 1, none⟩) (Nat.le_refl _) (.slice A9 n9 c9))
                  obtain ⟨s0, s1, s2, s3, s4⟩ := box_facts hh5
                  clear hown' hgrow hlt' hh5 hb5 hn9 x0 x1 x2 x3 x4
                  go_wp2
                  exact ⟨⟨0, _, .slice A9 n9 c9, rfl, .inr ⟨rfl, HU.out⟩, HH6.out, HO6.out, HB6.out⟩, by simp [intOf]⟩
                · have HU := Lib.hid hup
                  clear hup
                  go_wp2
                  exact ⟨⟨j + 1, hs, V, by go_num, by omega, by omega, by have := HU.out; rwa [show ((j + 1 : Nat) : Int) = (j : Int) + 1 by omega], HH.out, HO.out, HB.out⟩, by simp [intOf]; omega⟩
            · have hjN : j = N := by omega
              have HU2 := Lib.hid (show Upto l hs ((k2 : Int) + 1) ((k2 : Int) + 2) from by
                have h := HU.out
                rw [hjN] at h
                exact h.row HT.out HLN.out)
              clear hjN
              go_wp2
              exact ⟨⟨k2 + 1, hs, V, by go_num, by omega, by have := HU2.out; rwa [show ((k2 + 1 : Nat) : Int) = (k2 : Int) + 1 by omega, show (k2 : Int) + 1 + 1 = (k2 : Int) + 2 by omega], HH.out, HO.out, HB.out⟩, by simp [intOf]; omega⟩
        · have hkN : k2 = N := by omega
          have HGB := Lib.hid (show graphB (N : Int) hs = true from by
            have h := HU.out
            rw [hkN] at h
            exact h.done HT.out HLN.out (by omega) (by omega))
          have hhl := HU.out.len
          obtain ⟨Ah, ch, hVh, hOEh, -⟩ := ownE_of HO.out
          subst hVh
          have HOE5 := Lib.hid hOEh
          have HD5 := Lib.hid (HD.out.next HB.out)
          clear hkN hOEh HO HU HB
          go_wp2_with fail
          refine (LB 5 (by omega) (by omega) wr HD5.out.cur HD5.out.old).out.mono ?_
          rintro e w5 ⟨x, rfl, hx0, hx1, hC5, hb5, hf5⟩
          obtain ⟨j0, rfl⟩ : ∃ j : Nat, x = (j : Int) := ⟨x.toNat, by omega⟩
          have HD6 := Lib.hid (HD5.out.drawn hgc hC5 hb5 hf5)
          have HH6 := Lib.hid (show Blk w5 w3.heap.size 25 #[.int .i64 (N : Int), .slice Ah hs.length ch] from (hf5 _ (by omega)).trans HH.out)
          have HE6 := Lib.hid (HOE5.out.keep2 hb5.size (fun g hg _ => hf5 g (by omega)))
          clear hC5 hb5 hf5 HD5 HOE5 HH MU
          go_wp2
          have hgb3 : gc < w3.heap.size + 1 := by omega
          go_loopw [13, 14, 15, 16] (fun k _ _ _ wr => ∃ (j : Nat) (es : List (Int × Int)) (A : Option Addr) (c : Nat), k = .int .i64 j ∧ es.length + j ≤ m + 3 ∧ graphB (N : Int) es = true ∧ DrW w wr gc A0 xs.length c0 ∧ Blk wr w3.heap.size 25 #[.int .i64 (N : Int), .slice A es.length c] ∧ OwnE wr (w3.heap.size + 1) A es) (fun k _ _ _ _ => (intOf k).toNat)
          case atStart => exact ⟨j0, hs, Ah, ch, rfl, by omega, HGB.out, HD6.out, HH6.out, HE6.out⟩
          case round =>
            clear HD6 HH6 HE6 HGB
            obtain ⟨j, es, A, c, rfl, hej, hgb, hdr, hhb, hoe⟩ := hrel
            have HGB := Lib.hid hgb
            have HD := Lib.hid hdr
            have HH := Lib.hid hhb
            have HE := Lib.hid hoe
            obtain ⟨x0, x1, x2, x3, x4⟩ := box_facts hhb
            clear hgb hdr hhb hoe
            by_cases hj : 0 < j
            · obtain ⟨i, rfl⟩ : ∃ i, j = i + 1 := ⟨j - 1, by omega⟩
              have hj1 : (0 : Int) < ((i + 1 : Nat) : Int) := by omega
              have hN6 : (N : Int) ≤ 5 := by omega
              have hN3 : (2 : Int) ≤ (N : Int) := by omega
              have HB := LB (N : Int) (by omega) (by omega) wr HD.out.cur HD.out.old
              clear x0 x1 x2 x3 x4
              go_wp2_with fail
              refine HB.out.mono ?_
              rintro e w6 ⟨a, rfl, ha0, ha1, hC6, hb6, hf6⟩
              have HD6 := Lib.hid (HD.out.drawn hgc hC6 hb6 hf6)
              have hh6 : Blk w6 w3.heap.size 25 #[.int .i64 (N : Int), .slice A es.length c] := (hf6 _ (by omega)).trans HH.out
              have HE6 := Lib.hid (HE.out.keep2 hb6.size (fun g hg _ => hf6 g (by omega)))
              obtain ⟨x0, x1, x2, x3, x4⟩ := box_facts hh6
              have HH6 := Lib.hid hh6
              clear hC6 hb6 hf6 hh6 HD HH HE HB
              -- the two calls of the region
              have KD := Lib.hid (fun (W : World) (hW : Below w6.heap.size w6 W) => (⟨HD6.out.next hW, HH6.out.below hW HH6.out.lt, HE6.out.below hW⟩ : DrW w W gc A0 xs.length c0 ∧ Blk W w3.heap.size 25 #[.int .i64 (N : Int), .slice A es.length c] ∧ OwnE W (w3.heap.size + 1) A es))
              have C1 := fun (W : World) (hW : Below w6.heap.size w6 W) => Lib.hid (show Calls Try.prog 98 #[.pointer (some ⟨gc, 0, none⟩), .int .i64 ((N : Int) - 1)] W (fun e w' => ∃ y : Int, e = .returned (.int .i64 y) ∧ 0 ≤ y ∧ y ≤ (N : Int) - 2 ∧ DrW w w' gc A0 xs.length c0 ∧ Blk w' w3.heap.size 25 #[.int .i64 (N : Int), .slice A es.length c] ∧ OwnE w' (w3.heap.size + 1) A es ∧ Below gc w6 w' ∧ (∀ k, k ≠ gc → w'.heap[k]? = W.heap[k]?) ∧ W.heap.size ≤ w'.heap.size ∧ w6.heap.size ≤ w'.heap.size) from by
                obtain ⟨d1, d2, d3⟩ := KD.out W hW
                refine (LB ((N : Int) - 1) (by omega) (by omega) W d1.cur d1.old).out.mono ?_
                rintro e w' ⟨y, rfl, hy0, hy1, hC, hb, hf⟩
                exact ⟨y, rfl, hy0, by omega, d1.drawn hgc hC hb hf, (hf _ (by omega)).trans d2, d3.keep2 hb.size (fun g hg _ => hf g (by omega)), (hW.mono (Nat.le_of_lt HD6.out.cur.lt)).trans hb, hf, hb.size, Nat.le_trans hW.size hb.size⟩)
              have C2 := fun (W7 W : World) (y : Int) (hy0 : 0 ≤ y) (hy1 : y ≤ (N : Int) - 2) (d1 : DrW w W7 gc A0 xs.length c0) (d2 : Blk W7 w3.heap.size 25 #[.int .i64 (N : Int), .slice A es.length c]) (d3 : OwnE W7 (w3.heap.size + 1) A es) (d4 : Below gc w6 W7) (hW : Below W7.heap.size W7 W) => Lib.hid (show Calls Try.prog 132 #[.agg #[.int .i64 (N : Int), .slice A es.length c], .int .i64 a, .int .i64 ((a + 1 + y).tmod (N : Int))] W (fun e w' => ∃ (A8 : Option Addr) (c8 : Nat) (L : List (Int × Int)), e = .returned (.tuple #[.agg #[.int .i64 (N : Int), .slice A8 L.length c8], .bool true]) ∧ graphB (N : Int) L = true ∧ Hid (L.length = es.length + 1) ∧ OwnE w' W.heap.size A8 L ∧ DrW w w' gc A0 xs.length c0 ∧ Blk w' w3.heap.size 25 #[.int .i64 (N : Int), .slice A es.length c] ∧ Below gc w6 w' ∧ Below W.heap.size W w') from by
                have k1 := d1.next hW
                have k2 := d2.below hW d2.lt
                have k3 := d3.below hW
                have hk := draw_add (es := es) hN2 hN5 ha0 (by omega) hy0 hy1 (by omega) HGB.out
                refine (specAdd (N : Int) A c es a ((a + 1 + y).tmod (N : Int)) W (by omega) k3.edges).mono ?_
                rintro e w' ⟨A8, c8, rfl, ho, _, hb⟩
                have hn := add_yes hk
                rw [hk, hn.1]
                rw [hn.2] at ho ⊢
                exact ⟨A8, c8, _, rfl, add_valid hk, Lib.hid (insE_len _ _), ho, k1.next hb, k2.below hb k2.lt, (d4.trans (hW.mono (Nat.le_of_lt d1.cur.lt))).trans (hb.mono (Nat.le_of_lt k1.cur.lt)), hb⟩)
              have HGC := Lib.hid (show gc ≤ w6.heap.size from Nat.le_of_lt HD6.out.cur.lt)
              have hrm := fun (y : Int) (hy0 : 0 ≤ y) => Lib.hid (show 0 ≤ (a + 1 + y) % (N : Int) ∧ (a + 1 + y) % (N : Int) < (N : Int) ∧ IntKind.i64.wrap ((a + 1 + y) % (N : Int)) = (a + 1 + y) % (N : Int) from by
                have h1 := Int.emod_nonneg (a + 1 + y) (show (N : Int) ≠ 0 by omega)
                have h2 := Int.emod_lt_of_pos (a + 1 + y) (show (0 : Int) < (N : Int) by omega)
                refine ⟨h1, h2, ?_⟩
                rw [IntKind.wrap_i64]
                omega)
              have hN0 : ((N : Int) == 0) = false := by simp; omega
              have hN7 : (N : Int) ≠ 0 := by omega
              have hN9 : ¬ N = 0 := by omega
              have hwa : IntKind.i64.wrap (a + 1) = a + 1 := by rw [IntKind.wrap_i64]; omega
              have hwn : IntKind.i64.wrap ((N : Int) - 1) = (N : Int) - 1 := by rw [IntKind.wrap_i64]; omega
              have HEJ := Lib.hid hej
              have hl8 : es.length ≤ 8 := by omega
              have hi8 : i ≤ 8 := by omega
              clear LB KD HS HT HGN HOE HLN hej
              go_wp2_with fail
              go_region_held3 (fun w' => w'.cell? ⟨w3.heap.size, 0, none⟩ = some (.int .i64 (N : Int)) ∧ w'.cell? ⟨w3.heap.size, 1, none⟩ = some (.slice A es.length c) ∧ Below gc w6 w')
                (first
                  | exact ⟨x0, x1, (Below.refl gc w6).drew⟩
                  | exact ⟨(box_facts hh8).1, (box_facts hh8).2.1, hb8⟩
                  | exact ⟨(box_facts hh7).1, (box_facts hh7).2.1, hb7⟩
                  | exact keepAl ⟨(box_facts hh8).1, (box_facts hh8).2.1, hb8⟩ HGC.out
                  | exact keepAl (by assumption) HGC.out
                  | exact keepSt (by assumption) (by constructor <;> (simp only; omega)) (by have := HGC.out; omega))
                (first
                  | (go_at_call 98; refine (C1 _ (by first | exact (Below.refl _ _).drew | exact ((Below.refl _ _).alloc (Nat.le_refl _) _).drew | exact (Below.refl _ _).drew.alloc (Nat.le_refl _) _)).out.mono ?_; rintro e w7 ⟨y, rfl, hy0, hy1, hd7, hh7, he7, hb7, hf7, hs7, hz7⟩; obtain ⟨hr0, hr1, hr2⟩ := (hrm y hy0).out; have hwy : IntKind.i64.wrap (a + 1 + y) = a + 1 + y := by rw [IntKind.wrap_i64]; omega)
                  | (go_at_call 132; refine (C2 w7 _ y hy0 hy1 hd7 hh7 he7 hb7 (by first | exact Below.refl _ _ | exact (Below.refl _ _).alloc (Nat.le_refl _) _)).out.mono ?_; rintro e w8 ⟨A8, c8, L, rfl, hg8, hlL, ho8, hd8, hh8, hb8, hbw8⟩
                     first
                       | (have hbx := bxB hbw8; obtain ⟨b0, b1, b2, b3, b4⟩ := box_facts hbx)
                       | (have hbx := bxA hf7 (Ne.symm (Nat.ne_of_lt HD6.out.cur.lt)) hbw8; obtain ⟨b0, b1, b2, b3, b4⟩ := box_facts hbx)
                       | skip))
              · have HZ := DrZ.new (c8 := c8) hd8 hh8 ho8 hh7.lt
                revert HZ
                generalize (w8.alloc (Obj.cells #[.int .i64 (N : Int), .slice A8 L.length c8] 25)) = wz
                intro HZ
                have HL := HZ.lt
                obtain ⟨s0, s1, s2, s3, s4⟩ := box_facts HZ.bx
                obtain ⟨t0, t1, t2, t3, t4⟩ := box_facts HZ.hx
                have HZ2 := Lib.hid HZ
                clear HZ
                go_wp2
                exact ⟨⟨i, L, A8, c8, rfl, by have := HEJ.out; have := hlL.out; omega, hg8, (HZ2.out.dr.store (X := w3.heap.size) (o := 0) (by omega) hgc _).store (X := w3.heap.size) (o := 1) (by omega) hgc _, (HZ2.out.hx.set_ 0 _).set_ 1 _, (ownE_far HZ2.out.ow HL _ _).mono (by omega)⟩, by simp only [intOf]; omega⟩
              · have HZ := DrZ.box (c8 := c8) hd8 hh8 hbx ho8 hgc (by omega) hh7.lt (by simp)
                revert HZ
                generalize ((w8.setCell ⟨w7.heap.size, 0, none⟩ (.int .i64 (N : Int))).setCell ⟨w7.heap.size, 1, none⟩ (.slice A8 L.length c8)) = wz
                intro HZ
                have HL := HZ.lt
                obtain ⟨s0, s1, s2, s3, s4⟩ := box_facts HZ.bx
                obtain ⟨t0, t1, t2, t3, t4⟩ := box_facts HZ.hx
                have HZ2 := Lib.hid HZ
                clear HZ
                go_wp2
                exact ⟨⟨i, L, A8, c8, rfl, by have := HEJ.out; have := hlL.out; omega, hg8, (HZ2.out.dr.store (X := w3.heap.size) (o := 0) (by omega) hgc _).store (X := w3.heap.size) (o := 1) (by omega) hgc _, (HZ2.out.hx.set_ 0 _).set_ 1 _, (ownE_far HZ2.out.ow HL _ _).mono (by omega)⟩, by simp only [intOf]; omega⟩
              · have HZ := DrZ.box (c8 := c8) hd8 hh8 hbx ho8 hgc (by omega) x4 (Nat.lt_of_lt_of_le (by show w6.heap.size < (w6.alloc _).heap.size; simp) hs7)
                revert HZ
                generalize ((w8.setCell ⟨w6.heap.size, 0, none⟩ (.int .i64 (N : Int))).setCell ⟨w6.heap.size, 1, none⟩ (.slice A8 L.length c8)) = wz
                intro HZ
                have HL := HZ.lt
                obtain ⟨s0, s1, s2, s3, s4⟩ := box_facts HZ.bx
                obtain ⟨t0, t1, t2, t3, t4⟩ := box_facts HZ.hx
                have HZ2 := Lib.hid HZ
                clear HZ
                go_wp2
                exact ⟨⟨i, L, A8, c8, rfl, by have := HEJ.out; have := hlL.out; omega, hg8, (HZ2.out.dr.store (X := w3.heap.size) (o := 0) (by omega) hgc _).store (X := w3.heap.size) (o := 1) (by omega) hgc _, (HZ2.out.hx.set_ 0 _).set_ 1 _, (ownE_far HZ2.out.ow HL _ _).mono (by omega)⟩, by simp only [intOf]; omega⟩
            · have hj0 : j = 0 := by omega
              subst hj0
              have hnj : ¬ ((0 : Nat) : Int) > 0 := by omega
              obtain ⟨z0, z1, z2, z3, z4⟩ := box_facts HD.out.res
              have hl9 : es.length ≤ m + 3 := by omega
              have HEO := HE.out
              have hws : w.heap.size < w3.heap.size + 1 := by omega
              go_wp2
              obtain ⟨W6, hW6⟩ : ∃ W6 : World, W6 = ((wr.setCell ⟨w.heap.size, 0, none⟩ (.int .i64 (N : Int))).setCell ⟨w.heap.size, 1, none⟩ (.slice A es.length c)) := ⟨_, rfl⟩
              rw [← hW6]
              have hb9 : Blk W6 w.heap.size 25 #[.int .i64 (N : Int), .slice A es.length c] := by rw [hW6]; exact (HD.out.res.set_ 0 _).set_ 1 _
              have hcur : Cur W6 gc A0 xs.length c0 := by
                rw [hW6]
                exact (HD.out.cur.keep (Below.heap_setCell _ _ _ _ (by show gc ≠ w.heap.size; omega))).keep (Below.heap_setCell _ _ _ _ (by show gc ≠ w.heap.size; omega))
              have hold : Below gc w W6 := by rw [hW6]; exact (HD.out.old.setCell (p := ⟨w.heap.size, 0, none⟩) (by simp only; omega) _).setCell (p := ⟨w.heap.size, 1, none⟩) (by simp only; omega) _
              have hkep : ∀ k, k ≠ gc → k < w.heap.size → W6.heap[k]? = w.heap[k]? := fun k hk1 hk2 => by
                rw [hW6]
                exact ((Below.heap_setCell _ _ _ _ (by show k ≠ w.heap.size; omega)).trans (Below.heap_setCell _ _ _ _ (by show k ≠ w.heap.size; omega))).trans (HD.out.kep k hk1 hk2)
              have hoA : OwnE W6 (w3.heap.size + 1) A es := by rw [hW6]; exact ownE_far HEO hws _ _
              obtain ⟨s0, s1, s2, s3, s4⟩ := box_facts hb9
              refine bodyPost_ret (v := .agg #[.int .i64 (N : Int), .slice A es.length c]) (by simp [results, Try.results97, go_sem, s0, s1]) rfl ⟨N, A, c, es, rfl, hN2, hNm, hl9, HGB.out, hoA.mono (by omega), hcur, hold, hkep⟩
end Go.Proofs.Ytndncmjhpbjcoaa

/- What the specification makes of a code: a valid graph, a divisor, a script, a configuration: whatever the bytes are. -/
namespace Go.Proofs.Ytndncmjhpbjcoaa
open Go.RowKit

def MkGraph (w : World) (e : Ending) (w' : World) : Prop :=
  ∃ (M : Nat) (A : Option Addr) (c : Nat) (es : List (Int × Int)), e = .returned (.agg #[.int .i64 (M : Int), .slice A es.length c]) ∧ 2 ≤ M ∧ M ≤ 5 ∧ es.length ≤ 8 ∧ graphB (M : Int) es = true ∧ OwnE w' w.heap.size A es ∧ Below w.heap.size w w'
set_option maxRecDepth 100000 in
set_option maxHeartbeats 1000000 in
theorem l02Graph_any (w : World) (gc : Nat) (A0 : Option Addr) (c0 : Nat) (xs : List Int) (hx : xs.length ≤ 1048576) (hC : Cur w gc A0 xs.length c0) (hS : CodeS w gc A0 xs) :
    Calls Try.prog 53 #[.pointer (some ⟨gc, 0, none⟩)] w (GivesGraph w gc 5 A0 xs.length c0) := by
  have hgc := hC.lt
  have hb0 : Below w.heap.size w (w.alloc (Obj.cells #[.int .i64 0, .slice none 0 0] 25)) := (Below.refl _ _).alloc (Nat.le_refl _) _
  have HB := Lib.hid (Blk.new w 25 #[.int .i64 0, .slice none 0 0])
  have HD := Lib.hid (l02Draw_any _ gc 5 (by omega) (by omega) A0 c0 xs hx (hC.below hb0) (hS.keep (hb0.mono (Nat.le_of_lt hgc))))
  have HB0 := Lib.hid hb0
  clear hC hS hb0
  go_enter Try.func53, Try.ntmps53
  go_wp2_with fail
  refine HD.out.mono ?_
  rintro e w1 ⟨M, A, c, es, rfl, hM2, hM5, hel, hg, ho, hcur, hb, hkep⟩
  have HR := Lib.hid (show Blk w1 w.heap.size 25 #[.int .i64 0, .slice none 0 0] from (hkep _ (by omega) (by simp)).trans HB.out)
  obtain ⟨x0, x1, x2, x3, x4⟩ := box_facts HR.out
  have HK := Lib.hid (show ∀ k, k ≠ gc → k < w.heap.size → w1.heap[k]? = w.heap[k]? from fun k h1 h2 => (hkep k h1 (by simp; omega)).trans (HB0.out.block k h2))
  have HO := Lib.hid (ho.mono (base' := w.heap.size + 1) (by simp))
  have HC := Lib.hid hcur
  have HBL := Lib.hid ((HB0.out.mono (Nat.le_of_lt hgc)).trans hb)
  clear hkep ho hcur hb HB0 HB HD
  go_wp2
  obtain ⟨W6, hW6⟩ : ∃ W6 : World, W6 = ((w1.setCell ⟨w.heap.size, 0, none⟩ (.int .i64 (M : Int))).setCell ⟨w.heap.size, 1, none⟩ (.slice A es.length c)) := ⟨_, rfl⟩
  rw [← hW6]
  have hb9 : Blk W6 w.heap.size 25 #[.int .i64 (M : Int), .slice A es.length c] := by rw [hW6]; exact (HR.out.set_ 0 _).set_ 1 _
  obtain ⟨s0, s1, s2, s3, s4⟩ := box_facts hb9
  have hne : gc ≠ w.heap.size := by omega
  refine bodyPost_ret (v := .agg #[.int .i64 (M : Int), .slice A es.length c]) (by simp [results, Try.results53, go_sem, s0, s1]) rfl ⟨M, A, c, es, rfl, hM2, hM5, hel, hg, ?_, ?_, ?_, ?_⟩
  · rw [hW6]; exact ownE_far HO.out (by omega) _ _
  · rw [hW6]; exact (HC.out.keep (Below.heap_setCell _ _ _ _ hne)).keep (Below.heap_setCell _ _ _ _ hne)
  · rw [hW6]; exact (HBL.out.setCell (p := ⟨w.heap.size, 0, none⟩) (by simp only; omega) _).setCell (p := ⟨w.heap.size, 1, none⟩) (by simp only; omega) _
  · intro k h1 h2
    rw [hW6]
    exact ((Below.heap_setCell _ _ _ _ (by show k ≠ w.heap.size; omega)).trans (Below.heap_setCell _ _ _ _ (by show k ≠ w.heap.size; omega))).trans (HK.out k h1 h2)
set_option maxRecDepth 100000 in
set_option maxHeartbeats 1000000 in
theorem makeGraph_any (w : World) (A0 : Option Addr) (c0 : Nat) (xs : List Int) (hx : xs.length ≤ 1048576) (hS : CodeS w w.heap.size A0 xs) :
    Calls Try.prog 15 #[.slice A0 xs.length c0] w (MkGraph w) := by
  have hb0 : Below w.heap.size w (w.alloc (Obj.cells #[.int .i64 0, .slice none 0 0] 25)) := (Below.refl _ _).alloc (Nat.le_refl _) _
  have HB := Lib.hid (Blk.new w 25 #[.int .i64 0, .slice none 0 0])
  have HN := Lib.hid (l01New_any _ A0 c0 xs hx ((hS.keep hb0).up hb0.size))
  have HB0 := Lib.hid hb0
  have HS := Lib.hid hS
  clear hS hb0
  go_enter Try.func15, Try.ntmps15
  go_wp2_with fail
  refine HN.out.mono ?_
  rintro e w1 ⟨gc, rfl, hN, hC, hb⟩
  have hN2 : w.heap.size + 1 ≤ gc := by simpa using hN
  have HB1 := Lib.hid (show Below w.heap.size w w1 from HB0.out.trans (hb.mono (by simp)))
  have HR := Lib.hid (show Blk w1 w.heap.size 25 #[.int .i64 0, .slice none 0 0] from HB.out.below hb HB.out.lt)
  have HG := Lib.hid (l02Graph_any w1 gc A0 c0 xs hx hC ((HS.out.keep HB1.out).up (by omega)))
  have hgl := hC.lt
  clear hN hC hb HB HN HB0
  go_wp2_with fail
  refine HG.out.mono ?_
  rintro e w2 ⟨M, A, c, es, rfl, hM2, hM5, hel, hg, ho, hcur, hb, hkep⟩
  have HR2 := Lib.hid (show Blk w2 w.heap.size 25 #[.int .i64 0, .slice none 0 0] from (hkep _ (by omega) HR.out.lt).trans HR.out)
  obtain ⟨x0, x1, x2, x3, x4⟩ := box_facts HR2.out
  have HO := Lib.hid (ho.mono (base' := w.heap.size + 1) (by omega))
  have HBL := Lib.hid (HB1.out.trans (hb.mono (show w.heap.size ≤ gc by omega)))
  clear hkep ho hcur hb HB1 HR HG
  go_wp2
  obtain ⟨W6, hW6⟩ : ∃ W6 : World, W6 = ((w2.setCell ⟨w.heap.size, 0, none⟩ (.int .i64 (M : Int))).setCell ⟨w.heap.size, 1, none⟩ (.slice A es.length c)) := ⟨_, rfl⟩
  rw [← hW6]
  have hb9 : Blk W6 w.heap.size 25 #[.int .i64 (M : Int), .slice A es.length c] := by rw [hW6]; exact (HR2.out.set_ 0 _).set_ 1 _
  obtain ⟨s0, s1, s2, s3, s4⟩ := box_facts hb9
  refine bodyPost_ret (v := .agg #[.int .i64 (M : Int), .slice A es.length c]) (by simp [results, Try.results15, go_sem, s0, s1]) rfl ⟨M, A, c, es, rfl, hM2, hM5, hel, hg, ?_, ?_⟩
  · rw [hW6]; exact (ownE_far HO.out (by omega) _ _).mono (by omega)
  · rw [hW6]; exact (HBL.out.setCell (p := ⟨w.heap.size, 0, none⟩) (Nat.le_refl _) _).setCell (p := ⟨w.heap.size, 1, none⟩) (Nat.le_refl _) _
end Go.Proofs.Ytndncmjhpbjcoaa

/- What the specification makes of a code: a divisor, a script, a configuration: whatever the bytes are. -/
namespace Go.Proofs.Ytndncmjhpbjcoaa
open Go.RowKit


structure MkW (w wr : World) (gc X B L : Nat) (A : Option Addr) (n c : Nat) (N : Int) (V s : Value) (l : List Int) : Prop where
  cur : Cur wr gc A n c
  old : Below L w wr
  box : Blk wr X 25 #[.int .i64 N, V]
  own : wr.ownsRow B 3 1 s l.length (intCells l)
  kep : ∀ k, k ≠ gc → k < w.heap.size → wr.heap[k]? = w.heap[k]?
section
variable {w wr w2 : World} {gc X B L n c : Nat} {A : Option Addr} {N : Int} {V s : Value} {l : List Int}
theorem MkW.next (h : MkW w wr gc X B L A n c N V s l) (hw : w.heap.size ≤ B) (hB : B ≤ wr.heap.size) (hL : L ≤ B) (hb : Below wr.heap.size wr w2) : MkW w w2 gc X B L A n c N V s l :=
  ⟨h.cur.below hb, h.old.trans (hb.mono (by omega)), h.box.below hb h.box.lt, own_below h.own hb, fun k h1 h2 => (hb.block k (by omega)).trans (h.kep k h1 h2)⟩
theorem MkW.drawn (h : MkW w wr gc X B L A n c N V s l) (hL : L ≤ gc) (hX : X ≠ gc) (hg : gc < B) (hc : Cur w2 gc A n c) (hb : Below gc wr w2) (hf : ∀ k, k ≠ gc → w2.heap[k]? = wr.heap[k]?) : MkW w w2 gc X B L A n c N V s l :=
  ⟨hc, h.old.trans (hb.mono hL), (hf _ hX).trans h.box, own_keep2 h.own (fun g h1 _ => hf g (by omega)), fun k h1 h2 => (hf k h1).trans (h.kep k h1 h2)⟩
theorem MkW.push {v' : Value} {l' : List Int} {row : Option Nat} (h : MkW w wr gc X B L A n c N V s l) (hw : w.heap.size ≤ B) (hB : B ≤ wr.heap.size) (hL : L ≤ B) (hX : X < B) (hg : gc < B) (hlt : ∀ q, row = some q → B ≤ q) (hgr : wr.grownBy w2 row) (ho : w2.ownsRow B 3 1 v' l'.length (intCells l')) : MkW w w2 gc X B L A n c N V v' l' :=
  ⟨h.cur.keep (hgr.block gc h.cur.lt (fun e => by have := hlt gc e.symm; omega)), h.old.grown hgr (by omega) (fun q hq => by have := hlt q hq; omega), h.box.grown hgr (fun e => by have := hlt X e; omega), ho, fun k h1 h2 => (hgr.block k (by omega) (fun e => by have := hlt k e.symm; omega)).trans (h.kep k h1 h2)⟩
end
theorem bound_snoc {l : List Int} {lo hi x : Int} (h : ∀ y ∈ l, lo ≤ y ∧ y ≤ hi) (h0 : lo ≤ x) (h1 : x ≤ hi) : ∀ y ∈ l ++ [x], lo ≤ y ∧ y ≤ hi := fun y hy => by
  rw [List.mem_append, List.mem_singleton] at hy
  rcases hy with hy | rfl
  · exact h y hy
  · exact ⟨h0, h1⟩

theorem keepK {W0 w' w'' : World} {B K X : Nat} {a b : Value} (h : w'.cell? ⟨X, 0, none⟩ = some a ∧ w'.cell? ⟨X, 1, none⟩ = some b ∧ Below B W0 w') (hb : Below K w' w'') (hX : X < K) (hB : B ≤ K) :
    w''.cell? ⟨X, 0, none⟩ = some a ∧ w''.cell? ⟨X, 1, none⟩ = some b ∧ Below B W0 w'' := ⟨(hb.cell (p := ⟨X, 0, none⟩) hX).trans h.1, (hb.cell (p := ⟨X, 1, none⟩) hX).trans h.2.1, h.2.2.trans (hb.mono hB)⟩
end Go.Proofs.Ytndncmjhpbjcoaa

/- What the specification makes of a code: a script, a configuration: whatever the bytes are. -/
namespace Go.Proofs.Ytndncmjhpbjcoaa
open Go.RowKit

theorem OwnI.store {w : World} {base g off q : Nat} {l : List Int} {x : Int} (h : OwnI w base (some ⟨g, off, none⟩) l) (hq : q < l.length) : OwnI (w.setCell ⟨g, off + q, none⟩ (.int .i64 x)) base (some ⟨g, off, none⟩) (l.set q x) := fun _ => by
  obtain ⟨g', off', e, h1, hg, hc⟩ := h (by omega)
  simp only [Option.some.injEq, Addr.mk.injEq, and_true] at e
  obtain ⟨rfl, rfl⟩ := e
  refine ⟨g, off, rfl, h1, by simpa [World.setCell] using hg, fun i z hz => ⟨?_, ?_⟩⟩
  · have hil : i < l.length := by
      have := (List.getElem?_eq_some_iff.1 hz).1
      simpa using this
    by_cases e : i = q
    · subst e
      have h3 := (hc i l[i] (List.getElem?_eq_getElem hil)).1
      rw [List.getElem?_set_self hil] at hz
      injection hz with hz
      subst hz
      exact World.cell?_setCell_same (h := h3) ..
    · rw [List.getElem?_set_ne (Ne.symm e)] at hz
      have hne : (⟨g, off + q, none⟩ : Addr) ≠ ⟨g, off + i, none⟩ := by
        intro he
        simp only [Addr.mk.injEq] at he
        omega
      exact (World.cell?_setCell_other (h := hne) ..).trans (hc i z hz).1
  · have hil : i < l.length := by
      have := (List.getElem?_eq_some_iff.1 hz).1
      simpa using this
    rw [World.frozen?_setCell]
    exact (hc i l[i] (List.getElem?_eq_getElem hil)).2
def DrawnP (w : World) (gc L M q : Nat) (lo hi : Int) (e : Ending) (w' : World) : Prop :=
  ∃ (A1 : Option Addr) (c1 : Nat) (d : List Int), e = .returned (.slice A1 d.length c1) ∧ Hid (d.length = M) ∧ (∀ x ∈ d, lo ≤ x ∧ x ≤ hi) ∧ Hid (d.getD q 0 = 0) ∧ OwnI w' w.heap.size A1 d ∧ Below L w w' ∧ ∀ k, k ≠ gc → k < w.heap.size → w'.heap[k]? = w.heap[k]?
def MadeP (w : World) (M q : Nat) (lo hi : Int) (e : Ending) (w' : World) : Prop :=
  ∃ (A1 : Option Addr) (c1 : Nat) (d : List Int), e = .returned (.slice A1 d.length c1) ∧ Hid (d.length = M) ∧ (∀ x ∈ d, lo ≤ x ∧ x ≤ hi) ∧ Hid (d.getD q 0 = 0) ∧ OwnI w' w.heap.size A1 d ∧ Below w.heap.size w w'
set_option maxRecDepth 100000 in
set_option maxHeartbeats 2000000 in
theorem l10Draw_any (w : World) (gc M q : Nat) (V : Value) (hV : ∃ a b c, V = .slice a b c) (A0 : Option Addr) (c0 : Nat) (xs : List Int) (hM : M ≤ 6) (hq : q < M) (hx : xs.length ≤ 1048576) (hC : Cur w gc A0 xs.length c0) (hS : CodeS w gc A0 xs) :
    Calls Try.prog 57 #[.pointer (some ⟨gc, 0, none⟩), .agg #[.int .i64 (M : Int), V], .int .i64 (q : Int)] w (DrawnP w gc gc M q 0 6) := by
  obtain ⟨va, vb, vc, rfl⟩ := hV
  obtain ⟨i0, hi, hz0, hz1, hz2⟩ := info_parts intInfo
  have hgc := hC.lt
  have LB := fun (w' : World) (hd : Cur w' gc A0 xs.length c0) (ho : Below gc w w') => Lib.hid (l01Below_any 7 (by omega) (by omega) w' gc A0 c0 xs hx hd (hS.keep ho))
  have hb0 : Below w.heap.size w (w.alloc (Obj.cells #[.int .i64 (M : Int), .slice va vb vc] 25)) := (Below.refl _ _).alloc (Nat.le_refl _) _
  obtain ⟨W0, hW0⟩ : ∃ X : World, X = (w.alloc (Obj.cells #[.int .i64 (M : Int), .slice va vb vc] 25)).alloc (Obj.cells #[] 3) := ⟨_, rfl⟩
  have HM0 := Lib.hid (show MkW w W0 gc w.heap.size (w.heap.size + 1) gc A0 xs.length c0 (M : Int) (.slice va vb vc) (.slice (some ⟨w.heap.size + 1, 0, none⟩) 0 0) [] from by
    have hb1 : Below w.heap.size w W0 := by rw [hW0]; exact hb0.alloc (by simp) _
    refine ⟨hC.below hb1, hb1.mono (Nat.le_of_lt hgc), by rw [hW0]; exact (Blk.new w _ _).alloc _, ⟨rfl, .inr ⟨w.heap.size + 1, 0, #[], rfl, Nat.le_refl _, ?_, Nat.le_refl _, Nat.zero_le _, rfl, rfl⟩⟩, fun k h1 h2 => ?_⟩
    · rw [hW0]
      have := heap_alloc_new (w.alloc (Obj.cells #[.int .i64 (M : Int), .slice va vb vc] 25)) (Obj.cells #[] 3)
      rwa [World.size_alloc] at this
    · rw [hW0]
      exact (Below.heap_alloc _ _ k (by simp; omega)).trans (Below.heap_alloc _ _ k h2))
  have HW0 := Lib.hid hW0
  have HLM := Lib.hid hM
  clear hC hS hb0 hW0
  go_enter Try.func57, Try.ntmps57
  go_wp2
  go_loopw [7, 8] (fun s i wr => ∃ (k : Nat) (l : List Int), i = .int .i64 k ∧ k ≤ M ∧ Hid (l.length = k) ∧ (∀ x ∈ l, 0 ≤ x ∧ x ≤ 6) ∧ MkW w wr gc w.heap.size (w.heap.size + 1) gc A0 xs.length c0 (M : Int) (.slice va vb vc) s l) (fun _ i _ => M - (intOf i).toNat)
  case atStart =>
    rw [← HW0.out]
    exact ⟨0, [], rfl, Nat.zero_le _, Lib.hid rfl, (fun x hx => by cases hx), HM0.out⟩
  case round =>
    clear HM0 HW0
    obtain ⟨k, l, rfl, hk, HLK, hbd, hm⟩ := hrel
    have HM := Lib.hid hm
    have HBD := Lib.hid hbd
    obtain ⟨x0, x1, x2, x3, x4⟩ := box_facts hm.box
    have hsz : w.heap.size + 1 ≤ wr.heap.size := x4
    clear hm hbd
    by_cases hlt : k < M
    · have hk0 : (0 : Int) ≤ (k : Int) := Int.natCast_nonneg _
      have hk1 : (k : Int) < (M : Int) := by omega
      have HB := LB wr HM.out.cur HM.out.old
      go_wp2_with fail
      refine HB.out.mono ?_
      rintro e w4 ⟨x, rfl, hx0, hx1, hC4, hb4, hf4⟩
      have HM4 := Lib.hid (HM.out.drawn (Nat.le_refl _) (by omega) (by omega) hC4 hb4 hf4)
      have hs4 : w.heap.size + 1 ≤ w4.heap.size := HM4.out.box.lt
      clear hC4 hb4 hf4 HB HM x0 x1 x2 x3 x4
      have HM5 := Lib.hid (HM4.out.next (by omega) hs4 (by omega) ((Below.refl _ _).alloc (Nat.le_refl _) (.cells #[.int .i64 x] 3)))
      have hll : l.length ≤ 6 := by have := HLK.out; have := HLM.out; omega
      go_wp2_with (at_builtin; refine wpList_append_own _ rfl _ _ 28 rfl (w.heap.size + 1) 3 i0 (.int .i64 0) 1 8 Try.underlying28 hi hz0 hz1 hz2 rfl (by decide) _ _ _ rfl HM5.out.own ⟨_, 0, none⟩ 1 1 [.int .i64 x] rfl rfl ?c1 ?c2 ?c3 ?c4 ?c5 ?_)
      case c1 => exact one_cellI _ _ (by simp) _ _
      case c2 => simp [Value.oneCell']
      case c3 => unfold maxLen; omega
      case c4 => omega
      case c5 => simp; omega
      intro v' w6 hown' hgrow _
      have hown2 : w6.ownsRow (w.heap.size + 1) 3 1 v' (l ++ [x]).length (intCells (l ++ [x])) := by rw [← cells_snoc, List.length_append]; exact hown'
      have HM6 := Lib.hid (HM5.out.push (by omega) (by simp; omega) (by omega) (by omega) (by omega) (fun q hq => (HM5.out.own.lt q hq).1) hgrow hown2)
      clear hown' hown2 hgrow
      obtain ⟨y0, y1, y2, y3, y4⟩ := box_facts HM6.out.box
      go_wp2
      exact ⟨⟨k + 1, l ++ [x], by go_num, by omega, Lib.hid (by have := HLK.out; simp; omega), bound_snoc HBD.out (by omega) (by omega), HM6.out⟩, by simp [intOf]; omega⟩
    · have hkM : k = M := by omega
      have hno : ¬ ((k : Int) < (M : Int)) := by omega
      have hlM : l.length = M := by have := HLK.out; omega
      obtain ⟨Ar, cr, hv, -⟩ := own_slice HM.out.own
      subst hv
      have hO := OwnI.of_own HM.out.own
      obtain ⟨g, off, rfl, hg1, hg2, hgc2⟩ := hO (by omega)
      have HO := Lib.hid hO
      have hql : q < l.length := by omega
      obtain ⟨y, hy⟩ : ∃ y, y = l[q] := ⟨_, rfl⟩
      have hcl := hgc2 q y (by rw [hy]; exact List.getElem?_eq_getElem hql)
      obtain ⟨hcl1, hcl2⟩ := hcl
      clear hy
      have HST := Lib.hid (HO.out.store (q := q) (x := 0) (by omega))
      have HLS := Lib.hid (show (l.set q 0).length = l.length by simp)
      have HBS := Lib.hid (show ∀ x ∈ l.set q 0, 0 ≤ x ∧ x ≤ 6 from fun x hx => by
        rcases List.mem_or_eq_of_mem_set hx with h | h
        · exact HBD.out x h
        · omega)
      have HLM2 := Lib.hid hlM
      have HZQ := Lib.hid (show (l.set q 0).getD q 0 = 0 by simp [List.getD, hql])
      have hq0 : (0 : Int) ≤ (q : Int) := Int.natCast_nonneg _
      have hq1 : (q : Int) < (l.length : Int) := by omega
      clear hO hgc2 hlM hkM
      go_wp2
      go_ret
      exact ⟨some ⟨g, off, none⟩, cr, l.set q 0, by rw [HLS.out]; rfl, Lib.hid (by rw [HLS.out, HLM2.out]), HBS.out, HZQ, HST.out.mono (by omega), HM.out.old.setCell (p := ⟨g, off + q, none⟩) (by simp only; omega) _, fun k h1 h2 => (Below.heap_setCell _ _ _ _ (by show k ≠ g; omega)).trans (HM.out.kep k h1 h2)⟩
set_option maxRecDepth 100000 in
set_option maxHeartbeats 2000000 in
theorem makePile_any (w : World) (m M q : Nat) (hm : m ≤ 1000) (va : Option Addr) (vb vc : Nat) (A0 : Option Addr) (c0 : Nat) (xs : List Int) (hM : M ≤ 6) (hq : q < M) (hx : xs.length ≤ 1048576) (hS : CodeS w w.heap.size A0 xs) :
    Calls Try.prog 17 #[.slice A0 xs.length c0, .int .i64 m, .agg #[.int .i64 (M : Int), .slice va vb vc], .int .i64 (q : Int)] w (MadeP w M q 0 6) := by
  have hb0 : Below w.heap.size w (w.alloc (Obj.cells #[.int .i64 (M : Int), .slice va vb vc] 25)) := (Below.refl _ _).alloc (Nat.le_refl _) _
  have HB := Lib.hid (Blk.new w 25 #[.int .i64 (M : Int), .slice va vb vc])
  have HS := Lib.hid hS
  have HB0 := Lib.hid hb0
  have HLM := Lib.hid hM
  have HLQ := Lib.hid hq
  clear hS hb0 hM hq
  go_enter Try.func17, Try.ntmps17
  go_wp2_with fail
  obtain ⟨W0, hW0⟩ : ∃ X : World, X = w.alloc (Obj.cells #[.int .i64 (M : Int), .slice va vb vc] 25) := ⟨_, rfl⟩
  rw [← hW0] at HB HB0
  rw [← hW0]
  clear hW0
  obtain ⟨x0, x1, x2, x3, x4⟩ := box_facts HB.out
  have NW := fun (W : World) (hb : Below W0.heap.size W0 W) => Lib.hid (l21New_any m hm W A0 c0 xs hx ((HS.out.keep (HB0.out.trans (hb.mono HB0.out.size))).up (Nat.le_trans HB0.out.size hb.size)))
  have DW := fun (W : World) (gc : Nat) (hg : W0.heap.size ≤ gc) (hC : Cur W gc A0 xs.length c0) (hb : Below W0.heap.size W0 W) => Lib.hid (l10Draw_any W gc M q (.slice va vb vc) ⟨_, _, _, rfl⟩ A0 c0 xs HLM.out HLQ.out hx hC ((HS.out.keep (HB0.out.trans (hb.mono HB0.out.size))).up (Nat.le_trans HB0.out.size hg)))
  go_region_held3 (fun w' => w'.cell? ⟨w.heap.size, 0, none⟩ = some (.int .i64 (M : Int)) ∧ w'.cell? ⟨w.heap.size, 1, none⟩ = some (.slice va vb vc) ∧ Below W0.heap.size W0 w')
    (first
      | exact ⟨x0, x1, (Below.refl _ _).drew⟩
      | exact keepK (by assumption) hb1 x4 (Nat.le_refl _)
      | exact keepK (by assumption) hb2 (Nat.lt_of_lt_of_le x4 hN) hN)
    (first
      | (go_at_call 55; refine (NW _ (Below.refl _ _).drew).out.mono ?_; rintro e w1 ⟨gc, rfl, hN, hC, hb1⟩)
      | (go_at_call 57; refine (DW w1 gc hN hC ((Below.refl _ _).drew.trans hb1)).out.mono ?_; rintro e w2 ⟨A1, c1, d, rfl, hdl, hbd, hzq, ho, hb2, hkp⟩))
  have hN2 : W0.heap.size ≤ gc := hN
  have hBF := (HB0.out.trans (((Below.refl _ _).drew.trans hb1).mono HB0.out.size)).trans (hb2.mono (Nat.le_trans HB0.out.size hN2))
  have hs1 := hb1.size
  have HO := Lib.hid (ho.mono (base' := w.heap.size) (Nat.le_trans HB0.out.size hs1))
  have HBD := Lib.hid hbd
  clear hbd ho hb2 hkp
  go_wp2
  go_ret
  exact ⟨A1, c1, d, rfl, hdl, HBD.out, hzq, HO.out, hBF⟩
end Go.Proofs.Ytndncmjhpbjcoaa

/- A code (a slice of bytes) that came in, opened. -/
namespace Go.Proofs.Ytndncmjhpbjcoaa
open Go.ChangeShapes Go.WideShapes Go.ChangeAt Go.RowKit Go.WideElems Go.Deep

section
variable {H : Type} {enc : TypeId × Value → H} {W : World} {base : Nat}
theorem row_memC (a : Addr) (n i : Nat) (h : i < n) : MemPlace.cell a.block (a.off + i) ∈ MemPlace.row a n := by
  simp only [MemPlace.row, List.mem_map, List.mem_range]
  exact ⟨i, h, rfl⟩
theorem spot_noneC {w : World} {a : Addr} {v : Value} (h : w.cell? (a.add 0) = some v) : ∃ b off, a = ⟨b, off, none⟩ := by
  have hs := World.cell?_spot h
  have hs' : a.spot = none := by simpa [Addr.add] using hs
  obtain ⟨b, off, sp⟩ := a
  simp only at hs'
  subst hs'
  exact ⟨b, off, rfl⟩
set_option maxRecDepth 100000 in
theorem open_code {r : Reach} {b0 : Nat} {v : Value} {d : DataW H} {p : List MemPlace} (hv : Value.okWide Try.prog W r b0 22 v) (h : DataW.Trod enc Try.prog W base (fun _ => true) true 22 v d p)
    (hlt : ∀ x ∈ p, x.block < W.heap.size) : ∃ (A : Option Addr) (c : Nat) (zs : List Int), v = .slice A zs.length c ∧ zs.length ≤ 9223372036854775807 ∧ CodeS W W.heap.size A zs := by
  obtain ⟨fuel, hf⟩ := h
  obtain ⟨A0, n0, c0, rfl⟩ := okWide_slice Try.underlying22 hv
  rcases open_ints Try.underlying22 Try.underlying5 (by kernel_rfl) hf with ⟨e1, _⟩ | ⟨a, len, cap, zs, e1, hb, hl, hm, hlen, hx, hcell, hwf⟩
  · have e2 : Value.slice A0 n0 c0 = .slice none 0 0 := by
      have := congrArg (fun l => l[0]?) e1
      simpa [Value.cells] using this
    injection e2 with e3 e4 e5
    subst e3
    subst e4
    subst e5
    exact ⟨none, 0, [], rfl, by simp, by simp, fun hn => absurd hn (by simp)⟩
  · have e2 : Value.slice A0 n0 c0 = .slice (some a) len cap := by
      have := congrArg (fun l => l[0]?) e1
      simpa [Value.cells] using this
    injection e2 with e3 e4 e5
    subst e3
    subst e4
    subst e5
    simp only [Prod.mk.injEq] at hx
    have hls : n0 ≤ zs.length := by rw [hlen]; split <;> omega
    have htl : (zs.take n0).length = n0 := by rw [List.length_take]; omega
    refine ⟨some a, c0, zs.take n0, by rw [htl], ?_, fun x hx2 => bounds_u8 (hwf x (List.mem_of_mem_take hx2)), ?_⟩
    · rw [htl]
      unfold maxLen at hm
      omega
    · intro hn
      rw [htl] at hn
      obtain ⟨b, off, rfl⟩ := spot_noneC (hcell 0 (by omega))
      refine ⟨b, off, rfl, ?_, ?_⟩
      · exact hlt (MemPlace.cell b (off + 0)) (by
          rw [hx.2]
          exact row_memC ⟨b, off, none⟩ zs.length 0 (by omega))
      · intro i x he
        have hil : i < n0 := by
          have := (List.getElem?_eq_some_iff.1 he).1
          omega
        have h1 := hcell i (by omega)
        rw [List.getElem?_take_of_lt hil] at he
        rw [add_plain] at h1
        rw [h1]
        simp [List.getD, he]
end
end Go.Proofs.Ytndncmjhpbjcoaa

/- The laws' own same and has. -/
namespace Go.Proofs.Ytndncmjhpbjcoaa
open Go.RowKit

theorem take_sameI {xs ys : List Int} {k : Nat} {x y : Int} (h1 : xs[k]? = some x) (h2 : ys[k]? = some y) (h : xs.take k = ys.take k) (he : x = y) : xs.take (k + 1) = ys.take (k + 1) := by
  rw [List.take_add_one, List.take_add_one, h1, h2, h, he]
set_option maxHeartbeats 1000000 in
theorem sameI_any (A C : Option Addr) (ca cc : Nat) (xs ys : List Int) (w : World) (hn : xs.length ≤ 1048576) (hm : ys.length ≤ 1048576) (hS : IntS w w.heap.size A xs) (hT : IntS w w.heap.size C ys) :
    Calls Try.prog 23 #[.slice A xs.length ca, .slice C ys.length cc] w fun e w' => e = .returned (.bool (decide (xs = ys))) ∧ w' = w := by
  have HS := Lib.hid hS
  have HT := Lib.hid hT
  clear hS hT
  by_cases hl : xs.length = ys.length
  · have t0 : ((xs.length : Int) == (ys.length : Int)) = true := by simp [hl]
    have t1 : ((xs.length : Int) ≠ (ys.length : Int)) = False := by simp [hl]
    have hl2 : (xs.length : Int) = (ys.length : Int) := by omega
    have HL := Lib.hid hl
    clear hl
    go_enter Try.func23, Try.ntmps23
    go_wp2
    go_loopw [14] (fun i wr => ∃ k : Nat, k ≤ xs.length ∧ i = .int .i64 k ∧ Hid (xs.take k = ys.take k) ∧ wr = w) (fun i _ => xs.length - (intOf i).toNat)
    case atStart => exact ⟨0, Nat.zero_le _, rfl, Lib.hid (by simp), rfl⟩
    case round =>
      obtain ⟨k, hk, rfl, HN, rfl⟩ := hrel
      by_cases hlt : k < xs.length
      · obtain ⟨b1, o1, x, rfl, hb1, he, hc0⟩ := HS.out.at_ hlt
        obtain ⟨b2, o2, y, rfl, hb2, hf, hc1⟩ := HT.out.at_ (show k < ys.length by have := HL.out; omega)
        have hi0 : (0 : Int) ≤ (k : Int) := Int.natCast_nonneg _
        have hi1 : (k : Int) < (xs.length : Int) := by omega
        have hi2 : (k : Int) < (ys.length : Int) := by omega
        by_cases hx : x = y
        · have HN2 := Lib.hid (take_sameI he hf HN.out hx)
          have t2 : (x == y) = true := by simp [hx]
          clear he hf HN
          subst hx
          go_wp2
          exact ⟨⟨k + 1, by omega, by go_num, HN2, by trivial⟩, by simp [intOf]; omega⟩
        · have HM := Lib.hid (show decide (xs = ys) = false from by
            rw [decide_eq_false_iff_not]
            rintro rfl
            rw [he] at hf
            injection hf with hf
            exact hx hf)
          have t2 : (x == y) = false := by simp [hx]
          clear he hf HN
          go_wp2
          go_ret
          exact ⟨by rw [HM.out]; rfl, rfl⟩
      · have HM := Lib.hid (show decide (xs = ys) = true from by
          have h := HN.out
          rw [List.take_of_length_le (by omega), List.take_of_length_le (by have := HL.out; omega)] at h
          exact decide_eq_true h)
        go_wp2
        go_ret
        exact ⟨by rw [HM.out]; rfl, rfl⟩
  · have HM := Lib.hid (show decide (xs = ys) = false from by
      rw [decide_eq_false_iff_not]
      rintro rfl
      exact hl rfl)
    have t0 : ((xs.length : Int) == (ys.length : Int)) = false := by simp; omega
    have hl2 : ¬ (xs.length : Int) = (ys.length : Int) := by omega
    clear hl
    go_enter Try.func23, Try.ntmps23
    go_wp2
    go_ret
    exact ⟨by rw [HM.out]; rfl, rfl⟩
end Go.Proofs.Ytndncmjhpbjcoaa

/- What the walk of a law over a drawn graph holds. -/
namespace Go.Proofs.Ytndncmjhpbjcoaa
open Go.RowKit

structure GLaw (w wc : World) (X M : Nat) (A : Option Addr) (c : Nat) (es : List (Int × Int)) : Prop where
  old : Below w.heap.size w wc
  box : Blk wc X 25 #[.int .i64 (M : Int), .slice A es.length c]
  own : OwnE wc w.heap.size A es
theorem GLaw.next {w wc wd : World} {X M c : Nat} {A : Option Addr} {es : List (Int × Int)} (h : GLaw w wc X M A c es) (hb : Below wc.heap.size wc wd) : GLaw w wd X M A c es :=
  ⟨h.old.trans (hb.mono h.old.size), h.box.below hb h.box.lt, h.own.below hb⟩
theorem keepX {W0 w' w'' : World} {K X : Nat} {a b : Value} (h : w'.cell? ⟨X, 0, none⟩ = some a ∧ w'.cell? ⟨X, 1, none⟩ = some b ∧ Below W0.heap.size W0 w') (hb : Below K w' w'') (hX : X < K) (hB : W0.heap.size ≤ K) :
    w''.cell? ⟨X, 0, none⟩ = some a ∧ w''.cell? ⟨X, 1, none⟩ = some b ∧ Below W0.heap.size W0 w'' := ⟨(hb.cell (p := ⟨X, 0, none⟩) hX).trans h.1, (hb.cell (p := ⟨X, 1, none⟩) hX).trans h.2.1, h.2.2.trans (hb.mono hB)⟩
end Go.Proofs.Ytndncmjhpbjcoaa
