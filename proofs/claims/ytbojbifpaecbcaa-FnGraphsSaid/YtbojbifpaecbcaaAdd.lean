/- AddEdge: the program's side. -/
import Derived.Test.YtbojbifpaecbcaaAddS
import Derived.Test.YtbojbifpaecbcaaBs
import Derived.Test.YtbojbifpaecbcaaIns
import Derived.Test.YtbojbifpaecbcaaBC
import Derived.Test.YtbojbifpaecbcaaBF
import Derived.Test.YtbojbifpaecbcaaBB
namespace Go.Proofs.Ytbojbifpaecbcaa
open Go.RowKit

def lowR (e : Int × Int) : List (Int × Int) → List (Int × Int)
  | [] => [e]
  | x :: l => if ltE x e = true then x :: lowR e l else e :: x :: l
def highR (e : Int × Int) : List (Int × Int) → List (Int × Int)
  | [] => [e]
  | x :: l => if ltE e x = true then e :: x :: l else x :: highR e l
theorem lowR_eq (e : Int × Int) : ∀ es : List (Int × Int), insAt es (lowE es e) e = lowR e es
  | [] => rfl
  | x :: l => by
    have ih := lowR_eq e l
    unfold insAt lowE at ih ⊢
    rw [List.findIdx_cons, lowR]
    cases h : ltE x e with
    | true => simp [ih]
    | false => simp
theorem highR_eq (e : Int × Int) : ∀ es : List (Int × Int), insE es e = highR e es
  | [] => rfl
  | x :: l => by
    have ih := highR_eq e l
    unfold insE placeE at ih ⊢
    rw [List.findIdx_cons, highR]
    cases h : ltE e x with
    | true => simp
    | false => simp [ih]
theorem eq_of_not_lt {x y : Int × Int} (h1 : ltE x y = false) (h2 : ltE y x = false) : x = y := by
  simp only [ltE, Bool.or_eq_false_iff, Bool.and_eq_false_iff, decide_eq_false_iff_not] at h1 h2
  exact Prod.ext (by omega) (by omega)
theorem lowR_head (e : Int × Int) {l : List (Int × Int)} (h : ∀ y ∈ l, ltE y e = false) : lowR e l = e :: l := by
  cases l with
  | nil => rfl
  | cons y l => rw [lowR, if_neg (by rw [h y (by simp)]; decide)]
theorem low_high (e : Int × Int) : ∀ es : List (Int × Int), Srt es → lowR e es = highR e es
  | [], _ => rfl
  | x :: l, h => by
    unfold Srt at h
    rw [List.pairwise_cons] at h
    have ih := low_high e l h.2
    rw [lowR, highR]
    cases h1 : ltE x e with
    | true =>
      rw [if_pos rfl, if_neg (by rw [ltE_asymm h1]; decide), ih]
    | false =>
      rw [if_neg (by decide)]
      cases h2 : ltE e x with
      | true => rw [if_pos rfl]
      | false =>
        rw [if_neg (by decide)]
        obtain rfl := eq_of_not_lt h1 h2
        rw [← ih, lowR_head x h.1]
theorem ins_low {es : List (Int × Int)} {e : Int × Int} (h : Srt es) : insAt es (lowE es e) e = insE es e := by rw [lowR_eq, highR_eq, low_high e es h]
theorem addL_len {N a b : Int} {es : List (Int × Int)} (_ : es.length ≤ 1048576) : (addL N es a b).length ≤ 1048576 := by
  cases hk : addK N es a b with
  | false => rw [(add_no hk).2]; simp
  | true =>
    rw [(add_yes hk).2, insE_len]
    simp only [addK, Bool.and_eq_true] at hk
    have := edgesB_lims (graphB_all hk.1).1
    omega
theorem edgeBetween_any (a b : Int) (w : World) (h : a ≠ b) : Calls Try.prog 56 #[.int .i64 a, .int .i64 b] w fun e w' => e = .returned (.agg #[.int .i64 (min a b), .int .i64 (max a b)]) ∧ Below w.heap.size w w' := by
  rcases Int.lt_or_gt_of_ne h with g | g
  · rw [Int.min_eq_left (by omega), Int.max_eq_right (by omega)]
    exact edgeBetween_lt a b w g
  · rw [Int.min_eq_right (by omega), Int.max_eq_left (by omega)]
    exact edgeBetween_gt a b w g
theorem near_nil {v u : Int} {k : Nat} (h : Near [] v k u) : u = v := by
  induction h with
  | start => rfl
  | stay _ ih => exact ih
  | step _ t _ => exact absurd t (by rintro (h | h) <;> cases h)
theorem keepP {w W w2 : World} {X Y K : Nat} {a b c d : Value} (h : W.cell? ⟨X, 0, none⟩ = some a ∧ W.cell? ⟨X, 1, none⟩ = some b ∧ W.cell? ⟨Y, 0, none⟩ = some c ∧ W.cell? ⟨Y, 1, none⟩ = some d ∧ Below w.heap.size w W) (hb : Below K W w2) (hX : X < K) (hY : Y < K) (hB : w.heap.size ≤ K) :
    w2.cell? ⟨X, 0, none⟩ = some a ∧ w2.cell? ⟨X, 1, none⟩ = some b ∧ w2.cell? ⟨Y, 0, none⟩ = some c ∧ w2.cell? ⟨Y, 1, none⟩ = some d ∧ Below w.heap.size w w2 :=
  ⟨(hb.cell (p := ⟨X, 0, none⟩) hX).trans h.1, (hb.cell (p := ⟨X, 1, none⟩) hX).trans h.2.1, (hb.cell (p := ⟨Y, 0, none⟩) hY).trans h.2.2.1, (hb.cell (p := ⟨Y, 1, none⟩) hY).trans h.2.2.2.1, h.2.2.2.2.trans (hb.mono hB)⟩
theorem keepPA {w W w2 : World} {X Y : Nat} {a b c d : Value} (h : W.cell? ⟨X, 0, none⟩ = some a ∧ W.cell? ⟨X, 1, none⟩ = some b ∧ W.cell? ⟨Y, 0, none⟩ = some c ∧ W.cell? ⟨Y, 1, none⟩ = some d ∧ Below w.heap.size w W) (hb : Below W.heap.size W w2) :
    w2.cell? ⟨X, 0, none⟩ = some a ∧ w2.cell? ⟨X, 1, none⟩ = some b ∧ w2.cell? ⟨Y, 0, none⟩ = some c ∧ w2.cell? ⟨Y, 1, none⟩ = some d ∧ Below w.heap.size w w2 :=
  keepP h hb (World.block_lt_of_cell? W _ h.1) (World.block_lt_of_cell? W _ h.2.2.1) h.2.2.2.2.size
theorem keepPS {w W : World} {X Y Z : Nat} {a b c d u v : Value} (h : W.cell? ⟨X, 0, none⟩ = some a ∧ W.cell? ⟨X, 1, none⟩ = some b ∧ W.cell? ⟨Y, 0, none⟩ = some c ∧ W.cell? ⟨Y, 1, none⟩ = some d ∧ Below w.heap.size w W) (hX : X ≠ Z) (hY : Y ≠ Z) (hB : w.heap.size ≤ Z) :
    ((W.setCell ⟨Z, 0, none⟩ u).setCell ⟨Z, 1, none⟩ v).cell? ⟨X, 0, none⟩ = some a ∧ ((W.setCell ⟨Z, 0, none⟩ u).setCell ⟨Z, 1, none⟩ v).cell? ⟨X, 1, none⟩ = some b ∧ ((W.setCell ⟨Z, 0, none⟩ u).setCell ⟨Z, 1, none⟩ v).cell? ⟨Y, 0, none⟩ = some c ∧ ((W.setCell ⟨Z, 0, none⟩ u).setCell ⟨Z, 1, none⟩ v).cell? ⟨Y, 1, none⟩ = some d ∧ Below w.heap.size w ((W.setCell ⟨Z, 0, none⟩ u).setCell ⟨Z, 1, none⟩ v) := by
  have hbl : ∀ k, k ≠ Z → ((W.setCell ⟨Z, 0, none⟩ u).setCell ⟨Z, 1, none⟩ v).heap[k]? = W.heap[k]? := fun k hk => (Below.heap_setCell _ _ _ _ (by simpa using hk)).trans (Below.heap_setCell _ _ _ _ (by simpa using hk))
  exact ⟨(World.cell?_of_block (hbl _ hX)).trans h.1, (World.cell?_of_block (hbl _ hX)).trans h.2.1, (World.cell?_of_block (hbl _ hY)).trans h.2.2.1, (World.cell?_of_block (hbl _ hY)).trans h.2.2.2.1, (h.2.2.2.2.setCell (p := ⟨Z, 0, none⟩) hB u).setCell (p := ⟨Z, 1, none⟩) hB v⟩
theorem newD {w6 w7 : World} {cs : Array Value} {t : TypeId} (hb : Below ((w6.alloc (.cells cs t)).drew).heap.size ((w6.alloc (.cells cs t)).drew) w7) : Blk w7 w6.heap.size t cs := by
  have h1 : Blk ((w6.alloc (.cells cs t)).drew) w6.heap.size t cs := Blk.new w6 t cs
  exact h1.below hb h1.lt
theorem newE {w6 w7 : World} {cs : Array Value} {t : TypeId} (hb : Below (w6.drew.alloc (.cells cs t)).heap.size (w6.drew.alloc (.cells cs t)) w7) : Blk w7 w6.heap.size t cs := by
  have h1 : Blk (w6.drew.alloc (.cells cs t)) w6.heap.size t cs := Blk.new w6.drew t cs
  exact h1.below hb h1.lt
theorem OwnE.rng {w : World} {base : Nat} {A : Option Addr} {es : List (Int × Int)} (h : OwnE w base A es) (hn : 0 < es.length) : ∀ g off, A = some ⟨g, off, none⟩ → base ≤ g ∧ g < w.heap.size := fun g off e => by
  obtain ⟨g', off', e', h1, h2, _⟩ := h hn
  rw [e] at e'
  injection e' with e'
  injection e' with e1 _ _
  subst e1
  exact ⟨h1, h2⟩
set_option maxRecDepth 100000 in
set_option maxHeartbeats 2000000 in
theorem cloneO_any (w : World) (b off c : Nat) (es : List (Int × Int)) (hn : es.length ≤ 1048576) (hE : EdgeS w w.heap.size (some ⟨b, off, none⟩) es) (h0 : 0 < es.length) :
    Calls Try.prog 61 #[.slice (some ⟨b, off, none⟩) es.length c] w fun e w' =>
      ∃ (g cap : Nat) (cs : Array Value), e = .returned (.slice (some ⟨g, 0, none⟩) es.length cap) ∧ w.heap.size ≤ g ∧ Blk w' g 36 cs ∧ cs.toList.take (es.length * 2) = flat es ∧ es.length ≤ cap ∧ cap ≤ maxLen ∧ cs.size = cap * 2 ∧ Below w.heap.size w w' := by
  have q : ∀ (w : World) (a : Option Addr) (n c n' c' : Nat), (binOp .eql 23 (.slice a n c) (.slice none n' c')).run Try.prog w = .ok (.bool a.isNone) w := fun w a n c n' c' => Lib.run_eql_slice_nil w _ _ a n c n' c' Try.underlying23
  have HC : Hid (∀ (o : Obj) (j : Nat) (u : Value), (flat es)[j]? = some u → (w.alloc o).cell? ((⟨b, off, none⟩ : Addr).add j) = some u) := Lib.hid fun o j u hu => by
    obtain ⟨b', off', e', hb, hc⟩ := hE h0
    injection e' with e'
    injection e' with e1 e2 _
    subst e1
    subst e2
    apply Lib.cell?_alloc_some
    have hjl : j < es.length * 2 := by
      have := (List.getElem?_eq_some_iff.1 hu).1
      rwa [flat_length] at this
    obtain ⟨p, r, hr, hp⟩ : ∃ p r, r < 2 ∧ j = p * 2 + r := ⟨j / 2, j % 2, Nat.mod_lt _ (by omega), by omega⟩
    have hpl : p < es.length := by omega
    have h1 := flat_at es p es[p] (List.getElem?_eq_getElem hpl)
    have h2 := hc p es[p] (List.getElem?_eq_getElem hpl)
    rw [Addr.add_lit]
    rw [hp] at hu ⊢
    rcases (show r = 0 ∨ r = 1 by omega) with rfl | rfl
    · rw [Nat.add_zero, h1.1] at hu
      rw [Nat.add_zero, h2.1, hu]
    · rw [h1.2] at hu
      rw [← Nat.add_assoc, h2.2, hu]
  clear hE
  obtain ⟨i0, hI, hz0, hz1, hz2⟩ := info_parts edgeInfo
  go_enter Try.func61, Try.ntmps61
  go_wp2_with (at_builtin; refine wpList_append_own _ rfl _ _ 23 rfl w.heap.size 36 i0 (.agg #[.int .i64 0, .int .i64 0]) 2 16 Try.underlying23 hI hz0 hz1 hz2 rfl (by decide) _ _ _ rfl (World.ownsRow_made w #[] 0 (Nat.le_refl _) (Nat.zero_le _) (by simp)) ⟨b, off, none⟩ es.length c (flat es) rfl ?c0 ?c1 ?c2 ?c3 ?c4 ?c5 ?_)
  case c0 => exact flat_length es
  case c1 => exact HC.out _
  case c2 => exact fun u hu => flat_one hu
  case c3 => unfold maxLen; omega
  case c4 => omega
  case c5 => simp
  intro v' w1 hown hgrow _
  have hb4 : Below w.heap.size w w1 := ((Below.refl _ w).alloc (Nat.le_refl _) _).grown hgrow (by simp) (by intro k hk; simp [Value.ownBlock] at hk; omega)
  have HO := Lib.hid hown
  clear hown hgrow
  go_wp2
  go_ret
  obtain ⟨hl, h⟩ := HO.out
  rcases h with ⟨h1, h2⟩ | ⟨g, cap, cur, hv, hb, hh, hnc, hcm, hcs, htk⟩
  · exfalso
    omega
  · exact ⟨g, cap, cur, by rw [hv]; simp, hb, hh, by simpa using htk, by omega, hcm, hcs, hb4⟩
set_option maxRecDepth 100000 in
set_option maxHeartbeats 8000000 in
theorem implAdd (N : Int) (A : Option Addr) (c : Nat) (es : List (Int × Int)) (a b : Int) (w : World) (hn : es.length ≤ 1048576) (hE : EdgeS w w.heap.size A es) :
    Calls Try.prog 17 #[.agg #[.int .i64 N, .slice A es.length c], .int .i64 a, .int .i64 b] w (GivesG w (addN N es a b) (addL N es a b) (addK N es a b)) := by
  have HE := Lib.hid hE
  obtain ⟨wa, hwa⟩ : ∃ wa, wa = ((w.alloc (Obj.cells #[.int .i64 N, .slice A es.length c] 25)).alloc (Obj.cells #[.int .i64 0, .slice none 0 0] 25)) := ⟨_, rfl⟩
  have hba : Below w.heap.size w wa := by rw [hwa]; exact ((Below.refl _ w).alloc (Nat.le_refl _) _).alloc (by simp) _
  have hk1 : Blk wa w.heap.size 25 #[.int .i64 N, .slice A es.length c] := by rw [hwa]; exact (Blk.new w _ _).alloc _
  have hk2 : Blk wa (w.heap.size + 1) 25 #[.int .i64 0, .slice none 0 0] := by
    rw [hwa]
    have h := Blk.new (w.alloc (Obj.cells #[.int .i64 N, .slice A es.length c] 25)) 25 #[.int .i64 0, .slice none 0 0]
    rw [World.size_alloc] at h
    exact h
  have hsa : wa.heap.size = w.heap.size + 2 := by rw [hwa]; simp
  have HWA := Lib.hid hwa
  have HG := Lib.hid (implGraphOk N A c es wa hn ((hE.below hba).keep (fun _ _ => rfl) hba.size))
  have HV := fun v w => Lib.hid (hasVertex_any N (.slice A es.length c) v w ⟨_, _, _, rfl⟩)
  clear hwa
  cases hg : graphB N es with
  | false =>
    rw [hg] at HG
    have HK := Lib.hid (show addK N es a b = false by simp [addK, hg])
    have E0 := add_no HK.out
    have E1 := Lib.hid E0.1
    have E2 := Lib.hid E0.2
    clear E0
    clear hg
    go_enter Try.func17, Try.ntmps17
    go_wp2_with fail
    rw [← HWA.out]
    refine HG.out.mono ?_
    rintro e w1 ⟨rfl, hb⟩
    have HB1 := Lib.hid (hk1.below hb (by omega))
    have HB2 := Lib.hid (hk2.below hb (by omega))
    have hb1 := hba.trans (hb.mono hba.size)
    obtain ⟨hc0, hc1, hf0, hf1, hl1⟩ := box_facts HB1.out
    obtain ⟨hd0, hd1, hg0, hg1, hl2⟩ := box_facts HB2.out
    clear hb hk1 hk2 HG
    go_wp2
    obtain ⟨W6, hW6⟩ : ∃ W6 : World, W6 = ((w1.setCell ⟨w.heap.size + 1, 0, none⟩ (.int .i64 0)).setCell ⟨w.heap.size + 1, 1, none⟩ (.slice none 0 0)) := ⟨_, rfl⟩
    rw [← hW6]
    have hb9 : Blk W6 (w.heap.size + 1) 25 #[.int .i64 0, .slice none 0 0] := by rw [hW6]; exact (HB2.out.set_ 0 _).set_ 1 _
    have hbA : Below w.heap.size w W6 := by rw [hW6]; exact hb1.trans (below_two (by omega) _ _)
    obtain ⟨z0, z1, z2, z3, z4⟩ := box_facts hb9
    refine bodyPost_ret (v := .tuple #[.agg #[.int .i64 0, .slice none 0 0], .bool false]) (by simp [results, Try.results17, go_sem, z0, z1]) rfl ⟨none, 0, by rw [E1.out, E2.out, HK.out]; rfl, by rw [E2.out]; exact own_nil _ _ _, (fun _ _ h => by cases h), hbA⟩
  | true =>
    rw [hg] at HG
    by_cases hl : es.length = 12
    · have t9 : ((es.length : Int) == 12) = true := by simp; omega
      have HK := Lib.hid (show addK N es a b = false by simp [addK, hl])
      have E0 := add_no HK.out
      have E1 := Lib.hid E0.1
      have E2 := Lib.hid E0.2
      clear E0
      clear hg hl
      go_enter Try.func17, Try.ntmps17
      go_wp2_with fail
      rw [← HWA.out]
      refine HG.out.mono ?_
      rintro e w1 ⟨rfl, hb⟩
      have HB1 := Lib.hid (hk1.below hb (by omega))
      have HB2 := Lib.hid (hk2.below hb (by omega))
      have hb1 := hba.trans (hb.mono hba.size)
      obtain ⟨hc0, hc1, hf0, hf1, hl1⟩ := box_facts HB1.out
      obtain ⟨hd0, hd1, hg0, hg1, hl2⟩ := box_facts HB2.out
      clear hb hk1 hk2 HG
      go_wp2
      obtain ⟨W6, hW6⟩ : ∃ W6 : World, W6 = ((w1.setCell ⟨w.heap.size + 1, 0, none⟩ (.int .i64 0)).setCell ⟨w.heap.size + 1, 1, none⟩ (.slice none 0 0)) := ⟨_, rfl⟩
      rw [← hW6]
      have hb9 : Blk W6 (w.heap.size + 1) 25 #[.int .i64 0, .slice none 0 0] := by rw [hW6]; exact (HB2.out.set_ 0 _).set_ 1 _
      have hbA : Below w.heap.size w W6 := by rw [hW6]; exact hb1.trans (below_two (by omega) _ _)
      obtain ⟨z0, z1, z2, z3, z4⟩ := box_facts hb9
      refine bodyPost_ret (v := .tuple #[.agg #[.int .i64 0, .slice none 0 0], .bool false]) (by simp [results, Try.results17, go_sem, z0, z1]) rfl ⟨none, 0, by rw [E1.out, E2.out, HK.out]; rfl, by rw [E2.out]; exact own_nil _ _ _, (fun _ _ h => by cases h), hbA⟩
    · have t9 : ((es.length : Int) == 12) = false := by simp; omega
      by_cases hab : a = b
      · have t0 : (a == b) = true := by simp [hab]
        have HK := Lib.hid (show addK N es a b = false by simp [addK, hab])
        have E0 := add_no HK.out
        have E1 := Lib.hid E0.1
        have E2 := Lib.hid E0.2
        clear E0
        clear hg hl hab
        go_enter Try.func17, Try.ntmps17
        go_wp2_with fail
        rw [← HWA.out]
        refine HG.out.mono ?_
        rintro e w1 ⟨rfl, hb⟩
        have HB1 := Lib.hid (hk1.below hb (by omega))
        have HB2 := Lib.hid (hk2.below hb (by omega))
        have hb1 := hba.trans (hb.mono hba.size)
        obtain ⟨hc0, hc1, hf0, hf1, hl1⟩ := box_facts HB1.out
        obtain ⟨hd0, hd1, hg0, hg1, hl2⟩ := box_facts HB2.out
        clear hb hk1 hk2 HG
        go_wp2
        obtain ⟨W6, hW6⟩ : ∃ W6 : World, W6 = ((w1.setCell ⟨w.heap.size + 1, 0, none⟩ (.int .i64 0)).setCell ⟨w.heap.size + 1, 1, none⟩ (.slice none 0 0)) := ⟨_, rfl⟩
        rw [← hW6]
        have hb9 : Blk W6 (w.heap.size + 1) 25 #[.int .i64 0, .slice none 0 0] := by rw [hW6]; exact (HB2.out.set_ 0 _).set_ 1 _
        have hbA : Below w.heap.size w W6 := by rw [hW6]; exact hb1.trans (below_two (by omega) _ _)
        obtain ⟨z0, z1, z2, z3, z4⟩ := box_facts hb9
        refine bodyPost_ret (v := .tuple #[.agg #[.int .i64 0, .slice none 0 0], .bool false]) (by simp [results, Try.results17, go_sem, z0, z1]) rfl ⟨none, 0, by rw [E1.out, E2.out, HK.out]; rfl, by rw [E2.out]; exact own_nil _ _ _, (fun _ _ h => by cases h), hbA⟩
      · have t0 : (a == b) = false := by simp [hab]
        cases ha : vB a N with
        | false =>
          have HK := Lib.hid (show addK N es a b = false by simp [addK, ha])
          have E0 := add_no HK.out
          have E1 := Lib.hid E0.1
          have E2 := Lib.hid E0.2
          clear E0
          clear hg hl hab
          go_enter Try.func17, Try.ntmps17
          go_wp2_with fail
          rw [← HWA.out]
          refine HG.out.mono ?_
          rintro e w1 ⟨rfl, hb⟩
          have HB1 := Lib.hid (hk1.below hb (by omega))
          have HB2 := Lib.hid (hk2.below hb (by omega))
          have hb1 := hba.trans (hb.mono hba.size)
          obtain ⟨hc0, hc1, hf0, hf1, hl1⟩ := box_facts HB1.out
          obtain ⟨hd0, hd1, hg0, hg1, hl2⟩ := box_facts HB2.out
          clear hb hk1 hk2 HG
          have HV1 := (HV a w1).out
          rw [ha] at HV1
          go_wp2_with fail
          refine HV1.mono ?_
          rintro e w2 ⟨rfl, hb⟩
          have HB11 := Lib.hid (HB1.out.below hb HB1.out.lt)
          have HB21 := Lib.hid (HB2.out.below hb HB2.out.lt)
          have hb2 := hb1.trans (hb.mono hb1.size)
          clear hb HV1 hc0 hc1 hf0 hf1 hl1 hd0 hd1 hg0 hg1 hl2
          obtain ⟨hc0, hc1, hf0, hf1, hl1⟩ := box_facts HB11.out
          obtain ⟨hd0, hd1, hg0, hg1, hl2⟩ := box_facts HB21.out
          go_wp2
          obtain ⟨W6, hW6⟩ : ∃ W6 : World, W6 = ((w2.setCell ⟨w.heap.size + 1, 0, none⟩ (.int .i64 0)).setCell ⟨w.heap.size + 1, 1, none⟩ (.slice none 0 0)) := ⟨_, rfl⟩
          rw [← hW6]
          have hb9 : Blk W6 (w.heap.size + 1) 25 #[.int .i64 0, .slice none 0 0] := by rw [hW6]; exact (HB21.out.set_ 0 _).set_ 1 _
          have hbA : Below w.heap.size w W6 := by rw [hW6]; exact hb2.trans (below_two (by omega) _ _)
          obtain ⟨z0, z1, z2, z3, z4⟩ := box_facts hb9
          refine bodyPost_ret (v := .tuple #[.agg #[.int .i64 0, .slice none 0 0], .bool false]) (by simp [results, Try.results17, go_sem, z0, z1]) rfl ⟨none, 0, by rw [E1.out, E2.out, HK.out]; rfl, by rw [E2.out]; exact own_nil _ _ _, (fun _ _ h => by cases h), hbA⟩
        | true =>
          cases hb' : vB b N with
          | false =>
            have HK := Lib.hid (show addK N es a b = false by simp [addK, hb'])
            have E0 := add_no HK.out
            have E1 := Lib.hid E0.1
            have E2 := Lib.hid E0.2
            clear E0
            clear hg hl hab
            go_enter Try.func17, Try.ntmps17
            go_wp2_with fail
            rw [← HWA.out]
            refine HG.out.mono ?_
            rintro e w1 ⟨rfl, hb⟩
            have HB1 := Lib.hid (hk1.below hb (by omega))
            have HB2 := Lib.hid (hk2.below hb (by omega))
            have hb1 := hba.trans (hb.mono hba.size)
            obtain ⟨hc0, hc1, hf0, hf1, hl1⟩ := box_facts HB1.out
            obtain ⟨hd0, hd1, hg0, hg1, hl2⟩ := box_facts HB2.out
            clear hb hk1 hk2 HG
            have HV1 := (HV a w1).out
            rw [ha] at HV1
            go_wp2_with fail
            refine HV1.mono ?_
            rintro e w2 ⟨rfl, hb⟩
            have HB11 := Lib.hid (HB1.out.below hb HB1.out.lt)
            have HB21 := Lib.hid (HB2.out.below hb HB2.out.lt)
            have hb2 := hb1.trans (hb.mono hb1.size)
            clear hb HV1 hc0 hc1 hf0 hf1 hl1 hd0 hd1 hg0 hg1 hl2
            obtain ⟨hc0, hc1, hf0, hf1, hl1⟩ := box_facts HB11.out
            obtain ⟨hd0, hd1, hg0, hg1, hl2⟩ := box_facts HB21.out
            have HV2 := (HV b w2).out
            rw [hb'] at HV2
            go_wp2_with fail
            refine HV2.mono ?_
            rintro e w3 ⟨rfl, hb⟩
            have HB12 := Lib.hid (HB11.out.below hb HB11.out.lt)
            have HB22 := Lib.hid (HB21.out.below hb HB21.out.lt)
            have hb3 := hb2.trans (hb.mono hb2.size)
            clear hb HV2 hc0 hc1 hf0 hf1 hl1 hd0 hd1 hg0 hg1 hl2
            obtain ⟨hc0, hc1, hf0, hf1, hl1⟩ := box_facts HB12.out
            obtain ⟨hd0, hd1, hg0, hg1, hl2⟩ := box_facts HB22.out
            go_wp2
            obtain ⟨W6, hW6⟩ : ∃ W6 : World, W6 = ((w3.setCell ⟨w.heap.size + 1, 0, none⟩ (.int .i64 0)).setCell ⟨w.heap.size + 1, 1, none⟩ (.slice none 0 0)) := ⟨_, rfl⟩
            rw [← hW6]
            have hb9 : Blk W6 (w.heap.size + 1) 25 #[.int .i64 0, .slice none 0 0] := by rw [hW6]; exact (HB22.out.set_ 0 _).set_ 1 _
            have hbA : Below w.heap.size w W6 := by rw [hW6]; exact hb3.trans (below_two (by omega) _ _)
            obtain ⟨z0, z1, z2, z3, z4⟩ := box_facts hb9
            refine bodyPost_ret (v := .tuple #[.agg #[.int .i64 0, .slice none 0 0], .bool false]) (by simp [results, Try.results17, go_sem, z0, z1]) rfl ⟨none, 0, by rw [E1.out, E2.out, HK.out]; rfl, by rw [E2.out]; exact own_nil _ _ _, (fun _ _ h => by cases h), hbA⟩
          | true =>
            have HK := Lib.hid (show addK N es a b = true by simp [addK, hg, ha, hb', hab, hl])
            have E0 := add_yes HK.out
            have E1 := Lib.hid E0.1
            have E2 := Lib.hid E0.2
            have hlims := edgesB_lims (graphB_all hg).1
            obtain ⟨hN1, hN6, hn12⟩ := hlims
            have va := vB_iff ha
            have vb := vB_iff hb'
            have hpos : 0 < es.length := by
              obtain ⟨k, n⟩ := (graphB_all hg).2 1 (by omega) (by omega)
              cases hes : es with
              | cons x l => simp
              | nil => exact absurd (near_nil (by rw [hes] at n; exact n)) (by omega)
            have hsrt : Srt es := ordB_srt (by
              simp only [graphB, Bool.and_eq_true] at hg
              exact hg.1.2)
            have HEB := fun w => Lib.hid (edgeBetween_any a b w hab)
            obtain ⟨e1, e1e⟩ : ∃ e1, e1 = min a b := ⟨_, rfl⟩
            obtain ⟨e2, e2e⟩ : ∃ e2, e2 = max a b := ⟨_, rfl⟩
            have HBS := fun W (hb : Below w.heap.size w W) => Lib.hid (bs_any A c es e1 e2 W hn hsrt ((HE.out.below hb).keep (fun _ _ => rfl) hb.size))
            have HIN := Lib.hid (show insAt es (lowE es (e1, e2)) (e1, e2) = insE es (edgeOf a b) by rw [ins_low hsrt, e1e, e2e]; rfl)
            have HLE := lowE_le es (e1, e2)
            obtain ⟨p, hp⟩ : ∃ p, p = lowE es (e1, e2) := ⟨_, rfl⟩
            simp only [← hp] at HBS HIN HLE
            simp only [← e1e, ← e2e] at HEB
            obtain ⟨bb, off, rfl, -, -⟩ := hE hpos
            have HCL := fun W (hb : Below w.heap.size w W) => Lib.hid (cloneO_any W bb off c es hn ((HE.out.below hb).keep (fun _ _ => rfl) hb.size) hpos)
            clear E0 hsrt hp e1e e2e
            clear hg hl hab
            go_enter Try.func17, Try.ntmps17
            go_wp2_with fail
            rw [← HWA.out]
            refine HG.out.mono ?_
            rintro e w1 ⟨rfl, hb⟩
            have HB1 := Lib.hid (hk1.below hb (by omega))
            have HB2 := Lib.hid (hk2.below hb (by omega))
            have hb1 := hba.trans (hb.mono hba.size)
            obtain ⟨hc0, hc1, hf0, hf1, hl1⟩ := box_facts HB1.out
            obtain ⟨hd0, hd1, hg0, hg1, hl2⟩ := box_facts HB2.out
            clear hb hk1 hk2 HG
            have HV1 := (HV a w1).out
            rw [ha] at HV1
            go_wp2_with fail
            refine HV1.mono ?_
            rintro e w2 ⟨rfl, hb⟩
            have HB11 := Lib.hid (HB1.out.below hb HB1.out.lt)
            have HB21 := Lib.hid (HB2.out.below hb HB2.out.lt)
            have hb2 := hb1.trans (hb.mono hb1.size)
            clear hb HV1 hc0 hc1 hf0 hf1 hl1 hd0 hd1 hg0 hg1 hl2
            obtain ⟨hc0, hc1, hf0, hf1, hl1⟩ := box_facts HB11.out
            obtain ⟨hd0, hd1, hg0, hg1, hl2⟩ := box_facts HB21.out
            have HV2 := (HV b w2).out
            rw [hb'] at HV2
            go_wp2_with fail
            refine HV2.mono ?_
            rintro e w3 ⟨rfl, hb⟩
            have HB12 := Lib.hid (HB11.out.below hb HB11.out.lt)
            have HB22 := Lib.hid (HB21.out.below hb HB21.out.lt)
            have hb3 := hb2.trans (hb.mono hb2.size)
            clear hb HV2 hc0 hc1 hf0 hf1 hl1 hd0 hd1 hg0 hg1 hl2
            obtain ⟨hc0, hc1, hf0, hf1, hl1⟩ := box_facts HB12.out
            obtain ⟨hd0, hd1, hg0, hg1, hl2⟩ := box_facts HB22.out
            go_wp2_with fail
            refine (HEB w3).out.mono ?_
            rintro e w4 ⟨rfl, hb⟩
            have HB13 := Lib.hid (HB12.out.below hb HB12.out.lt)
            have HB23 := Lib.hid (HB22.out.below hb HB22.out.lt)
            have hb4 := hb3.trans (hb.mono hb3.size)
            have hl4 : w.heap.size + 1 < w4.heap.size := HB23.out.lt
            obtain ⟨w5, hw5⟩ : ∃ X : World, X = w4.alloc (Obj.cells #[.int .i64 e1, .int .i64 e2] 36) := ⟨_, rfl⟩
            have h5 : Below w4.heap.size w4 w5 := by rw [hw5]; exact (Below.refl _ _).alloc (Nat.le_refl _) _
            have HB14 := Lib.hid (HB13.out.below h5 HB13.out.lt)
            have HB24 := Lib.hid (HB23.out.below h5 HB23.out.lt)
            have hb5 := hb4.trans (h5.mono hb4.size)
            have HX5 := Lib.hid (show Blk w5 w4.heap.size 36 #[.int .i64 e1, .int .i64 e2] from by rw [hw5]; exact Blk.new w4 _ _)
            have HW5 := Lib.hid hw5
            clear hb h5 hw5 hc0 hc1 hf0 hf1 hl1 hd0 hd1 hg0 hg1 hl2
            obtain ⟨hc0, hc1, hf0, hf1, hl1⟩ := box_facts HB13.out
            have y0 : w5.cell? ⟨w4.heap.size, 0, none⟩ = some (.int .i64 e1) := by rw [HX5.out.cell]; rfl
            have y1 : w5.cell? ⟨w4.heap.size, 1, none⟩ = some (.int .i64 e2) := by rw [HX5.out.cell]; rfl
            go_wp2_with fail
            rw [← HW5.out]
            refine (HBS w5 hb5).out.mono ?_
            rintro e w6 ⟨found, rfl, hb⟩
            have HB15 := Lib.hid (HB14.out.below hb HB14.out.lt)
            have HB25 := Lib.hid (HB24.out.below hb HB24.out.lt)
            have HX6 := Lib.hid (HX5.out.below hb HX5.out.lt)
            have hb6 := hb5.trans (hb.mono hb5.size)
            clear hb hc0 hc1 hf0 hf1 hl1 y0 y1 HB12 HB22 HB13 HB23 HB14 HB24 HX5 HW5 HB11 HB21 HB1 HB2 hb1 hb2 hb3 hb4 hb5 HEB HBS
            obtain ⟨hc0, hc1, hf0, hf1, hl1⟩ := box_facts HB15.out
            have y0 : w6.cell? ⟨w4.heap.size, 0, none⟩ = some (.int .i64 e1) := by rw [HX6.out.cell]; rfl
            have y1 : w6.cell? ⟨w4.heap.size, 1, none⟩ = some (.int .i64 e2) := by rw [HX6.out.cell]; rfl
            have hl2 := HX6.out.lt
            have hl3 := HB25.out.lt
            have hn1000 : es.length ≤ 1000 := by omega
            obtain ⟨L, hL⟩ : ∃ L, L = insE es (edgeOf a b) := ⟨_, rfl⟩
            rw [← hL] at HIN E2
            have HLL := Lib.hid (show 0 < L.length by rw [hL, insE_len]; omega)
            have IC := fun (W : World) (g vb cap : Nat) (cs : Array Value) (h1 : w6.heap.size ≤ g) (h2 : Blk W g 36 cs) (h3 : cs.toList.take (es.length * 2) = flat es) (h4 : cs.size = cap * 2) (h5 : es.length ≤ cap) (h6 : cap ≤ maxLen) (h7 : Blk W vb 36 #[.int .i64 e1, .int .i64 e2]) (h8 : vb ≠ g) => Lib.hid (show Calls Try.prog 60 #[.slice (some ⟨g, 0, none⟩) es.length cap, .int .i64 p, .slice (some ⟨vb, 0, none⟩) 1 1] W (fun e w' => ∃ (A : Option Addr) (c : Nat), e = .returned (.slice A L.length c) ∧ OwnE w' w6.heap.size A L ∧ Below w6.heap.size W w') from by
              have h := insE_any W w6.heap.size g vb cap p e1 e2 es cs h1 h2 h3 h4 h5 h6 hn1000 HLE h7 h8
              rw [HIN.out] at h
              exact h)
            clear hL HIN hE HV
            have dc : w6.drew.cell? ⟨w.heap.size, 0, none⟩ = some (.int .i64 N) ∧ w6.drew.cell? ⟨w.heap.size, 1, none⟩ = some (.slice (some ⟨bb, off, none⟩) es.length c) ∧ w6.drew.cell? ⟨w4.heap.size, 0, none⟩ = some (.int .i64 e1) ∧ w6.drew.cell? ⟨w4.heap.size, 1, none⟩ = some (.int .i64 e2) ∧ Below w.heap.size w w6.drew := ⟨hc0, hc1, y0, y1, hb6.drew⟩
            have DC := Lib.hid dc
            clear dc
            go_wp2_with fail
            go_region_held3 (fun w' => w'.cell? ⟨w.heap.size, 0, none⟩ = some (.int .i64 N) ∧ w'.cell? ⟨w.heap.size, 1, none⟩ = some (.slice (some ⟨bb, off, none⟩) es.length c) ∧ w'.cell? ⟨w4.heap.size, 0, none⟩ = some (.int .i64 e1) ∧ w'.cell? ⟨w4.heap.size, 1, none⟩ = some (.int .i64 e2) ∧ Below w.heap.size w w')
              (first
                | with_reducible exact DC.out
                | with_reducible exact keepPA (by assumption) hb7
                | with_reducible exact keepP (by assumption) hb8 hl1 hl2 hb6.size
                | with_reducible exact keepPA (by assumption) ((Below.refl _ _).alloc (Nat.le_refl _) _)
                | exact keepPS (by assumption) (by omega) (by omega) (by omega))
              (first
                | (go_at_call 61; refine (HCL _ (by first | with_reducible exact hb6.drew | with_reducible exact (hb6.alloc hb6.size _).drew)).out.mono ?_; rintro e w7 ⟨g, cap, cs, rfl, hg, hblk, htk, hcap, hcm, hcz, hb7⟩
                   first
                     | (have hb7a : Below w6.drew.heap.size w6.drew w7 := by with_reducible exact hb7
                        have hw7 : w6.heap.size ≤ w7.heap.size := hb7a.size
                        have hrg : w6.heap.size ≤ g := hg
                        have hr7 : Blk w7 (w.heap.size + 1) 25 #[.int .i64 0, .slice none 0 0] := (show Blk w6.drew _ _ _ from HB25.out).below hb7a hl3)
                     | (have hb7a : Below ((w6.alloc (Obj.cells #[.int .i64 e1, .int .i64 e2] 36)).drew).heap.size ((w6.alloc (Obj.cells #[.int .i64 e1, .int .i64 e2] 36)).drew) w7 := by with_reducible exact hb7
                        have hsa7 : ((w6.alloc (Obj.cells #[.int .i64 e1, .int .i64 e2] 36)).drew).heap.size = w6.heap.size + 1 := by simp
                        have hw7 : w6.heap.size ≤ w7.heap.size := by have := hb7a.size; omega
                        have hrg1 : w6.heap.size + 1 ≤ g := by have := hg; omega
                        have hrg : w6.heap.size ≤ g := by omega
                        have hbv := newD hb7a
                        have hr7 : Blk w7 (w.heap.size + 1) 25 #[.int .i64 0, .slice none 0 0] := (show Blk ((w6.alloc _).drew) _ _ _ from HB25.out.alloc _).below hb7a (by omega)))
                | (go_at_call 60
                   first
                     | (refine (IC w7 g w6.heap.size cap cs hrg hblk htk hcz hcap hcm hbv (by omega)).out.mono ?_
                        rintro e w8 ⟨A8, c8, rfl, ho8, hb8⟩
                        have hr8 : Blk w8 (w.heap.size + 1) 25 #[.int .i64 0, .slice none 0 0] := hr7.below hb8 hl3
                        obtain ⟨s0, s1, s2, s3, s4⟩ := box_facts hr8)
                     | (refine (IC (w7.alloc _) g w7.heap.size cap cs hrg (hblk.alloc _) htk hcz hcap hcm (Blk.new w7 _ _) (Ne.symm (Nat.ne_of_lt hblk.lt))).out.mono ?_
                        rintro e w8 ⟨A8, c8, rfl, ho8, hb8⟩
                        have hr8 : Blk w8 (w.heap.size + 1) 25 #[.int .i64 0, .slice none 0 0] := (hr7.alloc _).below hb8 hl3
                        obtain ⟨s0, s1, s2, s3, s4⟩ := box_facts hr8)))
            all_goals
              obtain ⟨W9, hW9⟩ : ∃ X : World, X = ((w8.setCell ⟨w.heap.size + 1, 0, none⟩ (.int .i64 N)).setCell ⟨w.heap.size + 1, 1, none⟩ (.slice A8 L.length c8)) := ⟨_, rfl⟩
              rw [← hW9]
              have hbA : Below w.heap.size w W9 := by rw [hW9]; exact And.right (And.right (And.right (And.right (by assumption))))
              have hb9 : Blk W9 (w.heap.size + 1) 25 #[.int .i64 N, .slice A8 L.length c8] := by rw [hW9]; exact (hr8.set_ 0 _).set_ 1 _
              have hoA : OwnE W9 w6.heap.size A8 L := by rw [hW9]; exact ownE_far ho8 (by omega) _ _
              have HOA := Lib.hid (hoA.mono (base' := w.heap.size) (by omega))
              obtain ⟨z0, z1, z2, z3, z4⟩ := box_facts hb9
              clear hoA ho8 hr8 hr7 hb8 hW9
              go_wp2
              refine bodyPost_ret (v := .tuple #[.agg #[.int .i64 N, .slice A8 L.length c8], .bool true]) (by simp [results, Try.results17, go_sem, z0, z1]) rfl ⟨A8, c8, by rw [E1.out, E2.out, HK.out], by rw [E2.out]; exact HOA.out, HOA.out.rng HLL.out, hbA⟩
end Go.Proofs.Ytbojbifpaecbcaa
