/- slices.Clone and slices.Insert of one element, at edges (two cells an element): its three roads. -/
import Derived.Test.YtbojbifpaecbcaaDelE
import Derived.Test.YtbojbifpaecbcaaGEdge
import Derived.Shelf.Spec.SlicesInsertGrow
import Derived.Lib.Overlaps
import Derived.Lib.AppendZerosOnto
namespace Go.Proofs.Ytbojbifpaecbcaa
open Go.RowKit

theorem run_copy_two {P : Program} (w : World) (dT sT ty elem : TypeId) (b o dLen dCap : Nat) (a : Addr) (sLen sCap : Nat) (cs : List Value)
    (hu : P.underlying dT = some (.slice elem)) (hs : (P.info? elem).map (·.size) = some 2) (hn : cs.length = Nat.min sLen dLen * 2)
    (hsrc : ∀ j v, cs[j]? = some v → w.cell? (a.add j) = some v) (hc : ∀ j, j < cs.length → (w.cell? ⟨b, o + j, none⟩).isSome = true) (hf : ∀ j, j < cs.length → w.frozen? ⟨b, o + j, none⟩ = false) (h1 : ∀ v ∈ cs, v.oneCell' = true) :
    (Builtin.copy_ #[dT, sT] ty #[.slice (some ⟨b, o, none⟩) dLen dCap, .slice (some a) sLen sCap]).run P w = .ok (goInt (Nat.min sLen dLen)) (w.setCells b o cs) := by
  have hl := run_firstCells_some (P := P) (w := w) 2 (Nat.min sLen dLen) a sLen sCap cs hn hsrc
  have hst := run_storeCells_cells (P := P) b o cs 0 w (by simpa using hc) (by simpa using hf) h1
  cases hq : P.info? elem with
  | none => simp [hq] at hs
  | some i =>
    have hi : i.size = 2 := by simpa [hq] using hs
    simp [Builtin.copy_, run_underlying hu, Builtin.lenOf, sizeOf, typeInfo, hq, hi, hl, hst]
/-- the list with e at i -/
def insAt (es : List (Int × Int)) (i : Nat) (e : Int × Int) : List (Int × Int) := es.take i ++ e :: es.drop i
theorem insAt_len (es : List (Int × Int)) {i : Nat} (e : Int × Int) (hi : i ≤ es.length) : (insAt es i e).length = es.length + 1 := by
  unfold insAt
  simp
  omega
theorem flat_insAt (es : List (Int × Int)) (i : Nat) (e : Int × Int) : flat (insAt es i e) = flat (es.take i) ++ ([.int .i64 e.1, .int .i64 e.2] ++ flat (es.drop i)) := by
  unfold insAt
  rw [flat_app]
  rfl
theorem OwnE.of_cells {w : World} {base g : Nat} {L : List (Int × Int)} (hg : base ≤ g) (hl : g < w.heap.size) (hc : ∀ k, k < L.length * 2 → w.cell? ⟨g, k, none⟩ = (flat L)[k]?) (hf : ∀ k, w.frozen? ⟨g, k, none⟩ = false) : OwnE w base (some ⟨g, 0, none⟩) L := fun _ => by
  refine ⟨g, 0, rfl, hg, hl, fun k e he => ?_⟩
  have hk := (List.getElem?_eq_some_iff.1 he).1
  have h := flat_at L k e he
  simp only [Nat.zero_add]
  exact ⟨by rw [hc _ (by omega), h.1], by rw [hc _ (by omega), h.2], hf _, hf _⟩
/-- the cells of the three parts -/
theorem ins_cells {w : World} {base g i : Nat} {es : List (Int × Int)} {e : Int × Int} (hi : i ≤ es.length) (hg : base ≤ g) (hl : g < w.heap.size) (h1 : ∀ k, k < i * 2 → w.cell? ⟨g, k, none⟩ = (flat (es.take i))[k]?)
    (h2 : w.cell? ⟨g, i * 2, none⟩ = some (.int .i64 e.1) ∧ w.cell? ⟨g, i * 2 + 1, none⟩ = some (.int .i64 e.2)) (h3 : ∀ t, t < (es.length - i) * 2 → w.cell? ⟨g, (i + 1) * 2 + t, none⟩ = (flat (es.drop i))[t]?) (hf : ∀ k, w.frozen? ⟨g, k, none⟩ = false) : OwnE w base (some ⟨g, 0, none⟩) (insAt es i e) := by
  have hlt : (flat (es.take i)).length = i * 2 := by rw [flat_length, List.length_take, Nat.min_eq_left hi]
  refine OwnE.of_cells hg hl (fun k hk => ?_) hf
  rw [insAt_len es e hi] at hk
  rw [flat_insAt]
  by_cases g1 : k < i * 2
  · rw [List.getElem?_append_left (by omega)]
    exact h1 k g1
  · rw [List.getElem?_append_right (by omega), hlt]
    by_cases g2 : k = i * 2
    · subst g2
      rw [h2.1, Nat.sub_self]
      rfl
    · by_cases g3 : k = i * 2 + 1
      · subst g3
        rw [h2.2, show i * 2 + 1 - i * 2 = 1 by omega]
        rfl
      · rw [List.getElem?_append_right (by simp; omega)]
        have := h3 (k - (i + 1) * 2) (by omega)
        rw [show (i + 1) * 2 + (k - (i + 1) * 2) = k by omega] at this
        rw [this]
        congr 1
        simp
        omega
theorem flat_take (es : List (Int × Int)) (i k : Nat) (hi : i ≤ es.length) (hk : k < i * 2) : (flat (es.take i))[k]? = (flat es)[k]? := by
  have h : flat es = flat (es.take i) ++ flat (es.drop i) := by rw [← flat_app, List.take_append_drop]
  rw [h, List.getElem?_append_left (by rw [flat_length, List.length_take]; omega)]
theorem flat_drop (es : List (Int × Int)) (i t : Nat) (hi : i ≤ es.length) : (flat (es.drop i))[t]? = (flat es)[i * 2 + t]? := by
  have h : flat es = flat (es.take i) ++ flat (es.drop i) := by rw [← flat_app, List.take_append_drop]
  have hl : (flat (es.take i)).length = i * 2 := by rw [flat_length, List.length_take]; omega
  rw [h, List.getElem?_append_right (by omega), hl]
  congr 1
  omega
theorem shape_blk {w : World} {g : Nat} {t : TypeId} {cs : Array Value} (h : Blk w g t cs) : w.shape? g = some (t, cs.size) := by
  unfold Blk at h
  simp [World.shape?, h]
set_option maxRecDepth 100000 in
set_option maxHeartbeats 4000000 in
/-- there is room -/
theorem insE_room (w : World) (g vb cap i : Nat) (e1 e2 : Int) (es : List (Int × Int)) (cs : Array Value) (hB : Blk w g 36 cs) (hcs : cs.toList.take (es.length * 2) = flat es) (hsz : cs.size = cap * 2) (hcap : es.length + 1 ≤ cap) (hmx : cap ≤ maxLen) (hn : es.length ≤ 1000) (hi : i < es.length)
    (hV : Blk w vb 36 #[.int .i64 e1, .int .i64 e2]) (hne : vb ≠ g) :
    Calls Try.prog 60 #[.slice (some ⟨g, 0, none⟩) es.length cap, .int .i64 i, .slice (some ⟨vb, 0, none⟩) 1 1] w fun e w' =>
      e = .returned (.slice (some ⟨g, 0, none⟩) (es.length + 1) cap) ∧ OwnE w' g (some ⟨g, 0, none⟩) (insAt es i (e1, e2)) ∧ Below g w w' := by
  obtain ⟨i0, hI, hz0, hz1, hz2⟩ := info_parts edgeInfo
  have mixed : Try.prog.follows .mixedOrders = true := by kernel_rfl
  have hs2 : (Try.prog.info? 36).map (·.size) = some 2 := by rw [hI]; simp [hz1]
  have hsg := shape_blk hB
  have hsv := shape_blk hV
  have hov : ∀ lb cb, (callFunc 99 #[.slice (some ⟨vb, 0, none⟩) 1 1, .slice (some ⟨g, (i + 1) * 2, none⟩) lb cb]).run Try.prog w = .ok (.value (.bool false)) w := fun lb cb => by
    rw [run_callFunc_extern Try.func99 (by kernel_rfl) (by kernel_rfl) (by kernel_rfl) (e := Extern.SlicesOverlaps.overlaps #[23, 23] #[4]) (by kernel_rfl),
      Lib.run_overlaps_apart w 23 4 36 Try.underlying23 2 Try.sizeOf36 ⟨vb, 0, none⟩ ⟨g, (i + 1) * 2, none⟩ 1 1 lb cb hne _ _ _ _ hsv hsg (by omega) (hV.frozen 0) (hV.frozen _)]
    rfl
  obtain ⟨news, hnews⟩ : ∃ news, news = flat (es.drop i) := ⟨_, rfl⟩
  have hnl : news.length = (es.length - i) * 2 := by rw [hnews, flat_length, List.length_drop]
  have hone : ∀ v ∈ news, v.oneCell' = true := fun v hv => flat_one (by rw [hnews] at hv; exact hv)
  have hcell : ∀ k, k < es.length * 2 → w.cell? ⟨g, k, none⟩ = (flat es)[k]? := fun k hk => by
    rw [hB.cell, ← hcs, List.getElem?_take_of_lt hk, Array.getElem?_toList]
  have hsome : ∀ k, k < cap * 2 → (w.cell? ⟨g, k, none⟩).isSome = true := fun k hk => by
    rw [hB.cell, Array.getElem?_eq_getElem (by omega)]
    rfl
  have hfro : ∀ k, w.frozen? ⟨g, k, none⟩ = false := fun k => hB.frozen k
  have hgl := hB.lt
  have hcp1 : ∀ ty dc sc, (Builtin.copy_ #[23, 23] ty #[.slice (some ⟨g, (i + 1) * 2, none⟩) (es.length - i) dc, .slice (some ⟨g, i * 2, none⟩) (es.length + 1 - i) sc]).run Try.prog w.drew = .ok (goInt (Nat.min (es.length + 1 - i) (es.length - i))) (w.drew.setCells g ((i + 1) * 2) news) := fun ty dc sc =>
    run_copy_two w.drew _ _ ty 36 g ((i + 1) * 2) (es.length - i) dc ⟨g, i * 2, none⟩ (es.length + 1 - i) sc news Try.underlying23 hs2 (by rw [hnl]; simp only [Nat.min_def]; split <;> omega)
      (fun j v hj => by
        have hjl := (List.getElem?_eq_some_iff.1 hj).1
        rw [Addr.add_lit]
        show w.cell? ⟨g, i * 2 + j, none⟩ = some v
        rw [hcell _ (by omega), ← flat_drop es i j (by omega), ← hnews, hj])
      (fun j hj => hsome _ (by omega)) (fun j _ => hfro _) hone
  obtain ⟨W1, hW1⟩ : ∃ W1, W1 = w.drew.setCells g ((i + 1) * 2) news := ⟨_, rfl⟩
  have hin : ∀ t (ht : t < news.length), W1.cell? ⟨g, (i + 1) * 2 + t, none⟩ = some news[t] := fun t ht => by
    rw [hW1]
    exact World.cell?_setCells_in g news ((i + 1) * 2) w.drew (fun q hq => hsome _ (by omega)) t ht
  have hout : ∀ k, k < (i + 1) * 2 → W1.cell? ⟨g, k, none⟩ = w.cell? ⟨g, k, none⟩ := fun k hk => by
    rw [hW1]
    exact World.cell?_setCells_out g news ((i + 1) * 2) w.drew ⟨g, k, none⟩ (fun _ _ => .inl hk)
  have hfr1 : ∀ k, W1.frozen? ⟨g, k, none⟩ = false := fun k => by
    rw [hW1, World.frozen?_setCells]
    exact hfro k
  have hv1 : ∀ k, W1.cell? ⟨vb, k, none⟩ = w.cell? ⟨vb, k, none⟩ := fun k => by
    rw [hW1]
    exact World.cell?_setCells_out g news ((i + 1) * 2) w.drew ⟨vb, k, none⟩ (fun h _ => absurd h hne)
  have hcp2 : ∀ (W : World), (∀ x, W.cell? x = W1.cell? x) → (∀ x, W.frozen? x = W1.frozen? x) → ∀ ty dc, (Builtin.copy_ #[23, 23] ty #[.slice (some ⟨g, i * 2, none⟩) (es.length + 1 - i) dc, .slice (some ⟨vb, 0, none⟩) 1 1]).run Try.prog W = .ok (goInt (Nat.min 1 (es.length + 1 - i))) (W.setCells g (i * 2) [.int .i64 e1, .int .i64 e2]) := fun W hWc hWf ty dc =>
    run_copy_two W _ _ ty 36 g (i * 2) (es.length + 1 - i) dc ⟨vb, 0, none⟩ 1 1 [.int .i64 e1, .int .i64 e2] Try.underlying23 hs2 (by simp only [Nat.min_def]; split <;> simp <;> omega)
      (fun j v hj => by
        have hjl := (List.getElem?_eq_some_iff.1 hj).1
        simp only [List.length_cons, List.length_nil] at hjl
        rw [Addr.add_lit, hWc, Nat.zero_add, hv1, hV.cell]
        rcases (show j = 0 ∨ j = 1 by omega) with rfl | rfl
        · simpa using hj
        · simpa using hj)
      (fun j hj => by
        simp only [List.length_cons, List.length_nil] at hj
        rw [hWc, hout _ (by omega)]
        exact hsome _ (by omega)) (fun j _ => by rw [hWf]; exact hfr1 _) (by
        intro v hv
        simp only [List.mem_cons, List.not_mem_nil, or_false] at hv
        rcases hv with rfl | rfl <;> rfl)
  have HE : Hid (OwnE (W1.setCells g (i * 2) [.int .i64 e1, .int .i64 e2]) g (some ⟨g, 0, none⟩) (insAt es i (e1, e2))) := Lib.hid (by
    have hin2 : ∀ t (ht : t < 2), (W1.setCells g (i * 2) [.int .i64 e1, .int .i64 e2]).cell? ⟨g, i * 2 + t, none⟩ = some [Value.int .i64 e1, .int .i64 e2][t] := fun t ht =>
      World.cell?_setCells_in g [.int .i64 e1, .int .i64 e2] (i * 2) W1 (fun q hq => by
        simp only [List.length_cons, List.length_nil] at hq
        rw [hout _ (by omega)]
        exact hsome _ (by omega)) t ht
    have hout2 : ∀ k, (k < i * 2 ∨ i * 2 + 2 ≤ k) → (W1.setCells g (i * 2) [.int .i64 e1, .int .i64 e2]).cell? ⟨g, k, none⟩ = W1.cell? ⟨g, k, none⟩ := fun k hk =>
      World.cell?_setCells_out g [.int .i64 e1, .int .i64 e2] (i * 2) W1 ⟨g, k, none⟩ (fun _ _ => hk)
    refine ins_cells (by omega) (Nat.le_refl _) ?_ (fun k hk => ?_) ⟨hin2 0 (by omega), hin2 1 (by omega)⟩ (fun t ht => ?_) (fun k => by rw [World.frozen?_setCells]; exact hfr1 k)
    · have hb : Below g w (W1.setCells g (i * 2) [.int .i64 e1, .int .i64 e2]) := by
        rw [hW1]
        exact below_setCells (Nat.le_refl g) _ _ _ (below_setCells (Nat.le_refl g) _ _ _ (Below.refl g w).drew)
      exact Nat.lt_of_lt_of_le hgl hb.size
    · rw [hout2 k (.inl hk), hout k (by omega), hcell k (by omega), flat_take es i k (by omega) hk]
    · have htl : t < news.length := by omega
      rw [hout2 _ (.inr (by omega)), hin t htl, ← hnews, List.getElem?_eq_getElem htl])
  have HBW : Hid (Below g w (W1.setCells g (i * 2) [.int .i64 e1, .int .i64 e2])) := Lib.hid (by
    rw [hW1]
    exact below_setCells (Nat.le_refl g) _ _ _ (below_setCells (Nat.le_refl g) _ _ _ (Below.refl g w).drew))
  rw [← hW1] at hcp1
  have hmx2 : cap ≤ 9223372036854775807 := by unfold maxLen at hmx; omega
  have hw1 : IntKind.i64.wrap ((i : Int) + 1) = (i : Int) + 1 := by rw [IntKind.wrap_i64]; omega
  have hq1 : ((i : Int) + 1).toNat = i + 1 := by omega
  have hb1 : (0 : Int) ≤ (i : Int) + 1 := by omega
  have hin3 : i ≤ es.length := by omega
  have hb3 : (i : Int) ≤ (es.length : Int) + 1 := by omega
  have hb5 : (i : Int) + 1 ≤ (es.length : Int) + 1 := by omega
  have hb6 : (i : Int) ≤ (es.length : Int) := by omega
  have hb2 : ¬ (cap = i + 1) := by omega
  have hb4 : ¬ (cap = i) := by omega
  clear hnews hnl hone hcell hsome hfro hgl hin hout hfr1 hv1 hW1 hsg hsv hB hV hcs hsz hs2
  go_enter Try.func60, Try.ntmps60
  go_wp2_with (simp only [hov])
  go_region_law_o (refine step_copy_runI rfl _ _ 23 23 rfl _ _ (by simp [Act.eval, Act.put]) (by simp [Act.eval, Act.put]) (hcp1 _ _ _) ?_)
  go_wp2_with (at_builtin; refine wpList_copy_runI _ rfl _ _ 23 23 rfl _ _ rfl rfl (hcp2 _ (fun _ => rfl) (fun _ => rfl) _ _) ?_)
  go_ret
  exact ⟨rfl, HE.out, HBW.out⟩
set_option maxRecDepth 100000 in
set_option maxHeartbeats 4000000 in
/-- there is no room: a new row -/
theorem insE_grow (w : World) (g vb cap i : Nat) (e1 e2 : Int) (es : List (Int × Int)) (cs : Array Value) (hB : Blk w g 36 cs) (hcs : cs.toList.take (es.length * 2) = flat es) (hcn : es.length ≤ cap) (hcap : cap < es.length + 1) (hn : es.length ≤ 1000) (hi : i < es.length)
    (hV : Blk w vb 36 #[.int .i64 e1, .int .i64 e2]) :
    Calls Try.prog 60 #[.slice (some ⟨g, 0, none⟩) es.length cap, .int .i64 i, .slice (some ⟨vb, 0, none⟩) 1 1] w fun e w' =>
      ∃ G, e = .returned (.slice (some ⟨w.heap.size, 0, none⟩) (es.length + 1) G) ∧ OwnE w' w.heap.size (some ⟨w.heap.size, 0, none⟩) (insAt es i (e1, e2)) ∧ Below w.heap.size w w' := by
  obtain ⟨i0, hI, hz0, hz1, hz2⟩ := info_parts edgeInfo
  have mixed : Try.prog.follows .mixedOrders = true := by kernel_rfl
  have hs2 : (Try.prog.info? 36).map (·.size) = some 2 := by rw [hI]; simp [hz1]
  obtain ⟨news, hnews⟩ : ∃ news, news = flat (es.drop i) := ⟨_, rfl⟩
  obtain ⟨olds, holds⟩ : ∃ olds, olds = flat (es.take i) := ⟨_, rfl⟩
  have hnl : news.length = (es.length - i) * 2 := by rw [hnews, flat_length, List.length_drop]
  have hol : olds.length = i * 2 := by rw [holds, flat_length, List.length_take, Nat.min_eq_left (by omega)]
  have hone : ∀ v ∈ news, v.oneCell' = true := fun v hv => flat_one (by rw [hnews] at hv; exact hv)
  have hcell : ∀ k, k < es.length * 2 → w.cell? ⟨g, k, none⟩ = (flat es)[k]? := fun k hk => by
    rw [hB.cell, ← hcs, List.getElem?_take_of_lt hk, Array.getElem?_toList]
  have hgl := hB.lt
  have hvl := hV.lt
  have hold : (Builtin.firstCells i0.size i (.slice (some ⟨g, 0, none⟩) i cap)).run Try.prog w.drew = .ok olds.toArray w.drew := by
    rw [hz1]
    exact run_firstCells_some (P := Try.prog) (w := w.drew) 2 i ⟨g, 0, none⟩ i cap olds hol (fun j v hj => by
      have hjl := (List.getElem?_eq_some_iff.1 hj).1
      rw [Addr.add_lit, Nat.zero_add]
      show w.cell? ⟨g, j, none⟩ = some v
      rw [hcell _ (by omega), ← flat_take es i j (by omega) (by omega), ← holds, hj])
  obtain ⟨G, hG⟩ : ∃ G, G = grownCap w (es.length + 1) cap 36 := ⟨_, rfl⟩
  obtain ⟨ROW, hROW⟩ : ∃ ROW : Array Value, ROW = olds.toArray ++ Builtin.zeroCells (Value.agg #[.int .i64 0, .int .i64 0]).cells (es.length + 1 - i) ++ Builtin.zeroCells (Value.agg #[.int .i64 0, .int .i64 0]).cells (G - (es.length + 1)) := ⟨_, rfl⟩
  have hik : i + (es.length + 1 - i) = es.length + 1 := by omega
  have hkk : (es.length : Int) + 1 - (i : Int) = ((es.length + 1 - i : Nat) : Int) := by omega
  have hrz : ∀ ty, (Builtin.append_ #[23, 3] ty #[.slice (some ⟨g, 0, none⟩) i cap, .int .i64 ((es.length : Int) + 1 - (i : Int))]).run Try.prog w =
      .ok (.slice (some ⟨w.heap.size, 0, none⟩) (es.length + 1) G) (w.drew.alloc (.cells ROW 36)) := fun ty => by
    have h := Lib.run_append_grow_zeros w 23 3 ty 36 i0 _ .i64 .i64 Try.underlying23 Try.underlying3 hI hz0 (some ⟨g, 0, none⟩) i cap olds hold (es.length + 1 - i) (by omega) (by omega) (by omega) (by omega) (by rw [hz2]; omega) (by rw [hz2, hik]; exact growslice_fits hcap (by omega))
    rw [hik, ← hG, ← hROW] at h
    rw [hkk]
    exact h
  have hGn : es.length + 1 ≤ G := by rw [hG]; exact grownCap_ge w _ _ _
  have hG63 : G ≤ 9223372036854775807 := by
    have := grownCap_le_maxLen w (es.length + 1) cap 36 (by unfold maxLen; omega)
    rw [← hG] at this
    unfold maxLen at this
    omega
  have hRl : (es.length + 1) * 2 ≤ ROW.size := by
    rw [hROW]
    simp [size_zeroCells, Value.cells, hol]
    omega
  have hRo : ∀ k, k < i * 2 → ROW[k]? = olds[k]? := fun k hk => by
    rw [hROW, Array.append_assoc, Array.getElem?_append_left (by simp; omega), List.getElem?_toArray]
  obtain ⟨B, hBB⟩ : ∃ B, B = w.heap.size := ⟨_, rfl⟩
  obtain ⟨W1, hW1⟩ : ∃ W1, W1 = w.drew.alloc (.cells ROW 36) := ⟨_, rfl⟩
  have hR1 : ∀ k, W1.cell? ⟨B, k, none⟩ = ROW[k]? := fun k => by
    rw [hW1]
    exact World.cell?_alloc_at (w := w.drew) ROW _ B k hBB
  have hN : ∀ k, k < (es.length + 1) * 2 → (W1.cell? ⟨B, k, none⟩).isSome = true := fun k hk => by
    rw [hR1, Array.getElem?_eq_getElem (by omega)]
    rfl
  have hNf : ∀ k, W1.frozen? ⟨B, k, none⟩ = false := fun k => by
    rw [hW1]
    exact World.frozen?_alloc_at (w := w.drew) ROW _ B k hBB
  have hOb : ∀ k, W1.cell? ⟨g, k, none⟩ = w.cell? ⟨g, k, none⟩ := fun k => by
    rw [hW1]
    exact World.cell?_alloc_past (w := w.drew) _ g k hgl
  have hOv : ∀ k, W1.cell? ⟨vb, k, none⟩ = w.cell? ⟨vb, k, none⟩ := fun k => by
    rw [hW1]
    exact World.cell?_alloc_past (w := w.drew) _ vb k hvl
  have hv2 : ∀ v ∈ [Value.int .i64 e1, .int .i64 e2], v.oneCell' = true := by
    intro v hv
    simp only [List.mem_cons, List.not_mem_nil, or_false] at hv
    rcases hv with rfl | rfl <;> rfl
  have hcpA : ∀ (W : World), (∀ x, W.cell? x = W1.cell? x) → (∀ x, W.frozen? x = W1.frozen? x) → ∀ ty dc, (Builtin.copy_ #[23, 23] ty #[.slice (some ⟨B, i * 2, none⟩) (es.length + 1 - i) dc, .slice (some ⟨vb, 0, none⟩) 1 1]).run Try.prog W = .ok (goInt (Nat.min 1 (es.length + 1 - i))) (W.setCells B (i * 2) [.int .i64 e1, .int .i64 e2]) := fun W hWc hWf ty dc =>
    run_copy_two W _ _ ty 36 B (i * 2) (es.length + 1 - i) dc ⟨vb, 0, none⟩ 1 1 [.int .i64 e1, .int .i64 e2] Try.underlying23 hs2 (by simp only [Nat.min_def]; split <;> simp <;> omega)
      (fun j v hj => by
        have hjl := (List.getElem?_eq_some_iff.1 hj).1
        simp only [List.length_cons, List.length_nil] at hjl
        rw [Addr.add_lit, hWc, Nat.zero_add, hOv, hV.cell]
        rcases (show j = 0 ∨ j = 1 by omega) with rfl | rfl
        · simpa using hj
        · simpa using hj)
      (fun j hj => by
        simp only [List.length_cons, List.length_nil] at hj
        rw [hWc]
        exact hN _ (by omega)) (fun j _ => by rw [hWf]; exact hNf _) hv2
  obtain ⟨W2, hW2⟩ : ∃ W2, W2 = W1.setCells B (i * 2) [.int .i64 e1, .int .i64 e2] := ⟨_, rfl⟩
  have hin2 : ∀ t (ht : t < 2), W2.cell? ⟨B, i * 2 + t, none⟩ = some [Value.int .i64 e1, .int .i64 e2][t] := fun t ht => by
    rw [hW2]
    exact World.cell?_setCells_in B [.int .i64 e1, .int .i64 e2] (i * 2) W1 (fun q hq => by
      simp only [List.length_cons, List.length_nil] at hq
      exact hN _ (by omega)) t ht
  have hout2 : ∀ k, (k < i * 2 ∨ i * 2 + 2 ≤ k) → W2.cell? ⟨B, k, none⟩ = W1.cell? ⟨B, k, none⟩ := fun k hk => by
    rw [hW2]
    exact World.cell?_setCells_out B [.int .i64 e1, .int .i64 e2] (i * 2) W1 ⟨B, k, none⟩ (fun _ _ => hk)
  have hgB : g ≠ B := by omega
  have hOb2 : ∀ k, W2.cell? ⟨g, k, none⟩ = w.cell? ⟨g, k, none⟩ := fun k => by
    rw [hW2, World.cell?_setCells_out B [.int .i64 e1, .int .i64 e2] (i * 2) W1 ⟨g, k, none⟩ (fun h _ => absurd h hgB)]
    exact hOb k
  have hsome2 : ∀ k, k < (es.length + 1) * 2 → (W2.cell? ⟨B, k, none⟩).isSome = true := fun k hk => by
    rw [hW2]
    exact isSome_setCells _ _ _ _ (fun t ht => by
      simp only [List.length_cons, List.length_nil] at ht
      exact hN _ (by omega)) _ (hN k hk)
  have hNf2 : ∀ k, W2.frozen? ⟨B, k, none⟩ = false := fun k => by rw [hW2, World.frozen?_setCells]; exact hNf k
  have hcpB : ∀ (W : World), (∀ x, W.cell? x = W2.cell? x) → (∀ x, W.frozen? x = W2.frozen? x) → ∀ ty dc sc, (Builtin.copy_ #[23, 23] ty #[.slice (some ⟨B, (i + 1) * 2, none⟩) (es.length - i) dc, .slice (some ⟨g, i * 2, none⟩) (es.length - i) sc]).run Try.prog W = .ok (goInt (Nat.min (es.length - i) (es.length - i))) (W.setCells B ((i + 1) * 2) news) := fun W hWc hWf ty dc sc =>
    run_copy_two W _ _ ty 36 B ((i + 1) * 2) (es.length - i) dc ⟨g, i * 2, none⟩ (es.length - i) sc news Try.underlying23 hs2 (by rw [hnl]; simp only [Nat.min_def]; split <;> omega)
      (fun j v hj => by
        have hjl := (List.getElem?_eq_some_iff.1 hj).1
        rw [Addr.add_lit, hWc, hOb2, hcell _ (by omega), ← flat_drop es i j (by omega), ← hnews, hj])
      (fun j hj => by rw [hWc]; exact hsome2 _ (by omega)) (fun j _ => by rw [hWf]; exact hNf2 _) hone
  have hbA : Below B w W1 := by
    rw [hW1, hBB]
    exact (Below.refl _ w).drew.alloc (Nat.le_refl _) _
  have HBW : Hid (Below B w (W2.setCells B ((i + 1) * 2) news)) := Lib.hid (by
    rw [hW2]
    exact below_setCells (Nat.le_refl B) _ _ _ (below_setCells (Nat.le_refl B) _ _ _ hbA))
  have HE : Hid (OwnE (W2.setCells B ((i + 1) * 2) news) B (some ⟨B, 0, none⟩) (insAt es i (e1, e2))) := Lib.hid (by
    have hin3 : ∀ t (ht : t < news.length), (W2.setCells B ((i + 1) * 2) news).cell? ⟨B, (i + 1) * 2 + t, none⟩ = some news[t] := fun t ht =>
      World.cell?_setCells_in B news ((i + 1) * 2) W2 (fun q hq => hsome2 _ (by omega)) t ht
    have hout3 : ∀ k, k < (i + 1) * 2 → (W2.setCells B ((i + 1) * 2) news).cell? ⟨B, k, none⟩ = W2.cell? ⟨B, k, none⟩ := fun k hk =>
      World.cell?_setCells_out B news ((i + 1) * 2) W2 ⟨B, k, none⟩ (fun _ _ => .inl hk)
    refine ins_cells (by omega) (Nat.le_refl _) ?_ (fun k hk => ?_) ⟨?_, ?_⟩ (fun t ht => ?_) (fun k => by rw [World.frozen?_setCells]; exact hNf2 k)
    · have h1 : B < W1.heap.size := by rw [hW1, hBB]; show w.heap.size < (w.drew.alloc _).heap.size; simp
      have h2 := (below_setCells (Nat.le_refl B) news ((i + 1) * 2) W2 (below_setCells (Nat.le_refl B) [.int .i64 e1, .int .i64 e2] (i * 2) W1 (Below.refl B W1) |> fun h => by rwa [← hW2] at h)).size
      exact Nat.lt_of_lt_of_le h1 h2
    · rw [hout3 k (by omega), hout2 k (.inl hk), hR1, hRo k hk, holds]
    · have h := hin2 0 (by omega)
      rw [hout3 _ (by omega)]
      exact h
    · have h := hin2 1 (by omega)
      rw [hout3 _ (by omega)]
      exact h
    · have htl : t < news.length := by omega
      rw [hin3 t htl, ← hnews, List.getElem?_eq_getElem htl])
  have hcp63 : cap ≤ 1001 := by omega
  have hw1 : IntKind.i64.wrap ((i : Int) + 1) = (i : Int) + 1 := by rw [IntKind.wrap_i64]; omega
  have hq1 : ((i : Int) + 1).toNat = i + 1 := by omega
  have hb1 : (0 : Int) ≤ (i : Int) + 1 := by omega
  have hin3 : i ≤ es.length := by omega
  have hb3 : (i : Int) ≤ (es.length : Int) + 1 := by omega
  have hb5 : (i : Int) + 1 ≤ (es.length : Int) + 1 := by omega
  have hb6 : (i : Int) ≤ (es.length : Int) := by omega
  have hci : ¬ (cap = i) := by omega
  have hGi : ¬ (G = i) := by omega
  have hGim : ¬ (G = i + 1) := by omega
  rw [← hBB] at hrz ⊢
  have HW1 := Lib.hid hW1
  have HW2 := Lib.hid hW2
  have hF1 : ∀ x, ((W1.setCells B (i * 2) [.int .i64 e1, .int .i64 e2]).drew).cell? x = W2.cell? x := fun x => by rw [hW2]; rfl
  have hF2 : ∀ x, ((W1.setCells B (i * 2) [.int .i64 e1, .int .i64 e2]).drew).frozen? x = W2.frozen? x := fun x => by rw [hW2]; rfl
  have HEF : Hid (OwnE (((W1.setCells B (i * 2) [.int .i64 e1, .int .i64 e2]).drew).setCells B ((i + 1) * 2) news) B (some ⟨B, 0, none⟩) (insAt es i (e1, e2))) := Lib.hid (by
    have h := HE.out
    rw [hW2, ← drew_setCells] at *
    exact h)
  have HBF : Hid (Below B w (((W1.setCells B (i * 2) [.int .i64 e1, .int .i64 e2]).drew).setCells B ((i + 1) * 2) news)) := Lib.hid (below_setCells (Nat.le_refl B) _ _ _ (below_setCells (Nat.le_refl B) _ _ _ hbA).drew)
  have hz3 : (cap : Int) < (es.length : Int) + 1 := by omega
  rw [← hW1] at hrz
  clear hBB
  clear hnews holds hnl hol hone hcell hgl hvl hold hG hROW hik hkk hRl hRo hR1 hN hNf hOb hOv hv2 hin2 hout2 hgB hOb2 hsome2 hNf2 hbA hB hV hcs hs2 hW1 hW2
  go_enter Try.func60, Try.ntmps60
  go_wp2_with (first
    | (at_builtin; refine Lib.wpList_append_run _ rfl _ _ _ _ rfl _ _ rfl rfl _ _ (hrz _) ?_)
    | (at_builtin; refine wpList_copy_runI _ rfl _ _ 23 23 rfl _ _ rfl rfl (hcpA _ (fun _ => rfl) (fun _ => rfl) _ _) ?_))
  go_region_law_o (refine step_copy_runI rfl _ _ 23 23 rfl (.slice (some ⟨B, (i + 1) * 2, none⟩) (es.length - i) (G - (i + 1))) (.slice (some ⟨g, i * 2, none⟩) (es.length - i) (cap - i)) (by simp [Act.eval, Act.put]) (by simp [Act.eval, Act.put]) (hcpB _ hF1 hF2 _ _ _) ?_)
  go_wp2
  go_ret
  exact ⟨G, rfl, HEF.out, HBF.out⟩
set_option maxRecDepth 100000 in
set_option maxHeartbeats 4000000 in
/-- behind all -/
theorem insE_end (w : World) (base g vb cap : Nat) (e1 e2 : Int) (es : List (Int × Int)) (cs : Array Value) (hbg : base ≤ g) (hbw : base ≤ w.heap.size) (hB : Blk w g 36 cs) (hcs : cs.toList.take (es.length * 2) = flat es) (hsz : cs.size = cap * 2) (hcap : es.length ≤ cap) (hmx : cap ≤ maxLen) (hn : es.length ≤ 1000)
    (hV : Blk w vb 36 #[.int .i64 e1, .int .i64 e2]) :
    Calls Try.prog 60 #[.slice (some ⟨g, 0, none⟩) es.length cap, .int .i64 es.length, .slice (some ⟨vb, 0, none⟩) 1 1] w fun e w' =>
      ∃ (A : Option Addr) (c : Nat), e = .returned (.slice A (insAt es es.length (e1, e2)).length c) ∧ OwnE w' base A (insAt es es.length (e1, e2)) ∧ Below base w w' := by
  obtain ⟨i0, hI, hz0, hz1, hz2⟩ := info_parts edgeInfo
  have HO := Lib.hid (show w.ownsRow base 36 2 (.slice (some ⟨g, 0, none⟩) es.length cap) es.length (flat es) from ⟨flat_length es, .inr ⟨g, cap, cs, rfl, hbg, hB, hcap, hmx, hsz, hcs⟩⟩)
  have HV := Lib.hid (show ∀ j u, [Value.int .i64 e1, .int .i64 e2][j]? = some u → w.cell? ((⟨vb, 0, none⟩ : Addr).add j) = some u from fun j u hj => by
    have hjl := (List.getElem?_eq_some_iff.1 hj).1
    simp only [List.length_cons, List.length_nil] at hjl
    rw [Addr.add_lit, Nat.zero_add, hV.cell]
    rcases (show j = 0 ∨ j = 1 by omega) with rfl | rfl
    · simpa using hj
    · simpa using hj)
  have HF := Lib.hid (show flat (insAt es es.length (e1, e2)) = flat es ++ [.int .i64 e1, .int .i64 e2] by rw [flat_insAt, List.take_length, List.drop_length]; simp [flat])
  have HLN := Lib.hid (insAt_len es (i := es.length) (e1, e2) (Nat.le_refl _))
  have hmx2 : cap ≤ 9223372036854775807 := by unfold maxLen at hmx; omega
  clear hB hV hcs hsz
  by_cases hce : cap = es.length
  · subst hce
    go_enter Try.func60, Try.ntmps60
    go_wp2_with (at_builtin; refine wpList_append_own _ rfl _ _ 23 rfl base 36 i0 (.agg #[.int .i64 0, .int .i64 0]) 2 16 Try.underlying23 hI hz0 hz1 hz2 rfl (by decide) _ _ _ rfl HO.out ⟨vb, 0, none⟩ 1 1 [.int .i64 e1, .int .i64 e2] rfl rfl ?p1 ?p2 ?p3 ?p4 ?p5 ?_)
    case p1 => exact HV.out
    case p2 =>
      intro u hu
      simp only [List.mem_cons, List.not_mem_nil, or_false] at hu
      rcases hu with rfl | rfl <;> rfl
    case p3 => unfold maxLen; omega
    case p4 => omega
    case p5 => omega
    intro v' w1 hown hgrow _
    have hown2 : w1.ownsRow base 36 2 v' (es.length + 1) (flat (insAt es es.length (e1, e2))) := by rw [HF.out]; exact hown
    have HBW := Lib.hid (show Below base w w1 from (Below.refl _ w).grown hgrow hbw (fun q hq => (HO.out.lt q hq).1))
    obtain ⟨A9, c9, hv9, hoe, -⟩ := ownE_of hown2
    subst hv9
    have HOE := Lib.hid hoe
    clear hown hown2 hgrow hoe
    go_wp2
    go_ret
    exact ⟨A9, c9, rfl, HOE.out, HBW.out⟩
  · go_enter Try.func60, Try.ntmps60
    go_wp2_with (at_builtin; refine wpList_append_own _ rfl _ _ 23 rfl base 36 i0 (.agg #[.int .i64 0, .int .i64 0]) 2 16 Try.underlying23 hI hz0 hz1 hz2 rfl (by decide) _ _ _ rfl HO.out ⟨vb, 0, none⟩ 1 1 [.int .i64 e1, .int .i64 e2] rfl rfl ?p1 ?p2 ?p3 ?p4 ?p5 ?_)
    case p1 => exact HV.out
    case p2 =>
      intro u hu
      simp only [List.mem_cons, List.not_mem_nil, or_false] at hu
      rcases hu with rfl | rfl <;> rfl
    case p3 => unfold maxLen; omega
    case p4 => omega
    case p5 => omega
    intro v' w1 hown hgrow _
    have hown2 : w1.ownsRow base 36 2 v' (es.length + 1) (flat (insAt es es.length (e1, e2))) := by rw [HF.out]; exact hown
    have HBW := Lib.hid (show Below base w w1 from (Below.refl _ w).grown hgrow hbw (fun q hq => (HO.out.lt q hq).1))
    obtain ⟨A9, c9, hv9, hoe, -⟩ := ownE_of hown2
    subst hv9
    have HOE := Lib.hid hoe
    clear hown hown2 hgrow hoe
    go_wp2
    go_ret
    exact ⟨A9, c9, rfl, HOE.out, HBW.out⟩
/-- one edge more, at i -/
theorem insE_any (w : World) (base g vb cap i : Nat) (e1 e2 : Int) (es : List (Int × Int)) (cs : Array Value) (hbg : base ≤ g) (hB : Blk w g 36 cs) (hcs : cs.toList.take (es.length * 2) = flat es) (hsz : cs.size = cap * 2) (hcap : es.length ≤ cap) (hmx : cap ≤ maxLen) (hn : es.length ≤ 1000) (hi : i ≤ es.length)
    (hV : Blk w vb 36 #[.int .i64 e1, .int .i64 e2]) (hne : vb ≠ g) :
    Calls Try.prog 60 #[.slice (some ⟨g, 0, none⟩) es.length cap, .int .i64 i, .slice (some ⟨vb, 0, none⟩) 1 1] w fun e w' =>
      ∃ (A : Option Addr) (c : Nat), e = .returned (.slice A (insAt es i (e1, e2)).length c) ∧ OwnE w' base A (insAt es i (e1, e2)) ∧ Below base w w' := by
  have hgl := hB.lt
  have hl := insAt_len es (e1, e2) hi
  by_cases h1 : i = es.length
  · subst h1
    exact insE_end w base g vb cap e1 e2 es cs hbg (by omega) hB hcs hsz hcap hmx hn hV
  · by_cases h2 : es.length + 1 ≤ cap
    · refine (insE_room w g vb cap i e1 e2 es cs hB hcs hsz h2 hmx hn (by omega) hV hne).mono ?_
      rintro e w' ⟨rfl, ho, hb⟩
      exact ⟨_, cap, by rw [hl], ho.mono hbg, hb.mono hbg⟩
    · refine (insE_grow w g vb cap i e1 e2 es cs hB hcs hcap (by omega) hn (by omega) hV).mono ?_
      rintro e w' ⟨G, rfl, ho, hb⟩
      exact ⟨_, G, by rw [hl], ho.mono (by omega), hb.mono (by omega)⟩
end Go.Proofs.Ytbojbifpaecbcaa
